/- The plain answer's Match, Magic and Quote. Conditions: texts that fit. -/
import Derived.Test.YtncnmeidciailaaDoorLv2
import Derived.Test.YtncnmeidciailaaDoorLv5
import Derived.Test.YtncnmeidciailaaDoorLv7
import Derived.Test.YtncnmeidciailaaDoorLv8
import Derived.Test.YtncnmeidciailaaDoorLa9
namespace Go.Proofs.YtncnmeidciailaaDoor
open Go.RowKit
attribute [local go_sem] ext_eq app_eq get_eq
theorem rMatch (l s : List UInt8) (fl : Int) (hl : l.length ≤ 2 ^ 39) (hsl : s.length ≤ 2 ^ 39) (w : World) :
    Calls Tryd.prog 13 #[.string ⟨l.toArray⟩, .string ⟨s.toArray⟩, .int .i64 fl] w fun e w' => ∃ b, e = .returned (.bool b) ∧ (b = true ↔ Gl.Mt (Gl.flOf fl) s (Gl.pcs (Gl.flOf fl) l) 0) ∧ Below w.heap.size w w' :=
  rMatchI l s fl hl hsl w (fun p i hp hpl h42 hi W => rStepI (fun l fl hl W => rBracketI rIn l fl hl W) p s i fl hp hpl h42 (by omega) hi W)
set_option maxHeartbeats 1000000 in
theorem rMagic (l : List UInt8) (hl : l.length ≤ 2 ^ 48) (w : World) : Calls Tryd.prog 15 #[.string ⟨l.toArray⟩] w fun e w' => e = .returned (.bool (Gl.mgc l)) ∧ w' = w := by
  have hs : (⟨l.toArray⟩ : ByteArray).size = l.length := str_size l
  go_enter Tryd.func15, Tryd.ntmps15
  go_wp2
  go_loop [3] (fun s3 => ∃ k : Nat, s3 = .int .i64 k ∧ k ≤ l.length + 1 ∧ Hid (Gl.mgc (l.drop k) = Gl.mgc l)) (fun s3 => l.length + 1 - (intOf s3).toNat)
  case atStart => exact ⟨0, rfl, by omega, rfl⟩
  case round =>
    obtain ⟨k, rfl, hk, HK⟩ := hrel
    have hw1 : IntKind.i64.wrap ((k : Int) + 1) = ((k + 1 : Nat) : Int) := by rw [IntKind.wrap_i64]; omega
    have hw2 : IntKind.i64.wrap (((k + 1 : Nat) : Int) + 1) = ((k + 2 : Nat) : Int) := by rw [IntKind.wrap_i64]; omega
    by_cases hlt : k < l.length
    · by_cases c4 : l[k] = 92
      · have HE : Hid (Gl.mgc (l.drop (k + 2)) = Gl.mgc l) := (Gl.mgc_bs l k hlt c4).symm.trans HK.out
        have hc4 := byte_yes _ 92 92 rfl c4
        clear c4
        go_wp2
        exact ⟨⟨k + 2, by first | rfl | (go_num), by omega, HE⟩, by simp [intOf]; omega⟩
      have hc4 := byte_no _ 92 92 rfl c4
      by_cases c1 : l[k] = 42
      · have HE : Hid (Gl.mgc l = true) := HK.out.symm.trans (Gl.mgc_yes l k hlt (by rw [c1]; rfl))
        have hc1 := byte_yes _ 42 42 rfl c1
        clear c1 c4
        go_wp2
        go_ret
        exact ⟨by rw [HE.out]; rfl, rfl⟩
      have hc1 := byte_no _ 42 42 rfl c1
      by_cases c2 : l[k] = 63
      · have HE : Hid (Gl.mgc l = true) := HK.out.symm.trans (Gl.mgc_yes l k hlt (by rw [c2]; rfl))
        have hc2 := byte_yes _ 63 63 rfl c2
        clear c2 c1 c4
        go_wp2
        go_ret
        exact ⟨by rw [HE.out]; rfl, rfl⟩
      have hc2 := byte_no _ 63 63 rfl c2
      by_cases c3 : l[k] = 91
      · have HE : Hid (Gl.mgc l = true) := HK.out.symm.trans (Gl.mgc_yes l k hlt (by rw [c3]; rfl))
        have hc3 := byte_yes _ 91 91 rfl c3
        clear c2 c1 c3 c4
        go_wp2
        go_ret
        exact ⟨by rw [HE.out]; rfl, rfl⟩
      have hc3 := byte_no _ 91 91 rfl c3
      have HE : Hid (Gl.mgc (l.drop (k + 1)) = Gl.mgc l) := (Gl.mgc_no l k hlt (by simp [Gl.spc, c1, c2, c3]) c4).symm.trans HK.out
      clear c2 c1 c3 c4
      go_wp2
      exact ⟨⟨k + 1, by first | rfl | (go_num), by omega, HE⟩, by simp [intOf]; omega⟩
    · have HE : Hid (Gl.mgc l = false) := HK.out.symm.trans (by rw [List.drop_eq_nil_of_le (by omega)]; rfl)
      go_wp2
      go_ret
      exact ⟨by rw [HE.out]; rfl, rfl⟩
end Go.Proofs.YtncnmeidciailaaDoor
