/- Dates: the plain answer's Date, where the text's form is wrong. No condition. -/
import Derived.Test.YtgkjpfebjhhdkaaDoorNe7
import Derived.Test.YtgkjpfebjhhdkaaDoorNe2
namespace Go.Proofs.YtgkjpfebjhhdkaaDoor
open Go.RowKit
attribute [local go_sem] ext_eq app_eq get_eq
theorem core_bad {A q : List UInt8} {now : Int} (h : Na.pl 10 A = false ∨ (A.length ≠ 8 ∧ A.length ≠ 10 ∧ A.length ≠ 12)) : Core A q now (0, 22) := by
  unfold Core
  split
  · rename_i hp
    rcases h with h | ⟨h8, h10, h12⟩
    · rw [hp] at h; cases h
    · exact ⟨none, by unfold Yr; rw [if_neg h8, if_neg h10, if_neg h12], rfl⟩
  · rfl
set_option maxRecDepth 100000 in
set_option maxHeartbeats 4000000 in
theorem rDateB0 (l : List UInt8) (now : Int) (w : World) (hl : l.length ≤ 2 ^ 47) (hdot : ¬ (3 ≤ l.length ∧ l[l.length - 3]? = some 46)) (hbad : Na.pl 10 l = false ∨ (l.length ≠ 8 ∧ l.length ≠ 10 ∧ l.length ≠ 12)) :
    Calls Tryd.prog 27 #[.string ⟨l.toArray⟩, .int .i64 now] w fun e w' => (∃ v, DtR l now v ∧ e = .returned (.tuple #[.int .i64 v.1, .int .i64 v.2])) ∧ Below w.heap.size w w' := by
  have HE : Hid (DtR l now (0, 22)) := dtr_plain hdot (core_bad hbad)
  have HG := hidA (fun W => rDigits 10 (by decide) l W hl)
  have HB : Hid (∀ n, Below w.heap.size w (w.drewN n)) := fun n => bl_drew w n
  by_cases h3 : 3 ≤ l.length
  · obtain ⟨k, hk⟩ : ∃ k, l.length = k + 3 := ⟨l.length - 3, by omega⟩
    have hkl : k < l.length := by omega
    have hne : l[k] ≠ 46 := fun e => hdot ⟨h3, by rw [hk, Nat.add_sub_cancel, List.getElem?_eq_getElem hkl, e]⟩
    have hne' := byte_no l[k] 46 46 rfl hne
    have hw : IntKind.i64.wrap ((l.length : Int) - 3) = k := by rw [IntKind.wrap_i64]; omega
    have h3' : (3 : Int) ≤ l.length := by omega
    have hki : (k : Int) < l.length := by omega
    clear hne hdot hk h3
    cases hp : Na.pl 10 l with
    | false =>
      rw [hp] at HG
      clear hbad hp
      go_enter Tryd.func27, Tryd.ntmps27
      go_wp2_with (first | (go_at_call 37; refine (HG.out _).mono ?_; rintro e w1 ⟨rfl, h1⟩; rw [h1]; clear h1 w1) | go_quiet (first | (go_at_call 37; exact Calls.quiet_of_same (HG.out _)) | fail))
      go_ret2
      exact ⟨⟨(0, 22), HE.out, rfl⟩, by first | exact HB.out 0 | exact HB.out 1 | exact HB.out 2 | exact HB.out _⟩
    | true =>
      rw [hp] at HG
      obtain ⟨n8, n10, n12⟩ : l.length ≠ 8 ∧ l.length ≠ 10 ∧ l.length ≠ 12 := hbad.resolve_left (by rw [hp]; decide)
      have g8 : ((l.length : Int) == 8) = false := by simp; omega
      have g10 : ((l.length : Int) == 10) = false := by simp; omega
      have g12 : ((l.length : Int) == 12) = false := by simp; omega
      have k8 : ((l.length : Int) != 8) = true := by rw [bne, g8]; rfl
      have k10 : ((l.length : Int) != 10) = true := by rw [bne, g10]; rfl
      have k12 : ((l.length : Int) != 12) = true := by rw [bne, g12]; rfl
      clear hbad hp
      go_enter Tryd.func27, Tryd.ntmps27
      go_wp2_with (first | (go_at_call 37; refine (HG.out _).mono ?_; rintro e w1 ⟨rfl, h1⟩; rw [h1]; clear h1 w1) | go_quiet (first | (go_at_call 37; exact Calls.quiet_of_same (HG.out _)) | fail))
      go_ret2
      exact ⟨⟨(0, 22), HE.out, rfl⟩, by first | exact HB.out 0 | exact HB.out 1 | exact HB.out 2 | exact HB.out _⟩
  · have h3' : ¬ (3 : Int) ≤ l.length := by omega
    clear hdot
    cases hp : Na.pl 10 l with
    | false =>
      rw [hp] at HG
      clear hbad hp
      go_enter Tryd.func27, Tryd.ntmps27
      go_wp2_with (first | (go_at_call 37; refine (HG.out _).mono ?_; rintro e w1 ⟨rfl, h1⟩; rw [h1]; clear h1 w1) | go_quiet (first | (go_at_call 37; exact Calls.quiet_of_same (HG.out _)) | fail))
      go_ret2
      exact ⟨⟨(0, 22), HE.out, rfl⟩, by first | exact HB.out 0 | exact HB.out 1 | exact HB.out 2 | exact HB.out _⟩
    | true =>
      rw [hp] at HG
      obtain ⟨n8, n10, n12⟩ : l.length ≠ 8 ∧ l.length ≠ 10 ∧ l.length ≠ 12 := hbad.resolve_left (by rw [hp]; decide)
      have g8 : ((l.length : Int) == 8) = false := by simp; omega
      have g10 : ((l.length : Int) == 10) = false := by simp; omega
      have g12 : ((l.length : Int) == 12) = false := by simp; omega
      have k8 : ((l.length : Int) != 8) = true := by rw [bne, g8]; rfl
      have k10 : ((l.length : Int) != 10) = true := by rw [bne, g10]; rfl
      have k12 : ((l.length : Int) != 12) = true := by rw [bne, g12]; rfl
      clear hbad hp
      go_enter Tryd.func27, Tryd.ntmps27
      go_wp2_with (first | (go_at_call 37; refine (HG.out _).mono ?_; rintro e w1 ⟨rfl, h1⟩; rw [h1]; clear h1 w1) | go_quiet (first | (go_at_call 37; exact Calls.quiet_of_same (HG.out _)) | fail))
      go_ret2
      exact ⟨⟨(0, 22), HE.out, rfl⟩, by first | exact HB.out 0 | exact HB.out 1 | exact HB.out 2 | exact HB.out _⟩
end Go.Proofs.YtgkjpfebjhhdkaaDoor
