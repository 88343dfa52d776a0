/- The walks of the plain answer's lead and step. Conditions: texts that fit; what bracket answers, as a premise. -/
import Derived.Test.YtncnmeidciailaaDoorLv4
import Derived.Test.YtncnmeidciailaaDoorLa6
namespace Go.Proofs.YtncnmeidciailaaDoor
open Go.RowKit
attribute [local go_sem] ext_eq app_eq get_eq
namespace Gl
/-- A period that only a period matches. -/
def ld (f : Fl) (s : List UInt8) (i : Nat) : Bool := f.period && decide (s[i]? = some 46) && (decide (i = 0) || f.path && decide (s[i - 1]? = some 47))
theorem guard_ld (f : Fl) (s : List UInt8) (i : Nat) : ((f.path && decide (s[i]? = some 47)) || ld f s i) = guard f s i := by
  unfold guard ld
  by_cases h1 : s[i]? = some 47
  · rw [if_pos h1, h1]
    cases f.path <;> simp
  · rw [if_neg h1]
    by_cases h2 : s[i]? = some 46
    · rw [if_pos h2, h2]; simp
    · rw [if_neg h2]; simp [h1, h2]
theorem takes_out {f : Fl} {s : List UInt8} {x : Pc} {i : Nat} (h : s.length ≤ i) : takes f s x i = false := by
  have e : s[i]? = none := List.getElem?_eq_none h
  cases x <;> simp [takes, e]
theorem fold_other (f : Fl) (x c : UInt8) : decide (fold f x = fold f c) = (decide (x = c) || (f.fold && decide (other x = c))) := by
  cases hf : f.fold with
  | false =>
    rw [fold_no (.inl hf), fold_no (.inl hf)]; simp
  | true =>
    have h : ∀ (g : Fl), g.fold = true → ∀ y : UInt8, fold g y = if up y then y + 32 else y := fun g hg y => by
      unfold fold up
      rw [hg, Bool.true_and]
    rw [h f hf, h f hf]
    have key : ∀ a b : Fin 256, decide ((if up (UInt8.ofNat a.val) then UInt8.ofNat a.val + 32 else UInt8.ofNat a.val) = (if up (UInt8.ofNat b.val) then UInt8.ofNat b.val + 32 else UInt8.ofNat b.val)) = (decide (UInt8.ofNat a.val = UInt8.ofNat b.val) || (true && decide (other (UInt8.ofNat a.val) = UInt8.ofNat b.val))) := by decide +kernel
    have := key ⟨x.toNat, x.toNat_lt⟩ ⟨c.toNat, c.toNat_lt⟩
    simpa using this
end Gl
theorem fl_path (fl : Int) : (Gl.flOf fl).path = (bits .and .i64 fl 1 != 0) := rfl
theorem fl_period (fl : Int) : (Gl.flOf fl).period = (bits .and .i64 fl 2 != 0) := rfl
theorem fl_fold (fl : Int) : (Gl.flOf fl).fold = (bits .and .i64 fl 8 != 0) := rfl
set_option maxRecDepth 100000 in
set_option maxHeartbeats 2000000 in
theorem rLead (s : List UInt8) (i : Nat) (hi : i < s.length) (hl : s.length ≤ 2 ^ 40) (fl : Int) (w : World) : Calls Tryd.prog 38 #[.string ⟨s.toArray⟩, .int .i64 i, .int .i64 fl] w fun e w' => e = .returned (.bool (Gl.ld (Gl.flOf fl) s i)) ∧ w' = w := by
  have hs : (⟨s.toArray⟩ : ByteArray).size = s.length := str_size s
  have HE : Hid (Gl.ld (Gl.flOf fl) s i = ((bits .and .i64 fl 2 != 0) && decide (s[i] = 46) && (decide (i = 0) || (bits .and .i64 fl 1 != 0) && decide (s[i - 1]? = some 47)))) := by
    show _ = _
    unfold Gl.ld
    rw [List.getElem?_eq_getElem hi, fl_period, fl_path]; simp
  cases hp : (bits .and .i64 fl 2 != 0) with
  | false =>
    rw [hp] at HE
    go_enter Tryd.func38, Tryd.ntmps38
    go_wp2
    go_ret
    exact ⟨by rw [HE.out]; rfl, rfl⟩
  | true =>
    rw [hp] at HE
    by_cases c46 : s[i] = 46
    · have hc := byte_yes _ 46 46 rfl c46
      rw [decide_eq_true c46] at HE
      clear c46
      by_cases h0 : i = 0
      · have hz : ((i : Int) == 0) = true := by simp [h0]
        rw [decide_eq_true h0] at HE
        clear h0
        go_enter Tryd.func38, Tryd.ntmps38
        go_wp2
        go_ret
        exact ⟨by rw [HE.out]; rfl, rfl⟩
      · have hz : ((i : Int) == 0) = false := by simp [h0]
        rw [decide_eq_false h0] at HE
        cases hq : (bits .and .i64 fl 1 != 0) with
        | false =>
          rw [hq] at HE
          clear h0
          go_enter Tryd.func38, Tryd.ntmps38
          go_wp2
          go_ret
          exact ⟨by rw [HE.out]; rfl, rfl⟩
        | true =>
          rw [hq] at HE
          obtain ⟨j, Hj⟩ : ∃ j, Hid (i = j + 1) := ⟨i - 1, by show i = i - 1 + 1; omega⟩
          have hwj : IntKind.i64.wrap ((i : Int) - 1) = (j : Int) := by have := Hj.out; rw [IntKind.wrap_i64]; omega
          have hjl : j < s.length := by have := Hj.out; omega
          have e : s[i - 1]? = some s[j] := by have := Hj.out; rw [show i - 1 = j by omega, List.getElem?_eq_getElem hjl]
          rw [e] at HE
          clear h0 e
          by_cases c47 : s[j] = 47
          · have hc2 := byte_yes _ 47 47 rfl c47
            rw [c47] at HE
            clear c47
            go_enter Tryd.func38, Tryd.ntmps38
            go_wp2
            go_ret
            exact ⟨by rw [HE.out]; rfl, rfl⟩
          · have hc2 := byte_no _ 47 47 rfl c47
            rw [decide_eq_false (fun h => c47 (Option.some.inj h))] at HE
            clear c47
            go_enter Tryd.func38, Tryd.ntmps38
            go_wp2
            go_ret
            exact ⟨by rw [HE.out]; rfl, rfl⟩
    · have hc := byte_no _ 46 46 rfl c46
      rw [decide_eq_false c46] at HE
      clear c46
      go_enter Tryd.func38, Tryd.ntmps38
      go_wp2
      go_ret
      exact ⟨by rw [HE.out]; rfl, rfl⟩
end Go.Proofs.YtncnmeidciailaaDoor
