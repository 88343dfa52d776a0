/- The walks of the small functions on specs: letters, the plain answers bare, takes, Spec. Conditions: lengths that fit. -/
import Derived.Test.YtgbkgfmljcfhoaaGa0
import Derived.Test.YtgbkgfmljcfhoaaProg
import Derived.WalkKit
import Derived.WalkSpells
import Derived.WalkLawsBesides
import Derived.Handy
import Derived.Deep.QuietTactic
import Derived.BigQuiet
import Derived.ProofKit
namespace Go.Proofs.Ytgbkgfmljcfhoaa
open Go.RowKit
theorem ext_eq (l : List UInt8) (a b : Nat) : (⟨l.toArray⟩ : ByteArray).extract a b = ⟨((l.take b).drop a).toArray⟩ := by
  apply ByteArray.ext
  simp [ByteArray.data_extract, List.drop_take]
theorem app_eq (a b : List UInt8) : (⟨a.toArray⟩ : ByteArray) ++ (⟨b.toArray⟩ : ByteArray) = ⟨(a ++ b).toArray⟩ := by
  apply ByteArray.ext
  simp [ByteArray.data_append]
theorem get_eq (l : List UInt8) (i : Nat) (h : i < (⟨l.toArray⟩ : ByteArray).size) : (⟨l.toArray⟩ : ByteArray)[i] = l[i]'(by simpa [ByteArray.size] using h) := rfl
theorem byte_eq (c d : UInt8) : (((c.toNat : Int) == (d.toNat : Int))) = decide (c = d) := by
  rw [Bool.eq_iff_iff]; simp [← UInt8.toNat_inj]; omega
theorem byte58 (c : UInt8) : (((c.toNat : Int) == 58)) = decide (c = 58) := byte_eq c 58
theorem byte45 (c : UInt8) : (((c.toNat : Int) == 45)) = decide (c = 45) := byte_eq c 45
theorem byte43 (c : UInt8) : (((c.toNat : Int) == 43)) = decide (c = 43) := byte_eq c 43
theorem toL_eq (l : List UInt8) : (⟨l.toArray⟩ : ByteArray).toList = l := by rw [ByteArray.toList_eq]
theorem str_size (l : List UInt8) : (⟨l.toArray⟩ : ByteArray).size = l.length := by simp [ByteArray.size]
theorem ret_bool {a b : Bool} (h : a = b) : Ending.returned (.bool a) = .returned (.bool b) := by rw [h]
theorem ret_int {k : IntKind} {a b : Int} (h : a = b) : Ending.returned (.int k a) = .returned (.int k b) := by rw [h]
theorem ret_str {a b : List UInt8} (h : a = b) : Ending.returned (.string ⟨a.toArray⟩) = .returned (.string ⟨b.toArray⟩) := by rw [h]
attribute [local go_sem] ext_eq app_eq get_eq
theorem byte_lt (c : UInt8) : (c.toNat : Int) ≤ 255 := by have := c.toNat_lt; omega
set_option maxHeartbeats 1000000 in
theorem gMay (c : Int) (w : World) : Calls Try.prog 37 #[.int .i32 c] w fun e w' => e = .returned (.bool (Ga.letB c)) ∧ w' = w := by
  have H : Hid (Ga.letB c = (((decide (97 ≤ c) && decide (c ≤ 122)) || (decide (65 ≤ c) && decide (c ≤ 90))) || (decide (48 ≤ c) && decide (c ≤ 57)))) := rfl
  by_cases h1 : 97 ≤ c <;> by_cases h2 : c ≤ 122 <;> by_cases h3 : 65 ≤ c <;> by_cases h4 : c ≤ 90 <;> by_cases h5 : 48 ≤ c <;> by_cases h6 : c ≤ 57 <;> first
    | (exfalso; omega)
    | (go_enter Try.func37, Try.ntmps37
       go_wp2
       go_ret
       exact ⟨ret_bool (by rw [H.out]; simp [h1, h2, h3, h4, h5, h6]), rfl⟩)
set_option maxHeartbeats 1000000 in
theorem rLetter (c : Int) (w : World) : Calls Try.prog 41 #[.int .u8 c] w fun e w' => e = .returned (.bool (Ga.letB c)) ∧ w' = w := by
  have H : Hid (Ga.letB c = (((decide (97 ≤ c) && decide (c ≤ 122)) || (decide (65 ≤ c) && decide (c ≤ 90))) || (decide (48 ≤ c) && decide (c ≤ 57)))) := rfl
  by_cases h1 : 97 ≤ c <;> by_cases h2 : c ≤ 122 <;> by_cases h3 : 65 ≤ c <;> by_cases h4 : c ≤ 90 <;> by_cases h5 : 48 ≤ c <;> by_cases h6 : c ≤ 57 <;> first
    | (exfalso; omega)
    | (go_enter Try.func41, Try.ntmps41
       go_wp2
       go_ret
       exact ⟨ret_bool (by rw [H.out]; simp [h1, h2, h3, h4, h5, h6]), rfl⟩)
theorem bare_cons (c : UInt8) (r : List UInt8) : Ga.bare (c :: r) = if c = 43 then r else c :: r := by
  by_cases h : c = 43 <;> simp [Ga.bare, h]
set_option maxHeartbeats 400000 in
theorem rBare (l : List UInt8) (w : World) (hs : l.length ≤ 2 ^ 47) : Calls Try.prog 35 #[.string ⟨l.toArray⟩] w fun e w' => e = .returned (.string ⟨(Ga.bare l).toArray⟩) ∧ w' = w := by
  cases l with
  | nil =>
    go_enter Try.func35, Try.ntmps35
    go_wp2
    go_ret
    exact ⟨rfl, rfl⟩
  | cons c r =>
    rw [bare_cons]
    by_cases hc : c = 43
    · have hc' : ((c.toNat : Int) == 43) = true := by rw [byte43]; simpa using hc
      rw [if_pos hc]
      clear hc
      go_enter Try.func35, Try.ntmps35
      go_wp2
      go_ret
      exact ⟨ret_str (by simp), rfl⟩
    · have hc' : ((c.toNat : Int) == 43) = false := by rw [byte43]; simpa using hc
      rw [if_neg hc]
      clear hc
      go_enter Try.func35, Try.ntmps35
      go_wp2
      go_ret
      exact ⟨rfl, rfl⟩
end Go.Proofs.Ytgbkgfmljcfhoaa
