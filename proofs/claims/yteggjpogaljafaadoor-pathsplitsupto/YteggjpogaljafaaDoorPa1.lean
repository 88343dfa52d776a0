/- The walks of the plain answers on texts alone. Conditions: lengths that fit. -/
import Derived.Test.YteggjpogaljafaaDoorPa0
import Derived.Test.YteggjpogaljafaaDoorShelf
import Derived.WalkKit
import Derived.WalkSpells
import Derived.WalkLawsBesides
import Derived.Handy
import Derived.Deep.QuietTactic
import Derived.BigQuiet
namespace Go.Proofs.YteggjpogaljafaaDoor
open Go.RowKit
theorem ext_eq (l : List UInt8) (a b : Nat) : (⟨l.toArray⟩ : ByteArray).extract a b = ⟨((l.take b).drop a).toArray⟩ := by
  apply ByteArray.ext
  simp [ByteArray.data_extract, List.drop_take]
theorem app_eq (a b : List UInt8) : (⟨a.toArray⟩ : ByteArray) ++ (⟨b.toArray⟩ : ByteArray) = ⟨(a ++ b).toArray⟩ := by
  apply ByteArray.ext
  simp [ByteArray.data_append]
theorem get_eq (l : List UInt8) (i : Nat) (h : i < (⟨l.toArray⟩ : ByteArray).size) : (⟨l.toArray⟩ : ByteArray)[i] = l[i]'(by simpa [ByteArray.size] using h) := rfl
theorem byte_eq (c d : UInt8) : (((c.toNat : Int) == (d.toNat : Int))) = decide (c = d) := by
  rw [Bool.eq_iff_iff]; simp [← UInt8.toNat_inj]; omega
theorem byte_slash (c : UInt8) : (((c.toNat : Int) == 47)) = decide (c = 47) := byte_eq c 47
theorem byte_slash' (c : UInt8) : (((c.toNat : Int) != 47)) = !decide (c = 47) := congrArg (!·) (byte_slash c)
theorem toL_eq (l : List UInt8) : (⟨l.toArray⟩ : ByteArray).toList = l := by rw [ByteArray.toList_eq]
theorem str_size (l : List UInt8) : (⟨l.toArray⟩ : ByteArray).size = l.length := by simp [ByteArray.size]
theorem ret_bool {a b : Bool} (h : a = b) : Ending.returned (.bool a) = .returned (.bool b) := by rw [h]
theorem ret_int {k : IntKind} {a b : Int} (h : a = b) : Ending.returned (.int k a) = .returned (.int k b) := by rw [h]
theorem ret_str {a b : List UInt8} (h : a = b) : Ending.returned (.string ⟨a.toArray⟩) = .returned (.string ⟨b.toArray⟩) := by rw [h]
def sizeS : Value → Nat
  | .string s => s.size
  | _ => 0
attribute [local go_sem] ext_eq app_eq get_eq
theorem absB_cons (c : UInt8) (r : List UInt8) : Pa.absB (c :: r) = decide (c = 47) := by
  rw [Bool.eq_iff_iff]; simp [Pa.absB]
set_option maxHeartbeats 400000 in
theorem rAbs (l : List UInt8) (w : World) (hs : l.length ≤ maxLen) : Calls Tryd.prog 32 #[.string ⟨l.toArray⟩] w fun e w' => e = .returned (.bool (Pa.absB l)) ∧ w' = w := by
  unfold maxLen at hs
  cases l with
  | nil =>
    go_enter Tryd.func32, Tryd.ntmps32
    go_wp2
    go_ret
    exact ⟨rfl, rfl⟩
  | cons c r =>
    go_enter Tryd.func32, Tryd.ntmps32
    go_wp2
    go_ret
    exact ⟨ret_bool ((byte_slash c).trans (absB_cons c r).symm), rfl⟩
theorem trim_nil (c : UInt8) : Lib.trimRightB [] c = [] := rfl
theorem trim_snoc (l : List UInt8) (c : UInt8) : Lib.trimRightB (l ++ [c]) c = Lib.trimRightB l c := by simp [Lib.trimRightB]
theorem trim_snoc_no (l : List UInt8) (c d : UInt8) (h : d ≠ c) : Lib.trimRightB (l ++ [d]) c = l ++ [d] := by simp [Lib.trimRightB, h]
theorem take_get (l : List UInt8) (k : Nat) (h : k < l.length) : l.take (k + 1) = l.take k ++ [l[k]] := List.take_succ_eq_append_getElem h
set_option maxHeartbeats 400000 in
theorem rBare (l : List UInt8) (w : World) (hs : l.length ≤ maxLen) : Calls Tryd.prog 40 #[.string ⟨l.toArray⟩] w fun e w' => e = .returned (.string ⟨(Lib.trimRightB l 47).toArray⟩) ∧ w' = w := by
  unfold maxLen at hs
  go_enter Tryd.func40, Tryd.ntmps40
  go_wp2
  go_loop [0] (fun t => ∃ k : Nat, k ≤ l.length ∧ t = .string ⟨(l.take k).toArray⟩ ∧ Hid (Lib.trimRightB (l.take k) 47 = Lib.trimRightB l 47)) (fun t => sizeS t)
  case atStart => exact ⟨l.length, Nat.le_refl _, by simp, by show _ = _; simp⟩
  case round =>
    obtain ⟨k, hk, rfl, hb⟩ := hrel
    cases k with
    | zero =>
      go_wp2
      go_ret
      exact ⟨ret_str hb.out, rfl⟩
    | succ k =>
      have hlt : k < l.length := by omega
      by_cases hc : l[k] = 47
      · have hc' : ((l[k].toNat : Int) == 47) = true := by rw [byte_slash]; simpa using hc
        have HC : Hid (l[k] = 47) := hc
        clear hc
        go_wp2
        refine ⟨⟨k, by omega, by rw [List.take_take, Nat.min_eq_left (by omega)], ?_⟩, ?_⟩
        · show _ = _; rw [← hb.out, take_get l k hlt, HC.out, trim_snoc]
        · simp only [sizeS, str_size, List.length_take]; omega
      · have hc' : ((l[k].toNat : Int) == 47) = false := by rw [byte_slash]; simpa using hc
        go_wp2
        go_ret
        exact ⟨ret_str (by rw [← hb.out, take_get l k hlt, trim_snoc_no _ _ _ hc]), rfl⟩
/-- The place behind the last slash. -/
def lastL (l : List UInt8) : Nat := l.length - (l.reverse.takeWhile (· != 47)).length
theorem lastL_snoc (l : List UInt8) (c : UInt8) : lastL (l ++ [c]) = if c = 47 then l.length + 1 else lastL l := by
  by_cases h : c = 47
  · simp [lastL, h]
  · have : (l.reverse.takeWhile (· != 47)).length ≤ l.length := by have := (List.takeWhile_prefix (fun c : UInt8 => c != 47) (l := l.reverse)).length_le; simpa using this
    simp [lastL, h]
theorem lastL_le (l : List UInt8) : lastL l ≤ l.length := by unfold lastL; omega
set_option maxHeartbeats 400000 in
theorem rLast (l : List UInt8) (w : World) (hs : l.length ≤ maxLen - 1) : Calls Tryd.prog 41 #[.string ⟨l.toArray⟩] w fun e w' => e = .returned (.int .i64 (lastL l)) ∧ w' = w := by
  unfold maxLen at hs
  go_enter Tryd.func41, Tryd.ntmps41
  go_wp2
  go_loop [3, 4] (fun a i => ∃ k : Nat, k ≤ l.length ∧ i = .int .i64 k ∧ a = .int .i64 (lastL (l.take k))) (fun _ i => l.length - (intOf i).toNat)
  case atStart => exact ⟨0, Nat.zero_le _, rfl, rfl⟩
  case round =>
    obtain ⟨k, hk, rfl, rfl⟩ := hrel
    by_cases hlt : k < l.length
    · have hsn := lastL_snoc (l.take k) l[k]
      rw [← take_get l k hlt, List.length_take, Nat.min_eq_left (by omega)] at hsn
      have HS := hsn
      have HS : Hid (lastL (l.take (k + 1)) = if l[k] = 47 then k + 1 else lastL (l.take k)) := hsn
      clear hsn
      by_cases hc : l[k] = 47
      · have hc' : ((l[k].toNat : Int) == 47) = true := by rw [byte_slash]; simpa using hc
        rw [hc] at HS
        clear hc
        go_wp2
        exact ⟨⟨k + 1, by omega, by go_num, by rw [HS.out]; go_num⟩, by simp [intOf]; omega⟩
      · have hc' : ((l[k].toNat : Int) == 47) = false := by rw [byte_slash]; simpa using hc
        have HC : Hid (¬ l[k] = 47) := hc
        clear hc
        go_wp2
        exact ⟨⟨k + 1, by omega, by go_num, by rw [HS.out, if_neg HC.out]⟩, by simp [intOf]; omega⟩
    · go_wp2
      go_ret
      exact ⟨ret_int (by rw [List.take_of_length_le (by omega)]), rfl⟩
end Go.Proofs.YteggjpogaljafaaDoor
