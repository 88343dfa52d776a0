/- The walks of the plain answers Texts and Same, where both are alike. Conditions: the lists' cells are as said; lengths that fit. -/
import Derived.Test.YteggjpogaljafaaDoorPa8
namespace Go.Proofs.YteggjpogaljafaaDoor
open Go.RowKit
attribute [local go_sem] ext_eq app_eq get_eq toL_eq
set_option maxRecDepth 100000 in
set_option maxHeartbeats 1000000 in
theorem rTexts (x : List (List UInt8)) (p q : Option Addr) (c d : Nat) (w : World) (hSx : Strs w p x) (hSy : Strs w q x) (hx : x.length ≤ 2 ^ 40) :
    Calls Tryd.prog 13 #[.slice p x.length c, .slice q x.length d] w fun e w' => e = .returned (.bool true) ∧ ∃ n, w' = w.drewN n := by
  go_enter Tryd.func13, Tryd.ntmps13
  go_wp2
  go_loopw [13] (fun i W => ∃ k : Nat, k ≤ x.length ∧ i = .int .i64 k ∧ ∃ n, W = w.drewN n) (fun i _ => x.length - (intOf i).toNat)
  case atStart => exact ⟨0, Nat.zero_le _, rfl, 0, rfl⟩
  case round =>
    obtain ⟨k, hk, rfl, n, rfl⟩ := hrel
    by_cases hlt : k < x.length
    · obtain ⟨bk, o, rfl, hb, hcell⟩ := hSx k x[k] (List.getElem?_eq_getElem hlt)
      obtain ⟨bk2, o2, rfl, hb2, hcell2⟩ := hSy k x[k] (List.getElem?_eq_getElem hlt)
      go_wp2
      go_quiet (fail)
      go_wp2
      exact ⟨⟨k + 1, by omega, by go_num, _, rfl⟩, by simp [intOf]; omega⟩
    · go_wp2
      go_ret
      exact ⟨rfl, _, rfl⟩
set_option maxRecDepth 100000 in
set_option maxHeartbeats 2000000 in
theorem rSame (a s : Bool) (x : List (List UInt8)) (p q : Option Addr) (c d : Nat) (w : World) (hSx : Strs w p x) (hSy : Strs w q x) (hx : x.length ≤ 2 ^ 40) :
    Calls Tryd.prog 10 #[.agg #[.bool a, .slice p x.length c, .bool s], .agg #[.bool a, .slice q x.length d, .bool s]] w fun e w' => e = .returned (.bool true) ∧ Below w.heap.size w w' := by
  have HB : Hid (∀ o1 o2, Below w.heap.size w ((w.alloc o1).alloc o2)) := fun o1 o2 => ((Below.refl _ _).alloc (Nat.le_refl _) o1).alloc (by simp) o2
  have HX : Hid (∀ o1 o2, Strs ((w.alloc o1).alloc o2) p x) := fun o1 o2 => hSx.grow (HB.out o1 o2)
  have HY : Hid (∀ o1 o2, Strs ((w.alloc o1).alloc o2) q x) := fun o1 o2 => hSy.grow (HB.out o1 o2)
  clear hSx hSy
  go_enter Tryd.func10, Tryd.ntmps10
  go_wp2
  go_loopw [30] (fun i W => ∃ k : Nat, k ≤ x.length ∧ i = .int .i64 k ∧ ∃ n, W = ((w.alloc (.cells #[.bool a, .slice p x.length c, .bool s] 24)).alloc (.cells #[.bool a, .slice q x.length d, .bool s] 24)).drewN n) (fun i _ => x.length - (intOf i).toNat)
  case atStart => exact ⟨0, Nat.zero_le _, rfl, 0, rfl⟩
  case round =>
    obtain ⟨k, hk, rfl, n, rfl⟩ := hrel
    by_cases hlt : k < x.length
    · obtain ⟨bk, o, rfl, hb, hcell⟩ := HX.out (.cells #[.bool a, .slice p x.length c, .bool s] 24) (.cells #[.bool a, .slice q x.length d, .bool s] 24) k x[k] (List.getElem?_eq_getElem hlt)
      obtain ⟨bk2, o2, rfl, hb2, hcell2⟩ := HY.out (.cells #[.bool a, .slice (some ⟨bk, o, none⟩) x.length c, .bool s] 24) (.cells #[.bool a, .slice q x.length d, .bool s] 24) k x[k] (List.getElem?_eq_getElem hlt)
      go_wp2
      go_quiet (fail)
      go_wp2
      exact ⟨⟨k + 1, by omega, by go_num, _, rfl⟩, by simp [intOf]; omega⟩
    · go_wp2
      go_ret
      exact ⟨rfl, below_drewN (HB.out _ _) _⟩
end Go.Proofs.YteggjpogaljafaaDoor
