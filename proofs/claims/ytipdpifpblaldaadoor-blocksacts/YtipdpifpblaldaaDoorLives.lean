/- The document's examples, as the statements ask them: 'lives' answers true in whatever memory. Condition: the library's table is as its initialiser lays it. -/
import Derived.Test.YtipdpifpblaldaaDoorSt
namespace Go.Proofs.YtipdpifpblaldaaDoor
open Go.RowKit
theorem two1 : ∀ j, j < 1 → upd (fun _ => false) 0 true j = true := fun j hj => by simp [upd]; omega
theorem two2 : ∀ j, j < 2 → upd (upd (fun _ => false) 0 true) 1 true j = true := fun j hj => by simp [upd]; omega
theorem two3 : Bt.cnt (upd (upd (upd (fun _ => false) 0 true) 1 true) 0 false) 2 = 1 := rfl
set_option maxHeartbeats 1000000 in
theorem lives_true (w : World) (hT : TabIs w) : Calls Tryd.prog 7 #[] w fun e w' => e = .returned (.bool true) ∧ Mod (fun _ => False) w w' := by
  have HT : Hid (TabIs w) := hT
  clear hT
  go_enter Tryd.func7, Tryd.ntmps7
  go_wp2_with fail
  refine (St.new 2 w (by omega) (by omega) HT.out).mono ?_
  rintro e w1 ⟨rfl, S1, M1, _⟩
  go_wp2_with fail
  refine (St.alloc_some S1 0 (by omega) rfl (fun j hj => by omega)).mono ?_
  rintro e w2 ⟨rfl, S2, M2, _⟩
  go_wp2_with fail
  refine (St.alloc_some S2 1 (by omega) rfl two1).mono ?_
  rintro e w3 ⟨rfl, S3, M3, _⟩
  go_wp2_with fail
  refine (St.alloc_full S3 two2).mono ?_
  rintro e w4 ⟨rfl, rfl⟩
  go_wp2_with fail
  refine (St.free_ok S3 0 (by omega) rfl).mono ?_
  rintro e w5 ⟨rfl, S5, M5, _⟩
  go_wp2_with fail
  refine (St.left S5).mono ?_
  rw [two3]
  rintro e w6 ⟨rfl, rfl⟩
  go_wp2_with fail
  go_ret
  refine ⟨rfl, ?_⟩
  have hs := M1.size
  have lt : ∀ k, k < w.heap.size → ¬ (k = w.heap.size + 1 ∨ k = w.heap.size) := fun k hk => by omega
  refine ⟨?_, ?_, ?_, ?_, fun k hk _ => ?_⟩
  · exact M5.os.trans (M3.os.trans (M2.os.trans M1.os))
  · exact M5.tape.trans (M3.tape.trans (M2.tape.trans M1.tape))
  · exact M5.output.trans (M3.output.trans (M2.output.trans M1.output))
  · exact Nat.le_trans M1.size (Nat.le_trans M2.size (Nat.le_trans M3.size M5.size))
  · have h1 := M1.size; have h2 := M2.size; have h3 := M3.size
    rw [M5.block k (by omega) (lt k hk), M3.block k (by omega) (by omega), M2.block k (by omega) (by omega), M1.block k hk (fun h => h)]
end Go.Proofs.YtipdpifpblaldaaDoor
