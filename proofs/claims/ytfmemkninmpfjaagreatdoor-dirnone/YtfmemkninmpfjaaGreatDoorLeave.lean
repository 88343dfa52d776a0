/- The walks of leave, Links and Release. Condition: the table lies in memory as 'Tb' says. -/
import Derived.Test.YtfmemkninmpfjaaGreatDoorCut
import Derived.Test.YtfmemkninmpfjaaGreatDoorTab3
namespace Go.Proofs.YtfmemkninmpfjaaGreatDoor
open Go.RowKit
theorem zvN (w : World) : (zeroValue 135).run Tryz.prog w = .ok (.agg zeroN) w := by kernel_rfl
theorem oneN : zeroN.all (·.oneCell') = true := by kernel_rfl
section
variable {w : World} {t q b c n N : Nat} {clk : Int} {F : Nat → Nat → Int} {R : Nat → Nat → Nat} {u : Nat → Bool} {D : Nat → Nat}
set_option maxHeartbeats 1000000 in
theorem leave_keeps (T : Tb w t q b c n N clk F R u D) (i : Nat) (hi : i < N) (h : 0 < F i 3 ∨ 0 < F i 4) : Calls Tryz.prog 77 #[.pointer (some ⟨t, 0, none⟩), .pointer (some ⟨q, i * 17, none⟩)] w fun e w' => e = .returned (.tuple #[]) ∧ w' = w := by
  have k3 := T.cf i 3 hi (by omega)
  have k4 := T.cf i 4 hi (by omega)
  clear T
  by_cases h3 : 0 < F i 3
  · clear h
    go_enter Tryz.func77, Tryz.ntmps77
    go_wp2
    exact bodyPost_ret (results_none rfl _ _ _) rfl ⟨rfl, rfl⟩
  · have h4 : 0 < F i 4 := by omega
    clear h
    go_enter Tryz.func77, Tryz.ntmps77
    go_wp2
    exact bodyPost_ret (results_none rfl _ _ _) rfl ⟨rfl, rfl⟩
set_option maxRecDepth 8000 in
set_option maxHeartbeats 2000000 in
theorem leave_ends (T : Tb w t q b c n N clk F R u D) (i : Nat) (hi : i < N) (h3 : ¬ 0 < F i 3) (h4 : ¬ 0 < F i 4) (y : (Nat → Bool) × (Nat → Nat) × (Nat → Nat)) (hy : cutS 0 u D (R i) 8 = y) :
    Calls Tryz.prog 77 #[.pointer (some ⟨t, 0, none⟩), .pointer (some ⟨q, i * 17, none⟩)] w fun e w' => e = .returned (.tuple #[]) ∧ Tb w' t q b c n N clk (setN F i (fun _ => 0)) (setN R i (fun _ => 0)) y.1 y.2.1 ∧ Mod (fun k => k = b ∨ k = c ∨ k = q) w w' := by
  have HT : Hid (Tb w t q b c n N clk F R u D) := T
  have HY : Hid (cutS 0 u D (R i) 8 = y) := hy
  have k3 := T.cf i 3 hi (by omega)
  have k4 := T.cf i 4 hi (by omega)
  have hz := zvN
  clear T hy
  go_enter Tryz.func77, Tryz.ntmps77
  go_wp2_with (first | (go_at_call 100; refine (cut_any HT.out i 0 hi (by omega) (by omega) y HY.out).mono ?_; rintro e w1 ⟨rfl, T1, M1⟩; have HT1 : Hid (Tb w1 t q b c n N clk F (setN R i y.2.2) y.1 y.2.1) := T1; have HM1 : Hid (Mod (fun k => k = b ∨ k = c ∨ k = q) w w1) := M1; clear T1 M1) | (refine wpList_store_mid rfl 135 _ _ rfl q (i * 17) zeroN rfl rfl (HT1.out.there i hi) infN17 oneN ?_))
  refine ⟨rfl, _, results_none rfl _ _ _, rfl, ?_, Mod.setCells (s := fun k => k = b ∨ k = c ∨ k = q) q (.inr (.inr rfl)) zeroN.toList _ HM1.out⟩
  have h := HT1.out.setNode i hi (fun _ => 0) (fun _ => 0) (fun _ => by omega) (by omega) zeroN.toList rfl
    (fun o ho => by match o, ho with | 0, _ => rfl | 1, _ => rfl | 2, _ => rfl | 3, _ => rfl | 4, _ => rfl | 5, _ => rfl | 6, _ => rfl | 7, _ => rfl | 8, _ => rfl)
    (fun o ho => by match o, ho with | 0, _ => rfl | 1, _ => rfl | 2, _ => rfl | 3, _ => rfl | 4, _ => rfl | 5, _ => rfl | 6, _ => rfl | 7, _ => rfl)
  rwa [setN_setN] at h
end
end Go.Proofs.YtfmemkninmpfjaaGreatDoor
