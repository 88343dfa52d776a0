/- The walk of act at Free and at Is: both answer the same, and stay alike. -/
import Derived.Test.YtipdpifpblaldaaDoorAct
import Derived.Deep.RegionHeld
namespace Go.Proofs.YtipdpifpblaldaaDoor
open Go.RowKit
theorem J.nF {w : World} {B0 b c tb n : Nat} {u : Nat → Bool} {D : Nat → Nat} {F : Nat → Prop} (j : J w B0 b c tb n u D F) : ¬ F w.heap.size := fun h => by
  obtain ⟨_, _, _, _, _, hR⟩ := j.R; have := hR.lt _ h; omega
theorem Rf.same {w w' : World} {tb n : Nat} {u : Nat → Bool} {D : Nat → Nat} {F : Nat → Prop} {ob co yb cy : Nat} {R : Nat → Nat} (S : Rf w tb n u D F ob co yb cy R) (h : w'.heap = w.heap) : Rf w' tb n u D F ob co yb cy R := S.keep (by rw [h]; exact Nat.le_refl _) (fun k _ => by rw [h])
theorem St.same {w w' : World} {b c n : Nat} {u : Nat → Bool} {D : Nat → Nat} (S : St w b c n u D) (h : w'.heap = w.heap) : St w' b c n u D := S.keep (by rw [h]) (by rw [h]) (by rw [h])
section
variable {w : World} {B0 b c tb n : Nat} {u : Nat → Bool} {D : Nat → Nat} {F : Nat → Prop}
set_option maxHeartbeats 1000000 in
theorem act_free_not (j : J w B0 b c tb n u D F) (i t : Int) (v : Value) (hu : Unfit n u i) : Calls Tryd.prog 10 #[.pointer (some ⟨b, 0, none⟩), .pointer (some ⟨tb, 0, none⟩), .agg #[.int .i64 1, .int .i64 i, .int .i64 t, v]] w (ActOk B0 b c tb n F w) := by
  have HJ : Hid (J (w.alloc (.cells #[.int .i64 1, .int .i64 i, .int .i64 t, v] 35)) B0 b c tb n u D F) := j.mod ((Mod.refl _ w).alloc _)
  have HU : Hid (Unfit n u i) := hu
  have hc1 : (w.alloc (.cells #[.int .i64 1, .int .i64 i, .int .i64 t, v] 35)).cell? ⟨w.heap.size, 1, none⟩ = some (.int .i64 i) := by rw [World.cell?_alloc_at _ _ _ _ rfl]; rfl
  clear j hu
  obtain ⟨ob, co, yb, cy, R, hR⟩ := HJ.out.R
  have HR : Hid (Rf (w.alloc (.cells #[.int .i64 1, .int .i64 i, .int .i64 t, v] 35)) tb n u D F ob co yb cy R) := hR
  clear hR
  go_enter Tryd.func10, Tryd.ntmps10
  go_wp2_with fail
  go_region_held (fun W' => W'.cell? ⟨w.heap.size, 1, none⟩ = some (.int .i64 i)) (go_keep) (first | (go_at_call 22; refine ((HJ.out.S.same (by rfl)).free_not i HU.out).mono ?_; rintro e w1 ⟨rfl, m, rfl⟩) | (go_at_call 27; refine (rfree_out _ tb i ((HR.out.same (by rfl)).is_not i HU.out)).mono ?_; rintro e w1 ⟨rfl, rfl⟩))
  go_wp2
  go_ret
  exact ⟨by simp, u, D, F, HJ.out.mod ((Mod.refl _ _).drewN _), ((Mod.refl _ w).alloc _).drewN _⟩
/-- Free at the store, the list as it was, and a cell of another block. -/
theorem free_first {w0 : World} (j : J w0 B0 b c tb n u D F) {ob co yb cy : Nat} {R : Nat → Nat} (hR : Rf w0 tb n u D F ob co yb cy R) (k ab : Nat) (x : Value) (hk : k < n) (hu : u k = true) (hab : w0.cell? ⟨ab, 1, none⟩ = some x) (h1 : ab ≠ b) (h2 : ab ≠ c) :
    Calls Tryd.prog 22 #[.pointer (some ⟨b, 0, none⟩), .int .i64 k] w0.drew fun e w' => e = .returned (.int .i64 0) ∧ w'.cell? ⟨ab, 1, none⟩ = some x ∧ Hid (St w' b c n (upd u k false) (over D (k * 64) zeros)) ∧ Hid (Rf w' tb n u D F ob co yb cy R) ∧ Hid (Mod (fun q => q = b ∨ q = c ∨ F q) w0 w') := by
  refine ((j.S.same (w' := w0.drew) rfl).free_ok k hk hu).mono fun e w' ⟨he, hS, hM, _⟩ => ⟨he, ?_, hS, (hR.same (w' := w0.drew) rfl).mod hM (fun q hq h => ?_), ?_⟩
  · have := hM.cell (p := ⟨ab, 1, none⟩) (block_lt_of_cell (w := w0) hab) (fun h => by rcases h with h | h; exact h1 h; exact h2 h)
    rw [this]; exact hab
  · rcases h with h | h
    · exact j.nb (h ▸ hq)
    · exact j.nc (h ▸ hq)
  · have m2 : Mod (fun q => q = b ∨ q = c ∨ F q) w0.drew w' := hM.mono (fun q _ h => h.elim .inl (fun h => .inr (.inl h)))
    exact ((Mod.refl _ w0).drewN 1).trans m2
set_option maxHeartbeats 1000000 in
theorem act_free_ok (j : J w B0 b c tb n u D F) (k : Nat) (t : Int) (v : Value) (hk : k < n) (hu : u k = true) : Calls Tryd.prog 10 #[.pointer (some ⟨b, 0, none⟩), .pointer (some ⟨tb, 0, none⟩), .agg #[.int .i64 1, .int .i64 k, .int .i64 t, v]] w (ActOk B0 b c tb n F w) := by
  have HJ : Hid (J (w.alloc (.cells #[.int .i64 1, .int .i64 k, .int .i64 t, v] 35)) B0 b c tb n u D F) := j.mod ((Mod.refl _ w).alloc _)
  have HU : Hid (u k = true) := hu
  have hc1 : (w.alloc (.cells #[.int .i64 1, .int .i64 k, .int .i64 t, v] 35)).cell? ⟨w.heap.size, 1, none⟩ = some (.int .i64 k) := by rw [World.cell?_alloc_at _ _ _ _ rfl]; rfl
  have hb : w.heap.size ≠ b := by have := j.S.lt_b; omega
  have hc : w.heap.size ≠ c := by have := j.S.lt_c; omega
  have HF : Hid (¬ F w.heap.size) := j.nF
  clear j hu
  obtain ⟨ob, co, yb, cy, R, hR⟩ := HJ.out.R
  have HR : Hid (Rf (w.alloc (.cells #[.int .i64 1, .int .i64 k, .int .i64 t, v] 35)) tb n u D F ob co yb cy R) := hR
  have HC : Hid ((w.alloc (.cells #[.int .i64 1, .int .i64 k, .int .i64 t, v] 35)).cell? ⟨w.heap.size, 1, none⟩ = some (.int .i64 k)) := hc1
  clear hR
  go_enter Tryd.func10, Tryd.ntmps10
  go_wp2_with fail
  go_region_held (fun W' => W'.cell? ⟨w.heap.size, 1, none⟩ = some (.int .i64 k)) (first | exact HC.out | assumption) (first | (go_at_call 22; refine (free_first HJ.out HR.out k w.heap.size _ hk HU.out HC.out hb hc).mono ?_; rintro e w1 ⟨rfl, hS1, HS1, HR1, HM1⟩) | (go_at_call 27; refine (HR1.out.free_ok k hk HU.out).mono ?_; rintro e w2 ⟨rfl, R2, M2⟩; have hS2 : w2.cell? ⟨w.heap.size, 1, none⟩ = some (.int .i64 k) := (M2.cell (p := ⟨w.heap.size, 1, none⟩) (block_lt_of_cell hS1) HF.out).trans hS1; have HR2 : Hid (Rf w2 tb n (upd u k false) (over D (k * 64) zeros) F ob co yb cy R) := R2; have HM2 : Hid (Mod F w1 w2) := M2; clear R2 M2))
  go_wp2
  go_ret
  exact ⟨by simp, _, _, F, ⟨HS1.out.mod HM2.out HJ.out.b0 HJ.out.nb HJ.out.nc, ⟨ob, co, yb, cy, R, HR2.out⟩, HJ.out.nb, HJ.out.nc, HJ.out.fB, HJ.out.bB, HJ.out.cB, Nat.le_trans HJ.out.BB (Nat.le_trans HM1.out.size HM2.out.size)⟩, (((Mod.refl _ w).alloc _).trans HM1.out).trans (HM2.out.mono (fun q _ h => .inr (.inr h)))⟩
set_option maxHeartbeats 1000000 in
theorem act_is (j : J w B0 b c tb n u D F) (kd i t : Int) (v : Value) (h0 : (kd == 0) = false) (h1 : (kd == 1) = false) (h2 : (kd == 2) = false) (h3 : (kd == 3) = false) : Calls Tryd.prog 10 #[.pointer (some ⟨b, 0, none⟩), .pointer (some ⟨tb, 0, none⟩), .agg #[.int .i64 kd, .int .i64 i, .int .i64 t, v]] w (ActOk B0 b c tb n F w) := by
  have HJ : Hid (J (w.alloc (.cells #[.int .i64 kd, .int .i64 i, .int .i64 t, v] 35)) B0 b c tb n u D F) := j.mod ((Mod.refl _ w).alloc _)
  have HC : Hid ((w.alloc (.cells #[.int .i64 kd, .int .i64 i, .int .i64 t, v] 35)).cell? ⟨w.heap.size, 1, none⟩ = some (.int .i64 i)) := by show _ = _; rw [World.cell?_alloc_at _ _ _ _ rfl]; rfl
  clear j
  obtain ⟨ob, co, yb, cy, R, hR⟩ := HJ.out.R
  have HR : Hid (Rf (w.alloc (.cells #[.int .i64 kd, .int .i64 i, .int .i64 t, v] 35)) tb n u D F ob co yb cy R) := hR
  clear hR
  by_cases hout : i < 0 ∨ n ≤ i
  · have HO : Hid (i < 0 ∨ n ≤ i) := hout
    clear hout
    go_enter Tryd.func10, Tryd.ntmps10
    go_wp2_with fail
    go_region_held (fun W' => W'.cell? ⟨w.heap.size, 1, none⟩ = some (.int .i64 i)) (exact HC.out) (first | (go_at_call 24; refine ((HJ.out.S.same (by rfl)).is_out i HO.out).mono ?_; rintro e w1 ⟨rfl, rfl⟩) | (go_at_call 32; refine (ris_out _ tb n ob co i (HR.out.same (by rfl)).on HO.out).mono ?_; rintro e w1 ⟨rfl, rfl⟩))
    go_wp2
    go_ret
    exact ⟨by simp, u, D, F, HJ.out.mod ((Mod.refl _ _).drewN _), ((Mod.refl _ w).alloc _).drewN _⟩
  · obtain ⟨k, rfl⟩ := Int.eq_ofNat_of_zero_le (show 0 ≤ i by omega)
    have hk : k < n := by omega
    clear hout
    go_enter Tryd.func10, Tryd.ntmps10
    go_wp2_with fail
    go_region_held (fun W' => W'.cell? ⟨w.heap.size, 1, none⟩ = some (.int .i64 k)) (exact HC.out) (first | (go_at_call 24; refine ((HJ.out.S.same (by rfl)).is_in k hk).mono ?_; rintro e w1 ⟨rfl, m, rfl⟩) | (go_at_call 32; refine ((HR.out.same (by rfl)).is_in k hk).mono ?_; rintro e w1 ⟨rfl, rfl⟩))
    go_wp2
    go_ret
    exact ⟨by simp, u, D, F, HJ.out.mod ((Mod.refl _ _).drewN _), ((Mod.refl _ w).alloc _).drewN _⟩
end
end Go.Proofs.YtipdpifpblaldaaDoor
