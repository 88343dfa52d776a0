/- What Stat tells. Condition: the table lies in memory as 'Tb' says. -/
import Derived.Test.YtpcbpikhiooafaaGreatDoorM10
import Derived.Test.YtpcbpikhiooafaaGreatDoorM16
import Derived.Deep.RegionHeld
namespace Go.Proofs.YtpcbpikhiooafaaGreatDoor
open Go.RowKit
def SeeN (F : Nat → Nat → Int) (q i : Nat) (W : World) : Prop :=
  W.cell? ⟨q, i * 17 + 3, none⟩ = some (.int .i64 (F i 3)) ∧ W.cell? ⟨q, i * 17 + 1, none⟩ = some (.int .i64 (F i 1)) ∧ W.cell? ⟨q, i * 17 + 2, none⟩ = some (.int .i64 (F i 2)) ∧ W.cell? ⟨q, i * 17 + 5, none⟩ = some (.int .i64 (F i 5)) ∧
    W.cell? ⟨q, i * 17, none⟩ = some (.int .i64 (F i 0)) ∧ W.cell? ⟨q, i * 17 + 6, none⟩ = some (.int .i64 (F i 6)) ∧ W.cell? ⟨q, i * 17 + 7, none⟩ = some (.int .i64 (F i 7)) ∧ W.cell? ⟨q, i * 17 + 8, none⟩ = some (.int .i64 (F i 8))
theorem ret_stat {W : World} {B : Nat} {L : List Value} (h : W.rangeAt B 0 L) (hl : L.length = 10) (tmps : Array Value) (h4 : tmps[4]?.getD undef = .pointer (some ⟨B, 0, none⟩)) (h5 : tmps[5]?.getD undef = .int .i64 0) :
    (results Tryz.f40 tmps).run Tryz.prog W = .ok (.tuple #[.agg L.toArray, .int .i64 0]) W := by
  have h2 := run_loadVar_mid (P := Tryz.prog) W B 0 54 L _ h Tryz.underlying54 rfl (by rw [hl]; exact infSt)
  unfold results
  rw [Tryz.results40]
  simp [h4, h5, asAddr, Result.andThen, h2]
theorem row_slice {w : World} {B e n : Nat} {v : Value} {xs : List Value} (h : w.ownsRow B e 1 v n xs) : ∃ a c, v = .slice a n c := by
  rcases h.2 with ⟨rfl, rfl⟩ | ⟨g, cap, cur, rfl, _⟩
  · exact ⟨_, _, rfl⟩
  · exact ⟨_, _, rfl⟩
section
variable {w : World} {t q b c n N : Nat} {clk : Int} {F : Nat → Nat → Int} {R : Nat → Nat → Nat} {u : Nat → Bool} {D : Nat → Nat}
theorem Tb.see (T : Tb w t q b c n N clk F R u D) {i : Nat} (hi : i < N) : SeeN F q i w :=
  ⟨T.cf i 3 hi (by omega), T.cf i 1 hi (by omega), T.cf i 2 hi (by omega), T.cf i 5 hi (by omega), T.cf i 0 hi (by omega), T.cf i 6 hi (by omega), T.cf i 7 hi (by omega), T.cf i 8 hi (by omega)⟩
set_option maxRecDepth 100000 in
set_option maxHeartbeats 4000000 in
theorem tstat (T : Tb w t q b c n N clk F R u D) (i : Nat) (hi : i < N) (hz : F i 0 ≠ 0) : StatOf F t i w := by
  have HT : Hid (Tb w t q b c n N clk F R u D) := T
  have HZ : Hid (F i 0 ≠ 0) := hz
  have HM0 : Hid (∀ o, Mod (fun _ => False) w ((w.alloc o).drewN 1)) := fun o => ((Mod.refl _ w).alloc o).drewN 1
  have HLt : Hid (w.heap.size < ((w.alloc (.cells #[.int .i64 0, .int .i64 0, .int .i64 0, .int .i64 0, .int .i64 0, .int .i64 0, .int .i64 0, .int .i64 0, .int .i64 0, .int .i64 0] 54)).drewN 1).heap.size) := by show w.heap.size < (w.alloc _).heap.size; simp
  have HK0 : Hid (∀ j, j < 10 → ((w.alloc (.cells #[.int .i64 0, .int .i64 0, .int .i64 0, .int .i64 0, .int .i64 0, .int .i64 0, .int .i64 0, .int .i64 0, .int .i64 0, .int .i64 0] 54)).drewN 1).cell? ⟨w.heap.size, j, none⟩ = some (.int .i64 0)) := fun j hj => by
    show (w.alloc _).cell? _ = _
    rw [World.cell?_alloc_at _ _ _ _ rfl]
    obtain rfl | rfl | rfl | rfl | rfl | rfl | rfl | rfl | rfl | rfl : j = 0 ∨ j = 1 ∨ j = 2 ∨ j = 3 ∨ j = 4 ∨ j = 5 ∨ j = 6 ∨ j = 7 ∨ j = 8 ∨ j = 9 := by omega
    all_goals rfl
  have HKf : Hid (∀ o, ((w.alloc (.cells #[.int .i64 0, .int .i64 0, .int .i64 0, .int .i64 0, .int .i64 0, .int .i64 0, .int .i64 0, .int .i64 0, .int .i64 0, .int .i64 0] 54)).drewN 1).frozen? ⟨w.heap.size, o, none⟩ = false) := fun o => World.frozen?_alloc_at _ _ _ _ rfl
  have hqw := T.lt_q
  have hcq : ∀ (W : World) (o x : Nat) (v : Value), (W.setCell ⟨w.heap.size, o, none⟩ v).cell? ⟨q, x, none⟩ = W.cell? ⟨q, x, none⟩ := fun W o x v => setCell_out _ _ _ _ _ (fun e => by have h1 : q = w.heap.size := e; omega)
  clear T hz
  unfold StatOf
  go_enter Tryz.func40, Tryz.ntmps40
  go_wp2_with (go_at_call 37; refine (find_ok (HT.out.new ((Mod.refl _ w).alloc _)) i hi HZ.out).mono ?_; rintro e w1 ⟨rfl, hw1⟩; rw [hw1]; clear hw1 w1)
  have hS0 : SeeN F q i ((w.alloc (.cells #[.int .i64 0, .int .i64 0, .int .i64 0, .int .i64 0, .int .i64 0, .int .i64 0, .int .i64 0, .int .i64 0, .int .i64 0, .int .i64 0] 54)).drew) := (HT.out.new (HM0.out _)).see hi
  unfold SeeN at hS0
  go_region_held (fun W' => W'.cell? ⟨q, i * 17 + 3, none⟩ = some (.int .i64 (F i 3)) ∧ W'.cell? ⟨q, i * 17 + 1, none⟩ = some (.int .i64 (F i 1)) ∧ W'.cell? ⟨q, i * 17 + 2, none⟩ = some (.int .i64 (F i 2)) ∧ W'.cell? ⟨q, i * 17 + 5, none⟩ = some (.int .i64 (F i 5)) ∧ W'.cell? ⟨q, i * 17, none⟩ = some (.int .i64 (F i 0)) ∧ W'.cell? ⟨q, i * 17 + 6, none⟩ = some (.int .i64 (F i 6)) ∧ W'.cell? ⟨q, i * 17 + 7, none⟩ = some (.int .i64 (F i 7)) ∧ W'.cell? ⟨q, i * 17 + 8, none⟩ = some (.int .i64 (F i 8))) (first | with_reducible exact hS1 | with_reducible exact hS0 | (simp only [hcq]; with_reducible exact hS1))
    (first | (go_at_call 66; refine (owned_any (HT.out.new (HM0.out _)) i hi).mono ?_; rintro e w1 ⟨v, rfl, hv, HM1⟩; have hS1 := (HT.out.new ((HM0.out _).trans HM1)).see hi; unfold SeeN at hS1; obtain ⟨a1, c1, rfl⟩ := row_slice hv; clear hv; have k0 : w1.cell? ⟨w.heap.size, 0, none⟩ = some (.int .i64 0) := (HM1.cell (p := ⟨w.heap.size, 0, none⟩) HLt.out (fun h => h)).trans (HK0.out 0 (by omega)); have k1 : w1.cell? ⟨w.heap.size, 1, none⟩ = some (.int .i64 0) := (HM1.cell (p := ⟨w.heap.size, 1, none⟩) HLt.out (fun h => h)).trans (HK0.out 1 (by omega)); have k2 : w1.cell? ⟨w.heap.size, 2, none⟩ = some (.int .i64 0) := (HM1.cell (p := ⟨w.heap.size, 2, none⟩) HLt.out (fun h => h)).trans (HK0.out 2 (by omega)); have k3 : w1.cell? ⟨w.heap.size, 3, none⟩ = some (.int .i64 0) := (HM1.cell (p := ⟨w.heap.size, 3, none⟩) HLt.out (fun h => h)).trans (HK0.out 3 (by omega)); have k4 : w1.cell? ⟨w.heap.size, 4, none⟩ = some (.int .i64 0) := (HM1.cell (p := ⟨w.heap.size, 4, none⟩) HLt.out (fun h => h)).trans (HK0.out 4 (by omega)); have k5 : w1.cell? ⟨w.heap.size, 5, none⟩ = some (.int .i64 0) := (HM1.cell (p := ⟨w.heap.size, 5, none⟩) HLt.out (fun h => h)).trans (HK0.out 5 (by omega)); have k6 : w1.cell? ⟨w.heap.size, 6, none⟩ = some (.int .i64 0) := (HM1.cell (p := ⟨w.heap.size, 6, none⟩) HLt.out (fun h => h)).trans (HK0.out 6 (by omega)); have k7 : w1.cell? ⟨w.heap.size, 7, none⟩ = some (.int .i64 0) := (HM1.cell (p := ⟨w.heap.size, 7, none⟩) HLt.out (fun h => h)).trans (HK0.out 7 (by omega)); have k8 : w1.cell? ⟨w.heap.size, 8, none⟩ = some (.int .i64 0) := (HM1.cell (p := ⟨w.heap.size, 8, none⟩) HLt.out (fun h => h)).trans (HK0.out 8 (by omega)); have k9 : w1.cell? ⟨w.heap.size, 9, none⟩ = some (.int .i64 0) := (HM1.cell (p := ⟨w.heap.size, 9, none⟩) HLt.out (fun h => h)).trans (HK0.out 9 (by omega)); have kf : ∀ o, w1.frozen? ⟨w.heap.size, o, none⟩ = false := (fun o => (HM1.frozen (p := ⟨w.heap.size, o, none⟩) HLt.out (fun h => h)).trans (HKf.out o)); have HM2 : Hid (Mod (fun _ => False) w w1) := (HM0.out _).trans HM1; have HK1 : Hid (∀ j, j < 10 → w1.cell? ⟨w.heap.size, j, none⟩ = some (.int .i64 0)) := (fun j hj => (HM1.cell (p := ⟨w.heap.size, j, none⟩) HLt.out (fun h => h)).trans (HK0.out j hj)); clear HM1))
  have HTh : Hid (w1.there w.heap.size 0 10) := fun j hj => ⟨by rw [Nat.zero_add, HK1.out j hj]; rfl, kf _⟩
  have HRg : Hid ((w1.setCells w.heap.size 0 (statW F (ownL u D (R i) 8).length i)).rangeAt w.heap.size 0 (statW F (ownL u D (R i) 8).length i)) := World.rangeAt_setCells_same _ _ _ _ HTh.out
  have HFin : Hid (Mod (fun _ => False) w (w1.setCells w.heap.size 0 (statW F (ownL u D (R i) 8).length i))) := ⟨(below_setCells (Below.refl w.heap.size w1) (Nat.le_refl _) _ 0).os.trans HM2.out.os, (below_setCells (Below.refl w.heap.size w1) (Nat.le_refl _) _ 0).tape.trans HM2.out.tape, (below_setCells (Below.refl w.heap.size w1) (Nat.le_refl _) _ 0).output.trans HM2.out.output, by rw [size_setCells]; exact HM2.out.size, fun k hk hn => by rw [setCells_other _ _ _ (by omega)]; exact HM2.out.block k hk hn⟩
  clear hS0 hS1 kf hcq k0 k1 k2 k3 k4 k5 k6 k7 k8 k9
  go_wp2
  exact bodyPost_ret (ret_stat HRg.out rfl _ rfl rfl) rfl ⟨⟨_, rfl⟩, HFin.out⟩
end
end Go.Proofs.YtpcbpikhiooafaaGreatDoor
