/- Several texts of this claim, one behind the other, in their order. -/
import Derived.Test.YtgkkbplecfhmdaaGreatDoorM3
import Derived.Test.YtgkkbplecfhmdaaGreatDoorM23
import Derived.Test.YtgkkbplecfhmdaaGreatDoorM11
import Derived.Test.YtgkkbplecfhmdaaGreatDoorM12
import Derived.Test.YtgkkbplecfhmdaaGreatDoorM21
import Derived.Test.YtgkkbplecfhmdaaGreatDoorM9
/- The task's call stat. Condition: what Stat tells. -/
namespace Go.Proofs.YtgkkbplecfhmdaaGreatDoor
open Go.RowKit
theorem ret_tstat {W : World} {B : Nat} {L : List Value} (h : W.rangeAt B 0 L) (hl : L.length = 10) (tmps : Array Value) (h4 : tmps[4]?.getD undef = .pointer (some ⟨B, 0, none⟩)) :
    (results Tryz.f51 tmps).run Tryz.prog W = .ok (.agg L.toArray) W := by
  have h2 := run_loadVar_mid (P := Tryz.prog) W B 0 45 L _ h Tryz.underlying45 rfl (by rw [hl]; exact infSt)
  unfold results
  rw [Tryz.results51]
  simp [h4, asAddr, h2]
set_option maxRecDepth 100000 in
set_option maxHeartbeats 2000000 in
theorem tStat (F : Nat → Nat → Int) (k t i : Nat) (w : World) (hc : w.cell? ⟨k, 0, none⟩ = some (.pointer (some ⟨t, 0, none⟩))) (hS : ∀ W, Mod (fun _ => False) w W → StatOf F t i W) : Calls Tryz.prog 51 #[.pointer (some ⟨k, 0, none⟩), .int .i64 ((i : Int) + 1)] w fun e w' => (∃ bl : Nat, e = .returned (.agg (statW F bl i).toArray)) ∧ Mod (fun _ => False) w w' := by
  have HS : Hid (∀ o, StatOf F t i (w.alloc o)) := fun o => hS _ ((Mod.refl _ w).alloc o)
  clear hS
  have hk := block_lt_of_cell hc
  go_enter Tryz.func51, Tryz.ntmps51
  go_wp2_with fail
  refine (HS.out _).mono ?_
  rintro e w1 ⟨⟨bl, rfl⟩, HM⟩
  have HM' := (show Hid _ from HM)
  have hws : w.heap.size < w1.heap.size := by have := HM.size; simp at this; omega
  have HTh : Hid ((w1.alloc (.cells (statW F bl i).toArray 45)).there w.heap.size 0 (statW F bl i).toArray.size) := fun j hj => by
    have h0 := there_new w 45 #[.int .i64 0, .int .i64 0, .int .i64 0, .int .i64 0, .int .i64 0, .int .i64 0, .int .i64 0, .int .i64 0, .int .i64 0, .int .i64 0] (n := 10) rfl j hj
    rw [World.cell?_alloc_past _ _ _ hws, World.frozen?_alloc_past _ _ _ hws, HM.cell (p := ⟨w.heap.size, 0 + j, none⟩) (by simp) (fun h => h), HM.frozen (p := ⟨w.heap.size, 0 + j, none⟩) (by simp) (fun h => h)]
    exact h0
  obtain ⟨wE, hwE⟩ : ∃ wE, Hid ((w1.alloc (.cells (statW F bl i).toArray 45)).setCells w.heap.size 0 (statW F bl i) = wE) := ⟨_, rfl⟩
  have HRng : Hid (wE.rangeAt w.heap.size 0 (statW F bl i)) := by
    show World.rangeAt _ _ _ _
    rw [← hwE.out]; exact World.rangeAt_setCells_same _ _ _ _ (by have := HTh.out; simpa using this)
  have HFin : Hid (Mod (fun _ => False) w wE) := by
    rw [← hwE.out]
    exact mod_new_cells (HM.alloc _) (Nat.le_refl _) _ _
  have HOne : Hid ((statW F bl i).toArray.all (·.oneCell') = true) := by
    show _ = _
    refine all_oneCell_toArray (fun v hv => ?_)
    simp only [statW, List.mem_cons, List.not_mem_nil, or_false] at hv
    rcases hv with rfl | rfl | rfl | rfl | rfl | rfl | rfl | rfl | rfl | rfl <;> rfl
  clear HM
  unfold statW at *
  go_wp2_with (first | (go_at_call 52; refine (must_no _).mono ?_; rintro e w2 ⟨rfl, hw2⟩; rw [hw2]; clear hw2 w2) | (refine wpList_store_mid rfl 45 _ _ rfl w.heap.size 0 _ rfl rfl HTh.out infSt HOne.out ?_; rw [hwE.out]))
  exact bodyPost_ret (ret_tstat HRng.out rfl _ rfl) rfl ⟨⟨bl, rfl⟩, HFin.out⟩
end Go.Proofs.YtgkkbplecfhmdaaGreatDoor
/- Open of a new file and WriteAt, Info, Hold of the file system. Conditions: the file system lies in memory; what the works do. -/
namespace Go.Proofs.YtgkkbplecfhmdaaGreatDoor
open Go.RowKit
section
variable {w : World} {fb t : Nat}
set_option maxRecDepth 100000 in
set_option maxHeartbeats 2000000 in
theorem fsOpen (hf : FsAt w fb t) (u g : Int) (ga : Option Addr) (gc : Nat) (um cw : Int) (l : List UInt8) (fl m r : Int) (S : Nat → Prop) (hSl : ∀ x, S x → x < w.heap.size) (Q : World → Prop) (hQ : ∀ a b, Q a → Mod (fun x => w.heap.size ≤ x) a b → Q b)
    (hW : ∀ W K b1 b2 b3, TkNew w W K t u g ga gc um cw → W.cell? ⟨b1, 0, none⟩ = some (.int .i64 fl) → W.cell? ⟨b2, 0, none⟩ = some (.string ⟨l.toArray⟩) → W.cell? ⟨b3, 0, none⟩ = some (.int .i64 m) → Calls Tryz.prog 42 #[.pointer (some ⟨K, 0, none⟩), .pointer (some ⟨b1, 0, none⟩), .pointer (some ⟨b2, 0, none⟩), .pointer (some ⟨b3, 0, none⟩)] W fun e w' => e = .returned (.int .i64 r) ∧ Mod (fun x => S x ∨ x = K) W w' ∧ Q w') :
    Calls Tryz.prog 23 #[.pointer (some ⟨fb, 0, none⟩), .agg #[.int .i64 u, .int .i64 g, .slice ga 0 gc, .int .i64 um, .int .i64 cw], .string ⟨l.toArray⟩, .int .i64 fl, .int .i64 m] w fun e w' => e = .returned (.tuple #[.int .i64 r, .int .i64 0]) ∧ Mod S w w' ∧ Q w' := by
  have hmf : ∀ (fn : Fn) (first cap : Array Value) (w : World), (Instr.makeFunc fn first cap).run Tryz.prog w = .ok (.func fn first cap) w := fun _ _ _ _ => rfl
  have hfb : fb < w.heap.size := block_lt_of_cell hf
  have HA : Hid (∀ W, Mod (fun _ => False) w W → W.cell? ⟨w.heap.size + 2, 0, none⟩ = some (.int .i64 fl) → W.cell? ⟨w.heap.size + 1, 0, none⟩ = some (.string ⟨l.toArray⟩) → W.cell? ⟨w.heap.size + 3, 0, none⟩ = some (.int .i64 m) → _) := fun W hM e1 e2 e3 =>
    askOpen (w := W) (fb := fb) (t := t) ((hM.cell (p := ⟨fb, 0, none⟩) hfb (fun e => e)).trans hf) u g ga gc um cw ⟨w.heap.size + 2, 0, none⟩ ⟨w.heap.size + 1, 0, none⟩ ⟨w.heap.size + 3, 0, none⟩ r S (fun x hx => Nat.lt_of_lt_of_le (hSl x hx) hM.size) Q (fun a b hq hm => hQ a b hq (hm.mono (fun _ _ e => Nat.le_trans hM.size e)))
      (fun W' K hN => hW W' K _ _ _ ⟨hM.trans hN.M, Nat.le_trans hM.size hN.le, hN.k, hN.b6, hN.fr⟩ ((hN.M.cell (p := ⟨w.heap.size + 2, 0, none⟩) (block_lt_of_cell e1) (fun e => e)).trans e1) ((hN.M.cell (p := ⟨w.heap.size + 1, 0, none⟩) (block_lt_of_cell e2) (fun e => e)).trans e2) ((hN.M.cell (p := ⟨w.heap.size + 3, 0, none⟩) (block_lt_of_cell e3) (fun e => e)).trans e3))
  have HM0 : Hid (∀ o o1 o2 o3, Mod (fun _ => False) w ((((w.alloc o).alloc o1).alloc o2).alloc o3)) := fun o o1 o2 o3 => ((((Mod.refl _ w).alloc o).alloc o1).alloc o2).alloc o3
  have HFn : Hid (∀ (W w' : World), Mod (fun _ => False) w W → Mod S W w' → Mod S w w') := fun W w' h1 h2 => (h1.mono (fun _ _ e => e.elim)).trans h2
  clear hQ hW hSl hf
  go_enter Tryz.func23, Tryz.ntmps23
  go_wp2_with fail
  refine Calls.mono (HA.out _ (HM0.out _ _ _ _) (by simp [go_sem]) (by simp [go_sem]) (by simp [go_sem])) ?_
  rintro e w1 ⟨rfl, M1, hq1⟩
  have HR := hid6 (show Mod S w w1 ∧ Q w1 from ⟨HFn.out _ _ (HM0.out _ _ _ _) M1, hq1⟩)
  clear M1 hq1
  go_wp2
  go_ret2
  exact ⟨rfl, HR.out⟩
set_option maxRecDepth 100000 in
set_option maxHeartbeats 2000000 in
theorem fsWriteAt (hf : FsAt w fb t) (i off r : Int) (a : Option Addr) (n c : Nat) (S : Nat → Prop) (hSl : ∀ x, S x → x < w.heap.size) (Q : World → Prop) (hQ : ∀ a b, Q a → Mod (fun x => w.heap.size ≤ x) a b → Q b)
    (hW : ∀ W K b1 b2 b3, TkNew w W K t 0 0 none 0 0 0 → (w.heap.size ≤ b1 ∧ w.heap.size ≤ b2 ∧ w.heap.size ≤ b3) → W.cell? ⟨b1, 0, none⟩ = some (.int .i64 i) → W.cell? ⟨b2, 0, none⟩ = some (.int .i64 off) → W.cell? ⟨b3, 0, none⟩ = some (.slice a n c) → Calls Tryz.prog 250 #[.pointer (some ⟨K, 0, none⟩), .pointer (some ⟨b1, 0, none⟩), .pointer (some ⟨b2, 0, none⟩), .pointer (some ⟨b3, 0, none⟩)] W fun e w' => e = .returned (.int .i64 r) ∧ Mod (fun x => S x ∨ x = K) W w' ∧ Q w') :
    Calls Tryz.prog 245 #[.pointer (some ⟨fb, 0, none⟩), .int .i64 i, .int .i64 off, .slice a n c] w fun e w' => e = .returned (.tuple #[.int .i64 r, .int .i64 0]) ∧ Mod S w w' ∧ Q w' := by
  have hmf : ∀ (fn : Fn) (first cap : Array Value) (w : World), (Instr.makeFunc fn first cap).run Tryz.prog w = .ok (.func fn first cap) w := fun _ _ _ _ => rfl
  have hfb : fb < w.heap.size := block_lt_of_cell hf
  have HA : Hid (∀ W, Mod (fun _ => False) w W → W.cell? ⟨w.heap.size, 0, none⟩ = some (.int .i64 i) → W.cell? ⟨w.heap.size + 1, 0, none⟩ = some (.int .i64 off) → W.cell? ⟨w.heap.size + 2, 0, none⟩ = some (.slice a n c) → _) := fun W hM e1 e2 e3 =>
    askWrite (w := W) (fb := fb) (t := t) ((hM.cell (p := ⟨fb, 0, none⟩) hfb (fun e => e)).trans hf) 0 0 none 0 0 0 ⟨w.heap.size, 0, none⟩ ⟨w.heap.size + 1, 0, none⟩ ⟨w.heap.size + 2, 0, none⟩ r S (fun x hx => Nat.lt_of_lt_of_le (hSl x hx) hM.size) Q (fun a b hq hm => hQ a b hq (hm.mono (fun _ _ e => Nat.le_trans hM.size e)))
      (fun W' K hN => hW W' K _ _ _ ⟨hM.trans hN.M, Nat.le_trans hM.size hN.le, hN.k, hN.b6, hN.fr⟩ ⟨Nat.le_refl _, by omega, by omega⟩ ((hN.M.cell (p := ⟨w.heap.size, 0, none⟩) (block_lt_of_cell e1) (fun e => e)).trans e1) ((hN.M.cell (p := ⟨w.heap.size + 1, 0, none⟩) (block_lt_of_cell e2) (fun e => e)).trans e2) ((hN.M.cell (p := ⟨w.heap.size + 2, 0, none⟩) (block_lt_of_cell e3) (fun e => e)).trans e3))
  have HM0 : Hid (∀ o o1 o2, Mod (fun _ => False) w (((w.alloc o).alloc o1).alloc o2)) := fun o o1 o2 => (((Mod.refl _ w).alloc o).alloc o1).alloc o2
  have HFn : Hid (∀ (W w' : World), Mod (fun _ => False) w W → Mod S W w' → Mod S w w') := fun W w' h1 h2 => (h1.mono (fun _ _ e => e.elim)).trans h2
  clear hQ hW hSl hf
  go_enter Tryz.func245, Tryz.ntmps245
  go_wp2_with fail
  refine Calls.mono (HA.out _ (HM0.out _ _ _) (by simp [go_sem]) (by simp [go_sem]) (by simp [go_sem])) ?_
  rintro e w1 ⟨rfl, M1, hq1⟩
  have HR := hid6 (show Mod S w w1 ∧ Q w1 from ⟨HFn.out _ _ (HM0.out _ _ _) M1, hq1⟩)
  clear M1 hq1
  go_wp2
  go_ret2
  exact ⟨rfl, HR.out⟩
theorem fsHold (hf : FsAt w fb t) (i : Int) (Q : World → Prop) (hL : Calls Tryz.prog 87 #[.pointer (some ⟨t, 0, none⟩), .int .i64 i] w fun e w' => e = .returned (.int .i64 0) ∧ Q w') :
    Calls Tryz.prog 38 #[.pointer (some ⟨fb, 0, none⟩), .int .i64 i] w fun e w' => e = .returned (.int .i64 0) ∧ Q w' := by
  have HL := hid6 hL
  have HT := hid6 (tTable fb _ w hf)
  clear hL hf
  go_enter Tryz.func38, Tryz.ntmps38
  go_wp2_with (first | (go_at_call 83; refine Calls.mono HT.out ?_; rintro e w3 ⟨rfl, hw3⟩; rw [hw3]; clear hw3 w3))
  refine Calls.mono HL.out ?_
  rintro e w1 ⟨rfl, HQ⟩
  have HQ' := hid6 HQ
  clear HQ
  go_wp2
  go_ret
  exact ⟨rfl, HQ'.out⟩
theorem ret_info {W : World} {B : Nat} {L : List Value} (h : W.rangeAt B 0 L) (hl : L.length = 10) (tmps : Array Value) (h4 : tmps[4]?.getD undef = .pointer (some ⟨B, 0, none⟩)) (h5 : tmps[5]?.getD undef = .int .i64 0) :
    (results Tryz.f36 tmps).run Tryz.prog W = .ok (.tuple #[.agg L.toArray, .int .i64 0]) W := by
  have h2 := run_loadVar_mid (P := Tryz.prog) W B 0 45 L _ h Tryz.underlying45 rfl (by rw [hl]; exact infSt)
  unfold results
  rw [Tryz.results36]
  simp [h4, h5, asAddr, h2]
set_option maxRecDepth 100000 in
set_option maxHeartbeats 2000000 in
theorem fsInfo (hf : FsAt w fb t) (F : Nat → Nat → Int) (i : Nat) (hS : ∀ W, Mod (fun _ => False) w W → StatOf F t i W) : Calls Tryz.prog 36 #[.pointer (some ⟨fb, 0, none⟩), .int .i64 ((i : Int) + 1)] w fun e w' => (∃ bl : Nat, e = .returned (.tuple #[.agg (statW F bl i).toArray, .int .i64 0])) ∧ Mod (fun _ => False) w w' := by
  have HS : Hid (∀ o, StatOf F t i (w.alloc o)) := fun o => hS _ ((Mod.refl _ w).alloc o)
  have hfb := block_lt_of_cell hf
  have HT : Hid (∀ o, _) := fun o => tTable fb (some ⟨t, 0, none⟩) (w.alloc o) (by rw [World.cell?_alloc_past _ _ _ hfb]; exact hf)
  clear hS hf
  go_enter Tryz.func36, Tryz.ntmps36
  go_wp2_with (first | (go_at_call 83; refine Calls.mono (HT.out _) ?_; rintro e w3 ⟨rfl, hw3⟩; rw [hw3]; clear hw3 w3))
  refine (HS.out _).mono ?_
  rintro e w1 ⟨⟨bl, rfl⟩, HM⟩
  have hws : w.heap.size < w1.heap.size := by have := HM.size; simp at this; omega
  have HTh : Hid (w1.there w.heap.size 0 (statW F bl i).toArray.size) := fun j hj => by
    have h0 := there_new w 45 #[.int .i64 0, .int .i64 0, .int .i64 0, .int .i64 0, .int .i64 0, .int .i64 0, .int .i64 0, .int .i64 0, .int .i64 0, .int .i64 0] (n := 10) rfl j hj
    rw [HM.cell (p := ⟨w.heap.size, 0 + j, none⟩) (by simp) (fun h => h), HM.frozen (p := ⟨w.heap.size, 0 + j, none⟩) (by simp) (fun h => h)]
    exact h0
  obtain ⟨wE, hwE⟩ : ∃ wE, Hid (w1.setCells w.heap.size 0 (statW F bl i) = wE) := ⟨_, rfl⟩
  have HRng : Hid (wE.rangeAt w.heap.size 0 (statW F bl i)) := by
    show World.rangeAt _ _ _ _
    rw [← hwE.out]; exact World.rangeAt_setCells_same _ _ _ _ (by have := HTh.out; simpa using this)
  have HFin : Hid (Mod (fun _ => False) w wE) := by
    rw [← hwE.out]
    exact mod_new_cells HM (Nat.le_refl _) _ _
  have HOne : Hid ((statW F bl i).toArray.all (·.oneCell') = true) := by
    show _ = _
    refine all_oneCell_toArray (fun v hv => ?_)
    simp only [statW, List.mem_cons, List.not_mem_nil, or_false] at hv
    rcases hv with rfl | rfl | rfl | rfl | rfl | rfl | rfl | rfl | rfl | rfl <;> rfl
  clear HM
  unfold statW at *
  go_wp2_with (first | (refine wpList_store_mid rfl 45 _ _ rfl w.heap.size 0 _ rfl rfl HTh.out infSt HOne.out ?_; rw [hwE.out]))
  exact bodyPost_ret (ret_info HRng.out rfl _ rfl rfl) rfl ⟨⟨bl, rfl⟩, HFin.out⟩
end
end Go.Proofs.YtgkkbplecfhmdaaGreatDoor
/- The walks of leave, Links and Release. Condition: the table lies in memory as 'Tb' says. -/
namespace Go.Proofs.YtgkkbplecfhmdaaGreatDoor
open Go.RowKit
theorem zvN (w : World) : (zeroValue 173).run Tryz.prog w = .ok (.agg zeroN) w := by kernel_rfl
theorem oneN : zeroN.all (·.oneCell') = true := by kernel_rfl
section
variable {w : World} {t q b c n N : Nat} {clk : Int} {F : Nat → Nat → Int} {R : Nat → Nat → Nat} {u : Nat → Bool} {D : Nat → Nat}
set_option maxHeartbeats 1000000 in
theorem leave_keeps (T : Tb w t q b c n N clk F R u D) (i : Nat) (hi : i < N) (h : 0 < F i 3 ∨ 0 < F i 4) : Calls Tryz.prog 141 #[.pointer (some ⟨t, 0, none⟩), .pointer (some ⟨q, i * 17, none⟩)] w fun e w' => e = .returned (.tuple #[]) ∧ w' = w := by
  have k3 := T.cf i 3 hi (by omega)
  have k4 := T.cf i 4 hi (by omega)
  clear T
  by_cases h3 : 0 < F i 3
  · clear h
    go_enter Tryz.func141, Tryz.ntmps141
    go_wp2
    exact bodyPost_ret (results_none rfl _ _ _) rfl ⟨rfl, rfl⟩
  · have h4 : 0 < F i 4 := by omega
    clear h
    go_enter Tryz.func141, Tryz.ntmps141
    go_wp2
    exact bodyPost_ret (results_none rfl _ _ _) rfl ⟨rfl, rfl⟩
set_option maxRecDepth 8000 in
set_option maxHeartbeats 2000000 in
theorem leave_ends (T : Tb w t q b c n N clk F R u D) (i : Nat) (hi : i < N) (h3 : ¬ 0 < F i 3) (h4 : ¬ 0 < F i 4) (y : (Nat → Bool) × (Nat → Nat) × (Nat → Nat)) (hy : cutS 0 u D (R i) 8 = y) :
    Calls Tryz.prog 141 #[.pointer (some ⟨t, 0, none⟩), .pointer (some ⟨q, i * 17, none⟩)] w fun e w' => e = .returned (.tuple #[]) ∧ Tb w' t q b c n N clk (setN F i (fun _ => 0)) (setN R i (fun _ => 0)) y.1 y.2.1 ∧ Mod (fun k => k = b ∨ k = c ∨ k = q) w w' := by
  have HT : Hid (Tb w t q b c n N clk F R u D) := T
  have HY : Hid (cutS 0 u D (R i) 8 = y) := hy
  have k3 := T.cf i 3 hi (by omega)
  have k4 := T.cf i 4 hi (by omega)
  have hz := zvN
  clear T hy
  go_enter Tryz.func141, Tryz.ntmps141
  go_wp2_with (first | (go_at_call 103; refine (cut_any HT.out i 0 hi (by omega) (by omega) y HY.out).mono ?_; rintro e w1 ⟨rfl, T1, M1⟩; have HT1 : Hid (Tb w1 t q b c n N clk F (setN R i y.2.2) y.1 y.2.1) := T1; have HM1 : Hid (Mod (fun k => k = b ∨ k = c ∨ k = q) w w1) := M1; clear T1 M1) | (refine wpList_store_mid rfl 173 _ _ rfl q (i * 17) zeroN rfl rfl (HT1.out.there i hi) infN17 oneN ?_))
  refine ⟨rfl, _, results_none rfl _ _ _, rfl, ?_, Mod.setCells (s := fun k => k = b ∨ k = c ∨ k = q) q (.inr (.inr rfl)) zeroN.toList _ HM1.out⟩
  have h := HT1.out.setNode i hi (fun _ => 0) (fun _ => 0) (fun _ => by omega) (by omega) zeroN.toList rfl
    (fun o ho => by match o, ho with | 0, _ => rfl | 1, _ => rfl | 2, _ => rfl | 3, _ => rfl | 4, _ => rfl | 5, _ => rfl | 6, _ => rfl | 7, _ => rfl | 8, _ => rfl)
    (fun o ho => by match o, ho with | 0, _ => rfl | 1, _ => rfl | 2, _ => rfl | 3, _ => rfl | 4, _ => rfl | 5, _ => rfl | 6, _ => rfl | 7, _ => rfl)
  rwa [setN_setN] at h
end
end Go.Proofs.YtgkkbplecfhmdaaGreatDoor
/- The walks of Links and Release. Condition: the table lies in memory as 'Tb' says. -/
namespace Go.Proofs.YtgkkbplecfhmdaaGreatDoor
open Go.RowKit
theorem Hid.intrL {p : Prop} (h : p) : Hid p := h
section
variable {w : World} {t q b c n N : Nat} {clk : Int} {F : Nat → Nat → Int} {R : Nat → Nat → Nat} {u : Nat → Bool} {D : Nat → Nat}
set_option maxRecDepth 8000 in
set_option maxHeartbeats 2000000 in
theorem tlinks_low (T : Tb w t q b c n N clk F R u D) (i : Nat) (by_ : Int) (hi : i < N) (hz : F i 0 ≠ 0) (hl : 0 ≤ F i 3 ∧ F i 3 ≤ 16) (hb : by_ < - F i 3) :
    Calls Tryz.prog 90 #[.pointer (some ⟨t, 0, none⟩), .int .i64 ((i : Int) + 1), .int .i64 by_] w fun e w' => e = .returned (.int .i64 22) ∧ w' = w := by
  have HT : Hid (Tb w t q b c n N clk F R u D) := T
  have HZ : Hid (F i 0 ≠ 0) := hz
  have h2 := T.c2
  have htq := T.tq
  have hlq := T.lt_q
  have k3 := T.cf i 3 hi (by omega)
  have f3 := T.fq (i * 17 + 3)
  clear T hz
  go_enter Tryz.func90, Tryz.ntmps90
  go_wp2_with (go_at_call 102; refine (find_ok HT.out i hi HZ.out).mono ?_; rintro e w1 ⟨rfl, hw1⟩; rw [hw1]; clear hw1 w1)
  go_ret
  exact ⟨by simp, rfl⟩
set_option maxRecDepth 8000 in
set_option maxHeartbeats 2000000 in
theorem tlinks_high (T : Tb w t q b c n N clk F R u D) (i : Nat) (by_ : Int) (hi : i < N) (hz : F i 0 ≠ 0) (hl : 0 ≤ F i 3 ∧ F i 3 ≤ 16) (_hb : ¬ by_ < - F i 3) (hh : 16 - F i 3 < by_) :
    Calls Tryz.prog 90 #[.pointer (some ⟨t, 0, none⟩), .int .i64 ((i : Int) + 1), .int .i64 by_] w fun e w' => e = .returned (.int .i64 31) ∧ w' = w := by
  have HT : Hid (Tb w t q b c n N clk F R u D) := T
  have HZ : Hid (F i 0 ≠ 0) := hz
  have h2 := T.c2
  have htq := T.tq
  have hlq := T.lt_q
  have k3 := T.cf i 3 hi (by omega)
  have f3 := T.fq (i * 17 + 3)
  clear T hz
  go_enter Tryz.func90, Tryz.ntmps90
  go_wp2_with (go_at_call 102; refine (find_ok HT.out i hi HZ.out).mono ?_; rintro e w1 ⟨rfl, hw1⟩; rw [hw1]; clear hw1 w1)
  go_ret
  exact ⟨by simp, rfl⟩
set_option maxRecDepth 8000 in
set_option maxHeartbeats 2000000 in
theorem tlinks_keep (T : Tb w t q b c n N clk F R u D) (i : Nat) (by_ : Int) (hi : i < N) (hz : F i 0 ≠ 0) (hl : 0 ≤ F i 3 ∧ F i 3 ≤ 16) (hb : ¬ by_ < - F i 3) (hh : ¬ 16 - F i 3 < by_) (hk : 0 < F i 3 + by_ ∨ 0 < F i 4) :
    Calls Tryz.prog 90 #[.pointer (some ⟨t, 0, none⟩), .int .i64 ((i : Int) + 1), .int .i64 by_] w fun e w' => e = .returned (.int .i64 0) ∧ Tb w' t q b c n N clk (upd2 (upd2 F i 3 (F i 3 + by_)) i 8 clk) R u D ∧ Mod (fun k => k = q) w w' := by
  have HT1 : Hid (Tb ((w.setCell ⟨q, i * 17 + 3, none⟩ (.int .i64 (F i 3 + by_))).setCell ⟨q, i * 17 + 8, none⟩ (.int .i64 clk)) t q b c n N clk (upd2 (upd2 F i 3 (F i 3 + by_)) i 8 clk) R u D) := (T.setF i 3 (by omega) _ (by omega)).setF i 8 (by omega) clk (by omega)
  have HK : Hid (0 < (upd2 (upd2 F i 3 (F i 3 + by_)) i 8 clk) i 3 ∨ 0 < (upd2 (upd2 F i 3 (F i 3 + by_)) i 8 clk) i 4) := by (show _ ∨ _; rw [show upd2 (upd2 F i 3 (F i 3 + by_)) i 8 clk i 3 = F i 3 + by_ by simp [upd2], show upd2 (upd2 F i 3 (F i 3 + by_)) i 8 clk i 4 = F i 4 by simp [upd2]]; exact hk)
  have HT : Hid (Tb w t q b c n N clk F R u D) := T
  have HZ : Hid (F i 0 ≠ 0) := hz
  have h2 := T.c2
  have htq := T.tq
  have hlq := T.lt_q
  have k3 := T.cf i 3 hi (by omega)
  have f3 := T.fq (i * 17 + 3)
  have k8 := T.cf i 8 hi (by omega)
  have f8 := T.fq (i * 17 + 8)
  clear T hz
  clear hk
  go_enter Tryz.func90, Tryz.ntmps90
  go_wp2_with (first | (go_at_call 102; refine (find_ok HT.out i hi HZ.out).mono ?_; rintro e w1 ⟨rfl, hw1⟩; rw [hw1]; clear hw1 w1) | (go_at_call 141; refine (leave_keeps HT1.out i hi HK.out).mono ?_; rintro e w2 ⟨rfl, hw2⟩; rw [hw2]; clear hw2 w2))
  go_ret
  exact ⟨by simp, HT1.out, ((Mod.refl (fun k => k = q) w).setCell _ _ rfl).setCell _ _ rfl⟩
set_option maxRecDepth 8000 in
set_option maxHeartbeats 2000000 in
theorem tlinks_end (T : Tb w t q b c n N clk F R u D) (i : Nat) (by_ : Int) (hi : i < N) (hz : F i 0 ≠ 0) (hl : 0 ≤ F i 3 ∧ F i 3 ≤ 16) (hb : ¬ by_ < - F i 3) (hh : ¬ 16 - F i 3 < by_) (hk : ¬ 0 < F i 3 + by_ ∧ ¬ 0 < F i 4) (y : (Nat → Bool) × (Nat → Nat) × (Nat → Nat)) (hy : cutS 0 u D (R i) 8 = y) :
    Calls Tryz.prog 90 #[.pointer (some ⟨t, 0, none⟩), .int .i64 ((i : Int) + 1), .int .i64 by_] w fun e w' => e = .returned (.int .i64 0) ∧ Tb w' t q b c n N clk (setN (upd2 (upd2 F i 3 (F i 3 + by_)) i 8 clk) i (fun _ => 0)) (setN R i (fun _ => 0)) y.1 y.2.1 ∧ Mod (fun k => k = b ∨ k = c ∨ k = q) w w' := by
  have HT1 : Hid (Tb ((w.setCell ⟨q, i * 17 + 3, none⟩ (.int .i64 (F i 3 + by_))).setCell ⟨q, i * 17 + 8, none⟩ (.int .i64 clk)) t q b c n N clk (upd2 (upd2 F i 3 (F i 3 + by_)) i 8 clk) R u D) := (T.setF i 3 (by omega) _ (by omega)).setF i 8 (by omega) clk (by omega)
  have HK : Hid (¬ 0 < (upd2 (upd2 F i 3 (F i 3 + by_)) i 8 clk) i 3 ∧ ¬ 0 < (upd2 (upd2 F i 3 (F i 3 + by_)) i 8 clk) i 4) := by (show _ ∧ _; rw [show upd2 (upd2 F i 3 (F i 3 + by_)) i 8 clk i 3 = F i 3 + by_ by simp [upd2], show upd2 (upd2 F i 3 (F i 3 + by_)) i 8 clk i 4 = F i 4 by simp [upd2]]; exact hk)
  have HY : Hid (cutS 0 u D (R i) 8 = y) := hy
  have HT : Hid (Tb w t q b c n N clk F R u D) := T
  have HZ : Hid (F i 0 ≠ 0) := hz
  have h2 := T.c2
  have htq := T.tq
  have hlq := T.lt_q
  have k3 := T.cf i 3 hi (by omega)
  have f3 := T.fq (i * 17 + 3)
  have k8 := T.cf i 8 hi (by omega)
  have f8 := T.fq (i * 17 + 8)
  clear T hz
  clear hk hy
  go_enter Tryz.func90, Tryz.ntmps90
  go_wp2_with (first | (go_at_call 102; refine (find_ok HT.out i hi HZ.out).mono ?_; rintro e w1 ⟨rfl, hw1⟩; rw [hw1]; clear hw1 w1) | (go_at_call 141; refine (leave_ends HT1.out i hi (by first | exact HK.out.1 | exact Int.not_lt.mpr HK.out.1) (by first | exact HK.out.2 | exact Int.not_lt.mpr HK.out.2) y HY.out).mono ?_; rintro e w2 ⟨rfl, T2, M2⟩; have HT2 := Hid.intrL T2; have HM2 := Hid.intrL M2; clear T2 M2))
  go_ret
  exact ⟨by simp, HT2.out, ((((Mod.refl (fun k => k = q) w).setCell _ _ rfl).setCell _ _ rfl).mono (fun _ _ h => .inr (.inr h))).trans HM2.out⟩
set_option maxRecDepth 8000 in
set_option maxHeartbeats 2000000 in
theorem trelease_none (T : Tb w t q b c n N clk F R u D) (i : Nat) (hi : i < N) (hz : F i 0 ≠ 0) (hh : F i 4 = 0) :
    Calls Tryz.prog 246 #[.pointer (some ⟨t, 0, none⟩), .int .i64 ((i : Int) + 1)] w fun e w' => e = .returned (.int .i64 22) ∧ w' = w := by
  have k4' := T.cf i 4 hi (by omega)
  rw [hh] at k4'
  have HT : Hid (Tb w t q b c n N clk F R u D) := T
  have HZ : Hid (F i 0 ≠ 0) := hz
  have h2 := T.c2
  have htq := T.tq
  have hlq := T.lt_q
  clear T hz
  go_enter Tryz.func246, Tryz.ntmps246
  go_wp2_with (go_at_call 102; refine (find_ok HT.out i hi HZ.out).mono ?_; rintro e w1 ⟨rfl, hw1⟩; rw [hw1]; clear hw1 w1)
  go_ret
  exact ⟨by simp, rfl⟩
set_option maxRecDepth 8000 in
set_option maxHeartbeats 2000000 in
theorem trelease_keep (T : Tb w t q b c n N clk F R u D) (i : Nat) (hi : i < N) (hz : F i 0 ≠ 0) (hh : 0 < F i 4 ∧ F i 4 ≤ 9223372036854775807) (hk : 0 < F i 3 ∨ 0 < F i 4 - 1) :
    Calls Tryz.prog 246 #[.pointer (some ⟨t, 0, none⟩), .int .i64 ((i : Int) + 1)] w fun e w' => e = .returned (.int .i64 0) ∧ Tb w' t q b c n N clk (upd2 F i 4 (F i 4 - 1)) R u D ∧ Mod (fun k => k = q) w w' := by
  have HT1 : Hid (Tb (w.setCell ⟨q, i * 17 + 4, none⟩ (.int .i64 (F i 4 - 1))) t q b c n N clk (upd2 F i 4 (F i 4 - 1)) R u D) := T.setF i 4 (by omega) _ (by omega)
  have hne : (F i 4 == 0) = false := by simp; omega
  have HK : Hid (0 < (upd2 F i 4 (F i 4 - 1)) i 3 ∨ 0 < (upd2 F i 4 (F i 4 - 1)) i 4) := by (show _ ∨ _; rw [show upd2 F i 4 (F i 4 - 1) i 3 = F i 3 by simp [upd2], show upd2 F i 4 (F i 4 - 1) i 4 = F i 4 - 1 by simp [upd2]]; exact hk)
  have HT : Hid (Tb w t q b c n N clk F R u D) := T
  have HZ : Hid (F i 0 ≠ 0) := hz
  have h2 := T.c2
  have htq := T.tq
  have hlq := T.lt_q
  have k4 := T.cf i 4 hi (by omega)
  have f4 := T.fq (i * 17 + 4)
  clear T hz
  clear hk
  go_enter Tryz.func246, Tryz.ntmps246
  go_wp2_with (first | (go_at_call 102; refine (find_ok HT.out i hi HZ.out).mono ?_; rintro e w1 ⟨rfl, hw1⟩; rw [hw1]; clear hw1 w1) | (go_at_call 141; refine (leave_keeps HT1.out i hi HK.out).mono ?_; rintro e w2 ⟨rfl, hw2⟩; rw [hw2]; clear hw2 w2))
  go_ret
  exact ⟨by simp, HT1.out, (Mod.refl (fun k => k = q) w).setCell _ _ rfl⟩
set_option maxRecDepth 8000 in
set_option maxHeartbeats 2000000 in
theorem trelease_end (T : Tb w t q b c n N clk F R u D) (i : Nat) (hi : i < N) (hz : F i 0 ≠ 0) (hh : 0 < F i 4 ∧ F i 4 ≤ 9223372036854775807) (hk : ¬ 0 < F i 3 ∧ ¬ 0 < F i 4 - 1) (y : (Nat → Bool) × (Nat → Nat) × (Nat → Nat)) (hy : cutS 0 u D (R i) 8 = y) :
    Calls Tryz.prog 246 #[.pointer (some ⟨t, 0, none⟩), .int .i64 ((i : Int) + 1)] w fun e w' => e = .returned (.int .i64 0) ∧ Tb w' t q b c n N clk (setN (upd2 F i 4 (F i 4 - 1)) i (fun _ => 0)) (setN R i (fun _ => 0)) y.1 y.2.1 ∧ Mod (fun k => k = b ∨ k = c ∨ k = q) w w' := by
  have HT1 : Hid (Tb (w.setCell ⟨q, i * 17 + 4, none⟩ (.int .i64 (F i 4 - 1))) t q b c n N clk (upd2 F i 4 (F i 4 - 1)) R u D) := T.setF i 4 (by omega) _ (by omega)
  have hne : (F i 4 == 0) = false := by simp; omega
  have HK : Hid (¬ 0 < (upd2 F i 4 (F i 4 - 1)) i 3 ∧ ¬ 0 < (upd2 F i 4 (F i 4 - 1)) i 4) := by (show _ ∧ _; rw [show upd2 F i 4 (F i 4 - 1) i 3 = F i 3 by simp [upd2], show upd2 F i 4 (F i 4 - 1) i 4 = F i 4 - 1 by simp [upd2]]; exact hk)
  have HY : Hid (cutS 0 u D (R i) 8 = y) := hy
  have HT : Hid (Tb w t q b c n N clk F R u D) := T
  have HZ : Hid (F i 0 ≠ 0) := hz
  have h2 := T.c2
  have htq := T.tq
  have hlq := T.lt_q
  have k4 := T.cf i 4 hi (by omega)
  have f4 := T.fq (i * 17 + 4)
  clear T hz
  clear hk hy
  go_enter Tryz.func246, Tryz.ntmps246
  go_wp2_with (first | (go_at_call 102; refine (find_ok HT.out i hi HZ.out).mono ?_; rintro e w1 ⟨rfl, hw1⟩; rw [hw1]; clear hw1 w1) | (go_at_call 141; refine (leave_ends HT1.out i hi (by first | exact HK.out.1 | exact Int.not_lt.mpr HK.out.1) (by first | exact HK.out.2 | exact Int.not_lt.mpr HK.out.2) y HY.out).mono ?_; rintro e w2 ⟨rfl, T2, M2⟩; have HT2 := Hid.intrL T2; have HM2 := Hid.intrL M2; clear T2 M2))
  go_ret
  exact ⟨by simp, HT2.out, (((Mod.refl (fun k => k = q) w).setCell _ _ rfl).mono (fun _ _ h => .inr (.inr h))).trans HM2.out⟩
end
end Go.Proofs.YtgkkbplecfhmdaaGreatDoor
