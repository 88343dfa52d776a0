/- The walk of DirNone. Condition: the library's table is as its initialiser lays it. -/
import Derived.Test.YtfmemkninmpfjaaGreatDoorBaseD
import Derived.Test.YtfmemkninmpfjaaGreatDoorDrl
namespace Go.Proofs.YtfmemkninmpfjaaGreatDoor
open Go.ChangeShapes Go.WideShapes Go.ChangeAt Go.RowKit Go.Shelf
theorem loadB {W : World} {B : Nat} {b : Bool} (h : W.cell? ⟨B, 0, none⟩ = some (.bool b)) : (loadVar 4 ⟨B, 0, none⟩).run Tryz.prog W = .ok (.bool b) W := by simp [go_sem, h]
theorem eqg57 (W : World) (x y : Value) : (eqGuard .eql 43 (.tmp 152) (.const .nilFunc) (.func (.func 57) #[] #[x, y]) .nilFunc).run Tryz.prog W = .ok () W := by kernel_rfl
theorem bin57 (W : World) (x y : Value) : (binOp .eql 43 (.func (.func 57) #[] #[x, y]) .nilFunc).run Tryz.prog W = .ok (.bool false) W := by kernel_rfl
set_option maxRecDepth 100000 in
set_option maxHeartbeats 8000000 in
theorem none4_walk (c0 : Value) (x1 : Int) (c2 : Value) (x3 : Int) (c4 c5 : Value) (w : World) (hT : TabIs w) : Calls Tryz.prog 6 #[.agg #[c0, .int .i64 x1, c2, .int .i64 x3, c4, c5]] w fun e w' => e = .returned (.bool true) ∧ Below w.heap.size w w' := by
  have HT := hidN hT
  have hq1 := eqg57
  have hq2 := bin57
  clear hT
  refine (callsIn_wide (n := 9)).1 ?_
  refine callsIn_of_wp_marks Tryz.func6 rfl trivial ?_ rfl
  simp only [Tryz.ntmps6, List.size_toArray, List.length_cons, List.length_nil, Nat.reduceAdd, Nat.reduceSub, Array.replicate_succ, Array.replicate_zero, List.push_toArray, List.append_toArray, List.nil_append, List.cons_append]
  refine wpIn_wide.2 ?_
  go_wp2_with fail
  obtain ⟨W0, hW0⟩ : ∃ W0, W0 = (((w.alloc (.cells #[c0, .int .i64 x1, c2, .int .i64 x3, c4, c5] 30)).alloc (.cells #[.bool false] 4)).alloc (.cells #[.pointer none, .slice none 0 0, .int .i64 0] 52)).alloc (.cells #[.pointer none, .pointer (some ⟨w.heap.size + 2, 0, none⟩)] 38) := ⟨_, rfl⟩
  have hsz : W0.heap.size = w.heap.size + 4 := by rw [hW0]; simp
  have HBW := hidN (show Below w.heap.size w W0 by rw [hW0]; exact ((((Below.refl w.heap.size w).alloc (Nat.le_refl _) _).alloc (by simp) _).alloc (by simp <;> omega) _).alloc (by simp <;> omega) _)
  have q1 : ∀ j, W0.cell? ⟨w.heap.size, j, none⟩ = #[c0, .int .i64 x1, c2, .int .i64 x3, c4, c5][j]? := fun j => by
    rw [hW0, World.cell?_alloc_past _ _ _ (by simp <;> omega), World.cell?_alloc_past _ _ _ (by simp <;> omega), World.cell?_alloc_past _ _ _ (by simp), World.cell?_alloc_at _ _ _ _ rfl]
  have q3 : ∀ j, W0.cell? ⟨w.heap.size + 3, j, none⟩ = #[Value.pointer none, .pointer (some ⟨w.heap.size + 2, 0, none⟩)][j]? := fun j => by
    rw [hW0, World.cell?_alloc_at _ _ _ _ (by simp)]
  have q2 : W0.cell? ⟨w.heap.size + 2, 0, none⟩ = some (.pointer none) := by
    rw [hW0, World.cell?_alloc_past _ _ _ (by simp), World.cell?_alloc_at _ _ _ _ (by simp)]; rfl
  have HR := hidN (show W0.heap[w.heap.size + 1]? = some (.cells #[.bool false] 4 (0, 0)) by
    have := World.alloc_heap_new (w.alloc (.cells #[c0, .int .i64 x1, c2, .int .i64 x3, c4, c5] 30)) (.cells #[.bool false] 4)
    rw [World.size_alloc] at this
    rw [hW0, Below.heap_alloc _ _ _ (by simp <;> omega), Below.heap_alloc _ _ _ (by simp)]
    exact this)
  have HD := hidN (show ∀ W, Mod (fun _ => False) W0 W → W.cell? ⟨w.heap.size, 1, none⟩ = some (.int .i64 x1) ∧ W.cell? ⟨w.heap.size, 2, none⟩ = some c2 ∧ W.cell? ⟨w.heap.size, 3, none⟩ = some (.int .i64 x3) ∧ W.cell? ⟨w.heap.size + 3, 0, none⟩ = some (.pointer none) ∧ W.cell? ⟨w.heap.size + 3, 1, none⟩ = some (.pointer (some ⟨w.heap.size + 2, 0, none⟩)) from fun W hM =>
    have k : ∀ b j, b < w.heap.size + 4 → W.cell? ⟨b, j, none⟩ = W0.cell? ⟨b, j, none⟩ := fun b j hb => hM.cell (p := ⟨b, j, none⟩) (by show b < W0.heap.size; omega) (fun h => h)
    ⟨(k _ _ (by omega)).trans (q1 1), (k _ _ (by omega)).trans (q1 2), (k _ _ (by omega)).trans (q1 3), (k _ _ (by omega)).trans (q3 0), (k _ _ (by omega)).trans (q3 1)⟩)
  have HNil := hidN (show ∀ W, NoTs (.pointer none) W from fun _ _ _ => tmade_nil _)
  have HZero := hidN (show ∀ W, Mod (fun _ => False) W0 W → NoTs (.pointer (some ⟨w.heap.size + 2, 0, none⟩)) W from fun W hM X hX => tmade_zero _ X (((hM.trans hX).cell (p := ⟨w.heap.size + 2, 0, none⟩) (by show w.heap.size + 2 < W0.heap.size; omega) (fun h => h)).trans q2))
  rw [← hW0]
  clear hW0 q1 q2 q3
  have HMw := hidN (Mod.refl (fun _ => False) W0)
  have HN := hidN (HNil.out W0)
  obtain ⟨d1, d2, d3, e0, e1⟩ := HD.out _ HMw.out
  refine wp_loop_rounds 3 ?_
  rw [rounds_succ]
  go_wp2_with (first | (go_at_call 17; refine (nFind _ _ HN.out _ _).mono ?_; rintro e w1 ⟨rfl, HM⟩; replace HMw := hidN (HMw.out.trans HM); replace HN := hidN (HN.out.to HM); clear HM d1 d2 d3 e0 e1; obtain ⟨d1, d2, d3, e0, e1⟩ := HD.out _ HMw.out) | (go_at_call 18; refine (nList _ _ HN.out _).mono ?_; rintro e w1 ⟨rfl, HM⟩; replace HMw := hidN (HMw.out.trans HM); replace HN := hidN (HN.out.to HM); clear HM d1 d2 d3 e0 e1; obtain ⟨d1, d2, d3, e0, e1⟩ := HD.out _ HMw.out) | (go_at_call 19; refine (nEmpty _ _ HN.out _).mono ?_; rintro e w1 ⟨rfl, HM⟩; replace HMw := hidN (HMw.out.trans HM); replace HN := hidN (HN.out.to HM); clear HM d1 d2 d3 e0 e1; obtain ⟨d1, d2, d3, e0, e1⟩ := HD.out _ HMw.out) | (go_at_call 20; refine (nSpare _ _ HN.out _).mono ?_; rintro e w1 ⟨rfl, HM⟩; replace HMw := hidN (HMw.out.trans HM); replace HN := hidN (HN.out.to HM); clear HM d1 d2 d3 e0 e1; obtain ⟨d1, d2, d3, e0, e1⟩ := HD.out _ HMw.out) | (go_at_call 21; refine (nName _ _ HN.out _ _).mono ?_; rintro e w1 ⟨rfl, HM⟩; replace HMw := hidN (HMw.out.trans HM); replace HN := hidN (HN.out.to HM); clear HM d1 d2 d3 e0 e1; obtain ⟨d1, d2, d3, e0, e1⟩ := HD.out _ HMw.out) | (go_at_call 22; refine (nInit _ _ HN.out _ _).mono ?_; rintro e w1 ⟨rfl, HM⟩; replace HMw := hidN (HMw.out.trans HM); replace HN := hidN (HN.out.to HM); clear HM d1 d2 d3 e0 e1; obtain ⟨d1, d2, d3, e0, e1⟩ := HD.out _ HMw.out) | (go_at_call 23; refine (nAdd _ _ HN.out _ _ _).mono ?_; rintro e w1 ⟨rfl, HM⟩; replace HMw := hidN (HMw.out.trans HM); replace HN := hidN (HN.out.to HM); clear HM d1 d2 d3 e0 e1; obtain ⟨d1, d2, d3, e0, e1⟩ := HD.out _ HMw.out) | (go_at_call 24; refine (nPut _ _ HN.out _ _ _).mono ?_; rintro e w1 ⟨rfl, HM⟩; replace HMw := hidN (HMw.out.trans HM); replace HN := hidN (HN.out.to HM); clear HM d1 d2 d3 e0 e1; obtain ⟨d1, d2, d3, e0, e1⟩ := HD.out _ HMw.out) | (go_at_call 25; refine (nRemove _ _ HN.out _ _).mono ?_; rintro e w1 ⟨rfl, HM⟩; replace HMw := hidN (HMw.out.trans HM); replace HN := hidN (HN.out.to HM); clear HM d1 d2 d3 e0 e1; obtain ⟨d1, d2, d3, e0, e1⟩ := HD.out _ HMw.out) | (go_at_call 16; refine (nSlots _ _ HN.out _).mono ?_; rintro e w1 ⟨ba, bl, rfl, hba, HM⟩; have HA := hidN hba; replace HMw := hidN (HMw.out.trans HM); replace HN := hidN (HN.out.to HM); clear HM hba d1 d2 d3 e0 e1; obtain ⟨d1, d2, d3, e0, e1⟩ := HD.out _ HMw.out) | (go_at_call 9; refine (num4 _ _).mono ?_; rintro e w' ⟨rfl, hw'⟩; rw [hw']; clear hw' w'))
  refine (wpIn_wide (n := 9)).1 ?_
  refine wpIn_rangeA rfl (enters_of Tryz.func57 (by kernel_rfl) rfl) (slots1 (fun _ => False) ba bl _ HA.out) (Below.refl _ _) (fun _ => rfl)
    (fun _ V => Below W0.heap.size W0 V) (fun _ _ _ => False) (abidesB_below (Nat.le_refl _) HMw.out.size) (fun _ => abidesB_pure _ _) (HMw.out.below (Nat.le_refl _) (fun _ _ h => h)) ?round ?done ?stop
  case round =>
    rintro l' pre x V hl' hl2 hI hpre
    have h1 := hpre.length_le
    simp at h1
  case stop =>
    rintro DD cc pre V hDD hpre hX hK
    exact hX.elim
  case done =>
    rintro D1 V1 hD1 hB1 hK1
    have hV1 := block_lt_of_cell d1
    have HK1 := hidN (show V1.heap[D1]? = some (.deferred (some [])) ∧ W0.heap.size ≤ D1 ∧ D1 < V1.heap.size from ⟨hK1, Nat.le_trans HMw.out.size hD1, (Array.getElem?_eq_some_iff.1 hK1).1⟩)
    have HM1 := hidN (mod_of_below0 hB1)
    clear HMw HN d1 d2 d3 e0 e1 hB1 hK1 hD1 hV1 HA
    have HMw := HM1
    have HMv := hidN (Mod.refl (fun _ => False) V1)
    have HN := hidN (HZero.out V1 HMw.out)
    obtain ⟨d1, d2, d3, e0, e1⟩ := HD.out _ HMw.out
    go_wp2_with fail
    rw [rounds_succ]
    go_wp2_with (first | (go_at_call 17; refine (nFind _ _ HN.out _ _).mono ?_; rintro e w1 ⟨rfl, HM⟩; replace HMw := hidN (HMw.out.trans HM); replace HN := hidN (HN.out.to HM); replace HMv := hidN (HMv.out.trans HM); clear HM d1 d2 d3 e0 e1; obtain ⟨d1, d2, d3, e0, e1⟩ := HD.out _ HMw.out) | (go_at_call 18; refine (nList _ _ HN.out _).mono ?_; rintro e w1 ⟨rfl, HM⟩; replace HMw := hidN (HMw.out.trans HM); replace HN := hidN (HN.out.to HM); replace HMv := hidN (HMv.out.trans HM); clear HM d1 d2 d3 e0 e1; obtain ⟨d1, d2, d3, e0, e1⟩ := HD.out _ HMw.out) | (go_at_call 19; refine (nEmpty _ _ HN.out _).mono ?_; rintro e w1 ⟨rfl, HM⟩; replace HMw := hidN (HMw.out.trans HM); replace HN := hidN (HN.out.to HM); replace HMv := hidN (HMv.out.trans HM); clear HM d1 d2 d3 e0 e1; obtain ⟨d1, d2, d3, e0, e1⟩ := HD.out _ HMw.out) | (go_at_call 20; refine (nSpare _ _ HN.out _).mono ?_; rintro e w1 ⟨rfl, HM⟩; replace HMw := hidN (HMw.out.trans HM); replace HN := hidN (HN.out.to HM); replace HMv := hidN (HMv.out.trans HM); clear HM d1 d2 d3 e0 e1; obtain ⟨d1, d2, d3, e0, e1⟩ := HD.out _ HMw.out) | (go_at_call 21; refine (nName _ _ HN.out _ _).mono ?_; rintro e w1 ⟨rfl, HM⟩; replace HMw := hidN (HMw.out.trans HM); replace HN := hidN (HN.out.to HM); replace HMv := hidN (HMv.out.trans HM); clear HM d1 d2 d3 e0 e1; obtain ⟨d1, d2, d3, e0, e1⟩ := HD.out _ HMw.out) | (go_at_call 22; refine (nInit _ _ HN.out _ _).mono ?_; rintro e w1 ⟨rfl, HM⟩; replace HMw := hidN (HMw.out.trans HM); replace HN := hidN (HN.out.to HM); replace HMv := hidN (HMv.out.trans HM); clear HM d1 d2 d3 e0 e1; obtain ⟨d1, d2, d3, e0, e1⟩ := HD.out _ HMw.out) | (go_at_call 23; refine (nAdd _ _ HN.out _ _ _).mono ?_; rintro e w1 ⟨rfl, HM⟩; replace HMw := hidN (HMw.out.trans HM); replace HN := hidN (HN.out.to HM); replace HMv := hidN (HMv.out.trans HM); clear HM d1 d2 d3 e0 e1; obtain ⟨d1, d2, d3, e0, e1⟩ := HD.out _ HMw.out) | (go_at_call 24; refine (nPut _ _ HN.out _ _ _).mono ?_; rintro e w1 ⟨rfl, HM⟩; replace HMw := hidN (HMw.out.trans HM); replace HN := hidN (HN.out.to HM); replace HMv := hidN (HMv.out.trans HM); clear HM d1 d2 d3 e0 e1; obtain ⟨d1, d2, d3, e0, e1⟩ := HD.out _ HMw.out) | (go_at_call 25; refine (nRemove _ _ HN.out _ _).mono ?_; rintro e w1 ⟨rfl, HM⟩; replace HMw := hidN (HMw.out.trans HM); replace HN := hidN (HN.out.to HM); replace HMv := hidN (HMv.out.trans HM); clear HM d1 d2 d3 e0 e1; obtain ⟨d1, d2, d3, e0, e1⟩ := HD.out _ HMw.out) | (go_at_call 16; refine (nSlots _ _ HN.out _).mono ?_; rintro e w1 ⟨ba, bl, rfl, hba, HM⟩; have HA := hidN hba; replace HMw := hidN (HMw.out.trans HM); replace HN := hidN (HN.out.to HM); replace HMv := hidN (HMv.out.trans HM); clear HM hba d1 d2 d3 e0 e1; obtain ⟨d1, d2, d3, e0, e1⟩ := HD.out _ HMw.out) | (go_at_call 9; refine (num4 _ _).mono ?_; rintro e w' ⟨rfl, hw'⟩; rw [hw']; clear hw' w'))
    refine (wpIn_wide (n := 9)).1 ?_
    refine wpIn_rangeA rfl (enters_of Tryz.func57 (by kernel_rfl) rfl) (slots1 (fun _ => False) ba bl _ HA.out) (Below.refl _ _) (fun _ => rfl)
      (fun _ V => V.heap[D1]? = some (.deferred (some [])) ∧ Below W0.heap.size W0 V) (fun _ _ _ => False) (AbidesB.and (abidesB_block (Nat.lt_of_lt_of_le HK1.out.2.2 HMv.out.size)) (abidesB_below (Nat.le_refl _) HMw.out.size)) (fun _ => abidesB_pure _ _) ⟨(HMv.out.block D1 HK1.out.2.2 (fun h => h)).trans HK1.out.1, HMw.out.below (Nat.le_refl _) (fun _ _ h => h)⟩ ?round2 ?done2 ?stop2
    case round2 =>
      rintro l' pre x V hl' hl2 hI hpre
      have h1 := hpre.length_le
      simp at h1
    case stop2 =>
      rintro DD cc pre V hDD hpre hX hK
      exact hX.elim
    case done2 =>
      rintro D2 V2 hD2 ⟨hK1, hB2⟩ hK2
      have hne : D1 ≠ D2 := by have := HK1.out.2.2; have := HMv.out.size; omega
      have HK := hidN (show V2.heap[D1]? = some (.deferred (some [])) ∧ V2.heap[D2]? = some (.deferred (some [])) ∧ W0.heap.size ≤ D1 ∧ W0.heap.size ≤ D2 ∧ D1 ≠ D2 from ⟨hK1, hK2, HK1.out.2.1, Nat.le_trans HMw.out.size hD2, hne⟩)
      have HM2 := hidN (mod_of_below0 hB2)
      clear HMw HMv HN d1 d2 d3 e0 e1 hB2 hK1 hK2 hD2 HA HK1 hne
      obtain ⟨d1, d2, d3, e0, e1⟩ := HD.out _ HM2.out
      have HTr : Hid (TabIs V2) := HT.out.keep ((HM2.out.block 1 (Nat.lt_of_lt_of_le HT.out.lt HBW.out.size) (fun h => h)).trans (HBW.out.block 1 HT.out.lt))
      go_wp2_with fail
      rw [rounds_succ]
      go_wp2_with fail
      refine (awake4 _ HTr.out).mono ?_
      rintro e w3 ⟨rfl, M3⟩
      have hM3 := HM2.out.trans M3
      have hR3 : w3.heap[w.heap.size + 1]? = some (.cells #[.bool false] 4 (0, 0)) := (hM3.block _ (by omega) (fun h => h)).trans HR.out
      have c1 : w3.cell? ⟨w.heap.size + 1, 0, none⟩ = some (.bool false) := by rw [cell_of_row _ _ 0 _ _ _ hR3]; rfl
      have f1 : w3.frozen? ⟨w.heap.size + 1, 0, none⟩ = false := frozen_of_row _ _ 0 _ _ hR3
      have HE := hidN (show w3.heap[D1]? = some (.deferred (some [])) ∧ w3.heap[D2]? = some (.deferred (some [])) ∧ Below w.heap.size w w3 from ⟨(M3.block _ (Array.getElem?_eq_some_iff.1 HK.out.1).1 (fun h => h)).trans HK.out.1, (M3.block _ (Array.getElem?_eq_some_iff.1 HK.out.2.1).1 (fun h => h)).trans HK.out.2.1, mod_b hM3 HBW.out⟩)
      clear M3 hM3 hR3 d1 d2 d3 e0 e1
      go_wp2_with fail
      obtain ⟨w4, hw4⟩ : ∃ w4, w4 = w3.setCell ⟨w.heap.size + 1, 0, none⟩ (.bool true) := ⟨_, rfl⟩
      have h42 : w4.heap[D2]? = some (.deferred (some [])) := by rw [hw4]; exact (heap_setCell_other _ _ _ _ (by have := HK.out; show D2 ≠ w.heap.size + 1; omega)).trans HE.out.2.1
      have h41 : w4.heap[D1]? = some (.deferred (some [])) := by rw [hw4]; exact (heap_setCell_other _ _ _ _ (by have := HK.out; show D1 ≠ w.heap.size + 1; omega)).trans HE.out.1
      have hB4 : Below w.heap.size w w4 := by rw [hw4]; exact HE.out.2.2.setCell (p := ⟨w.heap.size + 1, 0, none⟩) (Nat.le_succ _) _
      have c4 : w4.cell? ⟨w.heap.size + 1, 0, none⟩ = some (.bool true) := by rw [hw4]; exact setCell_in _ _ _ _ _ c1
      rw [← hw4]
      clear hw4
      have hg5 := grownBy_putObj' w4 D2 (.deferred none)
      have h51 : (w4.putObj D2 (.deferred none)).heap[D1]? = some (.deferred (some [])) := (hg5.block D1 (Array.getElem?_eq_some_iff.1 h41).1 (fun e => HK.out.2.2.2.2 (Option.some.inj e))).trans h41
      have c5 : (w4.putObj D2 (.deferred none)).cell? ⟨w.heap.size + 1, 0, none⟩ = some (.bool true) := cellB_abides (C := w.heap.size + 2) (Nat.lt_succ_self _) [] _ _ (some D2) c4 hg5 (fun r e => by have := HK.out; cases e; omega)
      have hB5 : Below w.heap.size w (w4.putObj D2 (.deferred none)) := hB4.trans (belowK_b (w := w) (Nat.le_refl _) _ D2 _ _ (by have := HK.out; omega) h42 rfl rfl)
      have c6 : ((w4.putObj D2 (.deferred none)).putObj D1 (.deferred none)).cell? ⟨w.heap.size + 1, 0, none⟩ = some (.bool true) := cellB_abides (C := w.heap.size + 2) (Nat.lt_succ_self _) [] _ _ (some D1) c5 (grownBy_putObj' _ _ (.deferred none)) (fun r e => by have := HK.out; cases e; omega)
      have hB6 : Below w.heap.size w ((w4.putObj D2 (.deferred none)).putObj D1 (.deferred none)) := hB5.trans (belowK_b (w := w) (Nat.le_refl _) _ D1 _ _ (by have := HK.out; omega) h51 rfl rfl)
      refine ⟨by simp, .inl ⟨_, _, rfl, run_takeDeferred h42, ?_⟩⟩
      refine ⟨by simp, .inl ⟨_, _, rfl, run_takeDeferred h51, ?_⟩⟩
      exact ⟨_, results_cell1 rfl _ _ ⟨w.heap.size + 1, 0, none⟩ (.bool true) rfl (loadB c6), rfl, hB6⟩
end Go.Proofs.YtfmemkninmpfjaaGreatDoor
