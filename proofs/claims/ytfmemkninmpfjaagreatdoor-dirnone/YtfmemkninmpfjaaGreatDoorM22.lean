/- Several texts of this claim, one behind the other, in their order. -/
import Derived.Test.YtfmemkninmpfjaaGreatDoorM21
import Derived.Test.YtfmemkninmpfjaaGreatDoorM17
/- Layer 4's Empty, Spare, Name and Slots of a table that no call made. -/
namespace Go.Proofs.YtfmemkninmpfjaaGreatDoor
open Go.RowKit Go.Shelf
theorem results_cell2 {P : Program} {fn : Func} {p q : Tmp} {ty tq : TypeId} (h : fn.results = #[.cell p ty, .cell q tq]) (tmps : Array Value) (w : World) (a b : Addr) (u v : Value) (ha : tmps.getD p undef = .pointer (some a)) (hb : tmps.getD q undef = .pointer (some b)) (hl : (loadVar ty a).run P w = .ok u w) (hl2 : (loadVar tq b).run P w = .ok v w) :
    (results fn tmps).run P w = .ok (.tuple #[u, v]) w := by
  have e : (results fn tmps).run P w = ((asAddr (tmps.getD p undef)).run P w).andThen fun a w₁ => ((loadVar ty a).run P w₁).andThen fun u w₂ => ((asAddr (tmps.getD q undef)).run P w₂).andThen fun b w₃ => ((loadVar tq b).run P w₃).andThen fun v w₄ => .ok (.tuple #[u, v]) w₄ := by
    simp only [results, h]
    simp [Sem.run_bind, Result.andThen]
  rw [e, ha]
  show ((loadVar ty a).run P w).andThen _ = _
  rw [hl, hb]
  show ((loadVar tq b).run P w).andThen _ = _
  rw [hl2]
  rfl
theorem mod_b {w W : World} (h : Mod (fun _ => False) w W) {w0 : World} (h0 : Below w0.heap.size w0 w) : Below w0.heap.size w0 W := h0.trans ((h.below (Nat.le_refl _) (fun _ _ h => h)).mono h0.size)
theorem new_cell {w W : World} {o : Obj} (hM : Mod (fun _ => False) (w.alloc o) W) (k : Nat) : W.cell? ⟨w.heap.size, k, none⟩ = (w.alloc o).cell? ⟨w.heap.size, k, none⟩ := hM.cell (p := ⟨w.heap.size, k, none⟩) (by simp) (fun h => h)
theorem new_frozen {w W : World} {o : Obj} (hM : Mod (fun _ => False) (w.alloc o) W) (k : Nat) : W.frozen? ⟨w.heap.size, k, none⟩ = (w.alloc o).frozen? ⟨w.heap.size, k, none⟩ := hM.frozen (p := ⟨w.heap.size, k, none⟩) (by simp) (fun h => h)
set_option maxRecDepth 100000 in
set_option maxHeartbeats 1000000 in
theorem nSpare (p : Value) (w : World) (H : NoTs p w) (a : Value) : Calls Tryz.prog 20 #[p, a] w fun e w' => e = .returned (.tuple #[.int .i64 0, .int .i64 14]) ∧ Mod (fun _ => False) w w' := by
  have HN := hidN H
  clear H
  go_enter Tryz.func20, Tryz.ntmps20
  go_wp2_with fail
  refine (nRead p _ HN.out a).mono ?_
  rintro e w1 ⟨rfl, HM1⟩
  have HM := hidN HM1
  clear HM1
  go_wp2
  go_ret2
  exact ⟨rfl, HM.out⟩
set_option maxRecDepth 100000 in
set_option maxHeartbeats 1000000 in
theorem nEmpty (p : Value) (w : World) (H : NoTs p w) (a : Value) : Calls Tryz.prog 19 #[p, a] w fun e w' => e = .returned (.tuple #[.bool false, .int .i64 14]) ∧ Mod (fun _ => False) w w' := by
  have HN := hidN H
  clear H
  go_enter Tryz.func19, Tryz.ntmps19
  go_wp2_with fail
  refine (nRead p _ (HN.out.to (((Mod.refl _ w).alloc _).alloc _)) a).mono ?_
  rintro e w1 ⟨rfl, HM1⟩
  have hB := hidN (mod_b HM1 (((Below.refl w.heap.size w).alloc (Nat.le_refl _) _).alloc (by simp) _))
  have k0 : w1.cell? ⟨w.heap.size, 0, none⟩ = some (.bool false) := by
    rw [HM1.cell (p := ⟨w.heap.size, 0, none⟩) (by simp; omega) (fun h => h), World.cell?_alloc_past _ _ _ (by simp), World.cell?_alloc_at _ _ _ _ rfl]; rfl
  have k1 : w1.cell? ⟨w.heap.size + 1, 0, none⟩ = some (.int .i64 0) := by
    rw [HM1.cell (p := ⟨w.heap.size + 1, 0, none⟩) (by simp) (fun h => h), World.cell?_alloc_at _ _ _ _ (by simp)]; rfl
  have f0 : w1.frozen? ⟨w.heap.size, 0, none⟩ = false := by
    rw [HM1.frozen (p := ⟨w.heap.size, 0, none⟩) (by simp; omega) (fun h => h), World.frozen?_alloc_past _ _ _ (by simp)]; exact frozen_of_row _ _ 0 _ _ (World.alloc_heap_new w _)
  have f1 : w1.frozen? ⟨w.heap.size + 1, 0, none⟩ = false := by
    rw [HM1.frozen (p := ⟨w.heap.size + 1, 0, none⟩) (by simp) (fun h => h)]
    have := World.alloc_heap_new (w.alloc (.cells #[.bool false] 4)) (.cells #[.int .i64 0] 23)
    rw [World.size_alloc] at this
    exact frozen_of_row _ _ 0 _ _ this
  clear HM1
  go_wp2
  refine bodyPost_ret (results_cell2 rfl _ _ ⟨w.heap.size, 0, none⟩ ⟨w.heap.size + 1, 0, none⟩ (.bool false) (.int .i64 14) rfl rfl ?_ ?_) rfl ⟨rfl, mod_of_below0 ((hB.out.setCell (p := ⟨w.heap.size, 0, none⟩) (Nat.le_refl _) _).setCell (p := ⟨w.heap.size + 1, 0, none⟩) (Nat.le_succ _) _)⟩
  · simp [go_sem, k0]
  · simp [go_sem, k1]
set_option maxRecDepth 100000 in
set_option maxHeartbeats 1000000 in
theorem nName (p : Value) (w : World) (H : NoTs p w) (a : Value) (b : Int) : Calls Tryz.prog 21 #[p, a, .int .i64 b] w fun e w' => e = .returned (.tuple #[.string ⟨#[]⟩, .int .i64 14]) ∧ Mod (fun _ => False) w w' := by
  have HN := hidN H
  clear H
  go_enter Tryz.func21, Tryz.ntmps21
  go_wp2_with fail
  refine (nRead p _ (HN.out.to ((((Mod.refl _ w).alloc _).alloc _).alloc _)) a).mono ?_
  rintro e w1 ⟨rfl, HM1⟩
  have hB := hidN (mod_b HM1 ((((Below.refl w.heap.size w).alloc (Nat.le_refl _) _).alloc (by simp) _).alloc (by simp; omega) _))
  have k0 : w1.cell? ⟨w.heap.size + 1, 0, none⟩ = some (.string ⟨#[]⟩) := by
    rw [HM1.cell (p := ⟨w.heap.size + 1, 0, none⟩) (by simp) (fun h => h), World.cell?_alloc_past _ _ _ (by simp), World.cell?_alloc_at _ _ _ _ (by simp)]; rfl
  have k1 : w1.cell? ⟨w.heap.size + 2, 0, none⟩ = some (.int .i64 0) := by
    rw [HM1.cell (p := ⟨w.heap.size + 2, 0, none⟩) (by simp) (fun h => h), World.cell?_alloc_at _ _ _ _ (by simp)]; rfl
  have f0 : w1.frozen? ⟨w.heap.size + 1, 0, none⟩ = false := by
    rw [HM1.frozen (p := ⟨w.heap.size + 1, 0, none⟩) (by simp) (fun h => h), World.frozen?_alloc_past _ _ _ (by simp)]
    have := World.alloc_heap_new (w.alloc (.cells #[.int .i64 b] 3)) (.cells #[.string ⟨#[]⟩] 9)
    rw [World.size_alloc] at this
    exact frozen_of_row _ _ 0 _ _ this
  have f1 : w1.frozen? ⟨w.heap.size + 2, 0, none⟩ = false := by
    rw [HM1.frozen (p := ⟨w.heap.size + 2, 0, none⟩) (by simp) (fun h => h)]
    have := World.alloc_heap_new ((w.alloc (.cells #[.int .i64 b] 3)).alloc (.cells #[.string ⟨#[]⟩] 9)) (.cells #[.int .i64 0] 23)
    rw [World.size_alloc, World.size_alloc] at this
    exact frozen_of_row _ _ 0 _ _ this
  clear HM1
  go_wp2
  refine bodyPost_ret (results_cell2 rfl _ _ ⟨w.heap.size + 1, 0, none⟩ ⟨w.heap.size + 2, 0, none⟩ (.string ⟨#[]⟩) (.int .i64 14) rfl rfl ?_ ?_) rfl ⟨rfl, mod_of_below0 ((hB.out.setCell (p := ⟨w.heap.size + 1, 0, none⟩) (Nat.le_succ _) _).setCell (p := ⟨w.heap.size + 2, 0, none⟩) (by show w.heap.size ≤ w.heap.size + 2; omega) _)⟩
  · simp [go_sem, k0]
  · simp [go_sem, k1]
/-- The iterator that Slots answers, where there is nothing. -/
theorem slots1 (own : Nat → Prop) (ba bl : Nat) (w : World) (h : w.cell? ⟨ba, 0, none⟩ = some (.slice none 0 0)) :
    SeqA Tryz.prog 57 #[.pointer (some ⟨ba, 0, none⟩), .pointer (some ⟨bl, 0, none⟩)] (fun _ : Nat => #[.int .i64 0, .int .i64 0]) own [] w := fun l J Jx W hW _ _ _ h0 => by
  have hc : W.cell? ⟨ba, 0, none⟩ = some (.slice none 0 0) := (hW.cell (p := ⟨ba, 0, none⟩) (block_lt_of_cell h)).trans h
  refine callsIn_of_wp Tryz.func57 rfl trivial ?_ rfl
  simp only [Tryz.ntmps57, List.size_toArray, List.length_cons, List.length_nil, Nat.reduceAdd, Nat.reduceSub, Array.replicate_succ, Array.replicate_zero, List.push_toArray, List.append_toArray, List.nil_append, List.cons_append]
  have HJ0 := hidN h0
  clear h0 hW h
  gi_wp2
  gi_loopw [8] (fun x wx => x = .int .i64 0 ∧ Hid (J [] wx)) (fun _ _ => 0)
  case atStart => exact ⟨rfl, HJ0⟩
  case round =>
    obtain ⟨rfl, HJr⟩ := hrel
    gi_wp2
    go_end0
    exact ⟨⟨_, rfl⟩, .inl HJr.out⟩
set_option maxRecDepth 100000 in
set_option maxHeartbeats 2000000 in
theorem nSlots (p : Option Addr) (w : World) (H : NoTs (.pointer p) w) (a : Value) : Calls Tryz.prog 16 #[.pointer p, a] w fun e w' => ∃ ba bl, e = .returned (.func (.func 57) #[] #[.pointer (some ⟨ba, 0, none⟩), .pointer (some ⟨bl, 0, none⟩)]) ∧ w'.cell? ⟨ba, 0, none⟩ = some (.slice none 0 0) ∧ Mod (fun _ => False) w w' := by
  have HN := hidN H
  have hz := zvSl
  clear H
  refine (callsIn_wide (n := 9)).1 ?_
  refine callsIn_of_wp_marks Tryz.func16 rfl trivial ?_ rfl
  simp only [Tryz.ntmps16, List.size_toArray, List.length_cons, List.length_nil, Nat.reduceAdd, Nat.reduceSub, Array.replicate_succ, Array.replicate_zero, List.push_toArray, List.append_toArray, List.nil_append, List.cons_append]
  refine wpIn_wide.2 ?_
  go_wp2_with fail
  refine (nRead (.pointer p) _ (HN.out.to ((((Mod.refl _ w).alloc _).alloc _).alloc _)) a).mono ?_
  rintro e w1 ⟨rfl, HM1⟩
  have hB := mod_b HM1 ((((Below.refl w.heap.size w).alloc (Nat.le_refl _) _).alloc (by simp) _).alloc (by simp; omega) _)
  have hF : w1.heap[w.heap.size + 1]? = some (.cells #[.slice none 0 0] 35 (0, 0)) := by
    rw [HM1.block (w.heap.size + 1) (by simp) (fun h => h), Below.heap_alloc _ _ _ (by simp)]
    have := World.alloc_heap_new (w.alloc (.cells #[.pointer p] 38)) (.cells #[.slice none 0 0] 35)
    rw [World.size_alloc] at this
    exact this
  have hs1 : w.heap.size + 2 < w1.heap.size := by have := HM1.size; simp at this; omega
  have HB := hidN hB
  have HF := hidN hF
  clear HM1 hB hF
  go_wp2_with (go_at_call 55; refine (taken_any none 0 0 _).mono ?_; rintro e w2 ⟨rfl, rfl⟩)
  obtain ⟨V0, hV0⟩ : ∃ V0, V0 = w1.alloc (.cells #[.slice none 0 0] 102) := ⟨_, rfl⟩
  have hsz : V0.heap.size = w1.heap.size + 1 := by rw [hV0]; simp
  have hBV : Below w.heap.size w V0 := by rw [hV0]; exact HB.out.alloc (by omega) _
  have hFV : V0.heap[w.heap.size + 1]? = some (.cells #[.slice none 0 0] 35 (0, 0)) := by rw [hV0]; exact (Below.heap_alloc _ _ _ (by omega)).trans HF.out
  have hA : AllAt V0 w1.heap.size none 0 0 (fun _ => 0) := ⟨by rw [hV0, World.cell?_alloc_at _ _ _ _ rfl]; rfl, ⟨Nat.le_refl _, by omega, fun _ => by omega, fun h => by omega⟩⟩
  rw [← hV0]
  clear hV0 HB HF
  refine (wpIn_wide (n := 9)).1 ?_
  refine wpIn_rangeA rfl (enters_of Tryz.func95 (by kernel_rfl) rfl) (taken1 (fun _ => False) w1.heap.size none 0 0 (fun _ => 0) (fun _ h => by cases h) V0 hA (fun _ h => h.elim)) (Below.refl _ _) (fun _ => rfl)
    (fun _ V => V.heap[w.heap.size + 1]? = some (.cells #[.slice none 0 0] 35 (0, 0)) ∧ Below w.heap.size w V)
    (fun _ _ _ => False)
    (AbidesB.and (abidesB_block (by omega)) (abidesB_below (Nat.le_refl _) (by omega)))
    (fun _ => abidesB_pure _ _)
    ⟨hFV, hBV⟩ ?round ?done ?stop
  case round =>
    rintro l' pre x V hl' hl2 hI hpre
    have h1 := hpre.length_le
    simp at h1
  case done =>
    rintro DD V hDD ⟨hFW, hBw⟩ hK
    have HE := hidN (show V.heap[DD]? = some (.deferred (some [])) ∧ Below w.heap.size w V ∧ V.heap[w.heap.size + 1]? = some (.cells #[.slice none 0 0] 35 (0, 0)) from ⟨hK, hBw, hFW⟩)
    clear hFW hBw hK
    go_wp2
    refine ⟨by simp, .inl ⟨_, _, rfl, run_takeDeferred HE.out.1, ?_⟩⟩
    refine ⟨_, results_tmp rfl _ _ _, ?_⟩
    refine ⟨w.heap.size + 1, w.heap.size + 2, rfl, ?_, mod_of_below0 (HE.out.2.1.trans (belowK_b (w := w) (Nat.le_refl _) _ DD _ _ (by omega) HE.out.1 rfl rfl))⟩
    have c1 : V.cell? ⟨w.heap.size + 1, 0, none⟩ = some (.slice none 0 0) := by rw [cell_of_row _ _ 0 _ _ _ HE.out.2.2]; rfl
    exact cellB_abides (C := w.heap.size + 2) (Nat.lt_succ_self _) [] _ _ (some DD) c1 (grownBy_putObj' _ _ (.deferred none)) (fun r e => by cases e; omega)
  case stop =>
    rintro DD cc pre V hDD hpre hX hK
    exact hX.elim
end Go.Proofs.YtfmemkninmpfjaaGreatDoor
/- The walk of DirNone. Condition: the library's table is as its initialiser lays it. -/
namespace Go.Proofs.YtfmemkninmpfjaaGreatDoor
open Go.ChangeShapes Go.WideShapes Go.ChangeAt Go.RowKit Go.Shelf
theorem loadB {W : World} {B : Nat} {b : Bool} (h : W.cell? ⟨B, 0, none⟩ = some (.bool b)) : (loadVar 4 ⟨B, 0, none⟩).run Tryz.prog W = .ok (.bool b) W := by simp [go_sem, h]
theorem eqg57 (W : World) (x y : Value) : (eqGuard .eql 43 (.tmp 152) (.const .nilFunc) (.func (.func 57) #[] #[x, y]) .nilFunc).run Tryz.prog W = .ok () W := by kernel_rfl
theorem bin57 (W : World) (x y : Value) : (binOp .eql 43 (.func (.func 57) #[] #[x, y]) .nilFunc).run Tryz.prog W = .ok (.bool false) W := by kernel_rfl
set_option maxRecDepth 100000 in
set_option maxHeartbeats 8000000 in
theorem none4_walk (c0 : Value) (x1 : Int) (c2 : Value) (x3 : Int) (c4 c5 : Value) (w : World) (hT : TabIs w) : Calls Tryz.prog 6 #[.agg #[c0, .int .i64 x1, c2, .int .i64 x3, c4, c5]] w fun e w' => e = .returned (.bool true) ∧ Below w.heap.size w w' := by
  have HT := hidN hT
  have hq1 := eqg57
  have hq2 := bin57
  clear hT
  refine (callsIn_wide (n := 9)).1 ?_
  refine callsIn_of_wp_marks Tryz.func6 rfl trivial ?_ rfl
  simp only [Tryz.ntmps6, List.size_toArray, List.length_cons, List.length_nil, Nat.reduceAdd, Nat.reduceSub, Array.replicate_succ, Array.replicate_zero, List.push_toArray, List.append_toArray, List.nil_append, List.cons_append]
  refine wpIn_wide.2 ?_
  go_wp2_with fail
  obtain ⟨W0, hW0⟩ : ∃ W0, W0 = (((w.alloc (.cells #[c0, .int .i64 x1, c2, .int .i64 x3, c4, c5] 30)).alloc (.cells #[.bool false] 4)).alloc (.cells #[.pointer none, .slice none 0 0, .int .i64 0] 52)).alloc (.cells #[.pointer none, .pointer (some ⟨w.heap.size + 2, 0, none⟩)] 38) := ⟨_, rfl⟩
  have hsz : W0.heap.size = w.heap.size + 4 := by rw [hW0]; simp
  have HBW := hidN (show Below w.heap.size w W0 by rw [hW0]; exact ((((Below.refl w.heap.size w).alloc (Nat.le_refl _) _).alloc (by simp) _).alloc (by simp <;> omega) _).alloc (by simp <;> omega) _)
  have q1 : ∀ j, W0.cell? ⟨w.heap.size, j, none⟩ = #[c0, .int .i64 x1, c2, .int .i64 x3, c4, c5][j]? := fun j => by
    rw [hW0, World.cell?_alloc_past _ _ _ (by simp <;> omega), World.cell?_alloc_past _ _ _ (by simp <;> omega), World.cell?_alloc_past _ _ _ (by simp), World.cell?_alloc_at _ _ _ _ rfl]
  have q3 : ∀ j, W0.cell? ⟨w.heap.size + 3, j, none⟩ = #[Value.pointer none, .pointer (some ⟨w.heap.size + 2, 0, none⟩)][j]? := fun j => by
    rw [hW0, World.cell?_alloc_at _ _ _ _ (by simp)]
  have q2 : W0.cell? ⟨w.heap.size + 2, 0, none⟩ = some (.pointer none) := by
    rw [hW0, World.cell?_alloc_past _ _ _ (by simp), World.cell?_alloc_at _ _ _ _ (by simp)]; rfl
  have HR := hidN (show W0.heap[w.heap.size + 1]? = some (.cells #[.bool false] 4 (0, 0)) by
    have := World.alloc_heap_new (w.alloc (.cells #[c0, .int .i64 x1, c2, .int .i64 x3, c4, c5] 30)) (.cells #[.bool false] 4)
    rw [World.size_alloc] at this
    rw [hW0, Below.heap_alloc _ _ _ (by simp <;> omega), Below.heap_alloc _ _ _ (by simp)]
    exact this)
  have HD := hidN (show ∀ W, Mod (fun _ => False) W0 W → W.cell? ⟨w.heap.size, 1, none⟩ = some (.int .i64 x1) ∧ W.cell? ⟨w.heap.size, 2, none⟩ = some c2 ∧ W.cell? ⟨w.heap.size, 3, none⟩ = some (.int .i64 x3) ∧ W.cell? ⟨w.heap.size + 3, 0, none⟩ = some (.pointer none) ∧ W.cell? ⟨w.heap.size + 3, 1, none⟩ = some (.pointer (some ⟨w.heap.size + 2, 0, none⟩)) from fun W hM =>
    have k : ∀ b j, b < w.heap.size + 4 → W.cell? ⟨b, j, none⟩ = W0.cell? ⟨b, j, none⟩ := fun b j hb => hM.cell (p := ⟨b, j, none⟩) (by show b < W0.heap.size; omega) (fun h => h)
    ⟨(k _ _ (by omega)).trans (q1 1), (k _ _ (by omega)).trans (q1 2), (k _ _ (by omega)).trans (q1 3), (k _ _ (by omega)).trans (q3 0), (k _ _ (by omega)).trans (q3 1)⟩)
  have HNil := hidN (show ∀ W, NoTs (.pointer none) W from fun _ _ _ => tmade_nil _)
  have HZero := hidN (show ∀ W, Mod (fun _ => False) W0 W → NoTs (.pointer (some ⟨w.heap.size + 2, 0, none⟩)) W from fun W hM X hX => tmade_zero _ X (((hM.trans hX).cell (p := ⟨w.heap.size + 2, 0, none⟩) (by show w.heap.size + 2 < W0.heap.size; omega) (fun h => h)).trans q2))
  rw [← hW0]
  clear hW0 q1 q2 q3
  have HMw := hidN (Mod.refl (fun _ => False) W0)
  have HN := hidN (HNil.out W0)
  obtain ⟨d1, d2, d3, e0, e1⟩ := HD.out _ HMw.out
  refine wp_loop_rounds 3 ?_
  rw [rounds_succ]
  go_wp2_with (first | (go_at_call 17; refine (nFind _ _ HN.out _ _).mono ?_; rintro e w1 ⟨rfl, HM⟩; replace HMw := hidN (HMw.out.trans HM); replace HN := hidN (HN.out.to HM); clear HM d1 d2 d3 e0 e1; obtain ⟨d1, d2, d3, e0, e1⟩ := HD.out _ HMw.out) | (go_at_call 18; refine (nList _ _ HN.out _).mono ?_; rintro e w1 ⟨rfl, HM⟩; replace HMw := hidN (HMw.out.trans HM); replace HN := hidN (HN.out.to HM); clear HM d1 d2 d3 e0 e1; obtain ⟨d1, d2, d3, e0, e1⟩ := HD.out _ HMw.out) | (go_at_call 19; refine (nEmpty _ _ HN.out _).mono ?_; rintro e w1 ⟨rfl, HM⟩; replace HMw := hidN (HMw.out.trans HM); replace HN := hidN (HN.out.to HM); clear HM d1 d2 d3 e0 e1; obtain ⟨d1, d2, d3, e0, e1⟩ := HD.out _ HMw.out) | (go_at_call 20; refine (nSpare _ _ HN.out _).mono ?_; rintro e w1 ⟨rfl, HM⟩; replace HMw := hidN (HMw.out.trans HM); replace HN := hidN (HN.out.to HM); clear HM d1 d2 d3 e0 e1; obtain ⟨d1, d2, d3, e0, e1⟩ := HD.out _ HMw.out) | (go_at_call 21; refine (nName _ _ HN.out _ _).mono ?_; rintro e w1 ⟨rfl, HM⟩; replace HMw := hidN (HMw.out.trans HM); replace HN := hidN (HN.out.to HM); clear HM d1 d2 d3 e0 e1; obtain ⟨d1, d2, d3, e0, e1⟩ := HD.out _ HMw.out) | (go_at_call 22; refine (nInit _ _ HN.out _ _).mono ?_; rintro e w1 ⟨rfl, HM⟩; replace HMw := hidN (HMw.out.trans HM); replace HN := hidN (HN.out.to HM); clear HM d1 d2 d3 e0 e1; obtain ⟨d1, d2, d3, e0, e1⟩ := HD.out _ HMw.out) | (go_at_call 23; refine (nAdd _ _ HN.out _ _ _).mono ?_; rintro e w1 ⟨rfl, HM⟩; replace HMw := hidN (HMw.out.trans HM); replace HN := hidN (HN.out.to HM); clear HM d1 d2 d3 e0 e1; obtain ⟨d1, d2, d3, e0, e1⟩ := HD.out _ HMw.out) | (go_at_call 24; refine (nPut _ _ HN.out _ _ _).mono ?_; rintro e w1 ⟨rfl, HM⟩; replace HMw := hidN (HMw.out.trans HM); replace HN := hidN (HN.out.to HM); clear HM d1 d2 d3 e0 e1; obtain ⟨d1, d2, d3, e0, e1⟩ := HD.out _ HMw.out) | (go_at_call 25; refine (nRemove _ _ HN.out _ _).mono ?_; rintro e w1 ⟨rfl, HM⟩; replace HMw := hidN (HMw.out.trans HM); replace HN := hidN (HN.out.to HM); clear HM d1 d2 d3 e0 e1; obtain ⟨d1, d2, d3, e0, e1⟩ := HD.out _ HMw.out) | (go_at_call 16; refine (nSlots _ _ HN.out _).mono ?_; rintro e w1 ⟨ba, bl, rfl, hba, HM⟩; have HA := hidN hba; replace HMw := hidN (HMw.out.trans HM); replace HN := hidN (HN.out.to HM); clear HM hba d1 d2 d3 e0 e1; obtain ⟨d1, d2, d3, e0, e1⟩ := HD.out _ HMw.out) | (go_at_call 9; refine (num4 _ _).mono ?_; rintro e w' ⟨rfl, hw'⟩; rw [hw']; clear hw' w'))
  refine (wpIn_wide (n := 9)).1 ?_
  refine wpIn_rangeA rfl (enters_of Tryz.func57 (by kernel_rfl) rfl) (slots1 (fun _ => False) ba bl _ HA.out) (Below.refl _ _) (fun _ => rfl)
    (fun _ V => Below W0.heap.size W0 V) (fun _ _ _ => False) (abidesB_below (Nat.le_refl _) HMw.out.size) (fun _ => abidesB_pure _ _) (HMw.out.below (Nat.le_refl _) (fun _ _ h => h)) ?round ?done ?stop
  case round =>
    rintro l' pre x V hl' hl2 hI hpre
    have h1 := hpre.length_le
    simp at h1
  case stop =>
    rintro DD cc pre V hDD hpre hX hK
    exact hX.elim
  case done =>
    rintro D1 V1 hD1 hB1 hK1
    have hV1 := block_lt_of_cell d1
    have HK1 := hidN (show V1.heap[D1]? = some (.deferred (some [])) ∧ W0.heap.size ≤ D1 ∧ D1 < V1.heap.size from ⟨hK1, Nat.le_trans HMw.out.size hD1, (Array.getElem?_eq_some_iff.1 hK1).1⟩)
    have HM1 := hidN (mod_of_below0 hB1)
    clear HMw HN d1 d2 d3 e0 e1 hB1 hK1 hD1 hV1 HA
    have HMw := HM1
    have HMv := hidN (Mod.refl (fun _ => False) V1)
    have HN := hidN (HZero.out V1 HMw.out)
    obtain ⟨d1, d2, d3, e0, e1⟩ := HD.out _ HMw.out
    go_wp2_with fail
    rw [rounds_succ]
    go_wp2_with (first | (go_at_call 17; refine (nFind _ _ HN.out _ _).mono ?_; rintro e w1 ⟨rfl, HM⟩; replace HMw := hidN (HMw.out.trans HM); replace HN := hidN (HN.out.to HM); replace HMv := hidN (HMv.out.trans HM); clear HM d1 d2 d3 e0 e1; obtain ⟨d1, d2, d3, e0, e1⟩ := HD.out _ HMw.out) | (go_at_call 18; refine (nList _ _ HN.out _).mono ?_; rintro e w1 ⟨rfl, HM⟩; replace HMw := hidN (HMw.out.trans HM); replace HN := hidN (HN.out.to HM); replace HMv := hidN (HMv.out.trans HM); clear HM d1 d2 d3 e0 e1; obtain ⟨d1, d2, d3, e0, e1⟩ := HD.out _ HMw.out) | (go_at_call 19; refine (nEmpty _ _ HN.out _).mono ?_; rintro e w1 ⟨rfl, HM⟩; replace HMw := hidN (HMw.out.trans HM); replace HN := hidN (HN.out.to HM); replace HMv := hidN (HMv.out.trans HM); clear HM d1 d2 d3 e0 e1; obtain ⟨d1, d2, d3, e0, e1⟩ := HD.out _ HMw.out) | (go_at_call 20; refine (nSpare _ _ HN.out _).mono ?_; rintro e w1 ⟨rfl, HM⟩; replace HMw := hidN (HMw.out.trans HM); replace HN := hidN (HN.out.to HM); replace HMv := hidN (HMv.out.trans HM); clear HM d1 d2 d3 e0 e1; obtain ⟨d1, d2, d3, e0, e1⟩ := HD.out _ HMw.out) | (go_at_call 21; refine (nName _ _ HN.out _ _).mono ?_; rintro e w1 ⟨rfl, HM⟩; replace HMw := hidN (HMw.out.trans HM); replace HN := hidN (HN.out.to HM); replace HMv := hidN (HMv.out.trans HM); clear HM d1 d2 d3 e0 e1; obtain ⟨d1, d2, d3, e0, e1⟩ := HD.out _ HMw.out) | (go_at_call 22; refine (nInit _ _ HN.out _ _).mono ?_; rintro e w1 ⟨rfl, HM⟩; replace HMw := hidN (HMw.out.trans HM); replace HN := hidN (HN.out.to HM); replace HMv := hidN (HMv.out.trans HM); clear HM d1 d2 d3 e0 e1; obtain ⟨d1, d2, d3, e0, e1⟩ := HD.out _ HMw.out) | (go_at_call 23; refine (nAdd _ _ HN.out _ _ _).mono ?_; rintro e w1 ⟨rfl, HM⟩; replace HMw := hidN (HMw.out.trans HM); replace HN := hidN (HN.out.to HM); replace HMv := hidN (HMv.out.trans HM); clear HM d1 d2 d3 e0 e1; obtain ⟨d1, d2, d3, e0, e1⟩ := HD.out _ HMw.out) | (go_at_call 24; refine (nPut _ _ HN.out _ _ _).mono ?_; rintro e w1 ⟨rfl, HM⟩; replace HMw := hidN (HMw.out.trans HM); replace HN := hidN (HN.out.to HM); replace HMv := hidN (HMv.out.trans HM); clear HM d1 d2 d3 e0 e1; obtain ⟨d1, d2, d3, e0, e1⟩ := HD.out _ HMw.out) | (go_at_call 25; refine (nRemove _ _ HN.out _ _).mono ?_; rintro e w1 ⟨rfl, HM⟩; replace HMw := hidN (HMw.out.trans HM); replace HN := hidN (HN.out.to HM); replace HMv := hidN (HMv.out.trans HM); clear HM d1 d2 d3 e0 e1; obtain ⟨d1, d2, d3, e0, e1⟩ := HD.out _ HMw.out) | (go_at_call 16; refine (nSlots _ _ HN.out _).mono ?_; rintro e w1 ⟨ba, bl, rfl, hba, HM⟩; have HA := hidN hba; replace HMw := hidN (HMw.out.trans HM); replace HN := hidN (HN.out.to HM); replace HMv := hidN (HMv.out.trans HM); clear HM hba d1 d2 d3 e0 e1; obtain ⟨d1, d2, d3, e0, e1⟩ := HD.out _ HMw.out) | (go_at_call 9; refine (num4 _ _).mono ?_; rintro e w' ⟨rfl, hw'⟩; rw [hw']; clear hw' w'))
    refine (wpIn_wide (n := 9)).1 ?_
    refine wpIn_rangeA rfl (enters_of Tryz.func57 (by kernel_rfl) rfl) (slots1 (fun _ => False) ba bl _ HA.out) (Below.refl _ _) (fun _ => rfl)
      (fun _ V => V.heap[D1]? = some (.deferred (some [])) ∧ Below W0.heap.size W0 V) (fun _ _ _ => False) (AbidesB.and (abidesB_block (Nat.lt_of_lt_of_le HK1.out.2.2 HMv.out.size)) (abidesB_below (Nat.le_refl _) HMw.out.size)) (fun _ => abidesB_pure _ _) ⟨(HMv.out.block D1 HK1.out.2.2 (fun h => h)).trans HK1.out.1, HMw.out.below (Nat.le_refl _) (fun _ _ h => h)⟩ ?round2 ?done2 ?stop2
    case round2 =>
      rintro l' pre x V hl' hl2 hI hpre
      have h1 := hpre.length_le
      simp at h1
    case stop2 =>
      rintro DD cc pre V hDD hpre hX hK
      exact hX.elim
    case done2 =>
      rintro D2 V2 hD2 ⟨hK1, hB2⟩ hK2
      have hne : D1 ≠ D2 := by have := HK1.out.2.2; have := HMv.out.size; omega
      have HK := hidN (show V2.heap[D1]? = some (.deferred (some [])) ∧ V2.heap[D2]? = some (.deferred (some [])) ∧ W0.heap.size ≤ D1 ∧ W0.heap.size ≤ D2 ∧ D1 ≠ D2 from ⟨hK1, hK2, HK1.out.2.1, Nat.le_trans HMw.out.size hD2, hne⟩)
      have HM2 := hidN (mod_of_below0 hB2)
      clear HMw HMv HN d1 d2 d3 e0 e1 hB2 hK1 hK2 hD2 HA HK1 hne
      obtain ⟨d1, d2, d3, e0, e1⟩ := HD.out _ HM2.out
      have HTr : Hid (TabIs V2) := HT.out.keep ((HM2.out.block 1 (Nat.lt_of_lt_of_le HT.out.lt HBW.out.size) (fun h => h)).trans (HBW.out.block 1 HT.out.lt))
      go_wp2_with fail
      rw [rounds_succ]
      go_wp2_with fail
      refine (awake4 _ HTr.out).mono ?_
      rintro e w3 ⟨rfl, M3⟩
      have hM3 := HM2.out.trans M3
      have hR3 : w3.heap[w.heap.size + 1]? = some (.cells #[.bool false] 4 (0, 0)) := (hM3.block _ (by omega) (fun h => h)).trans HR.out
      have c1 : w3.cell? ⟨w.heap.size + 1, 0, none⟩ = some (.bool false) := by rw [cell_of_row _ _ 0 _ _ _ hR3]; rfl
      have f1 : w3.frozen? ⟨w.heap.size + 1, 0, none⟩ = false := frozen_of_row _ _ 0 _ _ hR3
      have HE := hidN (show w3.heap[D1]? = some (.deferred (some [])) ∧ w3.heap[D2]? = some (.deferred (some [])) ∧ Below w.heap.size w w3 from ⟨(M3.block _ (Array.getElem?_eq_some_iff.1 HK.out.1).1 (fun h => h)).trans HK.out.1, (M3.block _ (Array.getElem?_eq_some_iff.1 HK.out.2.1).1 (fun h => h)).trans HK.out.2.1, mod_b hM3 HBW.out⟩)
      clear M3 hM3 hR3 d1 d2 d3 e0 e1
      go_wp2_with fail
      obtain ⟨w4, hw4⟩ : ∃ w4, w4 = w3.setCell ⟨w.heap.size + 1, 0, none⟩ (.bool true) := ⟨_, rfl⟩
      have h42 : w4.heap[D2]? = some (.deferred (some [])) := by rw [hw4]; exact (heap_setCell_other _ _ _ _ (by have := HK.out; show D2 ≠ w.heap.size + 1; omega)).trans HE.out.2.1
      have h41 : w4.heap[D1]? = some (.deferred (some [])) := by rw [hw4]; exact (heap_setCell_other _ _ _ _ (by have := HK.out; show D1 ≠ w.heap.size + 1; omega)).trans HE.out.1
      have hB4 : Below w.heap.size w w4 := by rw [hw4]; exact HE.out.2.2.setCell (p := ⟨w.heap.size + 1, 0, none⟩) (Nat.le_succ _) _
      have c4 : w4.cell? ⟨w.heap.size + 1, 0, none⟩ = some (.bool true) := by rw [hw4]; exact setCell_in _ _ _ _ _ c1
      rw [← hw4]
      clear hw4
      have hg5 := grownBy_putObj' w4 D2 (.deferred none)
      have h51 : (w4.putObj D2 (.deferred none)).heap[D1]? = some (.deferred (some [])) := (hg5.block D1 (Array.getElem?_eq_some_iff.1 h41).1 (fun e => HK.out.2.2.2.2 (Option.some.inj e))).trans h41
      have c5 : (w4.putObj D2 (.deferred none)).cell? ⟨w.heap.size + 1, 0, none⟩ = some (.bool true) := cellB_abides (C := w.heap.size + 2) (Nat.lt_succ_self _) [] _ _ (some D2) c4 hg5 (fun r e => by have := HK.out; cases e; omega)
      have hB5 : Below w.heap.size w (w4.putObj D2 (.deferred none)) := hB4.trans (belowK_b (w := w) (Nat.le_refl _) _ D2 _ _ (by have := HK.out; omega) h42 rfl rfl)
      have c6 : ((w4.putObj D2 (.deferred none)).putObj D1 (.deferred none)).cell? ⟨w.heap.size + 1, 0, none⟩ = some (.bool true) := cellB_abides (C := w.heap.size + 2) (Nat.lt_succ_self _) [] _ _ (some D1) c5 (grownBy_putObj' _ _ (.deferred none)) (fun r e => by have := HK.out; cases e; omega)
      have hB6 : Below w.heap.size w ((w4.putObj D2 (.deferred none)).putObj D1 (.deferred none)) := hB5.trans (belowK_b (w := w) (Nat.le_refl _) _ D1 _ _ (by have := HK.out; omega) h51 rfl rfl)
      refine ⟨by simp, .inl ⟨_, _, rfl, run_takeDeferred h42, ?_⟩⟩
      refine ⟨by simp, .inl ⟨_, _, rfl, run_takeDeferred h51, ?_⟩⟩
      exact ⟨_, results_cell1 rfl _ _ ⟨w.heap.size + 1, 0, none⟩ (.bool true) rfl (loadB c6), rfl, hB6⟩
end Go.Proofs.YtfmemkninmpfjaaGreatDoor
