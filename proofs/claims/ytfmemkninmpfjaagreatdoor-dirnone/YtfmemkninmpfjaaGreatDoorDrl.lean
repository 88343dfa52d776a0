/- Layer 4's Empty, Spare, Name and Slots of a table that no call made. -/
import Derived.Test.YtfmemkninmpfjaaGreatDoorDrk
import Derived.Test.YtfmemkninmpfjaaGreatDoorDr7
namespace Go.Proofs.YtfmemkninmpfjaaGreatDoor
open Go.RowKit Go.Shelf
theorem results_cell2 {P : Program} {fn : Func} {p q : Tmp} {ty tq : TypeId} (h : fn.results = #[.cell p ty, .cell q tq]) (tmps : Array Value) (w : World) (a b : Addr) (u v : Value) (ha : tmps.getD p undef = .pointer (some a)) (hb : tmps.getD q undef = .pointer (some b)) (hl : (loadVar ty a).run P w = .ok u w) (hl2 : (loadVar tq b).run P w = .ok v w) :
    (results fn tmps).run P w = .ok (.tuple #[u, v]) w := by
  have e : (results fn tmps).run P w = ((asAddr (tmps.getD p undef)).run P w).andThen fun a w₁ => ((loadVar ty a).run P w₁).andThen fun u w₂ => ((asAddr (tmps.getD q undef)).run P w₂).andThen fun b w₃ => ((loadVar tq b).run P w₃).andThen fun v w₄ => .ok (.tuple #[u, v]) w₄ := by
    simp only [results, h]
    simp [Sem.run_bind, Result.andThen]
  rw [e, ha]
  show ((loadVar ty a).run P w).andThen _ = _
  rw [hl, hb]
  show ((loadVar tq b).run P w).andThen _ = _
  rw [hl2]
  rfl
theorem mod_b {w W : World} (h : Mod (fun _ => False) w W) {w0 : World} (h0 : Below w0.heap.size w0 w) : Below w0.heap.size w0 W := h0.trans ((h.below (Nat.le_refl _) (fun _ _ h => h)).mono h0.size)
theorem new_cell {w W : World} {o : Obj} (hM : Mod (fun _ => False) (w.alloc o) W) (k : Nat) : W.cell? ⟨w.heap.size, k, none⟩ = (w.alloc o).cell? ⟨w.heap.size, k, none⟩ := hM.cell (p := ⟨w.heap.size, k, none⟩) (by simp) (fun h => h)
theorem new_frozen {w W : World} {o : Obj} (hM : Mod (fun _ => False) (w.alloc o) W) (k : Nat) : W.frozen? ⟨w.heap.size, k, none⟩ = (w.alloc o).frozen? ⟨w.heap.size, k, none⟩ := hM.frozen (p := ⟨w.heap.size, k, none⟩) (by simp) (fun h => h)
set_option maxRecDepth 100000 in
set_option maxHeartbeats 1000000 in
theorem nSpare (p : Value) (w : World) (H : NoTs p w) (a : Value) : Calls Tryz.prog 20 #[p, a] w fun e w' => e = .returned (.tuple #[.int .i64 0, .int .i64 14]) ∧ Mod (fun _ => False) w w' := by
  have HN := hidN H
  clear H
  go_enter Tryz.func20, Tryz.ntmps20
  go_wp2_with fail
  refine (nRead p _ HN.out a).mono ?_
  rintro e w1 ⟨rfl, HM1⟩
  have HM := hidN HM1
  clear HM1
  go_wp2
  go_ret2
  exact ⟨rfl, HM.out⟩
set_option maxRecDepth 100000 in
set_option maxHeartbeats 1000000 in
theorem nEmpty (p : Value) (w : World) (H : NoTs p w) (a : Value) : Calls Tryz.prog 19 #[p, a] w fun e w' => e = .returned (.tuple #[.bool false, .int .i64 14]) ∧ Mod (fun _ => False) w w' := by
  have HN := hidN H
  clear H
  go_enter Tryz.func19, Tryz.ntmps19
  go_wp2_with fail
  refine (nRead p _ (HN.out.to (((Mod.refl _ w).alloc _).alloc _)) a).mono ?_
  rintro e w1 ⟨rfl, HM1⟩
  have hB := hidN (mod_b HM1 (((Below.refl w.heap.size w).alloc (Nat.le_refl _) _).alloc (by simp) _))
  have k0 : w1.cell? ⟨w.heap.size, 0, none⟩ = some (.bool false) := by
    rw [HM1.cell (p := ⟨w.heap.size, 0, none⟩) (by simp; omega) (fun h => h), World.cell?_alloc_past _ _ _ (by simp), World.cell?_alloc_at _ _ _ _ rfl]; rfl
  have k1 : w1.cell? ⟨w.heap.size + 1, 0, none⟩ = some (.int .i64 0) := by
    rw [HM1.cell (p := ⟨w.heap.size + 1, 0, none⟩) (by simp) (fun h => h), World.cell?_alloc_at _ _ _ _ (by simp)]; rfl
  have f0 : w1.frozen? ⟨w.heap.size, 0, none⟩ = false := by
    rw [HM1.frozen (p := ⟨w.heap.size, 0, none⟩) (by simp; omega) (fun h => h), World.frozen?_alloc_past _ _ _ (by simp)]; exact frozen_of_row _ _ 0 _ _ (World.alloc_heap_new w _)
  have f1 : w1.frozen? ⟨w.heap.size + 1, 0, none⟩ = false := by
    rw [HM1.frozen (p := ⟨w.heap.size + 1, 0, none⟩) (by simp) (fun h => h)]
    have := World.alloc_heap_new (w.alloc (.cells #[.bool false] 4)) (.cells #[.int .i64 0] 23)
    rw [World.size_alloc] at this
    exact frozen_of_row _ _ 0 _ _ this
  clear HM1
  go_wp2
  refine bodyPost_ret (results_cell2 rfl _ _ ⟨w.heap.size, 0, none⟩ ⟨w.heap.size + 1, 0, none⟩ (.bool false) (.int .i64 14) rfl rfl ?_ ?_) rfl ⟨rfl, mod_of_below0 ((hB.out.setCell (p := ⟨w.heap.size, 0, none⟩) (Nat.le_refl _) _).setCell (p := ⟨w.heap.size + 1, 0, none⟩) (Nat.le_succ _) _)⟩
  · simp [go_sem, k0]
  · simp [go_sem, k1]
set_option maxRecDepth 100000 in
set_option maxHeartbeats 1000000 in
theorem nName (p : Value) (w : World) (H : NoTs p w) (a : Value) (b : Int) : Calls Tryz.prog 21 #[p, a, .int .i64 b] w fun e w' => e = .returned (.tuple #[.string ⟨#[]⟩, .int .i64 14]) ∧ Mod (fun _ => False) w w' := by
  have HN := hidN H
  clear H
  go_enter Tryz.func21, Tryz.ntmps21
  go_wp2_with fail
  refine (nRead p _ (HN.out.to ((((Mod.refl _ w).alloc _).alloc _).alloc _)) a).mono ?_
  rintro e w1 ⟨rfl, HM1⟩
  have hB := hidN (mod_b HM1 ((((Below.refl w.heap.size w).alloc (Nat.le_refl _) _).alloc (by simp) _).alloc (by simp; omega) _))
  have k0 : w1.cell? ⟨w.heap.size + 1, 0, none⟩ = some (.string ⟨#[]⟩) := by
    rw [HM1.cell (p := ⟨w.heap.size + 1, 0, none⟩) (by simp) (fun h => h), World.cell?_alloc_past _ _ _ (by simp), World.cell?_alloc_at _ _ _ _ (by simp)]; rfl
  have k1 : w1.cell? ⟨w.heap.size + 2, 0, none⟩ = some (.int .i64 0) := by
    rw [HM1.cell (p := ⟨w.heap.size + 2, 0, none⟩) (by simp) (fun h => h), World.cell?_alloc_at _ _ _ _ (by simp)]; rfl
  have f0 : w1.frozen? ⟨w.heap.size + 1, 0, none⟩ = false := by
    rw [HM1.frozen (p := ⟨w.heap.size + 1, 0, none⟩) (by simp) (fun h => h), World.frozen?_alloc_past _ _ _ (by simp)]
    have := World.alloc_heap_new (w.alloc (.cells #[.int .i64 b] 3)) (.cells #[.string ⟨#[]⟩] 9)
    rw [World.size_alloc] at this
    exact frozen_of_row _ _ 0 _ _ this
  have f1 : w1.frozen? ⟨w.heap.size + 2, 0, none⟩ = false := by
    rw [HM1.frozen (p := ⟨w.heap.size + 2, 0, none⟩) (by simp) (fun h => h)]
    have := World.alloc_heap_new ((w.alloc (.cells #[.int .i64 b] 3)).alloc (.cells #[.string ⟨#[]⟩] 9)) (.cells #[.int .i64 0] 23)
    rw [World.size_alloc, World.size_alloc] at this
    exact frozen_of_row _ _ 0 _ _ this
  clear HM1
  go_wp2
  refine bodyPost_ret (results_cell2 rfl _ _ ⟨w.heap.size + 1, 0, none⟩ ⟨w.heap.size + 2, 0, none⟩ (.string ⟨#[]⟩) (.int .i64 14) rfl rfl ?_ ?_) rfl ⟨rfl, mod_of_below0 ((hB.out.setCell (p := ⟨w.heap.size + 1, 0, none⟩) (Nat.le_succ _) _).setCell (p := ⟨w.heap.size + 2, 0, none⟩) (by show w.heap.size ≤ w.heap.size + 2; omega) _)⟩
  · simp [go_sem, k0]
  · simp [go_sem, k1]
/-- The iterator that Slots answers, where there is nothing. -/
theorem slots1 (own : Nat → Prop) (ba bl : Nat) (w : World) (h : w.cell? ⟨ba, 0, none⟩ = some (.slice none 0 0)) :
    SeqA Tryz.prog 57 #[.pointer (some ⟨ba, 0, none⟩), .pointer (some ⟨bl, 0, none⟩)] (fun _ : Nat => #[.int .i64 0, .int .i64 0]) own [] w := fun l J Jx W hW _ _ _ h0 => by
  have hc : W.cell? ⟨ba, 0, none⟩ = some (.slice none 0 0) := (hW.cell (p := ⟨ba, 0, none⟩) (block_lt_of_cell h)).trans h
  refine callsIn_of_wp Tryz.func57 rfl trivial ?_ rfl
  simp only [Tryz.ntmps57, List.size_toArray, List.length_cons, List.length_nil, Nat.reduceAdd, Nat.reduceSub, Array.replicate_succ, Array.replicate_zero, List.push_toArray, List.append_toArray, List.nil_append, List.cons_append]
  have HJ0 := hidN h0
  clear h0 hW h
  gi_wp2
  gi_loopw [8] (fun x wx => x = .int .i64 0 ∧ Hid (J [] wx)) (fun _ _ => 0)
  case atStart => exact ⟨rfl, HJ0⟩
  case round =>
    obtain ⟨rfl, HJr⟩ := hrel
    gi_wp2
    go_end0
    exact ⟨⟨_, rfl⟩, .inl HJr.out⟩
set_option maxRecDepth 100000 in
set_option maxHeartbeats 2000000 in
theorem nSlots (p : Option Addr) (w : World) (H : NoTs (.pointer p) w) (a : Value) : Calls Tryz.prog 16 #[.pointer p, a] w fun e w' => ∃ ba bl, e = .returned (.func (.func 57) #[] #[.pointer (some ⟨ba, 0, none⟩), .pointer (some ⟨bl, 0, none⟩)]) ∧ w'.cell? ⟨ba, 0, none⟩ = some (.slice none 0 0) ∧ Mod (fun _ => False) w w' := by
  have HN := hidN H
  have hz := zvSl
  clear H
  refine (callsIn_wide (n := 9)).1 ?_
  refine callsIn_of_wp_marks Tryz.func16 rfl trivial ?_ rfl
  simp only [Tryz.ntmps16, List.size_toArray, List.length_cons, List.length_nil, Nat.reduceAdd, Nat.reduceSub, Array.replicate_succ, Array.replicate_zero, List.push_toArray, List.append_toArray, List.nil_append, List.cons_append]
  refine wpIn_wide.2 ?_
  go_wp2_with fail
  refine (nRead (.pointer p) _ (HN.out.to ((((Mod.refl _ w).alloc _).alloc _).alloc _)) a).mono ?_
  rintro e w1 ⟨rfl, HM1⟩
  have hB := mod_b HM1 ((((Below.refl w.heap.size w).alloc (Nat.le_refl _) _).alloc (by simp) _).alloc (by simp; omega) _)
  have hF : w1.heap[w.heap.size + 1]? = some (.cells #[.slice none 0 0] 35 (0, 0)) := by
    rw [HM1.block (w.heap.size + 1) (by simp) (fun h => h), Below.heap_alloc _ _ _ (by simp)]
    have := World.alloc_heap_new (w.alloc (.cells #[.pointer p] 38)) (.cells #[.slice none 0 0] 35)
    rw [World.size_alloc] at this
    exact this
  have hs1 : w.heap.size + 2 < w1.heap.size := by have := HM1.size; simp at this; omega
  have HB := hidN hB
  have HF := hidN hF
  clear HM1 hB hF
  go_wp2_with (go_at_call 55; refine (taken_any none 0 0 _).mono ?_; rintro e w2 ⟨rfl, rfl⟩)
  obtain ⟨V0, hV0⟩ : ∃ V0, V0 = w1.alloc (.cells #[.slice none 0 0] 102) := ⟨_, rfl⟩
  have hsz : V0.heap.size = w1.heap.size + 1 := by rw [hV0]; simp
  have hBV : Below w.heap.size w V0 := by rw [hV0]; exact HB.out.alloc (by omega) _
  have hFV : V0.heap[w.heap.size + 1]? = some (.cells #[.slice none 0 0] 35 (0, 0)) := by rw [hV0]; exact (Below.heap_alloc _ _ _ (by omega)).trans HF.out
  have hA : AllAt V0 w1.heap.size none 0 0 (fun _ => 0) := ⟨by rw [hV0, World.cell?_alloc_at _ _ _ _ rfl]; rfl, ⟨Nat.le_refl _, by omega, fun _ => by omega, fun h => by omega⟩⟩
  rw [← hV0]
  clear hV0 HB HF
  refine (wpIn_wide (n := 9)).1 ?_
  refine wpIn_rangeA rfl (enters_of Tryz.func95 (by kernel_rfl) rfl) (taken1 (fun _ => False) w1.heap.size none 0 0 (fun _ => 0) (fun _ h => by cases h) V0 hA (fun _ h => h.elim)) (Below.refl _ _) (fun _ => rfl)
    (fun _ V => V.heap[w.heap.size + 1]? = some (.cells #[.slice none 0 0] 35 (0, 0)) ∧ Below w.heap.size w V)
    (fun _ _ _ => False)
    (AbidesB.and (abidesB_block (by omega)) (abidesB_below (Nat.le_refl _) (by omega)))
    (fun _ => abidesB_pure _ _)
    ⟨hFV, hBV⟩ ?round ?done ?stop
  case round =>
    rintro l' pre x V hl' hl2 hI hpre
    have h1 := hpre.length_le
    simp at h1
  case done =>
    rintro DD V hDD ⟨hFW, hBw⟩ hK
    have HE := hidN (show V.heap[DD]? = some (.deferred (some [])) ∧ Below w.heap.size w V ∧ V.heap[w.heap.size + 1]? = some (.cells #[.slice none 0 0] 35 (0, 0)) from ⟨hK, hBw, hFW⟩)
    clear hFW hBw hK
    go_wp2
    refine ⟨by simp, .inl ⟨_, _, rfl, run_takeDeferred HE.out.1, ?_⟩⟩
    refine ⟨_, results_tmp rfl _ _ _, ?_⟩
    refine ⟨w.heap.size + 1, w.heap.size + 2, rfl, ?_, mod_of_below0 (HE.out.2.1.trans (belowK_b (w := w) (Nat.le_refl _) _ DD _ _ (by omega) HE.out.1 rfl rfl))⟩
    have c1 : V.cell? ⟨w.heap.size + 1, 0, none⟩ = some (.slice none 0 0) := by rw [cell_of_row _ _ 0 _ _ _ HE.out.2.2]; rfl
    exact cellB_abides (C := w.heap.size + 2) (Nat.lt_succ_self _) [] _ _ (some DD) c1 (grownBy_putObj' _ _ (.deferred none)) (fun r e => by cases e; omega)
  case stop =>
    rintro DD cc pre V hDD hpre hX hK
    exact hX.elim
end Go.Proofs.YtfmemkninmpfjaaGreatDoor
