/- The walk of the plain list's Copy: another list, just like this one, in new memory. Conditions: the cells are as said. -/
import Derived.Test.YtipdpifpblaldaaDoorRCopyL
import Derived.Laws.ResultCell
namespace Go.Proofs.YtipdpifpblaldaaDoor
open Go.RowKit
def ons (u : Nat → Bool) (n : Nat) : List Value := (List.range n).map fun j => .bool (u j)
theorem ons_at (u : Nat → Bool) (n j : Nat) (hj : j < n) : (ons u n)[j]? = some (.bool (u j)) := by simp [ons, List.getElem?_map, List.getElem?_range hj]
theorem len_ons (u : Nat → Bool) (n : Nat) : (ons u n).length = n := by simp [ons]
structure CRows (w wr : World) (src : Nat → List Nat) (o0 g0 k : Nat) (v : Value) (vals : List Value) (R : Nat → Nat) : Prop where
  own : wr.ownsRow w.heap.size 33 1 v k vals
  vo : v.ownBlock ≠ some o0
  vg : v.ownBlock ≠ some g0
  row : ∀ j, j < k → ∃ cap, vals[j]? = some (.slice (some ⟨R j, 0, none⟩) (src j).length cap)
  ris : ∀ j, j < k → RowIs wr (R j) 5 ((src j).map byteV) ∧ w.heap.size ≤ R j ∧ R j ≠ o0 ∧ R j ≠ g0 ∧ v.ownBlock ≠ some (R j)
  inc : ∀ j j', j < j' → j' < k → R j < R j'
structure CI (w wr : World) (n : Nat) (u : Nat → Bool) (src : Nat → List Nat) (o0 g0 c0 k : Nat) (v : Value) : Prop where
  mod : Mod (fun _ => False) w wr
  co : wr.cell? ⟨o0, 0, none⟩ = some (.slice (some ⟨g0, 0, none⟩) n c0)
  cv : wr.cell? ⟨o0, 1, none⟩ = some v
  fo : wr.frozen? ⟨o0, 1, none⟩ = false
  on : RowIs wr g0 4 (ons u n)
  ow : w.heap.size ≤ o0
  gw : w.heap.size ≤ g0
  og : o0 ≠ g0
  rows : ∃ vals R, CRows w wr src o0 g0 k v vals R
theorem grew_mod {s : Nat → Prop} {a w w' : World} {h : Nat} (m : Mod s a w) (g : Grew w w' h) (hs : a.heap.size ≤ h) : Mod s a w' :=
  ⟨g.os.trans m.os, g.tape.trans m.tape, g.output.trans m.output, Nat.le_trans m.size g.size, fun k hk hn => (g.block k (Nat.lt_of_lt_of_le hk m.size) (by omega)).trans (m.block k hk hn)⟩
theorem CI.step {w wr w1 w3 : World} {n : Nat} {u : Nat → Bool} {src : Nat → List Nat} {o0 g0 c0 k : Nat} {v : Value} (C : CI w wr n u src o0 g0 c0 k v) {vals : List Value} {R : Nat → Nat} (CR : CRows w wr src o0 g0 k v vals R) (r cap g cap' : Nat)
    (h1 : RowIs w1 r 5 ((src k).map byteV)) (h2 : wr.heap.size ≤ r) (h3 : Grew (wr.alloc (.cells #[] 5)) w1 wr.heap.size)
    (h4 : w3.ownsRow w.heap.size 33 1 (.slice (some ⟨g, 0, none⟩) (k + 1) cap') (k + 1) (vals ++ [.slice (some ⟨r, 0, none⟩) (src k).length cap]))
    (h5 : (w1.alloc (.cells #[.slice (some ⟨r, 0, none⟩) (src k).length cap] 33)).grownBy w3 v.ownBlock) (h6 : v.ownBlock = some g ∨ g = (w1.alloc (.cells #[.slice (some ⟨r, 0, none⟩) (src k).length cap] 33)).heap.size) :
    CI w (w3.setCell ⟨o0, 1, none⟩ (.slice (some ⟨g, 0, none⟩) (k + 1) cap')) n u src o0 g0 c0 (k + 1) (.slice (some ⟨g, 0, none⟩) (k + 1) cap') := by
  have hs1 : wr.heap.size + 1 ≤ w1.heap.size := by have := h3.size; simpa using this
  have hs2 : (w1.alloc (.cells #[.slice (some ⟨r, 0, none⟩) (src k).length cap] 33)).heap.size = w1.heap.size + 1 := by simp
  rw [hs2] at h6
  have hs3 := h5.size
  rw [hs2] at hs3
  have hlo : o0 < wr.heap.size := block_lt_of_cell C.cv
  have hlg : g0 < wr.heap.size := C.on.lt
  have hlv : ∀ b, v.ownBlock = some b → b < wr.heap.size := fun b hb => (CR.own.lt b hb).2
  have hws := C.mod.size
  have old : ∀ b, b < wr.heap.size → v.ownBlock ≠ some b → w3.heap[b]? = wr.heap[b]? := fun b hb hv => by
    rw [h5.block b (by rw [hs2]; omega) (fun e => hv e.symm), Below.heap_alloc _ _ _ (by omega), h3.block b (by simp; omega) (by omega), Below.heap_alloc _ _ _ hb]
  have hr1 := h1.lt
  have hr3 : w3.heap[r]? = w1.heap[r]? := by
    rw [h5.block r (by rw [hs2]; omega) (fun e => by have := hlv r e.symm; omega), Below.heap_alloc _ _ _ hr1]
  have setO : ∀ b, b ≠ o0 → (w3.setCell ⟨o0, 1, none⟩ (.slice (some ⟨g, 0, none⟩) (k + 1) cap')).heap[b]? = w3.heap[b]? := fun b hb => Below.heap_setCell _ _ _ _ hb
  have ho3 : w3.heap[o0]? = wr.heap[o0]? := old o0 hlo CR.vo
  have hgo : g ≠ o0 := by
    rcases h6 with h | h
    · intro e; rw [e] at h; exact CR.vo h
    · omega
  have hgg : g ≠ g0 := by
    rcases h6 with h | h
    · intro e; rw [e] at h; exact CR.vg h
    · omega
  refine ⟨?_, ?_, ?_, ?_, ?_, C.ow, C.gw, C.og, vals ++ [.slice (some ⟨r, 0, none⟩) (src k).length cap], fun j => if j = k then r else R j, ?_⟩
  · have m1 : Mod (fun _ => False) w (w1.alloc (.cells #[.slice (some ⟨r, 0, none⟩) (src k).length cap] 33)) := (grew_mod (C.mod.alloc (.cells #[] 5)) h3 (by omega)).alloc _
    have m3 := m1.grown h5 (fun b hb => (CR.own.lt b hb).1)
    exact m3.further (s := fun b => b = o0) ((Mod.refl _ w3).setCell _ _ rfl) (fun i hi => by have := C.ow; omega)
  · rw [setCell_out _ _ _ _ _ (fun _ => by show (0 : Nat) ≠ 1; decide), World.cell?_of_block (w := wr) (a := ⟨o0, 0, none⟩) ho3]; exact C.co
  · exact setCell_in _ _ _ _ v (by rw [World.cell?_of_block (w := wr) (a := ⟨o0, 1, none⟩) ho3]; exact C.cv)
  · rw [setCell_frozen, World.frozen?_of_block (w := wr) (a := ⟨o0, 1, none⟩) ho3]; exact C.fo
  · exact C.on.keep (by rw [setO g0 (fun e => C.og e.symm), old g0 hlg CR.vg])
  · refine ⟨?_, ?_, ?_, ?_, ?_, ?_⟩
    · refine ⟨h4.1, ?_⟩
      rcases h4.2 with ⟨h, _⟩ | ⟨g', c', cur, hv, hb, hh, r1, r2, r3, r4⟩
      · cases h
      · cases hv
        exact .inr ⟨g, cap', cur, rfl, hb, by rw [setO g hgo]; exact hh, r1, r2, r3, r4⟩
    · simpa [Value.ownBlock] using hgo
    · simpa [Value.ownBlock] using hgg
    · intro j hj
      by_cases e : j = k
      · subst e
        refine ⟨cap, ?_⟩
        rw [if_pos rfl, List.getElem?_append_right (by have := CR.own.1; omega)]
        have := CR.own.1
        rw [show j - vals.length = 0 by omega]; rfl
      · obtain ⟨c', h'⟩ := CR.row j (by omega)
        refine ⟨c', ?_⟩
        rw [if_neg e, List.getElem?_append_left (by have := CR.own.1; omega)]; exact h'
    · intro j hj
      by_cases e : j = k
      · subst e
        simp only [↓reduceIte]
        refine ⟨h1.keep (by rw [setO r (by omega), hr3]), by omega, by omega, by omega, ?_⟩
        simp only [Value.ownBlock, ne_eq, Option.some.injEq]
        rcases h6 with h | h
        · have := hlv g h; omega
        · omega
      · simp only [if_neg e]
        obtain ⟨q1, q2, q3, q4, q5⟩ := CR.ris j (by omega)
        refine ⟨q1.keep (by rw [setO _ q3, old _ q1.lt q5]), q2, q3, q4, ?_⟩
        simp only [Value.ownBlock, ne_eq, Option.some.injEq]
        rcases h6 with h | h
        · intro e'; rw [e'] at h; exact q5 h
        · have := q1.lt; omega
    · intro j j' hjj hj'
      by_cases e : j' = k
      · subst e
        simp only [↓reduceIte, if_neg (show j ≠ j' by omega)]
        have := (CR.ris j (by omega)).1.lt; omega
      · simp only [if_neg e, if_neg (show j ≠ k by omega)]
        exact CR.inc j j' hjj (by omega)
theorem CI.after {w wr w1 : World} {n : Nat} {u : Nat → Bool} {src : Nat → List Nat} {o0 g0 c0 k : Nat} {v : Value} (C : CI w wr n u src o0 g0 c0 k v) {vals : List Value} {R : Nat → Nat} (CR : CRows w wr src o0 g0 k v vals R)
    (h3 : Grew (wr.alloc (.cells #[] 5)) w1 wr.heap.size) : w1.cell? ⟨o0, 1, none⟩ = some v ∧ w1.frozen? ⟨o0, 1, none⟩ = false ∧ o0 < w1.heap.size ∧ w1.ownsRow w.heap.size 33 1 v k vals := by
  have hlo : o0 < wr.heap.size := block_lt_of_cell C.cv
  have hs1 : wr.heap.size + 1 ≤ w1.heap.size := by have := h3.size; simpa using this
  have old : ∀ b, b < wr.heap.size → w1.heap[b]? = wr.heap[b]? := fun b hb => by
    rw [h3.block b (by simp; omega) (by omega), Below.heap_alloc _ _ _ hb]
  refine ⟨?_, ?_, by omega, ?_⟩
  · rw [World.cell?_of_block (w := wr) (a := ⟨o0, 1, none⟩) (old o0 hlo)]; exact C.cv
  · rw [World.frozen?_of_block (w := wr) (a := ⟨o0, 1, none⟩) (old o0 hlo)]; exact C.fo
  · refine ⟨CR.own.1, ?_⟩
    rcases CR.own.2 with h | ⟨g, c, cur, hv, hb, hh, rest⟩
    · exact .inl h
    · exact .inr ⟨g, c, cur, hv, hb, by rw [old g (Array.getElem?_eq_some_iff.1 hh).1]; exact hh, rest⟩
theorem CI.base {w wr w1 : World} {n : Nat} {u : Nat → Bool} {src : Nat → List Nat} {o0 g0 c0 k : Nat} {v : Value} (C : CI w wr n u src o0 g0 c0 k v) (h3 : Grew (wr.alloc (.cells #[] 5)) w1 wr.heap.size) (o : Obj) : w.heap.size ≤ (w1.alloc o).heap.size := by
  have h1 := C.mod.size
  have h2 := h3.size
  simp at h2 ⊢
  omega
theorem Grew.undrew {w w' : World} {h : Nat} (g : Grew w.drew w' h) : Grew w w' h := ⟨g.os, g.tape, g.output, g.size, g.block⟩
theorem CI.later {w1 w3 : World} {o0 : Nat} {v : Value} {o : Obj} (h1 : w1.cell? ⟨o0, 1, none⟩ = some v) (h2 : w1.frozen? ⟨o0, 1, none⟩ = false) (hlo : o0 < w1.heap.size) (hv : v.ownBlock ≠ some o0) (h5 : (w1.alloc o).grownBy w3 v.ownBlock) :
    w3.cell? ⟨o0, 1, none⟩ = some v ∧ w3.frozen? ⟨o0, 1, none⟩ = false := by
  have hb : w3.heap[o0]? = w1.heap[o0]? := by rw [h5.block o0 (by simp; omega) (fun e => hv e.symm), Below.heap_alloc _ _ _ hlo]
  exact ⟨by rw [World.cell?_of_block (w := w1) (a := ⟨o0, 1, none⟩) hb]; exact h1, by rw [World.frozen?_of_block (w := w1) (a := ⟨o0, 1, none⟩) hb]; exact h2⟩
theorem bs28 (w : World) : (Instr.buildSlice 28 0 #[]).run Tryd.prog w = .ok (.slice (some ⟨w.heap.size, 0, none⟩) 0 0) (w.alloc (.cells #[] 4)) := by kernel_rfl
theorem bs33 (w : World) : (Instr.buildSlice 33 0 #[]).run Tryd.prog w = .ok (.slice (some ⟨w.heap.size, 0, none⟩) 0 0) (w.alloc (.cells #[] 5)) := by kernel_rfl
theorem bs29 (w : World) (a : Option Addr) (k c : Nat) : (Instr.buildSlice 29 1 #[(0, .slice a k c)]).run Tryd.prog w = .ok (.slice (some ⟨w.heap.size, 0, none⟩) 1 1) (w.alloc (.cells #[.slice a k c] 33)) := by kernel_rfl
set_option maxRecDepth 100000 in
set_option maxHeartbeats 2000000 in
theorem rcopy_any (w : World) (tb n ob co yb cy : Nat) (u : Nat → Bool) (sv : Nat → Value) (src : Nat → List Nat) (hn : 1 ≤ n) (hn2 : n ≤ 4096) (hon : w.cell? ⟨tb, 0, none⟩ = some (.slice (some ⟨ob, 0, none⟩) n co)) (hyn : w.cell? ⟨tb, 1, none⟩ = some (.slice (some ⟨yb, 0, none⟩) n cy))
    (hoc : ∀ i, i < n → w.cell? ⟨ob, i, none⟩ = some (.bool (u i))) (hyc : ∀ i, i < n → w.cell? ⟨yb, i, none⟩ = some (sv i) ∧ SrcAt w (sv i) (src i) ∧ (src i).length ≤ 64) :
    Calls Tryd.prog 12 #[.pointer (some ⟨tb, 0, none⟩)] w fun e w' => ∃ wr o0 g0 c0 v, CI (w.alloc (.cells #[.slice none 0 0, .slice none 0 0] 31)) wr n u src o0 g0 c0 n v ∧ e = .returned (.agg #[.slice (some ⟨g0, 0, none⟩) n c0, v]) ∧ Mod (fun k => k = w.heap.size) wr w' := by
  obtain ⟨i4, q1, q2, q3, q4⟩ : ∃ i, Tryd.prog.info? 4 = some i ∧ i.zero = some (.bool false) ∧ i.size = 1 ∧ i.bytes = 1 := ⟨_, rfl, by kernel_rfl, by kernel_rfl, by kernel_rfl⟩
  have HI : Hid (Tryd.prog.info? 4 = some i4 ∧ i4.zero = some (.bool false) ∧ i4.size = 1 ∧ i4.bytes = 1) := ⟨q1, q2, q3, q4⟩
  have HO : Hid (∀ i, i < n → w.cell? ⟨ob, i, none⟩ = some (.bool (u i))) := hoc
  have HY : Hid (∀ i, i < n → w.cell? ⟨yb, i, none⟩ = some (sv i) ∧ SrcAt w (sv i) (src i) ∧ (src i).length ≤ 64) := hyc
  have hb28 := bs28
  have hb33 := bs33
  have hb29 := bs29
  have gt := block_lt_of_cell hyn
  clear q1 q2 q3 q4 hoc hyc
  go_enter Tryd.func12, Tryd.ntmps12
  go_wp2_with (at_builtin; go_must (refine wpList_append_lies _ rfl _ _ 28 rfl (w.heap.size + 1) 4 i4 (.bool false) 1 1 (by kernel_rfl) HI.out.1 HI.out.2.1 HI.out.2.2.1 HI.out.2.2.2 rfl (by decide) _ 0 [] rfl ?own ⟨ob, 0, none⟩ n co (ons u n) rfl ?c0 ?c1 ?c2 ?c3 ?c4 ?c5 ?c6 _ rfl ?_))
  case own =>
    have hs : (w.alloc (.cells #[.slice none 0 0, .slice none 0 0] 31)).heap.size = w.heap.size + 1 := by simp
    have := World.ownsRow_made (base := w.heap.size + 1) (e := 4) (size := 1) (w.alloc (.cells #[.slice none 0 0, .slice none 0 0] 31)) #[] 0 (by rw [hs]; exact Nat.le_refl _) (by unfold maxLen; omega) rfl
    rw [hs] at this
    exact this
  case c0 => exact len_ons u n
  case c1 =>
    intro j x hj
    have hj' : j < n := by have := (List.getElem?_eq_some_iff.1 hj).1; rw [len_ons] at this; exact this
    rw [ons_at u n j hj'] at hj
    have h := HO.out j hj'
    have hl := block_lt_of_cell h
    rw [World.cell?_alloc_past _ _ _ (by simp; exact Nat.lt_succ_of_lt hl), World.cell?_alloc_past _ _ _ hl, h]; exact hj
  case c2 => intro x hx; obtain ⟨j, _, rfl⟩ := List.mem_map.1 hx; rfl
  case c3 => omega
  case c4 => unfold maxLen; omega
  case c5 => omega
  intro g0 c0 w1 hown hgrow hor hlt
  have hM : Mod (fun _ => False) (w.alloc (.cells #[.slice none 0 0, .slice none 0 0] 31)) w1 := ((Mod.refl _ _).alloc (.cells #[] 4)).grown hgrow (fun k hk => by simp [Value.ownBlock] at hk; simp; omega)
  have hg0 : w.heap.size + 1 ≤ g0 := by
    rcases hor with h | h
    · simp [Value.ownBlock] at h; omega
    · omega
  have HC0 : Hid (CI (w.alloc (.cells #[.slice none 0 0, .slice none 0 0] 31)) (w1.alloc (.cells #[.slice (some ⟨g0, 0, none⟩) n c0, .slice none 0 0] 31)) n u src w1.heap.size g0 c0 0 (.slice none 0 0)) := {
    mod := hM.alloc _
    co := by rw [World.cell?_alloc_at _ _ _ _ rfl]; rfl
    cv := by rw [World.cell?_alloc_at _ _ _ _ rfl]; rfl
    fo := World.frozen?_alloc_at _ _ _ _ rfl
    on := (rowIs_owned hown).keep (Below.heap_alloc _ _ _ hlt)
    ow := hM.size
    gw := by simpa using hg0
    og := by omega
    rows := ⟨[], fun _ => 0, World.ownsRow_nil _ _ _ _, by simp [Value.ownBlock], by simp [Value.ownBlock], fun j hj => by omega, fun j hj => by omega, fun j j' _ hj => by omega⟩ }
  have hw0 : w.heap.size < w1.heap.size := by have := hM.size; simp at this; omega
  have hy1 : w1.cell? ⟨tb, 1, none⟩ = some (.slice (some ⟨yb, 0, none⟩) n cy) := by
    rw [hM.cell (p := ⟨tb, 1, none⟩) (by simp; omega) (fun h => h), World.cell?_alloc_past _ _ _ gt]; exact hyn
  have gt1 : tb < w1.heap.size := by omega
  clear hown hgrow hor hlt hM hon hyn
  go_wp2_with fail
  generalize hW0 : w.alloc (.cells #[.slice none 0 0, .slice none 0 0] 31) = wA at *
  have HW0 : Hid (w.alloc (.cells #[.slice none 0 0, .slice none 0 0] 31) = wA) := hW0
  have hsA : wA.heap.size = w.heap.size + 1 := by rw [← hW0]; simp
  have HsA : Hid (wA.heap.size = w.heap.size + 1) := hsA
  have hold : ∀ wr, Mod (fun _ => False) wA wr → Mod (fun _ => False) w wr := fun wr h => by rw [← hW0] at h; exact ((Mod.refl _ w).alloc _).further h (fun _ _ h => h)
  have HOld : Hid (∀ wr, Mod (fun _ => False) wA wr → Mod (fun _ => False) w wr) := hold
  clear hW0 hsA hold
  generalize ho0 : w1.heap.size = o0 at *
  clear ho0
  go_loopw [18] (fun x wr => ∃ k v, k ≤ n ∧ x = .int .i64 (k : Nat) ∧ Hid (CI wA wr n u src o0 g0 c0 k v)) (fun x _ => n - (intOf x).toNat)
  case atStart => exact ⟨0, _, Nat.zero_le _, rfl, HC0⟩
  case round =>
    clear HC0 hw0 hy1 gt1
    obtain ⟨k, v, hk, rfl, HC⟩ := hrel
    by_cases hlt : k < n
    · obtain ⟨vals, R, hCR⟩ := HC.out.rows
      have HCR : Hid (CRows wA wr src o0 g0 k v vals R) := hCR
      obtain ⟨hcy, hsv, hl64⟩ := HY.out k hlt
      have hcy' : wr.cell? ⟨yb, k, none⟩ = some (sv k) := by rw [(HOld.out wr HC.out.mod).cell (p := ⟨yb, k, none⟩) (block_lt_of_cell hcy) (fun h => h)]; exact hcy
      have HSV : Hid (SrcAt wr (sv k) (src k)) := hsv.keep (HOld.out wr HC.out.mod)
      have hcv := HC.out.cv
      have hfo := HC.out.fo
      have hlo : o0 < wr.heap.size := block_lt_of_cell hcv
      have hlt' : (k : Int) < n := by omega
      clear hCR hcy hsv
      go_wp2_with fail
      go_region_law (first | (refine step_inner rfl _ _ rfl wr.heap.size rfl (by exact heap_alloc_new wr _) (sv k) rfl (src k) hl64 (by exact HSV.out.keep (((Mod.refl _ wr).alloc _).drewN 1)) ?_; intro r cap w2 h1 h2 h3'; have h3 := h3'.undrew; obtain ⟨hcv2, hfo2, hlo2, hown2⟩ := HC.out.after HCR.out h3; have H1 : Hid (RowIs w2 r 5 ((src k).map byteV)) := h1; have H2 : Hid (wr.heap.size ≤ r) := h2; have H3 : Hid (Grew (wr.alloc (.cells #[] 5)) w2 wr.heap.size) := h3; have HO2 : Hid (w2.ownsRow wA.heap.size 33 1 v k vals) := hown2; clear h1 h2 h3 h3' hown2) | (refine step_outer rfl _ _ rfl wA.heap.size v k vals rfl (by exact HO2.out.alloc _) (by omega) w2.heap.size rfl (.slice (some ⟨r, 0, none⟩) (src k).length cap) (by exact heap_alloc_new w2 _) rfl (by exact HC.out.base H3.out _) ?_; intro g cap' w3 h4 h5 h6; obtain ⟨hcv3, hfo3⟩ := CI.later hcv2 hfo2 hlo2 HCR.out.vo h5; have HN := HC.out.step HCR.out r cap g cap' H1.out H2.out H3.out h4 h5 h6; clear h4 h5 h6))
      all_goals
        go_wp2
        exact ⟨⟨k + 1, _, hlt, by go_num, HN⟩, by simp [intOf]; omega⟩
    · obtain rfl : k = n := by omega
      obtain ⟨gv, cgv, rfl⟩ : ∃ g cap, v = .slice (some ⟨g, 0, none⟩) k cap := by
        obtain ⟨vals, R, hCR⟩ := HC.out.rows
        obtain ⟨g, cap, h, _⟩ := hCR.own.form hn
        exact ⟨g, cap, h⟩
      have hm := HC.out.mod
      have hco := HC.out.co
      have hcv := HC.out.cv
      have hlw : w.heap.size < wA.heap.size := by have := HsA.out; omega
      have hbk : wr.heap[w.heap.size]? = some (.cells #[.slice none 0 0, .slice none 0 0] 31 (0, 0)) := by
        rw [hm.block _ hlw (fun h => h), ← HW0.out]; exact heap_alloc_new w _
      have hr0 : wr.cell? ⟨w.heap.size, 0, none⟩ = some (.slice none 0 0) := by rw [cell_of_row wr _ 0 _ 31 (0, 0) hbk]; rfl
      have hr1 : wr.cell? ⟨w.heap.size, 1, none⟩ = some (.slice none 0 0) := by rw [cell_of_row wr _ 1 _ 31 (0, 0) hbk]; rfl
      have hf0 : ∀ o, wr.frozen? ⟨w.heap.size, o, none⟩ = false := fun o => frozen_of_row wr _ o _ 31 hbk
      have how := HC.out.ow
      have hne : ¬ o0 = w.heap.size := by omega
      have hne' : ¬ w.heap.size = o0 := by omega
      clear hm hbk
      go_wp2
      refine bodyPost_ret (v := .agg #[.slice (some ⟨g0, 0, none⟩) k c0, .slice (some ⟨gv, 0, none⟩) k cgv]) ?_ rfl ⟨wr, o0, g0, c0, _, by rw [HW0.out]; exact HC.out, rfl, ((Mod.refl (fun b => b = w.heap.size) wr).setCell _ _ rfl).setCell _ _ rfl⟩
      simp [results, Tryd.results12, go_sem, *]
end Go.Proofs.YtipdpifpblaldaaDoor
