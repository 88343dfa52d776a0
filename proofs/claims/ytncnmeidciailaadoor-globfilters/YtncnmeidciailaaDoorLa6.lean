/- The walk of the program's piece. Conditions: a text that fits; what bracket answers, as a premise. -/
import Derived.Test.YtncnmeidciailaaDoorLa5
namespace Go.Proofs.YtncnmeidciailaaDoor
open Go.RowKit
attribute [local go_sem] ext_eq app_eq get_eq
namespace Gl
theorem piece_star {f : Fl} {l : List UInt8} {k : Nat} (h : k < l.length) (hc : l[k] = 42) : piece f (l.drop k) = (.star, 1) := by
  rw [List.drop_eq_getElem_cons h]; unfold piece; simp [hc]
theorem piece_any {f : Fl} {l : List UInt8} {k : Nat} (h : k < l.length) (hc : l[k] = 63) : piece f (l.drop k) = (.any, 1) := by
  rw [List.drop_eq_getElem_cons h]; unfold piece; simp [hc]
theorem piece_br {f : Fl} {l : List UInt8} {k : Nat} (h : k < l.length) (hc : l[k] = 91) {g : UInt8 → Bool} {n : Nat} (hb : bracket f (l.drop (k + 1)) = some (g, n)) : piece f (l.drop k) = (.some g, n + 1) := by
  rw [List.drop_eq_getElem_cons h]; unfold piece; simp [hc, hb]
theorem piece_nb {f : Fl} {l : List UInt8} {k : Nat} (h : k < l.length) (hc : l[k] = 91) (hb : bracket f (l.drop (k + 1)) = none) : piece f (l.drop k) = (.this (fold f (one f (l.drop k)).1), (one f (l.drop k)).2) := by
  rw [List.drop_eq_getElem_cons h]; unfold piece; simp [hc, hb]
theorem piece_else {f : Fl} {l : List UInt8} {k : Nat} (h : k < l.length) (h1 : l[k] ≠ 42) (h2 : l[k] ≠ 63) (h3 : l[k] ≠ 91) : piece f (l.drop k) = (.this (fold f (one f (l.drop k)).1), (one f (l.drop k)).2) := by
  rw [List.drop_eq_getElem_cons h]; unfold piece; simp [h1, h2, h3]
end Gl
theorem set3_heap (W : World) (z g : Nat) (v0 v1 v2 : Value) (h : g ≠ z) : (((W.setCell ⟨z, 0, none⟩ v0).setCell ⟨z, 1, none⟩ v1).setCell ⟨z, 2, none⟩ v2).heap[g]? = W.heap[g]? := by
  rw [Below.heap_setCell _ _ _ _ h, Below.heap_setCell _ _ _ _ h, Below.heap_setCell _ _ _ _ h]
theorem sbNew.of {W W' : World} {sb sb' : Option Nat} (h : sbNew W sb sb') (hs : W'.heap.size ≤ W.heap.size) : sbNew W' sb sb' := by
  rcases h with h | ⟨h, b, h2, h3⟩
  · exact .inl h
  · exact .inr ⟨h, b, h2, by omega⟩
theorem RS.tag {W : World} {rb : Nat} {l : List UInt8} {fl : Int} {sb : Option Nat} {k z : Nat} {cs : Array Value} {T : TypeId} {fr : Nat × Nat} (h : RS W rb l fl sb k) (hz : W.heap[z]? = some (.cells cs T fr)) (h1 : T ≠ 82) (h2 : T ≠ 4) : rb ≠ z ∧ ∀ b, sb = some b → b ≠ z := by
  obtain ⟨sv, h3, h4⟩ := h
  refine ⟨heap_ne h3 hz (Ne.symm h1), fun b e => ?_⟩
  subst e
  obtain ⟨sn, arr, cap, _, h5, _⟩ := h4
  exact heap_ne h5 hz (Ne.symm h2)
/-- What piece tells. -/
def PcOut (l : List UInt8) (fl : Int) (rb : Nat) (sb : Option Nat) (k : Nat) (W : World) (e : Ending) (w' : World) : Prop :=
  Md (sR rb sb) W w' ∧ ∃ sb' p, sbNew W sb sb' ∧ RS w' rb l fl sb' (k + (Gl.piece (Gl.flOf fl) (l.drop k)).2) ∧ PcT w' (Gl.piece (Gl.flOf fl) (l.drop k)).1 p ∧
    e = .returned (.tuple #[.agg #[.int .i64 (Gl.piece (Gl.flOf fl) (l.drop k)).1.kd, .int .u8 (Gl.piece (Gl.flOf fl) (l.drop k)).1.by_, .pointer p], .int .i64 ((k + (Gl.piece (Gl.flOf fl) (l.drop k)).2 : Nat) : Int)])
set_option maxRecDepth 100000 in
set_option maxHeartbeats 2000000 in
theorem gPiece (rb : Nat) (l : List UInt8) (fl : Int) (sb : Option Nat) (k : Nat) (hk : k < l.length) (hl : l.length ≤ 2 ^ 47) (w : World) (h : RS w rb l fl sb k)
    (hbr : l[k] = 91 → ∀ W, Below w.heap.size w W → RS W rb l fl sb k → Calls Tryd.prog 73 #[.pointer (some ⟨rb, 0, none⟩), .int .i64 ((k + 1 : Nat) : Int)] W (BrOut l fl rb sb k W)) :
    Calls Tryd.prog 56 #[.pointer (some ⟨rb, 0, none⟩), .int .i64 k] w (PcOut l fl rb sb k w) := by
  have hs : (⟨l.toArray⟩ : ByteArray).size = l.length := str_size l
  have hw1 : IntKind.i64.wrap ((k : Int) + 1) = ((k + 1 : Nat) : Int) := by rw [IntKind.wrap_i64]; omega
  obtain ⟨hrb, hsb⟩ := h.lt
  obtain ⟨q0, q1⟩ := h.cells
  have HR := hidA h
  clear h
  have hne : rb ≠ w.heap.size := by omega
  by_cases c1 : l[k] = 42
  · have HE := hidA (Gl.piece_star (f := Gl.flOf fl) hk c1)
    have hc1 := byte_yes _ 42 42 rfl c1
    clear c1 hbr
    go_enter Tryd.func56, Tryd.ntmps56
    go_wp2
    refine bodyPost_ret (v := .tuple #[.agg #[.int .i64 0, .int .u8 0, .pointer none], .int .i64 ((k + 1 : Nat) : Int)]) (by simp [results, Tryd.results56, go_sem]) rfl ?_
    unfold PcOut
    rw [HE.out]
    have hB := (Below.refl w.heap.size w).alloc (Nat.le_refl _) (Obj.cells #[.int .i64 0, .int .u8 0, .pointer none] 84)
    exact ⟨Md.of_below hB, sb, none, .inl rfl, (HR.out.grow hB).mono (by simp), rfl, rfl⟩
  have hc1 := byte_no _ 42 42 rfl c1
  by_cases c2 : l[k] = 63
  · have HE := hidA (Gl.piece_any (f := Gl.flOf fl) hk c2)
    have hc2 := byte_yes _ 63 63 rfl c2
    clear c1 c2 hbr
    go_enter Tryd.func56, Tryd.ntmps56
    go_wp2
    refine bodyPost_ret (v := .tuple #[.agg #[.int .i64 1, .int .u8 0, .pointer none], .int .i64 ((k + 1 : Nat) : Int)]) (by simp [results, Tryd.results56, go_sem]) rfl ?_
    unfold PcOut
    rw [HE.out]
    have hB := (Below.refl w.heap.size w).alloc (Nat.le_refl _) (Obj.cells #[.int .i64 1, .int .u8 0, .pointer none] 84)
    exact ⟨Md.of_below hB, sb, none, .inl rfl, (HR.out.grow hB).mono (by simp), rfl, rfl⟩
  have hc2 := byte_no _ 63 63 rfl c2
  have HLt := hidA (fun W h0 h1 => gLetter rb l fl k hk hl W h0 h1)
  have HFo := hidA (fun c W => gFolded c fl W)
  have HLp := hidA (Gl.one_pos (Gl.flOf fl) (l.drop k) (by intro e; have := congrArg List.length e; simp at this; omega)).1
  have hB0 := (Below.refl w.heap.size w).alloc (Nat.le_refl _) (Obj.cells #[.int .i64 0, .int .u8 0, .pointer none] 84)
  have HR0 := hidA (HR.out.grow hB0)
  have HB0 := hidA hB0
  have HM0 : Hid (Md (sR rb sb) w (w.alloc (Obj.cells #[.int .i64 0, .int .u8 0, .pointer none] 84))) := Md.of_below hB0
  clear hB0
  by_cases c3 : l[k] = 91
  · have hc3 := byte_yes _ 91 91 rfl c3
    have HBr := hidA (hbr c3)
    clear hbr
    cases hbk : Gl.bracket (Gl.flOf fl) (l.drop (k + 1)) with
    | some q =>
      obtain ⟨g, n⟩ := q
      have HE := hidA (Gl.piece_br (f := Gl.flOf fl) hk c3 hbk)
      have Hbk := hidA hbk
      clear c1 c2 c3 hbk HLt HFo
      go_enter Tryd.func56, Tryd.ntmps56
      go_wp2_with (go_at_call 73; refine (HBr.out _ HB0.out HR0.out).mono ?_; rintro e w1 ⟨hM, sb', hsn, hbb⟩; rw [Hbk.out] at hbb; obtain ⟨b, rfl, hST, hRS⟩ := hbb; (have HM := hidA hM); (have HS := hidA hsn); (have HT := hidA hST); (have HRS := hidA hRS); (have hz := (hM.block w.heap.size (by simp) (fun h => h.elim (fun e => hne e.symm) (fun e => absurd (hsb _ e).1 (Nat.lt_irrefl _)))).trans (heap_new _ _)); (have z0 : w1.cell? ⟨w.heap.size, 0, none⟩ = some (.int .i64 0) := by rw [cell_heap hz]; rfl); (have z1 : w1.cell? ⟨w.heap.size, 1, none⟩ = some (.int .u8 0) := by rw [cell_heap hz]; rfl); (have z2 : w1.cell? ⟨w.heap.size, 2, none⟩ = some (.pointer none) := by rw [cell_heap hz]; rfl); (have hfz : ∀ j, w1.frozen? ⟨w.heap.size, j, none⟩ = false := fun j => by simp [World.frozen?, hz]); (have hsz1 : w.heap.size < w1.heap.size := heap_lt hz); (have Hz := hidA hz); clear hM hsn hST hRS hz)
      refine bodyPost_ret (v := .tuple #[.agg #[.int .i64 3, .int .u8 0, .pointer (some ⟨b, 0, none⟩)], .int .i64 ((k : Int) + 1 + n)]) (by simp [results, Tryd.results56, go_sem, z0, z1, z2]) rfl ?_
      unfold PcOut
      rw [HE.out]
      obtain ⟨t1, t2⟩ := HRS.out.tag Hz.out (by decide) (by decide)
      obtain ⟨arr, hb1, hb2⟩ := HT.out
      refine ⟨(((HM0.out.trans HM.out).setCell _ _ (.inr (Nat.le_refl _))).setCell _ _ (.inr (Nat.le_refl _))).setCell _ _ (.inr (Nat.le_refl _)), sb', _, HS.out.of (by simp), (HRS.out.on (set3_heap _ _ _ _ _ _ t1) (fun b e => set3_heap _ _ _ _ _ _ (t2 b e))).mono (by simp; omega), ⟨b, rfl, arr, (set3_heap _ _ _ _ _ _ (heap_ne hb1 Hz.out (by decide))).trans hb1, hb2⟩, ?_⟩
      show Ending.returned _ = Ending.returned _
      rw [show (k : Int) + 1 + n = ((k + (n + 1) : Nat) : Int) by omega]
      rfl
    | none =>
      have HE := hidA (Gl.piece_nb (f := Gl.flOf fl) hk c3 hbk)
      have Hbk := hidA hbk
      clear c1 c2 c3 hbk
      generalize Gl.one (Gl.flOf fl) (l.drop k) = O at *
      obtain ⟨oc, on⟩ := O
      dsimp only at *
      have hon : 1 ≤ on := by have := HLp.out; exact this
      go_enter Tryd.func56, Tryd.ntmps56
      go_wp2_with (first | (go_at_call 73; refine (HBr.out _ HB0.out HR0.out).mono ?_; rintro e w1 ⟨hM, sb', hsn, hbb⟩; rw [Hbk.out] at hbb; obtain ⟨rfl, hRS⟩ := hbb; (have HM := hidA hM); (have HS := hidA hsn); (have HRS := hidA hRS); (have hz := (hM.block w.heap.size (by simp) (fun h => h.elim (fun e => hne e.symm) (fun e => absurd (hsb _ e).1 (Nat.lt_irrefl _)))).trans (heap_new _ _)); (have z0 : w1.cell? ⟨w.heap.size, 0, none⟩ = some (.int .i64 0) := by rw [cell_heap hz]; rfl); (have z1 : w1.cell? ⟨w.heap.size, 1, none⟩ = some (.int .u8 0) := by rw [cell_heap hz]; rfl); (have z2 : w1.cell? ⟨w.heap.size, 2, none⟩ = some (.pointer none) := by rw [cell_heap hz]; rfl); (have hfz : ∀ j, w1.frozen? ⟨w.heap.size, j, none⟩ = false := fun j => by simp [World.frozen?, hz]); (have hsz1 : w.heap.size < w1.heap.size := heap_lt hz); (have Hz := hidA hz); (obtain ⟨y0, y1⟩ := hRS.cells); clear hM hsn hRS hz) | (go_at_call 74; refine (HLt.out _ HRS.out.cells.1 HRS.out.cells.2).mono ?_; rintro e w2 ⟨rfl, hw'⟩; rw [hw']; clear hw' w2) | (go_at_call 75; refine (HFo.out _ _).mono ?_; rintro e w2 ⟨rfl, hw'⟩; rw [hw']; clear hw' w2))
      refine bodyPost_ret (v := .tuple #[.agg #[.int .i64 2, .int .u8 (Gl.fold (Gl.flOf fl) oc).toNat, .pointer none], .int .i64 ((k + on : Nat) : Int)]) (by simp [results, Tryd.results56, go_sem, z0, z1, z2]) rfl ?_
      unfold PcOut
      rw [HE.out]
      obtain ⟨t1, t2⟩ := HRS.out.tag Hz.out (by decide) (by decide)
      exact ⟨(((HM0.out.trans HM.out).setCell _ _ (.inr (Nat.le_refl _))).setCell _ _ (.inr (Nat.le_refl _))).setCell _ _ (.inr (Nat.le_refl _)), sb', _, HS.out.of (by simp), (HRS.out.on (set3_heap _ _ _ _ _ _ t1) (fun b e => set3_heap _ _ _ _ _ _ (t2 b e))).mono (by simp; omega), rfl, rfl⟩
  · have hc3 := byte_no _ 91 91 rfl c3
    have HE := hidA (Gl.piece_else (f := Gl.flOf fl) hk c1 c2 c3)
    clear c1 c2 c3 hbr
    generalize Gl.one (Gl.flOf fl) (l.drop k) = O at *
    obtain ⟨oc, on⟩ := O
    dsimp only at *
    go_enter Tryd.func56, Tryd.ntmps56
    go_wp2_with (first | (go_at_call 74; refine (HLt.out _ HR0.out.cells.1 HR0.out.cells.2).mono ?_; rintro e w1 ⟨rfl, hw'⟩; rw [hw']; clear hw' w1) | (go_at_call 75; refine (HFo.out _ _).mono ?_; rintro e w1 ⟨rfl, hw'⟩; rw [hw']; clear hw' w1))
    refine bodyPost_ret (v := .tuple #[.agg #[.int .i64 2, .int .u8 (Gl.fold (Gl.flOf fl) oc).toNat, .pointer none], .int .i64 ((k + on : Nat) : Int)]) (by simp [results, Tryd.results56, go_sem]) rfl ?_
    unfold PcOut
    rw [HE.out]
    have hB := (Below.refl w.heap.size w).alloc (Nat.le_refl _) (Obj.cells #[.int .i64 2, .int .u8 (Gl.fold (Gl.flOf fl) oc).toNat, .pointer none] 84)
    exact ⟨Md.of_below hB, sb, none, .inl rfl, (HR.out.grow hB).mono (by simp), rfl, rfl⟩
end Go.Proofs.YtncnmeidciailaaDoor
