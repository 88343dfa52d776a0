/- Two laws for the plain list's Copy: what the inner and the outer append of a round leave. -/
import Derived.Test.YtipdpifpblaldaaDoorRefX
import Derived.Deep.AppendLies
import Derived.Deep.RegionLaw
namespace Go.Proofs.YtipdpifpblaldaaDoor
open Go.RowKit
theorem info5 : ∃ i, Tryd.prog.info? 5 = some i ∧ i.zero = some (.int .u8 0) ∧ i.size = 1 ∧ i.bytes = 1 := ⟨_, rfl, by kernel_rfl, by kernel_rfl, by kernel_rfl⟩
theorem info33 : ∃ i, Tryd.prog.info? 33 = some i ∧ i.zero = some (.slice none 0 0) ∧ i.size = 1 ∧ i.bytes = 24 := ⟨_, rfl, by kernel_rfl, by kernel_rfl, by kernel_rfl⟩
theorem und29 : Tryd.prog.underlying 29 = some (.slice 33) := by kernel_rfl
/-- Block r begins with these cells. -/
def RowIs (w : World) (r : Nat) (t : TypeId) (vs : List Value) : Prop := ∃ cur, w.heap[r]? = some (.cells cur t (0, 0)) ∧ ∀ (j : Nat) (v : Value), vs[j]? = some v → cur[j]? = some v
theorem RowIs.cell {w : World} {r : Nat} {t : TypeId} {vs : List Value} (h : RowIs w r t vs) (j : Nat) (v : Value) (hj : vs[j]? = some v) : w.cell? ⟨r, j, none⟩ = some v := by
  obtain ⟨cur, h1, h2⟩ := h; rw [cell_of_row w r j cur t (0, 0) h1]; exact h2 j v hj
theorem RowIs.frozen {w : World} {r : Nat} {t : TypeId} {vs : List Value} (h : RowIs w r t vs) (j : Nat) : w.frozen? ⟨r, j, none⟩ = false := by
  obtain ⟨cur, h1, _⟩ := h; exact frozen_of_row w r j cur t h1
theorem RowIs.keep {w w' : World} {r : Nat} {t : TypeId} {vs : List Value} (h : RowIs w r t vs) (hb : w'.heap[r]? = w.heap[r]?) : RowIs w' r t vs := by
  obtain ⟨cur, h1, h2⟩ := h; exact ⟨cur, by rw [hb]; exact h1, h2⟩
theorem RowIs.lt {w : World} {r : Nat} {t : TypeId} {vs : List Value} (h : RowIs w r t vs) : r < w.heap.size := by
  obtain ⟨cur, h1, _⟩ := h; exact (Array.getElem?_eq_some_iff.1 h1).1
theorem rowIs_owned {w : World} {base e n g cap : Nat} {xs : List Value} (h : w.ownsRow base e 1 (.slice (some ⟨g, 0, none⟩) n cap) n xs) : RowIs w g e xs := by
  rcases h.2 with ⟨h, _⟩ | ⟨g', cap', cur, hv, _, hh, _, _, _, ht⟩
  · cases h
  · cases hv
    refine ⟨cur, hh, fun j v hj => ?_⟩
    rw [← ht, List.getElem?_take] at hj
    split at hj
    · simpa using hj
    · cases hj
/-- The bytes l can be read out of this slice. -/
def SrcAt (w : World) (v : Value) (l : List Nat) : Prop := (v = .slice none 0 0 ∧ l = []) ∨ ∃ r cap, v = .slice (some ⟨r, 0, none⟩) l.length cap ∧ ∀ j x, l[j]? = some x → w.cell? ⟨r, j, none⟩ = some (byteV x)
theorem SrcAt.keep {w w' : World} {v : Value} {l : List Nat} (h : SrcAt w v l) (hm : Mod (fun _ => False) w w') : SrcAt w' v l := by
  rcases h with h | ⟨r, cap, h1, h2⟩
  · exact .inl h
  · refine .inr ⟨r, cap, h1, fun j x hj => ?_⟩
    have := h2 j x hj
    rw [hm.cell (p := ⟨r, j, none⟩) (block_lt_of_cell this) (fun h => h)]; exact this
/-- What an append leaves: all old blocks but h are as they were. -/
structure Grew (w w' : World) (h : Nat) : Prop where
  os : w'.os = w.os
  tape : w'.tape = w.tape
  output : w'.output = w.output
  size : w.heap.size ≤ w'.heap.size
  block : ∀ k, k < w.heap.size → k ≠ h → w'.heap[k]? = w.heap[k]?
theorem step_inner {ops : Array Oper} {o : Oper} {a : Act} {w : World} {K : Act → World → Prop} {Q : Exit → Act → World → Prop} {E : Prop} (hgd : o.guard = none) (s x : Operand)
    (ho : o.op = .call { callee := .builtin .append, args := #[s, x], argTypes := #[33, 33] }) (h : Nat) (hs : a.eval s = .slice (some ⟨h, 0, none⟩) 0 0) (hh : w.heap[h]? = some (.cells #[] 5 (0, 0)))
    (v : Value) (hx : a.eval x = v) (l : List Nat) (hl : l.length ≤ 64) (hsrc : SrcAt w v l)
    (hK : ∀ r cap w', RowIs w' r 5 (l.map byteV) → h ≤ r → Grew w w' h → K (a.put o.dst (.slice (some ⟨r, 0, none⟩) l.length cap)) w') :
    if Region.wanted o (yielded ops a.tmps) = true then Oper.wp Tryd.prog o a w K Q else E := by
  have hw : Region.wanted o (yielded ops a.tmps) = true := by simp [Region.wanted, hgd]
  rw [if_pos hw]
  obtain ⟨i5, q1, q2, q3, q4⟩ := info5
  have hlt := (Array.getElem?_eq_some_iff.1 hh).1
  have hown : w.ownsRow h 5 1 (.slice (some ⟨h, 0, none⟩) 0 0) 0 [] := ⟨rfl, .inr ⟨h, 0, #[], rfl, Nat.le_refl _, hh, Nat.le_refl _, Nat.zero_le _, rfl, rfl⟩⟩
  by_cases h0 : l.length = 0
  · obtain rfl : l = [] := List.eq_nil_of_length_eq_zero h0
    rcases hsrc with ⟨rfl, _⟩ | ⟨r, cap, rfl, _⟩
    · have hrun := run_append_owned_none (P := Tryd.prog) (w := w) h 33 o.type 5 i5 1 und33 q1 _ 0 [] hown
      unfold Oper.wp
      simp [execOp, ho, resolve, invoke, builtin, hs, hx, hrun, Result.andThen]
      exact hK h 0 w ⟨#[], hh, fun j v hj => by simp at hj⟩ (Nat.le_refl _) ⟨rfl, rfl, rfl, Nat.le_refl _, fun _ _ _ => rfl⟩
    · refine wp_append_own w s x 33 ho h 5 i5 (.int .u8 0) 1 1 und33 q1 q2 q3 q4 rfl (by decide) _ 0 [] hs hown ⟨r, 0, none⟩ 0 cap [] hx rfl (fun j u hj => by simp at hj) (fun u hu => by simp at hu) (by simp [maxLen]) (by simp) (by omega) ?_
      intro v' w' hown' hg hiff
      rcases hown'.2 with ⟨rfl, _⟩ | ⟨g, c, cur, rfl, hge, hgg, _⟩
      · exact absurd (hiff.1 rfl).1 (by simp)
      · exact hK g c w' ⟨cur, hgg, fun j v hj => by simp at hj⟩ hge ⟨hg.os, hg.tape, hg.output, hg.size, fun k hk hne => hg.block k hk (fun e => hne (by simpa [Value.ownBlock] using e))⟩
  · rcases hsrc with ⟨_, rfl⟩ | ⟨r, cap, rfl, hb⟩
    · simp at h0
    · refine wp_append_lies w s x 33 ho h 5 i5 (.int .u8 0) 1 1 und33 q1 q2 q3 q4 rfl (by decide) _ 0 [] hs hown ⟨r, 0, none⟩ l.length cap (l.map byteV) hx (by simp) (fun j u hj => ?_) (one_bytes l) (by omega) (by simp [maxLen]; omega) (by omega) (by omega) w.heap.size rfl ?_
      · rw [List.getElem?_map, Option.map_eq_some_iff] at hj
        obtain ⟨y, hy, rfl⟩ := hj
        rw [show (⟨r, 0, none⟩ : Addr).add j = ⟨r, j, none⟩ by unfold Addr.add; split <;> simp_all]
        exact hb j y hy
      · intro g cap' w' hown' hg hor hlt'
        simp only [Nat.zero_add, List.nil_append] at hown' ⊢
        refine hK g cap' w' (rowIs_owned hown') ?_ ⟨hg.os, hg.tape, hg.output, hg.size, fun k hk hne => hg.block k hk (fun e => hne ?_)⟩
        · rcases hor with h | h
          · simp [Value.ownBlock] at h; omega
          · omega
        · simpa [Value.ownBlock] using e
theorem step_outer {ops : Array Oper} {o : Oper} {a : Act} {w : World} {K : Act → World → Prop} {Q : Exit → Act → World → Prop} {E : Prop} (hgd : o.guard = none) (s x : Operand)
    (ho : o.op = .call { callee := .builtin .append, args := #[s, x], argTypes := #[29, 29] }) (base : Nat) (v : Value) (k : Nat) (vals : List Value) (hs : a.eval s = v) (hown : w.ownsRow base 33 1 v k vals) (hk : k ≤ 4096)
    (h : Nat) (hx : a.eval x = .slice (some ⟨h, 0, none⟩) 1 1) (nv : Value) (hh : w.heap[h]? = some (.cells #[nv] 33 (0, 0))) (h1 : nv.oneCell' = true) (hbase : base ≤ w.heap.size)
    (hK : ∀ g cap w', w'.ownsRow base 33 1 (.slice (some ⟨g, 0, none⟩) (k + 1) cap) (k + 1) (vals ++ [nv]) → w.grownBy w' v.ownBlock → (v.ownBlock = some g ∨ g = w.heap.size) → K (a.put o.dst (.slice (some ⟨g, 0, none⟩) (k + 1) cap)) w') :
    if Region.wanted o (yielded ops a.tmps) = true then Oper.wp Tryd.prog o a w K Q else E := by
  have hw : Region.wanted o (yielded ops a.tmps) = true := by simp [Region.wanted, hgd]
  rw [if_pos hw]
  obtain ⟨i, q1, q2, q3, q4⟩ := info33
  refine wp_append_lies w s x 29 ho base 33 i (.slice none 0 0) 1 24 und29 q1 q2 q3 q4 rfl (by decide) v k vals hs hown ⟨h, 0, none⟩ 1 1 [nv] hx rfl (fun j u hj => ?_) (fun u hu => ?_) (by omega) (by simp [maxLen]; omega) (by omega) hbase w.heap.size rfl ?_
  · match j, hj with
    | 0, hj =>
      simp at hj; subst hj
      rw [show (⟨h, 0, none⟩ : Addr).add 0 = ⟨h, 0, none⟩ from rfl, cell_of_row w h 0 _ 33 (0, 0) hh]; rfl
  · simp at hu; subst hu; exact h1
  · intro g cap w' ho' hg hor _
    exact hK g cap w' ho' hg hor
end Go.Proofs.YtipdpifpblaldaaDoor
