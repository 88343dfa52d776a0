/- A row of ranges in memory, as joined keeps it; append within the row's room. -/
import Derived.Test.YtgkjpfebjhhdkaaDoorNr3
import Derived.Test.YtgkjpfebjhhdkaaDoorSortSh
import Derived.Test.YtgkjpfebjhhdkaaDoorShelf
import Derived.Laws.OwnMore
import Derived.OwnWalk
import Derived.Laws.Rows
namespace Go.Proofs.YtgkjpfebjhhdkaaDoor
open Go.RowKit Go.Sort
abbrev TR : TypeId := 51
namespace Na
abbrev Rg := Int × Int
/-- Ranges in their order, those that meet or touch as one; c the last that is kept. -/
def jn (c : Rg) : List Rg → List Rg
  | [] => [c]
  | r :: t => if c.2 = -1 then [c] else if c.2 + 1 < r.1 then c :: jn r t else if r.2 = -1 ∨ c.2 < r.2 then jn (c.1, r.2) t else jn c t
def join : List Rg → List Rg
  | [] => []
  | c :: t => jn c t
end Na
def rC (x : Na.Rg) : List Value := [.int .i64 x.1, .int .i64 x.2]
def rCs (l : List Na.Rg) : List Value := l.flatMap rC
theorem rCs_snoc (l : List Na.Rg) (x : Na.Rg) : rCs (l ++ [x]) = rCs l ++ rC x := by simp [rCs]
theorem rCs_len (l : List Na.Rg) : (rCs l).length = l.length * 2 := by
  induction l with
  | nil => rfl
  | cons o l ih => simp only [rCs, List.flatMap_cons, List.length_append, rC, List.length_cons, List.length_nil] at *; omega
theorem rCs_get : ∀ (l : List Na.Rg) (j : Nat) (h : j < l.length), (rCs l)[j * 2]? = some (.int .i64 l[j].1) ∧ (rCs l)[j * 2 + 1]? = some (.int .i64 l[j].2)
  | [], j, h => by simp at h
  | x :: l, 0, _ => ⟨rfl, rfl⟩
  | x :: l, j + 1, h => by
    have hh := rCs_get l j (by simpa using h)
    have e : rCs (x :: l) = rC x ++ rCs l := rfl
    rw [e]
    constructor
    · rw [List.getElem?_append_right (by simp [rC]; omega), List.getElem_cons_succ, show (j + 1) * 2 - (rC x).length = j * 2 by simp [rC]; omega]; exact hh.1
    · rw [List.getElem?_append_right (by simp [rC]; omega), List.getElem_cons_succ, show (j + 1) * 2 + 1 - (rC x).length = j * 2 + 1 by simp [rC]; omega]; exact hh.2
theorem info_of {t s b : Nat} {z : Option Value} (h : (Tryd.prog.info? t).map (fun i => (i.zero, i.size, i.bytes)) = some (z, s, b)) : ∃ i, Tryd.prog.info? t = some i ∧ i.zero = z ∧ i.size = s ∧ i.bytes = b := by
  cases hi : Tryd.prog.info? t with
  | none => rw [hi] at h; cases h
  | some i => rw [hi] at h; simp at h; exact ⟨i, rfl, h.1, h.2.1, h.2.2⟩
theorem infoR : ∃ i, Tryd.prog.info? 51 = some i ∧ i.zero = some (.agg #[.int .i64 0, .int .i64 0]) ∧ i.size = 2 ∧ i.bytes = 16 := info_of (by kernel_rfl)
/-- The row's block. -/
structure Blk (W : World) (g n cap : Nat) (cur : Array Value) (F : Nat → Na.Rg) : Prop where
  hg : W.heap[g]? = some (.cells cur 51 (0, 0))
  sz : cur.size = cap * 2
  le : n ≤ cap
  at0 : ∀ j, j < n → cur[j * 2]? = some (.int .i64 (F j).1)
  at1 : ∀ j, j < n → cur[j * 2 + 1]? = some (.int .i64 (F j).2)
def Rw (W : World) (g n cap : Nat) (F : Nat → Na.Rg) : Prop := ∃ cur, Blk W g n cap cur F
section
variable {W W' : World} {g n cap : Nat} {F : Nat → Na.Rg}
theorem Rw.lt (h : Rw W g n cap F) : g < W.heap.size := by
  obtain ⟨cur, h⟩ := h
  exact (Array.getElem?_eq_some_iff.1 h.hg).1
theorem cell_of_heap {W : World} {g o : Nat} {cur : Array Value} {T : TypeId} {fr : Nat × Nat} (h : W.heap[g]? = some (.cells cur T fr)) : W.cell? ⟨g, o, none⟩ = cur[o]? := by
  simp [World.cell?, h]
theorem Rw.lo (h : Rw W g n cap F) (j : Nat) (hj : j < n) : W.cell? ⟨g, j * 2, none⟩ = some (.int .i64 (F j).1) := by
  obtain ⟨cur, h⟩ := h
  rw [cell_of_heap h.hg]; exact h.at0 j hj
theorem Rw.hi (h : Rw W g n cap F) (j : Nat) (hj : j < n) : W.cell? ⟨g, j * 2 + 1, none⟩ = some (.int .i64 (F j).2) := by
  obtain ⟨cur, h⟩ := h
  rw [cell_of_heap h.hg]; exact h.at1 j hj
theorem Rw.fz (h : Rw W g n cap F) (o : Nat) : W.frozen? ⟨g, o, none⟩ = false := by
  obtain ⟨cur, h⟩ := h
  simp [World.frozen?, h.hg]
theorem Rw.grow (h : Rw W g n cap F) (hB : Below W.heap.size W W') : Rw W' g n cap F := by
  have hl := h.lt
  obtain ⟨cur, h⟩ := h
  exact ⟨cur, (hB.block g hl).trans h.hg, h.sz, h.le, h.at0, h.at1⟩
def upd (F : Nat → Na.Rg) (k : Nat) (x : Na.Rg) : Nat → Na.Rg := fun j => if j = k then x else F j
theorem Rw.set1 (h : Rw W g n cap F) (k : Nat) (hk : k < n) (y : Int) : Rw (W.setCell ⟨g, k * 2 + 1, none⟩ (.int .i64 y)) g n cap (upd F k ((F k).1, y)) := by
  obtain ⟨cur, h⟩ := h
  refine ⟨cur.setIfInBounds (k * 2 + 1) (.int .i64 y), ?_, by simpa using h.sz, h.le, fun j hj => ?_, fun j hj => ?_⟩
  · have h2 := heap_setCell_same W g (k * 2 + 1) cur 51 (.int .i64 y) h.hg
    exact h2
  · have h0 := h.at0 j hj
    rw [Array.getElem?_setIfInBounds, if_neg (by omega), h0]
    unfold upd; split
    · rename_i e; subst e; rfl
    · rfl
  · rw [Array.getElem?_setIfInBounds]
    unfold upd
    by_cases e : j = k
    · subst e
      have := h.sz; have := h.le
      rw [if_pos rfl, if_pos (by omega), if_pos rfl]
    · rw [if_neg (by omega), if_neg e]; exact h.at1 j hj
theorem Rw.set0 (h : Rw W g n cap F) (k : Nat) (hk : k < n) (y : Int) : Rw (W.setCell ⟨g, k * 2, none⟩ (.int .i64 y)) g n cap (upd F k (y, (F k).2)) := by
  obtain ⟨cur, h⟩ := h
  refine ⟨cur.setIfInBounds (k * 2) (.int .i64 y), ?_, by simpa using h.sz, h.le, fun j hj => ?_, fun j hj => ?_⟩
  · have h2 := heap_setCell_same W g (k * 2) cur 51 (.int .i64 y) h.hg
    exact h2
  · rw [Array.getElem?_setIfInBounds]
    unfold upd
    by_cases e : j = k
    · subst e
      have := h.sz; have := h.le
      rw [if_pos rfl, if_pos (by omega), if_pos rfl]
    · rw [if_neg (by omega), if_neg e]; exact h.at0 j hj
  · have h0 := h.at1 j hj
    rw [Array.getElem?_setIfInBounds, if_neg (by omega), h0]
    unfold upd; split
    · rename_i e; subst e; rfl
    · rfl
theorem Rw.set2 (h : Rw W g n cap F) (k : Nat) (hk : k < n) (x y : Int) : Rw ((W.setCell ⟨g, k * 2, none⟩ (.int .i64 x)).setCell ⟨g, k * 2 + 1, none⟩ (.int .i64 y)) g n cap (upd F k (x, y)) := by
  have h2 := (h.set0 k hk x).set1 k hk y
  have e : upd (upd F k (x, (F k).2)) k ((upd F k (x, (F k).2) k).1, y) = upd F k (x, y) := by
    funext j
    unfold upd
    by_cases hj : j = k <;> simp [hj]
  rw [e] at h2
  exact h2
end
theorem Rw.owns {W : World} {B g n m cap : Nat} {F : Nat → Na.Rg} (h : Rw W g n cap F) (hB : B ≤ g) (hm : m ≤ n) (hcap : cap ≤ maxLen) (out : List Na.Rg) (hl : out.length = m) (ho : ∀ j (hj : j < out.length), F j = out[j]) : W.ownsRow B 51 2 (.slice (some ⟨g, 0, none⟩) m cap) m (rCs out) := by
  obtain ⟨cur, h⟩ := h
  refine ⟨by rw [rCs_len, hl], .inr ⟨g, cap, cur, rfl, hB, h.hg, by have := h.le; omega, hcap, h.sz, ?_⟩⟩
  apply List.ext_getElem?
  intro o
  have hsz := h.sz
  have hle := h.le
  by_cases h1 : o < m * 2
  · rw [List.getElem?_take, if_pos h1]
    obtain ⟨e1, e2⟩ := rCs_get out (o / 2) (by omega)
    have e3 := ho (o / 2) (by omega)
    by_cases h2 : o % 2 = 0
    · have h3 := h.at0 (o / 2) (by omega)
      rw [show o / 2 * 2 = o by omega] at h3 e1
      rw [e1, ← e3, ← h3]; simp
    · have h3 := h.at1 (o / 2) (by omega)
      rw [show o / 2 * 2 + 1 = o by omega] at h3 e2
      rw [e2, ← e3, ← h3]; simp
  · rw [List.getElem?_eq_none (by simp; omega), List.getElem?_eq_none (by rw [rCs_len]; omega)]
end Go.Proofs.YtgkjpfebjhhdkaaDoor
