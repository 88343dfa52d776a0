/- Several texts of this claim, one behind the other, in their order. -/
import Derived.Test.YtplnojohlbbalaaDoorM1
import Derived.Laws.OwnMore
import Derived.OwnWalk
import Derived.Laws.Rows
import Derived.Maps.AppendAt
import Derived.Lib.OthersKept
import Derived.Deep.MidRow
import Derived.Deep.WholeRow
import Derived.Laws.Small
import Derived.BigQuiet
/- Base of layer 15: rows of bytes of one's own, that are read, that are lent; the walks of tinselref01's Lend and Kept. Conditions: lengths that fit. -/
namespace Go.Proofs.YtplnojohlbbalaaDoor
open Go.RowKit
attribute [local go_sem] ext_eq app_eq get_eq
theorem cell_heap {W : World} {g o : Nat} {cur : Array Value} {T : TypeId} {fr : Nat × Nat} (h : W.heap[g]? = some (.cells cur T fr)) : W.cell? ⟨g, o, none⟩ = cur[o]? := by
  simp [World.cell?, h]
theorem heap_lt {W : World} {g : Nat} {o : Obj} (h : W.heap[g]? = some o) : g < W.heap.size := (Array.getElem?_eq_some_iff.1 h).1
theorem heap_ne {W : World} {g g' : Nat} {cur cur' : Array Value} {T T' : TypeId} {fr fr' : Nat × Nat} (h : W.heap[g]? = some (.cells cur T fr)) (h' : W.heap[g']? = some (.cells cur' T' fr')) (hT : T ≠ T') : g ≠ g' := by
  rintro rfl
  rw [h] at h'
  cases h'
  exact hT rfl
theorem heap_new (W : World) (o : Obj) : (W.alloc o).heap[W.heap.size]? = some o := by show (W.heap.push _)[W.heap.size]? = _; simp
theorem own_on {W W' : World} {B k n : Nat} {T : TypeId} {v : Value} {xs : List Value} (h : W.ownsRow B T k v n xs) (e : ∀ (g : Nat) (c : Array Value), W.heap[g]? = some (Obj.cells c T (0, 0)) → W'.heap[g]? = W.heap[g]?) : W'.ownsRow B T k v n xs := by
  refine ⟨h.1, ?_⟩
  rcases h.2 with h | ⟨g, cap, cur, h1, h2, h3, h4⟩
  · exact .inl h
  · exact .inr ⟨g, cap, cur, h1, h2, (e g cur h3).trans h3, h4⟩
theorem own_kind {W : World} {B k n : Nat} {T : TypeId} {v : Value} {xs : List Value} (h : W.ownsRow B T k v n xs) : ∀ g, v.ownBlock = some g → ∃ c fz, W.heap[g]? = some (.cells c T fz) := by
  intro g hg
  rcases h.2 with ⟨rfl, _⟩ | ⟨g', cap, cur, rfl, _, hgg, _⟩
  · simp [Value.ownBlock] at hg
  · simp [Value.ownBlock] at hg
    subst hg
    exact ⟨cur, _, hgg⟩
theorem own_slice {w' : World} {base e k n : Nat} {v : Value} {xs : List Value} (h : w'.ownsRow base e k v n xs) : ∃ a c, v = .slice a n c := by
  rcases h.2 with ⟨rfl, rfl⟩ | ⟨g, cap, cur, rfl, _⟩
  · exact ⟨_, _, rfl⟩
  · exact ⟨_, _, rfl⟩
theorem infoB : ∃ i, Tryd.prog.info? 5 = some i ∧ i.zero = some (.int .u8 0) ∧ i.size = 1 ∧ i.bytes = 1 := info_of (by kernel_rfl)
def bCs (l : List UInt8) : List Value := l.map fun c => .int .u8 c.toNat
theorem bCs_append (a b : List UInt8) : bCs (a ++ b) = bCs a ++ bCs b := List.map_append
theorem bCs_len (a : List UInt8) : (bCs a).length = a.length := by simp [bCs]
/-- A row of bytes of one's own. -/
def By (B : Nat) (W : World) (v : Value) (bs : List UInt8) : Prop := W.ownsRow B 5 1 v bs.length (bCs bs)
theorem By.nil (B : Nat) (W : World) : By B W (.slice none 0 0) [] := World.ownsRow_nil _ _ _ _
theorem By.kind {B : Nat} {W : World} {v : Value} {bs : List UInt8} (h : By B W v bs) : ∀ g, v.ownBlock = some g → ∃ c fz, W.heap[g]? = some (.cells c 5 fz) := own_kind h
theorem By.on {B : Nat} {W W' : World} {v : Value} {bs : List UInt8} (h : By B W v bs) (e : ∀ (g : Nat) (c : Array Value), W.heap[g]? = some (Obj.cells c 5 (0, 0)) → W'.heap[g]? = W.heap[g]?) : By B W' v bs := own_on h e
theorem By.grow {B : Nat} {W W' : World} {v : Value} {bs : List UInt8} (h : By B W v bs) (hB : Below W.heap.size W W') : By B W' v bs := own_on h (fun g _ hg => hB.block g (heap_lt hg))
theorem By.slice {B : Nat} {W : World} {v : Value} {bs : List UInt8} (h : By B W v bs) : ∃ a c, v = .slice a bs.length c := own_slice h
theorem By.add {B : Nat} {w W w' : World} {v v' : Value} {bs : List UInt8} {c : UInt8} (h : By B W v bs) (hB : Below B w W) (hs : B ≤ W.heap.size) (o : Obj) (hown : w'.ownsRow B 5 1 v' (bs.length + 1) (bCs bs ++ [.int .u8 c.toNat])) (hg : (W.alloc o).grownBy w' v.ownBlock) :
    By B w' v' (bs ++ [c]) ∧ Below B w w' ∧ Lib.OthersKept 5 none W w' := by
  refine ⟨?_, (hB.alloc hs o).grown hg (by simp; omega) (fun k hk => (h.lt k hk).1), ?_⟩
  · unfold By
    rw [bCs_append, List.length_append]; exact hown
  · refine ((Lib.OthersKept.refl _ _ _).alloc o).grown hg (fun g hgg => ?_)
    obtain ⟨cc, fz, hc⟩ := h.kind g hgg
    exact ⟨cc, fz, (Lib.alloc_old W o g (heap_lt hc)).trans hc⟩
theorem one_u8 (x : Int) : ∀ u ∈ [Value.int .u8 x], u.oneCell' = true := by intro u hu; simp at hu; subst hu; rfl
/-- The text of a row. -/
theorem By.text {B : Nat} {W : World} {v : Value} {bs : List UInt8} (h : By B W v bs) : (convert 22 9 v).run Tryd.prog W = .ok (.string ⟨bs.toArray⟩) W := by
  rcases h.2 with ⟨rfl, h0⟩ | ⟨g, cap, cur, rfl, -, -, -, -, -, -⟩
  · have : bs = [] := List.length_eq_zero_iff.1 h0
    subst this
    simp [convert, go_sem, Conv.bytesToString]; rfl
  · exact run_convert_bytes_back (P := Tryd.prog) W 22 9 5 ⟨g, 0, none⟩ cap bs Tryd.underlying22 Tryd.underlying5 Tryd.underlying9 (fun j hj => h.cells (g := g) rfl j _ (by simp [bCs, hj]))
/-- A row of bytes that is read. -/
def Src (W : World) (a : Option Addr) (l : List UInt8) : Prop := ∀ j (_ : j < l.length), ∃ g o, a = some ⟨g, o, none⟩ ∧ g < W.heap.size ∧ W.cell? ⟨g, o + j, none⟩ = some (.int .u8 l[j].toNat)
theorem Src.nil (W : World) (a : Option Addr) : Src W a [] := fun j h => by simp at h
theorem Src.grow {W W' : World} {a : Option Addr} {l : List UInt8} {B : Nat} (h : Src W a l) (hB : Below B W W') (hs : W.heap.size ≤ B) : Src W' a l := fun j hj => by
  obtain ⟨g, o, e, hg, hc⟩ := h j hj
  exact ⟨g, o, e, Nat.lt_of_lt_of_le hg hB.size, (hB.cell (p := ⟨g, o + j, none⟩) (show g < B by omega)).trans hc⟩
theorem By.src {B : Nat} {W : World} {v : Value} {bs : List UInt8} (h : By B W v bs) : ∃ a c, v = .slice a bs.length c ∧ Src W a bs := by
  rcases h.2 with ⟨rfl, h0⟩ | ⟨g, cap, cur, rfl, hb, hg, h3⟩
  · have : bs = [] := List.length_eq_zero_iff.1 h0
    subst this
    exact ⟨none, 0, rfl, Src.nil _ _⟩
  · exact ⟨_, cap, rfl, fun j hj => ⟨g, 0, rfl, heap_lt hg, by rw [show (⟨g, 0 + j, none⟩ : Addr) = (⟨g, 0, none⟩ : Addr).add j by simp [Addr.add]]; exact h.cells (g := g) rfl j (.int .u8 bs[j].toNat) (by simp [bCs, hj])⟩⟩
theorem Src.heap {W W' : World} {a : Option Addr} {l : List UInt8} (h : Src W a l) (e : W'.heap = W.heap) : Src W' a l := fun j hj => by
  obtain ⟨g, o, e1, hg, hc⟩ := h j hj
  exact ⟨g, o, e1, by rw [e]; exact hg, by rw [← hc]; exact World.cell?_of_block (w := W) (by rw [e])⟩
theorem Src.text {W : World} {a : Option Addr} {l : List UInt8} (h : Src W a l) (c : Nat) : (convert 22 9 (.slice a l.length c)).run Tryd.prog W = .ok (.string ⟨l.toArray⟩) W := by
  cases a with
  | none =>
    cases l with
    | nil => simp [convert, go_sem, Conv.bytesToString]; rfl
    | cons x r =>
      obtain ⟨g, o, e, _⟩ := h 0 (by simp)
      cases e
  | some ad =>
    exact run_convert_bytes_back (P := Tryd.prog) W 22 9 5 ad c l Tryd.underlying22 Tryd.underlying5 Tryd.underlying9 (fun j hj => by
      obtain ⟨g, o, e, _, hc⟩ := h j hj
      cases e
      rw [show (⟨g, o, none⟩ : Addr).add j = ⟨g, o + j, none⟩ by simp [Addr.add]]; exact hc)
theorem By.mono {B B' : Nat} {W : World} {v : Value} {bs : List UInt8} (h : By B W v bs) (hB : B' ≤ B) : By B' W v bs := by
  refine ⟨h.1, ?_⟩
  rcases h.2 with h | ⟨g, cap, cur, h1, h2, h3⟩
  · exact .inl h
  · exact .inr ⟨g, cap, cur, h1, Nat.le_trans hB h2, h3⟩
/-- A row that is lent, as far as it is filled: a sign ahead of it and one behind it. -/
def LendR (W : World) (wb : Nat) (b : List UInt8) (k : Nat) : Prop := ∃ arr, W.heap[wb]? = some (.cells arr 5 (0, 0)) ∧ arr.size = b.length + 2 ∧ arr[0]? = some (.int .u8 165) ∧ arr[b.length + 1]? = some (.int .u8 90) ∧ ∀ j (h : j < b.length), arr[j + 1]? = some (.int .u8 (if j < k then (b[j]).toNat else 0))
theorem LendR.new (W : World) (b : List UInt8) : LendR (W.alloc (.cells (((madeCells #[.int .u8 0] (b.length + 2)).setIfInBounds 0 (.int .u8 165)).setIfInBounds (b.length + 1) (.int .u8 90)) 5)) W.heap.size b 0 := by
  have hs : (madeCells #[.int .u8 0] (b.length + 2)).size = b.length + 2 := size_madeCells _ _
  have hq : ∀ q, q < b.length + 2 → (madeCells #[.int .u8 0] (b.length + 2))[q]? = some (.int .u8 0) := fun q h => by simp [madeCells, h, Nat.mod_one]
  generalize madeCells #[Value.int .u8 0] (b.length + 2) = A at *
  refine ⟨_, heap_new _ _, by simpa using hs, ?_, ?_, fun j hj => ?_⟩
  · rw [Array.getElem?_setIfInBounds, if_neg (by omega), Array.getElem?_setIfInBounds, if_pos rfl, if_pos (by omega)]
  · rw [Array.getElem?_setIfInBounds, if_pos rfl, if_pos (by simp; omega)]
  · rw [Array.getElem?_setIfInBounds, if_neg (by omega), Array.getElem?_setIfInBounds, if_neg (by omega), hq _ (by omega), if_neg (by omega)]
theorem LendR.set {W : World} {wb : Nat} {b : List UInt8} {k : Nat} (h : LendR W wb b k) (hk : k < b.length) : LendR (W.setCell ⟨wb, k + 1, none⟩ (.int .u8 (b[k]).toNat)) wb b (k + 1) := by
  obtain ⟨arr, h1, h2, h3, h4, h5⟩ := h
  refine ⟨arr.setIfInBounds (k + 1) (.int .u8 (b[k]).toNat), ?_, by simpa using h2, ?_, ?_, fun j hj => ?_⟩
  · show (W.heap.modify wb _)[wb]? = _
    rw [Array.getElem?_modify, if_pos rfl, h1]; rfl
  · rw [Array.getElem?_setIfInBounds, if_neg (by omega)]; exact h3
  · rw [Array.getElem?_setIfInBounds, if_neg (by omega)]; exact h4
  · rw [Array.getElem?_setIfInBounds]
    by_cases e : j = k
    · subst e
      rw [if_pos rfl, if_pos (by omega), if_pos (by omega)]
    · rw [if_neg (by omega), h5 j hj]
      congr 2
      by_cases hlt : j < k
      · rw [if_pos hlt, if_pos (by omega)]
      · rw [if_neg hlt, if_neg (by omega)]
/-- The row that is lent. -/
theorem LendR.src {W : World} {wb : Nat} {b : List UInt8} (h : LendR W wb b b.length) : Src W (some ⟨wb, 1, none⟩) b := fun j hj => by
  obtain ⟨arr, h1, h2, h3, h4, h5⟩ := h
  refine ⟨wb, 1, rfl, heap_lt h1, ?_⟩
  rw [cell_heap h1, show 1 + j = j + 1 by omega, h5 j hj, if_pos hj]
theorem LendR.grow {W W' : World} {wb : Nat} {b : List UInt8} {k B : Nat} (h : LendR W wb b k) (hB : Below B W W') (hs : wb < B) : LendR W' wb b k := by
  obtain ⟨arr, h1, h2⟩ := h
  exact ⟨arr, (hB.block _ hs).trans h1, h2⟩
theorem LendR.lt {W : World} {wb : Nat} {b : List UInt8} {k : Nat} (h : LendR W wb b k) : wb < W.heap.size := by
  obtain ⟨arr, h1, h2⟩ := h
  exact heap_lt h1
theorem mk_bytes (n : Nat) (hn : n ≤ 140737488355328) (w : World) : (Instr.makeSlice 22 (.int .i64 n) (.int .i64 n)).run Tryd.prog w = .ok (.slice (some ⟨w.heap.size, 0, none⟩) n n) (w.alloc (.cells (madeCells #[.int .u8 0] n) 5)) := by
  obtain ⟨i, hi, hz, hs, hb⟩ := infoB
  have h := run_make (P := Tryd.prog) w 22 5 i _ Tryd.underlying22 hi hz .i64 .i64 n n (by omega) (by omega) (by rw [hb]; omega) (by omega)
  rw [hs] at h
  simpa [Value.cells] using h
/-- A row that can be written. -/
def Wr (W : World) (B : Nat) (a : Option Addr) (n : Nat) : Prop := ∀ j, j < n → ∃ g o, a = some ⟨g, o, none⟩ ∧ B ≤ g ∧ (W.cell? ⟨g, o + j, none⟩).isSome = true ∧ W.frozen? ⟨g, o + j, none⟩ = false
theorem Wr.keep {W : World} {B : Nat} {a : Option Addr} {n : Nat} (h : Wr W B a n) (p : Addr) (v : Value) : Wr (W.setCell p v) B a n := fun j hj => by
  obtain ⟨g, o, e, hg, hs, hf⟩ := h j hj
  refine ⟨g, o, e, hg, ?_, by rw [World.frozen?_setCell]; exact hf⟩
  by_cases hp : p = ⟨g, o + j, none⟩
  · subst hp
    obtain ⟨u, hu⟩ := Option.isSome_iff_exists.1 hs
    rw [World.cell?_setCell_same _ _ _ hu]; rfl
  · rw [World.cell?_setCell_other _ _ _ _ hp]; exact hs
theorem By.wr {B : Nat} {W : World} {a : Option Addr} {n c : Nat} {bs : List UInt8} (h : By B W (.slice a n c) bs) : Wr W B a n := by
  intro j hj
  rcases h.2 with ⟨e, _⟩ | ⟨g, cap, cur, e, hb, hg, hn, hc, hs, _⟩
  · cases e; omega
  · cases e
    refine ⟨g, 0, rfl, hb, ?_, by simp [World.frozen?, hg]⟩
    rw [cell_heap hg, Nat.zero_add, Array.getElem?_eq_getElem (by omega)]; rfl
theorem Wr.grow {W W' : World} {B B' : Nat} {a : Option Addr} {n : Nat} (h : Wr W B a n) (hb : Below W.heap.size W W') (hB : B' ≤ B) : Wr W' B' a n := fun j hj => by
  obtain ⟨g, o, e, hg, hs, hf⟩ := h j hj
  have hlt : g < W.heap.size := by
    obtain ⟨u, hu⟩ := Option.isSome_iff_exists.1 hs
    exact block_lt_of_cell hu
  have hk := hb.block g hlt
  refine ⟨g, o, e, by omega, ?_, ?_⟩
  · rw [World.cell?_of_block (w := W) hk]; exact hs
  · have : W'.frozen? ⟨g, o + j, none⟩ = W.frozen? ⟨g, o + j, none⟩ := by simp [World.frozen?, hk]
    rw [this]; exact hf
end Go.Proofs.YtplnojohlbbalaaDoor
/- Slices of bytes that are read; the program's isBlank, isWord, isDigit, leading. Condition: lengths that fit. -/
namespace Go.Proofs.YtplnojohlbbalaaDoor
open Go.RowKit
attribute [local go_sem] ext_eq app_eq get_eq
theorem Src.sub {W : World} {a : Option Addr} {l : List UInt8} (h : Src W a l) (i k c : Nat) (hk : k ≤ l.length) (hc : l.length ≤ c) : Src W (if c = i then a else a.map (·.add (i * 1))) ((l.take k).drop i) := fun j hj => by
  have hl : ((l.take k).drop i).length = k - i := by simp [hk]
  obtain ⟨g, o, e, hg, hcell⟩ := h (i + j) (by omega)
  rw [if_neg (by omega)]
  refine ⟨g, o + i, by rw [e]; simp [Addr.add], hg, ?_⟩
  rw [show o + i + j = o + (i + j) by omega, hcell]
  congr 3
  simp
theorem htB : Tryd.prog.underlying 22 = some (.slice (Tryd.prog.elem 22)) := by kernel_rfl
theorem szB (W : World) : (sizeOf (Tryd.prog.elem 22)).run Tryd.prog W = .ok 1 W := by
  have e : Tryd.prog.elem 22 = 5 := by kernel_rfl
  rw [e]
  simp [sizeOf, go_sem]
  rfl
/-- A slice of bytes that is read, with its capacity. -/
structure Sr (W : World) (a : Option Addr) (c : Nat) (l : List UInt8) : Prop where
  src : Src W a l
  le : l.length ≤ c
  nil : a = none → c = 0
theorem Sr.grow {W W' : World} {a : Option Addr} {c : Nat} {l : List UInt8} (h : Sr W a c l) (b : Below W.heap.size W W') : Sr W' a c l := ⟨h.src.grow b (Nat.le_refl _), h.le, h.nil⟩
theorem sl_from {w : World} {a : Option Addr} {l : List UInt8} {c : Nat} (h : Sr w a c l) (i : Nat) (hi : i ≤ l.length) : ∃ a' c', (∀ W : World, (Instr.slice 22 (.slice a l.length c) (some (.int .i64 i)) none none).run Tryd.prog W = .ok (.slice a' (l.drop i).length c') W) ∧ Sr w a' c' (l.drop i) := by
  have hc := h.le
  refine ⟨(if c = i then a else a.map (·.add (i * 1))), c - i, fun W => ?_, ?_, by rw [List.length_drop]; omega, fun e => ?_⟩
  · rw [run_slice_l (P := Tryd.prog) (w := W) 22 a l.length c htB .i64 i (by omega) (by omega), List.length_drop, szB]
    simp [Result.andThen, sliced]
  · have := h.src.sub i l.length c (Nat.le_refl _) hc
    rw [List.take_length] at this
    exact this
  · have : a = none := by
      split at e
      · exact e
      · simpa using e
    have := h.nil this; omega
theorem sl_to {w : World} {a : Option Addr} {l : List UInt8} {c : Nat} (h : Sr w a c l) (k : Nat) (hk : k ≤ l.length) : (∀ W : World, (Instr.slice 22 (.slice a l.length c) none (some (.int .i64 k)) none).run Tryd.prog W = .ok (.slice a (l.take k).length c) W) ∧ Sr w a c (l.take k) := by
  have hc := h.le
  refine ⟨fun W => ?_, fun j hj => ?_, by rw [List.length_take]; omega, h.nil⟩
  · rw [run_slice_h (P := Tryd.prog) (w := W) 22 a l.length c htB .i64 k (by omega) (by omega), List.length_take, Nat.min_eq_left hk, szB]
    cases a <;> simp [Result.andThen, sliced, Addr.add]
  · rw [List.length_take] at hj
    obtain ⟨g, o, e, hg, hcell⟩ := h.src j (by omega)
    exact ⟨g, o, e, hg, by rw [hcell]; simp⟩
theorem sl_mid {w : World} {a : Option Addr} {l : List UInt8} {c : Nat} (h : Sr w a c l) (i k : Nat) (hik : i ≤ k) (hk : k ≤ l.length) : ∃ a' c', (∀ W : World, (Instr.slice 22 (.slice a l.length c) (some (.int .i64 i)) (some (.int .i64 k)) none).run Tryd.prog W = .ok (.slice a' ((l.take k).drop i).length c') W) ∧ Sr w a' c' ((l.take k).drop i) := by
  have hc := h.le
  have hm : ((l.take k).drop i).length = k - i := by simp [hk]
  refine ⟨(if c = i then a else a.map (·.add (i * 1))), c - i, fun W => ?_, h.src.sub i k c hk hc, by omega, fun e => ?_⟩
  · rw [run_slice_lh (P := Tryd.prog) (w := W) 22 a l.length c htB .i64 .i64 i k (by omega) (by omega) (by omega), szB, hm]
    simp [Result.andThen, sliced]
  · have : a = none := by
      split at e
      · exact e
      · simpa using e
    have := h.nil this; omega
end Go.Proofs.YtplnojohlbbalaaDoor
