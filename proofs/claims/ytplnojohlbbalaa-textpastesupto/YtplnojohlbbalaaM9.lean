/- Several texts of this claim, one behind the other, in their order. -/
import Derived.Test.YtplnojohlbbalaaUf4
import Derived.Lib.SliceRun
/- Paste: the plain theory; rows of rows of rows. No condition. -/
namespace Go.Proofs.Ytplnojohlbbalaa
open Go.RowKit
attribute [local go_sem] ext_eq app_eq get_eq
namespace Tl
/-- The i-th lines, empty where there is none. -/
def rw' (C : List (List (List UInt8))) (i : Nat) : List (List UInt8) := C.map fun c => c.getD i []
theorem rw_len (C : List (List (List UInt8))) (i : Nat) : (rw' C i).length = C.length := by simp [rw']
/-- What Paste has behind m lines. -/
def pas (d : List UInt8) (C : List (List (List UInt8))) (m : Nat) : List UInt8 := ((List.range m).map fun i => lnj d (rw' C i)).flatten
theorem pas_zero (d : List UInt8) (C : List (List (List UInt8))) : pas d C 0 = [] := rfl
theorem pas_succ (d : List UInt8) (C : List (List (List UInt8))) (m : Nat) : pas d C (m + 1) = pas d C m ++ lnj d (rw' C m) := by
  unfold pas; rw [List.range_succ, List.map_append, List.flatten_append]; simp
/-- How many bytes the first m lines of all columns have. -/
def wgt (C : List (List (List UInt8))) (m : Nat) : Nat := (C.map fun c => (c.take m).flatten.length).sum
theorem take_getD (c : List (List UInt8)) (m : Nat) : (c.take (m + 1)).flatten.length = (c.take m).flatten.length + (c.getD m []).length := by
  by_cases h : m < c.length
  · rw [List.take_succ_eq_append_getElem h, List.flatten_append, List.length_append]
    have e : c.getD m [] = c[m] := by rw [List.getD_eq_getElem?_getD, List.getElem?_eq_getElem h]; rfl
    rw [e]; simp
  · rw [List.take_of_length_le (by omega), List.take_of_length_le (by omega)]
    have e : c.getD m [] = [] := by rw [List.getD_eq_getElem?_getD, List.getElem?_eq_none (by omega)]; rfl
    rw [e]; simp
theorem wgt_succ : ∀ (C : List (List (List UInt8))) (m : Nat), wgt C (m + 1) = wgt C m + (rw' C m).flatten.length
  | [], m => by simp [wgt, rw']
  | c :: C, m => by
    have ih := wgt_succ C m
    have h := take_getD c m
    simp only [wgt, rw', List.map_cons, List.sum_cons, List.flatten_cons, List.length_append] at ih ⊢
    omega
theorem pas_len (d : List UInt8) (C : List (List (List UInt8))) : ∀ m, (pas d C m).length ≤ wgt C m + m * (C.length + 1)
  | 0 => by simp [pas_zero]
  | m + 1 => by
    have ih := pas_len d C m
    have h1 := jn_len d (rw' C m) 0
    rw [rw_len] at h1
    rw [pas_succ, List.length_append, wgt_succ, Nat.succ_mul]
    unfold lnj
    rw [List.length_append]
    simp only [List.length_cons, List.length_nil]
    omega
theorem wgt_le : ∀ (L : List (List UInt8)) (m : Nat), wgt (L.map ls) m ≤ L.flatten.length
  | [], m => by simp [wgt]
  | x :: L, m => by
    have ih := wgt_le L m
    have h1 := ls_flat x
    have h2 : ((ls x).take m).flatten.length ≤ (ls x).flatten.length := by
      have e : (ls x).flatten = ((ls x).take m).flatten ++ ((ls x).drop m).flatten := by rw [← List.flatten_append, List.take_append_drop]
      rw [e, List.length_append]; omega
    simp only [wgt, List.map_cons, List.sum_cons, List.flatten_cons, List.length_append] at ih ⊢
    omega
/-- The most lines of any column. -/
def mx (C : List (List (List UInt8))) (k : Nat) : Nat := (C.take k).foldl (fun m c => max m c.length) 0
theorem mx_zero (C : List (List (List UInt8))) : mx C 0 = 0 := by simp [mx]
theorem mx_succ {C : List (List (List UInt8))} {k : Nat} (h : k < C.length) : mx C (k + 1) = max (mx C k) C[k].length := by
  unfold mx
  rw [List.take_succ_eq_append_getElem h, List.foldl_append]; rfl
theorem mx_le {C : List (List (List UInt8))} {n : Nat} (h : ∀ c ∈ C, c.length ≤ n) : ∀ k, k ≤ C.length → mx C k ≤ n
  | 0, _ => by rw [mx_zero]; omega
  | k + 1, hk => by
    rw [mx_succ (by omega)]
    have h1 := mx_le h k (by omega)
    have h2 := h C[k] (List.getElem_mem (by omega))
    omega
theorem pas_le {L : List (List UInt8)} (hL : L.flatten.length + L.length ≤ 1048577) (d : List UInt8) (m : Nat) (hm : m ≤ 1048577) : (pas d (L.map ls) m).length ≤ 2 ^ 42 := by
  have h1 := pas_len d (L.map ls) m
  have h2 := wgt_le L m
  rw [List.length_map] at h1
  have h3 : m * (L.length + 1) ≤ 1048577 * 1048578 := Nat.mul_le_mul hm (by omega)
  omega
end Tl
theorem infoC : ∃ i, Try.prog.info? 23 = some i ∧ i.zero = some (.slice none 0 0) ∧ i.size = 1 ∧ i.bytes = 24 := info_of (by kernel_rfl)
theorem RB.mono {B B' : Nat} {W : World} {v : Value} {X : List (List UInt8)} (h : RB B W v X) (hB : B' ≤ B) : RB B' W v X := by
  obtain ⟨vs, h1, h2, h3, h4⟩ := h
  refine ⟨vs, ⟨h1.1, ?_⟩, h2, h3, fun i hi => (h4 i hi).mono hB⟩
  rcases h1.2 with h | ⟨g, cap, cur, e1, e2, e3⟩
  · exact .inl h
  · exact .inr ⟨g, cap, cur, e1, Nat.le_trans hB e2, e3⟩
/-- Rows of bytes stay as they are where a row of rows of rows grows. -/
theorem RB.other {B B2 n : Nat} {W w' : World} {v r : Value} {X : List (List UInt8)} {vs : List Value} (h : RB B W v X) (hg : W.grownBy w' r.ownBlock) (hr : W.ownsRow B2 23 1 r n vs) : RB B w' v X := by
  obtain ⟨us, h1, h2, h3, h4⟩ := h
  refine ⟨us, own_on h1 (fun g c hc => hg.block g (heap_lt hc) (fun e => ?_)), h2, h3, fun i hi => (h4 i hi).on (fun g c hc => hg.block g (heap_lt hc) (fun e => ?_))⟩
  · obtain ⟨c2, f2, h9⟩ := own_kind hr g e.symm
    exact absurd rfl (heap_ne hc h9 (by decide))
  · obtain ⟨c2, f2, h9⟩ := own_kind hr g e.symm
    exact absurd rfl (heap_ne hc h9 (by decide))
theorem RB.rd {B : Nat} {W : World} {a : Option Addr} {n c : Nat} {X : List (List UInt8)} (h : RB B W (.slice a n c) X) : Rd W a X := fun i hi => by
  obtain ⟨g, a', c', e, _, h2, h3, h4, _⟩ := h.ri i hi
  exact ⟨g, 0, a', c', e, h2, by rw [Nat.zero_add]; exact h3, h4⟩
/-- A row of one's own of columns. -/
def AC (B : Nat) (W : World) (v : Value) (C : List (List (List UInt8))) : Prop := ∃ vs : List Value, W.ownsRow B 23 1 v C.length vs ∧ ∃ hl : vs.length = C.length, ∀ i (h : i < C.length), RB B W (vs[i]'(by omega)) C[i]
theorem AC.nil (B : Nat) (W : World) : AC B W (.slice none 0 0) [] := ⟨[], World.ownsRow_nil _ _ _ _, rfl, fun i h => (by simp at h)⟩
theorem AC.grow {B : Nat} {W W' : World} {v : Value} {C : List (List (List UInt8))} (h : AC B W v C) (b : Below W.heap.size W W') : AC B W' v C := by
  obtain ⟨vs, h1, h2, h4⟩ := h
  exact ⟨vs, own_grow h1 b, h2, fun i hi => (h4 i hi).grow b⟩
theorem AC.slice {B : Nat} {W : World} {v : Value} {C : List (List (List UInt8))} (h : AC B W v C) : ∃ a c, v = .slice a C.length c := by
  obtain ⟨vs, h1, _⟩ := h
  exact own_slice h1
theorem AC.push {B : Nat} {W w' : World} {v v' u : Value} {C : List (List (List UInt8))} {X : List (List UInt8)} {vs : List Value} (h1 : W.ownsRow B 23 1 v C.length vs) (h2 : vs.length = C.length) (h4 : ∀ i (h : i < C.length), RB B W (vs[i]'(by omega)) C[i]) (hx : RB B W u X) (o : Obj) (hown : w'.ownsRow B 23 1 v' (C.length + 1) (vs ++ [u])) (hg : (W.alloc o).grownBy w' v.ownBlock) : AC B w' v' (C ++ [X]) := by
  have hB := (Below.refl W.heap.size W).alloc (Nat.le_refl _) o
  have ho := own_grow h1 hB
  refine ⟨vs ++ [u], by rw [List.length_append]; exact hown, by simp [h2], fun i hi => ?_⟩
  by_cases hlt : i < C.length
  · rw [List.getElem_append_left (by omega), List.getElem_append_left hlt]
    exact ((h4 i hlt).grow hB).other hg ho
  · have e : i = C.length := by simp at hi; omega
    subst e
    have e1 : (vs ++ [u])[C.length]'(by simp; omega) = u := by
      rw [List.getElem_append_right (by omega)]; simp [h2]
    have e2 : (C ++ [X])[C.length]'(by simp) = X := by simp
    rw [e1, e2]
    exact (hx.grow hB).other hg ho
/-- Columns that are read. -/
def Cd (W : World) (a : Option Addr) (C : List (List (List UInt8))) : Prop := ∀ i (h : i < C.length), ∃ g o a' c', a = some ⟨g, o, none⟩ ∧ g < W.heap.size ∧ W.cell? ⟨g, o + i, none⟩ = some (.slice a' C[i].length c') ∧ Rd W a' C[i]
theorem AC.cd {B : Nat} {W : World} {a : Option Addr} {n c : Nat} {C : List (List (List UInt8))} (h : AC B W (.slice a n c) C) : Cd W a C := fun i hi => by
  obtain ⟨vs, h1, h2, h4⟩ := h
  rcases h1.2 with ⟨e, h0⟩ | ⟨g, cap, cur, e, hb, hg, hnc, hcm, hsz, ht⟩
  · omega
  · injection e with e1 e2 e3
    subst e1 e3
    have hb4 := h4 i hi
    obtain ⟨a', c', ev⟩ := hb4.slice
    have := h1.cells (g := g) (by rfl) i (vs[i]'(by omega)) (by simp [h2, hi])
    rw [add0] at this
    rw [ev] at hb4
    exact ⟨g, 0, a', c', rfl, heap_lt hg, by rw [Nat.zero_add, this, ev], hb4.rd⟩
end Go.Proofs.Ytplnojohlbbalaa
/- The program's Paste: columns of one's own, the row of their n-th lines, the columns that are left. Condition: lengths that fit. -/
namespace Go.Proofs.Ytplnojohlbbalaa
open Go.RowKit
attribute [local go_sem] ext_eq app_eq get_eq
theorem mk_rows (n : Nat) (hn : n ≤ 1048577) (w : World) : (Instr.makeSlice 23 (.int .i64 n) (.int .i64 n)).run Try.prog w = .ok (.slice (some ⟨w.heap.size, 0, none⟩) n n) (w.alloc (.cells (madeCells #[.slice none 0 0] n) 22)) := by
  obtain ⟨i, hi, hz, hs, hb⟩ := infoRR
  have h := run_make (P := Try.prog) w 23 22 i _ Try.underlying23 hi hz .i64 .i64 n n (by omega) (by omega) (by rw [hb]; omega) (by omega)
  rw [hs] at h
  simpa [Value.cells] using h
theorem mk_cols (n : Nat) (hn : n ≤ 1048577) (w : World) : (Instr.makeSlice 47 (.int .i64 n) (.int .i64 n)).run Try.prog w = .ok (.slice (some ⟨w.heap.size, 0, none⟩) n n) (w.alloc (.cells (madeCells #[.slice none 0 0] n) 23)) := by
  obtain ⟨i, hi, hz, hs, hb⟩ := infoC
  have h := run_make (P := Try.prog) w 47 23 i _ Try.underlying47 hi hz .i64 .i64 n n (by omega) (by omega) (by rw [hb]; omega) (by omega)
  rw [hs] at h
  simpa [Value.cells] using h
theorem made_own (w : World) (B n : Nat) (T : TypeId) (hn : n ≤ 1048577) (hB : B ≤ w.heap.size) : (w.alloc (.cells (madeCells #[.slice none 0 0] n) T)).ownsRow B T 1 (.slice (some ⟨w.heap.size, 0, none⟩) n n) n (List.replicate n (.slice none 0 0)) := by
  refine ⟨by simp, .inr ⟨w.heap.size, n, _, rfl, hB, heap_new _ _, Nat.le_refl _, by unfold maxLen; omega, ?_, ?_⟩⟩
  · simpa using size_madeCells #[Value.slice none 0 0] n
  · rw [toList_madeCells_one, Nat.mul_one, List.take_of_length_le (by simp)]
/-- A row of slices of bytes of one's own; the first k of them are those of X, the others are nil. -/
def Rw (w0 : World) (B : Nat) (W : World) (v : Value) (X : List (List UInt8)) (k : Nat) : Prop := ∃ vs : List Value, W.ownsRow B 22 1 v X.length vs ∧ ∃ hl : vs.length = X.length, (∀ i (h : i < X.length), i < k → ∃ a c, vs[i]'(by omega) = .slice a X[i].length c ∧ Sr w0 a c X[i]) ∧ ∀ i (h : i < X.length), k ≤ i → vs[i]'(by omega) = .slice none 0 0
theorem Rw.rt {w0 : World} {B : Nat} {W : World} {v : Value} {X : List (List UInt8)} {k : Nat} (h : Rw w0 B W v X k) (hk : ¬ k < X.length) : RT w0 B W v X := by
  obtain ⟨vs, h1, h2, h3, _⟩ := h
  exact ⟨vs, h1, h2, fun i hi => h3 i hi (by omega)⟩
theorem Rw.skip {w0 : World} {B : Nat} {W : World} {v : Value} {X : List (List UInt8)} {k : Nat} (h : Rw w0 B W v X k) (hk : k < X.length) (hx : X[k] = []) : Rw w0 B W v X (k + 1) := by
  obtain ⟨vs, h1, h2, h3, h4⟩ := h
  refine ⟨vs, h1, h2, fun i hi hik => ?_, fun i hi hik => h4 i hi (by omega)⟩
  by_cases e : i = k
  · subst e
    refine ⟨none, 0, ?_, ?_⟩
    · rw [h4 i hi (Nat.le_refl _), hx]; rfl
    · rw [hx]; exact Sr.empty _
  · exact h3 i hi (by omega)
theorem Rw.store {w0 : World} {B : Nat} {W : World} {g n cap : Nat} {X : List (List UInt8)} {k : Nat} (h : Rw w0 B W (.slice (some ⟨g, 0, none⟩) n cap) X k) (hk : k < X.length) {a : Option Addr} {c : Nat} (hs : Sr w0 a c X[k]) : Rw w0 B (W.setCell ⟨g, k, none⟩ (.slice a X[k].length c)) (.slice (some ⟨g, 0, none⟩) n cap) X (k + 1) := by
  obtain ⟨vs, h1, h2, h3, h4⟩ := h
  have en : n = X.length := by
    obtain ⟨a', c', e'⟩ := own_slice h1
    injection e' with _ e2 _
  subst en
  refine ⟨vs.set k (.slice a X[k].length c), (h1.stored k _).1, by simp [h2], fun i hi hik => ?_, fun i hi hik => ?_⟩
  · rw [List.getElem_set]
    by_cases e : k = i
    · subst e
      rw [if_pos rfl]
      exact ⟨a, c, rfl, hs⟩
    · rw [if_neg e]
      exact h3 i hi (by omega)
  · rw [List.getElem_set, if_neg (by omega)]
    exact h4 i hi (by omega)
theorem Rw.cell {w0 : World} {B : Nat} {W : World} {g n cap : Nat} {X : List (List UInt8)} {k : Nat} (h : Rw w0 B W (.slice (some ⟨g, 0, none⟩) n cap) X k) (hk : k < X.length) : B ≤ g ∧ g < W.heap.size ∧ W.cell? ⟨g, k, none⟩ = some (.slice none 0 0) ∧ W.frozen? ⟨g, k, none⟩ = false := by
  obtain ⟨vs, h1, h2, h3, h4⟩ := h
  have en : n = X.length := by
    obtain ⟨a', c', e'⟩ := own_slice h1
    injection e' with _ e2 _
  subst en
  have hc := h1.cells (g := g) rfl k (vs[k]'(by omega)) (by simp [h2, hk])
  rw [add0, h4 k hk (Nat.le_refl _)] at hc
  exact ⟨(h1.lt g rfl).1, (h1.lt g rfl).2, hc, h1.frozenAt k⟩
/-- A column, as the program has it: its rows of slices lie in blocks of their kind, its bytes stand in the world w0. -/
def Ck (w0 : World) (W : World) (v : Value) (X : List (List UInt8)) : Prop := ∃ a c, v = .slice a X.length c ∧ X.length ≤ c ∧ Rk w0 W a X
/-- Columns of one's own, as the program has them. -/
def PC (w0 : World) (B : Nat) (W : World) (v : Value) (C : List (List (List UInt8))) : Prop := ∃ vs : List Value, W.ownsRow B 23 1 v C.length vs ∧ ∃ hl : vs.length = C.length, ∀ i (h : i < C.length), Ck w0 W (vs[i]'(by omega)) C[i]
theorem Ck.grow {w0 W W' : World} {v : Value} {X : List (List UInt8)} (h : Ck w0 W v X) (b : Below W.heap.size W W') : Ck w0 W' v X := by
  obtain ⟨a, c, e, h1, h2⟩ := h
  exact ⟨a, c, e, h1, h2.grow b⟩
theorem PC.grow {w0 : World} {B : Nat} {W W' : World} {v : Value} {C : List (List (List UInt8))} (h : PC w0 B W v C) (b : Below W.heap.size W W') : PC w0 B W' v C := by
  obtain ⟨vs, h1, h2, h3⟩ := h
  exact ⟨vs, own_grow h1 b, h2, fun i hi => (h3 i hi).grow b⟩
theorem PC.slice {w0 : World} {B : Nat} {W : World} {v : Value} {C : List (List (List UInt8))} (h : PC w0 B W v C) : ∃ a c, v = .slice a C.length c := by
  obtain ⟨vs, h1, _⟩ := h
  exact own_slice h1
/-- Columns stay as they are where a row of bytes grows. -/
theorem PC.other {w0 : World} {B B2 n : Nat} {W w' : World} {v r : Value} {C : List (List (List UInt8))} {us : List Value} (h : PC w0 B W v C) (hg : W.grownBy w' r.ownBlock) (hr : W.ownsRow B2 5 1 r n us) : PC w0 B w' v C := by
  obtain ⟨vs, h1, h2, h3⟩ := h
  refine ⟨vs, own_on h1 (fun g c hc => hg.block g (heap_lt hc) (fun e => ?_)), h2, fun i hi => ?_⟩
  · obtain ⟨c2, f2, h9⟩ := own_kind hr g e.symm
    exact absurd rfl (heap_ne hc h9 (by decide))
  · obtain ⟨a, c, e, q1, q2⟩ := h3 i hi
    exact ⟨a, c, e, q1, q2.other hg hr⟩
theorem Rk.setC {w0 W : World} {a : Option Addr} {X : List (List UInt8)} (h : Rk w0 W a X) {g j : Nat} {u : Value} (hk : ∃ c fz, W.heap[g]? = some (.cells c 23 fz)) : Rk w0 (W.setCell ⟨g, j, none⟩ u) a X := fun i hi => by
  obtain ⟨g2, o, a', c', e, hc, ⟨cc, fz, hk2⟩, hs⟩ := h i hi
  obtain ⟨c3, f3, h3⟩ := hk
  have hne : g2 ≠ g := heap_ne hk2 h3 (by decide)
  refine ⟨g2, o, a', c', e, ?_, ⟨cc, fz, ?_⟩, hs⟩
  · rw [World.cell?_setCell_other _ _ _ _ (by intro e9; injection e9 with e9 _ _; exact hne e9.symm)]; exact hc
  · rw [heap_setCell_other W ⟨g, j, none⟩ g2 u hne]; exact hk2
end Go.Proofs.Ytplnojohlbbalaa
