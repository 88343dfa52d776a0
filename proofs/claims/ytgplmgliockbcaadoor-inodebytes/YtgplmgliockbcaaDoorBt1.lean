/- What the walk of InodeBytes wants: the pieces in memory, the rows of bytes, a file that was made. -/
import Derived.Test.YtgplmgliockbcaaDoorM10
import Derived.Test.YtgplmgliockbcaaDoorBti
import Derived.Test.YtgplmgliockbcaaDoorApz
import Derived.Laws.CopyOwn
namespace Go.Proofs.YtgplmgliockbcaaDoor
open Go.RowKit
structure PA (W : World) (g o k : Nat) (At : Int) (p : Option Addr) (bs : List Nat) (cap : Nat) (cut : Bool) : Prop where
  c0 : W.cell? ⟨g, o + k * 3, none⟩ = some (.int .i64 At)
  c1 : W.cell? ⟨g, o + k * 3 + 1, none⟩ = some (.slice p bs.length cap)
  c2 : W.cell? ⟨g, o + k * 3 + 2, none⟩ = some (.bool cut)
  le : bs.length ≤ cap
  cm : cap ≤ maxLen
  b8 : ∀ x ∈ bs, x < 256
  at_ : bs ≠ [] → ∃ pg po, p = some ⟨pg, po, none⟩ ∧ ∀ j x, bs[j]? = some x → W.cell? ⟨pg, po + j, none⟩ = some (byteV x)
theorem PA.mod {W W' : World} {g o k : Nat} {At : Int} {p : Option Addr} {bs : List Nat} {cap : Nat} {cut : Bool} (h : PA W g o k At p bs cap cut) (hM : Mod (fun _ => False) W W') : PA W' g o k At p bs cap cut :=
  have e : ∀ b j v, W.cell? ⟨b, j, none⟩ = some v → W'.cell? ⟨b, j, none⟩ = some v := fun b j v hv => (hM.cell (p := ⟨b, j, none⟩) (block_lt_of_cell hv) (fun h => h)).trans hv
  ⟨e _ _ _ h.c0, e _ _ _ h.c1, e _ _ _ h.c2, h.le, h.cm, h.b8, fun hn => by obtain ⟨pg, po, h1, h2⟩ := h.at_ hn; exact ⟨pg, po, h1, fun j x hj => e _ _ _ (h2 j x hj)⟩⟩
abbrev Own8 (W : World) (B : Nat) (v : Value) (L : List Nat) : Prop := W.ownsRow B 5 1 v L.length (L.map byteV)
theorem own_mod {W W' : World} {B e n : Nat} {v : Value} {xs : List Value} (h : W.ownsRow B e 1 v n xs) {s : Nat → Prop} (hM : Mod s W W') (hs : ∀ k, B ≤ k → ¬ s k) : W'.ownsRow B e 1 v n xs := by
  refine ⟨h.1, ?_⟩
  rcases h.2 with h | ⟨g, cap, cur, h1, h2, h3, h4⟩
  · exact .inl h
  · exact .inr ⟨g, cap, cur, h1, h2, (hM.block g (Array.getElem?_eq_some_iff.1 h3).1 (hs g h2)).trans h3, h4⟩
theorem own_weaken {W : World} {B B' e n : Nat} {v : Value} {xs : List Value} (h : W.ownsRow B e 1 v n xs) (hB : B' ≤ B) : W.ownsRow B' e 1 v n xs := by
  refine ⟨h.1, ?_⟩
  rcases h.2 with h | ⟨g, cap, cur, h1, h2, h3⟩
  · exact .inl h
  · exact .inr ⟨g, cap, cur, h1, Nat.le_trans hB h2, h3⟩
theorem own_cut {W : World} {B e n m cap : Nat} {a : Option Addr} {xs : List Value} (h : W.ownsRow B e 1 (.slice a n cap) n xs) (ha : a ≠ none) (hm : m ≤ n) : W.ownsRow B e 1 (.slice a m cap) m (xs.take m) := by
  have hl : xs.length = n := by simpa using h.1
  refine ⟨by rw [List.length_take]; omega, ?_⟩
  rcases h.2 with ⟨h, _⟩ | ⟨g, cap', cur, h1, h2, h3, h4, h5, h6, h7⟩
  · cases h; exact absurd rfl ha
  · cases h1
    refine .inr ⟨g, cap, cur, rfl, h2, h3, by omega, h5, h6, ?_⟩
    simp only [Nat.mul_one] at h7 ⊢
    rw [← h7, List.take_take, Nat.min_eq_left hm]
theorem own_fresh (W : World) (e : TypeId) : (W.alloc (.cells #[] e)).ownsRow W.heap.size e 1 (.slice (some ⟨W.heap.size, 0, none⟩) 0 0) 0 [] :=
  ⟨rfl, .inr ⟨W.heap.size, 0, #[], rfl, Nat.le_refl _, heap_alloc_new W _, Nat.le_refl _, Nat.zero_le _, rfl, rfl⟩⟩
theorem own_bytes {W : World} {B : Nat} {v : Value} {L : List Nat} (h : Own8 W B v L) (h8 : ∀ x ∈ L, x < 256) : BytesAt W v L := by
  refine ⟨h8, ?_⟩
  rcases h.2 with ⟨h1, h2⟩ | ⟨g, cap, cur, h1, h2, h3, h4⟩
  · refine ⟨none, 0, by rw [h1, h2], fun _ => List.eq_nil_of_length_eq_zero h2, fun ad h => by cases h⟩
  · refine ⟨some ⟨g, 0, none⟩, cap, h1, (fun h => by cases h), fun ad had j x hj => ?_⟩
    cases had
    exact h.cells (g := g) (by rw [h1]; rfl) j (byteV x) (by rw [List.getElem?_map, hj]; rfl)
theorem bytes_mod {W W' : World} {v : Value} {L : List Nat} (h : BytesAt W v L) (hM : Mod (fun _ => False) W W') : BytesAt W' v L := by
  obtain ⟨h1, a, cap, h2, h3, h4⟩ := h
  exact ⟨h1, a, cap, h2, h3, fun ad had j x hj => (hM.cell (p := ad.add j) (block_lt_of_cell (h4 ad had j x hj)) (fun h => h)).trans (h4 ad had j x hj)⟩
structure BI (w W : World) (t q b c B : Nat) (L : List Nat) (v : Value) : Prop where
  ti : TI W t q b c L
  own : Own8 W B v L
  md : Mod (fun _ => False) w W
  sz : B ≤ W.heap.size
/-- The table's blocks are new, and lie below B. -/
structure BQ (w : World) (t q b c B : Nat) : Prop where
  t0 : w.heap.size ≤ t
  q0 : w.heap.size ≤ q
  b0 : w.heap.size ≤ b
  c0 : w.heap.size ≤ c
  t1 : t < B
  q1 : q < B
  b1 : b < B
  c1 : c < B
  g1 : 0 < w.heap.size
theorem BI.grow {w W W' : World} {t q b c B : Nat} {L : List Nat} {v : Value} (h : BI w W t q b c B L v) (hM : Mod (fun _ => False) W W') : BI w W' t q b c B L v :=
  ⟨h.ti.keep hM (fun h => h) (fun h => h) (fun h => h) (fun h => h) (fun h => h), own_mod h.own hM (fun _ _ h => h), h.md.trans hM, Nat.le_trans h.sz hM.size⟩
theorem fi_zero (D : Nat → Nat) (u : Nat → Bool) (R : Nat → Nat) (h : ∀ j, R j = 0) : Mp.FI u D R :=
  ⟨fun j _ => by rw [h j]; exact Mp.wf_zero _ _ _, fun i j _ _ _ b hb => by rw [h i] at hb; exact absurd hb (Mp.ow_zero _ _ _ _), fun j _ => by rw [h j]; omega⟩
theorem rd_zero (D : Nat → Nat) (u : Nat → Bool) (R : Nat → Nat) (h : ∀ j, R j = 0) (x : Nat) : rd u D R x = 0 := by
  have : lkAt u D R (x / 64) = 0 := by unfold lkAt; rw [h, lk_zero]
  unfold rd
  rw [this, if_neg (by simp)]
theorem ti_new {W : World} {t q b c : Nat} {m : Int} (hm : m ≠ 0) (T : Tb W t q b c 1000 1 0 (setN (fun _ _ => 0) 0 (freshF m 0 0 0)) (setN (fun _ _ => 0) 0 (fun _ => 0)) (fun _ => false) (fun _ => 0)) : TI W t q b c [] :=
  ⟨⟨_, _, _, _, T, by simpa [setN, freshF] using hm, by simp [setN, freshF], fi_zero _ _ _ (fun j => by simp [setN]), fun x h => by simp at h, fun x _ => by rw [rd_zero _ _ _ (fun j => by simp [setN])]; rfl⟩, by simp, fun x h => by cases h⟩
/-- What Go makes of 'want' where the file is cut. -/
theorem cutL_eq (L : List Nat) (s : Nat) : L.take s ++ List.replicate (s - (L.take s).length) 0 = cutL L s := by
  apply List.ext_getElem?
  intro i
  unfold cutL
  rw [List.length_take]
  by_cases h1 : i < min s L.length
  · rw [List.getElem?_append_left (by rw [List.length_take]; omega), List.getElem?_take_of_lt (by omega), List.getElem?_map, List.getElem?_range (by omega)]
    show _ = some (L.getD i 0)
    rw [List.getD_eq_getElem?_getD, List.getElem?_eq_getElem (by omega)]; rfl
  · rw [List.getElem?_append_right (by rw [List.length_take]; omega), List.getElem?_replicate, List.getElem?_map, List.length_take]
    by_cases h2 : i < s
    · rw [if_pos (by omega), List.getElem?_range h2]
      show _ = some (L.getD i 0)
      rw [getD_out L i (by omega)]
    · rw [if_neg (by omega), List.getElem?_eq_none (by simp; omega)]; rfl
/-- What Go makes of 'want' where bytes are written. -/
theorem wrL_eq (L bs : List Nat) (o n : Nat) (hn : n ≤ bs.length) : splice (L ++ List.replicate (o + n - L.length) 0) o (bs.take n) = wrL L bs o n := by
  have hl1 : (L ++ List.replicate (o + n - L.length) 0).length = max L.length (o + n) := by simp; omega
  have hl2 : (bs.take n).length = n := by rw [List.length_take]; omega
  have hmin : min o (L ++ List.replicate (o + n - L.length) 0).length = o := by rw [hl1]; omega
  apply List.ext_getElem?
  intro i
  unfold splice wrL
  rw [hl2, List.getElem?_map]
  by_cases h0 : i < o
  · rw [List.getElem?_append_left (by rw [List.length_take]; omega), List.getElem?_take_of_lt h0, List.getElem?_range (by omega)]
    show _ = some (if o ≤ i ∧ i < o + n then _ else L.getD i 0)
    rw [if_neg (by omega)]
    by_cases h1 : i < L.length
    · rw [List.getElem?_append_left h1, List.getD_eq_getElem?_getD, List.getElem?_eq_getElem h1]; rfl
    · rw [List.getElem?_append_right (by omega), List.getElem?_replicate, if_pos (by omega), getD_out L i (by omega)]
  · by_cases h1 : i < o + n
    · rw [List.getElem?_append_right (by rw [List.length_take]; omega), List.length_take, List.getElem?_append_left (by omega), List.getElem?_range (by omega)]
      show _ = some (if o ≤ i ∧ i < o + n then bs.getD (i - o) 0 else _)
      rw [if_pos (by omega), hmin, List.getElem?_take_of_lt (by omega), List.getD_eq_getElem?_getD, List.getElem?_eq_getElem (by omega)]; rfl
    · rw [List.getElem?_append_right (by rw [List.length_take]; omega), List.length_take, List.getElem?_append_right (by omega), hl2, List.getElem?_drop, hmin, show o + n + (i - o - n) = i by omega]
      by_cases h2 : i < L.length
      · rw [List.getElem?_append_left h2, List.getElem?_range (by omega)]
        show _ = some (if o ≤ i ∧ i < o + n then _ else L.getD i 0)
        rw [if_neg (by omega), List.getD_eq_getElem?_getD, List.getElem?_eq_getElem h2]; rfl
      · rw [List.getElem?_append_right (by omega), List.getElem?_replicate, if_neg (by omega), List.getElem?_eq_none (by simp; omega)]; rfl
theorem splice_map {α β : Type} (f : α → β) (a : List α) (o : Nat) (b : List α) : (splice a o b).map f = splice (a.map f) o (b.map f) := by
  unfold splice
  rw [List.map_append, List.map_append, List.map_take, List.map_drop, List.length_map]
theorem splice_take {α : Type} (a : List α) (o : Nat) (b : List α) (m : Nat) (h : o + b.length ≤ m) (hm : m ≤ a.length) : (splice a o b).take m = splice (a.take m) o b := by
  unfold splice
  apply List.ext_getElem?
  intro i
  by_cases hi : i < m
  · rw [List.getElem?_take_of_lt hi]
    by_cases h0 : i < o
    · rw [List.getElem?_append_left (by rw [List.length_take]; omega), List.getElem?_append_left (by rw [List.length_take, List.length_take]; omega), List.getElem?_take_of_lt h0, List.getElem?_take_of_lt h0, List.getElem?_take_of_lt hi]
    · have e1 : (a.take o).length = o := by rw [List.length_take]; omega
      have e2 : ((a.take m).take o).length = o := by rw [List.length_take, List.length_take]; omega
      rw [show (a.take o ++ (b ++ a.drop (o + b.length)))[i]? = (b ++ a.drop (o + b.length))[i - (a.take o).length]? from List.getElem?_append_right (by omega), show ((a.take m).take o ++ (b ++ (a.take m).drop (o + b.length)))[i]? = (b ++ (a.take m).drop (o + b.length))[i - ((a.take m).take o).length]? from List.getElem?_append_right (by omega), e1, e2]
      by_cases h1 : i - o < b.length
      · rw [List.getElem?_append_left h1, List.getElem?_append_left h1]
      · rw [List.getElem?_append_right (by omega), List.getElem?_append_right (by omega), List.getElem?_drop, List.getElem?_drop, List.getElem?_take_of_lt (by omega)]
  · rw [List.getElem?_eq_none (by rw [List.length_take]; omega), List.getElem?_eq_none (by simp only [List.length_append, List.length_take, List.length_drop]; omega)]
theorem splice_len {α : Type} (a : List α) (o : Nat) (b : List α) (h : o + b.length ≤ a.length) : (splice a o b).length = a.length := by
  unfold splice
  simp only [List.length_append, List.length_take, List.length_drop]
  omega
/-- Bytes are copied into an own row. -/
theorem own_splice {W' : World} {B gw cw n s : Nat} {L1 bs : List Nat} {cur : List Value} (hc : cur.length = cw) (ht : cur.take L1.length = L1.map byteV) (hB : B ≤ gw) (hl : L1.length ≤ cw) (hcm : cw ≤ maxLen) (hs : s + n ≤ L1.length) (hb : (bs.take n).length = n)
    (hg : W'.heap[gw]? = some (.cells (splice cur s ((bs.take n).map byteV)).toArray 5 (0, 0))) : Own8 W' B (.slice (some ⟨gw, 0, none⟩) L1.length cw) (splice L1 s (bs.take n)) := by
  have hsl : (splice L1 s (bs.take n)).length = L1.length := splice_len _ _ _ (by rw [hb]; exact hs)
  refine ⟨by rw [List.length_map]; simp, .inr ⟨gw, cw, _, by rw [hsl], hB, hg, by rw [hsl]; exact hl, hcm, ?_, ?_⟩⟩
  · rw [List.size_toArray, splice_len _ _ _ (by rw [List.length_map, hb]; omega)]; omega
  · rw [hsl, Nat.mul_one]
    show (splice cur s ((bs.take n).map byteV)).take L1.length = _
    rw [splice_take _ _ _ _ (by rw [List.length_map, hb]; exact hs) (by omega), ht, splice_map]
end Go.Proofs.YtgplmgliockbcaaDoor
