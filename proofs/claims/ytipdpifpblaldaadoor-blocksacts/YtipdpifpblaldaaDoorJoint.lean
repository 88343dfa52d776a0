/- The store and the plain list behind New and behind Copy: alike again. -/
import Derived.Test.YtipdpifpblaldaaDoorTurned
import Derived.Deep.Slices
namespace Go.Proofs.YtipdpifpblaldaaDoor
open Go.RowKit
theorem made_one (v : Value) (n j : Nat) (hj : j < n) : (madeCells #[v] n)[j]? = some v := by
  simp only [madeCells, Array.getElem?_map]
  rw [Array.getElem?_eq_getElem (by simpa using hj)]
  simp only [Array.getElem_range, Option.map_some]
  rw [show (#[v] : Array Value).size = 1 from rfl, Nat.mod_one]; rfl
/-- Behind New. -/
theorem Rf.new {w : World} {tb n ob yb : Nat} (h0 : tb ≠ 0) (h1 : ob ≠ 0) (h2 : yb ≠ 0) (to : tb ≠ ob) (ty : tb ≠ yb) (oy : ob ≠ yb) (on : w.cell? ⟨tb, 0, none⟩ = some (.slice (some ⟨ob, 0, none⟩) n n)) (yn : w.cell? ⟨tb, 1, none⟩ = some (.slice (some ⟨yb, 0, none⟩) n n))
    (ft : ∀ o, w.frozen? ⟨tb, o, none⟩ = false) (hb : w.heap[ob]? = some (.cells (madeCells #[.bool false] n) 4 (0, 0))) (hy : w.heap[yb]? = some (.cells (madeCells #[.slice none 0 0] n) 33 (0, 0))) :
    Rf w tb n (fun _ => false) (fun _ => 0) (fun k => k = tb ∨ k = ob ∨ k = yb) ob n yb n (fun _ => 0) where
  lt k hk := by
    rcases hk with h | h | h
    · rw [h]; exact block_lt_of_cell on
    · rw [h]; exact (Array.getElem?_eq_some_iff.1 hb).1
    · rw [h]; exact (Array.getElem?_eq_some_iff.1 hy).1
  f0 h := by omega
  fz k o hk := by
    rcases hk with h | h | h
    · rw [h]; exact ft o
    · rw [h]; exact frozen_of_row w ob o _ 4 hb
    · rw [h]; exact frozen_of_row w yb o _ 33 hy
  tF := .inl rfl
  oF := .inr (.inl rfl)
  yF := .inr (.inr rfl)
  to := to
  ty := ty
  oy := oy
  on := on
  yn := yn
  oc i hi := by rw [cell_of_row w ob i _ 4 (0, 0) hb]; exact made_one _ n i hi
  row j hj := .inl ⟨by rw [cell_of_row w yb j _ 33 (0, 0) hy]; exact made_one _ n j hj, rfl, rfl⟩
  inj j j' _ _ h := by cases h
theorem Rf.sources {w : World} {tb n : Nat} {u : Nat → Bool} {D : Nat → Nat} {F : Nat → Prop} {ob co yb cy : Nat} {R : Nat → Nat} (S : Rf w tb n u D F ob co yb cy R) :
    ∃ (sv : Nat → Value) (src : Nat → List Nat), ∀ i, i < n → (w.cell? ⟨yb, i, none⟩ = some (sv i) ∧ SrcAt w (sv i) (src i) ∧ (src i).length ≤ 64) ∧ (∀ x ∈ src i, x < 256) ∧ (u i = true → src i = blk D i) := by
  have h : ∀ i, i < n → ∃ p : Value × List Nat, (w.cell? ⟨yb, i, none⟩ = some p.1 ∧ SrcAt w p.1 p.2 ∧ p.2.length ≤ 64) ∧ (∀ x ∈ p.2, x < 256) ∧ (u i = true → p.2 = blk D i) := fun i hi => by
    rcases S.row i hi with ⟨a1, a2, _⟩ | ⟨l, C, a1, _, _, _, _, a6, a7, a8, a9⟩
    · exact ⟨(.slice none 0 0, []), ⟨a1, .inl ⟨rfl, rfl⟩, Nat.zero_le _⟩, fun x hx => (by cases hx), fun h => by rw [h] at a2; cases a2⟩
    · exact ⟨(_, l), ⟨a1, .inr ⟨R i, C, rfl, a8⟩, a6⟩, a7, a9⟩
  obtain ⟨f, hf⟩ := Go.Deep.choose_lt h
  exact ⟨fun i => (f i).1, fun i => (f i).2, hf⟩
/-- Behind Copy. -/
theorem Rf.copied {wA wr W : World} {tb n : Nat} {u : Nat → Bool} {D : Nat → Nat} {src : Nat → List Nat} {o0 g0 c0 gv cv : Nat} {vals : List Value} {R : Nat → Nat} (C : CI wA wr n u src o0 g0 c0 n (.slice (some ⟨gv, 0, none⟩) n cv))
    (CR : CRows wA wr src o0 g0 n (.slice (some ⟨gv, 0, none⟩) n cv) vals R) (hsrc : ∀ i, i < n → (src i).length ≤ 64 ∧ (∀ x ∈ src i, x < 256) ∧ (u i = true → src i = blk D i)) (ht : tb < wA.heap.size) (ht0 : tb ≠ 0)
    (on : W.cell? ⟨tb, 0, none⟩ = some (.slice (some ⟨g0, 0, none⟩) n c0)) (yn : W.cell? ⟨tb, 1, none⟩ = some (.slice (some ⟨gv, 0, none⟩) n cv)) (ft : ∀ o, W.frozen? ⟨tb, o, none⟩ = false)
    (keep : ∀ k, wA.heap.size ≤ k → k < wr.heap.size → W.heap[k]? = wr.heap[k]?) (hs : wr.heap.size ≤ W.heap.size) :
    Rf W tb n u D (fun k => k = tb ∨ k = g0 ∨ k = gv ∨ ∃ j, j < n ∧ k = R j) g0 c0 gv cv R := by
  have hgv : wA.heap.size ≤ gv ∧ gv < wr.heap.size := CR.own.lt gv rfl
  have kg0 : W.heap[g0]? = wr.heap[g0]? := keep g0 C.gw C.on.lt
  have kgv : W.heap[gv]? = wr.heap[gv]? := keep gv hgv.1 hgv.2
  have rows := rowIs_owned CR.own
  have ris : ∀ j, j < n → RowIs W (R j) 5 ((src j).map byteV) := fun j hj => by
    obtain ⟨q1, q2, _⟩ := CR.ris j hj
    exact q1.keep (keep _ q2 q1.lt)
  have rv : ∀ j, j < n → gv ≠ R j := fun j hj e => by
    obtain ⟨_, _, _, _, q5⟩ := CR.ris j hj
    exact q5 (by simp [Value.ownBlock, e])
  have hgg : g0 ≠ gv := fun e => CR.vg (by simp [Value.ownBlock, e])
  refine ⟨fun k hk => ?_, fun h => ?_, fun k o hk => ?_, .inl rfl, .inr (.inl rfl), .inr (.inr (.inl rfl)), by have := C.gw; omega, by omega, hgg, on, yn, fun i hi => ?_, fun j hj => ?_, fun j j' hj hj' _ he => ?_⟩
  · rcases hk with h | h | h | ⟨j, hj, h⟩
    · rw [h]; exact block_lt_of_cell on
    · have := C.on.lt; omega
    · omega
    · rw [h]; exact (ris j hj).lt
  · rcases h with h | h | h | ⟨j, hj, h⟩
    · exact ht0 h.symm
    · have := C.gw; omega
    · omega
    · have := (CR.ris j hj).2.1; omega
  · rcases hk with h | h | h | ⟨j, hj, h⟩
    · rw [h]; exact ft o
    · rw [h]; exact (C.on.keep kg0).frozen o
    · rw [h]; exact (rows.keep kgv).frozen o
    · rw [h]; exact (ris j hj).frozen o
  · exact (C.on.keep kg0).cell i _ (ons_at u n i hi)
  · obtain ⟨cap, hv⟩ := CR.row j hj
    obtain ⟨q1, q2, q3, q4, q5⟩ := CR.ris j hj
    obtain ⟨s1, s2, s3⟩ := hsrc j hj
    exact .inr ⟨src j, cap, (rows.keep kgv).cell j _ hv, .inr (.inr (.inr ⟨j, hj, rfl⟩)), by omega, q4, (rv j hj).symm, s1, s2, fun i x hx => (ris j hj).cell i _ (by rw [List.getElem?_map, hx]; rfl), s3⟩
  · by_cases h1 : j < j'
    · have := CR.inc j j' h1 hj'; omega
    · by_cases h2 : j' < j
      · have := CR.inc j' j h2 hj; omega
      · omega
theorem IntsAt.keep {w w' : World} {v : Value} {l : List Nat} (h : IntsAt w v l) (m : Mod (fun _ => False) w w') : IntsAt w' v l := by
  obtain ⟨a, cap, h1, h2⟩ := h
  refine ⟨a, cap, h1, fun q x hq => ?_⟩
  obtain ⟨g, h3, h4⟩ := h2 q x hq
  exact ⟨g, h3, by rw [m.cell (p := ⟨g, q, none⟩) (block_lt_of_cell h4) (fun h => h)]; exact h4⟩
/-- The worlds of a round that goes on with a copy: w4 ahead of it; w5 behind the store's Copy; w6 behind the list's; o: the copy's variable; w8 behind 'turned'. -/
theorem J.copied {w4 w5 wr w6 w8 : World} {B0 b c tb n b' c' : Nat} {u : Nat → Bool} {D : Nat → Nat} {F : Nat → Prop} {src : Nat → List Nat} {o0 g0 c0 gv cv : Nat} {o1 o2 : Obj} (j : J w4 B0 b c tb n u D F)
    (S5 : St w5 b' c' n u D) (M5 : Mod (fun _ => False) w4 w5) (hb' : w4.heap.size ≤ b') (hc' : w4.heap.size ≤ c') (C : CI (w5.alloc o1) wr n u src o0 g0 c0 n (.slice (some ⟨gv, 0, none⟩) n cv))
    (hsrc : ∀ i, i < n → (src i).length ≤ 64 ∧ (∀ x ∈ src i, x < 256) ∧ (u i = true → src i = blk D i)) (M6 : Mod (fun k => k = w5.heap.size) wr w6) (M8 : Mod (fun k => k = b ∨ k = c) (w6.alloc o2) w8) :
    ∃ F', J ((w8.setCell ⟨tb, 0, none⟩ (.slice (some ⟨g0, 0, none⟩) n c0)).setCell ⟨tb, 1, none⟩ (.slice (some ⟨gv, 0, none⟩) n cv)) B0 b' c' tb n u D F' ∧
      Mod (fun q => B0 ≤ q) w4 ((w8.setCell ⟨tb, 0, none⟩ (.slice (some ⟨g0, 0, none⟩) n c0)).setCell ⟨tb, 1, none⟩ (.slice (some ⟨gv, 0, none⟩) n cv)) := by
  obtain ⟨ob, co, yb, cy, R0, hR⟩ := j.R
  obtain ⟨vals, R, CR⟩ := C.rows
  have hsA : (w5.alloc o1).heap.size = w5.heap.size + 1 := by simp
  have hs7 : (w6.alloc o2).heap.size = w6.heap.size + 1 := by simp
  have s5 := M5.size
  have s6 := C.mod.size
  have s7 := M6.size
  have s8 := M8.size
  have lb := j.S.lt_b
  have lc := j.S.lt_c
  have ltb := hR.lt _ hR.tF
  have lb' := S5.lt_b
  have lc' := S5.lt_c
  have t0 : tb ≠ 0 := fun e => hR.f0 (e ▸ hR.tF)
  have b00 := j.S.b0
  have c00 := j.S.c0
  have tBb : tb ≠ b := fun e => j.nb (e ▸ hR.tF)
  have tBc : tb ≠ c := fun e => j.nc (e ▸ hR.tF)
  have M56 : Mod (fun _ => False) w5 (w6.alloc o2) := ((((Mod.refl (fun _ => False) w5).alloc o1).trans C.mod).further2 M6 (fun i hi e => by omega)).alloc o2
  have M58 : Mod (fun k => k = b ∨ k = c) w5 w8 := (M56.mono (fun _ _ h => h.elim)).trans M8
  have M89 : Mod (fun k => k = tb) w8 ((w8.setCell ⟨tb, 0, none⟩ (.slice (some ⟨g0, 0, none⟩) n c0)).setCell ⟨tb, 1, none⟩ (.slice (some ⟨gv, 0, none⟩) n cv)) := ((Mod.refl (fun k => k = tb) w8).setCell _ _ rfl).setCell _ _ rfl
  have M59 : Mod (fun k => k = b ∨ k = c ∨ k = tb) w5 ((w8.setCell ⟨tb, 0, none⟩ (.slice (some ⟨g0, 0, none⟩) n c0)).setCell ⟨tb, 1, none⟩ (.slice (some ⟨gv, 0, none⟩) n cv)) :=
    (M58.mono (fun _ _ h => h.elim .inl (fun h => .inr (.inl h)))).trans (M89.mono (fun _ _ h => .inr (.inr h)))
  have R8 : Rf w8 tb n u D F ob co yb cy R0 := (hR.mod M5 (fun _ _ h => h)).mod M58 (fun k hk h => by
    rcases h with h | h
    · exact j.nb (h ▸ hk)
    · exact j.nc (h ▸ hk))
  have hgv : w5.heap.size + 1 ≤ gv ∧ gv < wr.heap.size := by have := CR.own.lt gv rfl; rw [hsA] at this; exact this
  have hg0 := C.gw
  have hg0' := C.on.lt
  rw [hsA] at hg0 s6
  refine ⟨_, ⟨S5.mod M59 (by omega) (by omega) (by omega), ⟨_, _, _, _, _, Rf.copied (tb := tb) C CR hsrc (by rw [hsA]; omega) t0 ?_ ?_ (fun o => ?_) (fun k hk hk' => ?_) ?_⟩, ?_, ?_, fun k hk => ?_, ?_, ?_, ?_⟩, ?_⟩
  · rw [setCell_out _ _ _ _ _ (fun _ => by show (0 : Nat) ≠ 1; decide), setCell_in _ _ _ _ _ R8.on]
  · rw [setCell_in _ _ _ _ _ (by rw [setCell_out _ _ _ _ _ (fun _ => by show (1 : Nat) ≠ 0; decide)]; exact R8.yn)]
  · rw [setCell_frozen, setCell_frozen]; exact R8.fz _ _ R8.tF
  · rw [hsA] at hk
    rw [M89.block k (by omega) (by show ¬ k = tb; omega), M8.block k (by omega) (by show ¬ (k = b ∨ k = c); omega), Below.heap_alloc _ _ _ (by omega), M6.block k hk' (by show ¬ k = w5.heap.size; omega)]
  · have := M89.size; omega
  · rintro (h | h | h | ⟨q, hq, h⟩)
    · omega
    · omega
    · omega
    · have := (CR.ris q hq).2.1; rw [hsA] at this; omega
  · rintro (h | h | h | ⟨q, hq, h⟩)
    · omega
    · omega
    · omega
    · have := (CR.ris q hq).2.1; rw [hsA] at this; omega
  · have hB := j.BB
    rcases hk with h | h | h | ⟨q, hq, h⟩
    · rw [h]; exact j.fB _ hR.tF
    · omega
    · omega
    · have := (CR.ris q hq).2.1; rw [hsA] at this; omega
  · have hB := j.BB; omega
  · have hB := j.BB; omega
  · have hB := j.BB; have := M59.size; omega
  · refine (M5.mono (fun _ _ h => h.elim)).trans (M59.mono (fun q _ h => ?_))
    rcases h with h | h | h
    · rw [h]; exact j.bB
    · rw [h]; exact j.cB
    · rw [h]; exact j.fB _ hR.tF
end Go.Proofs.YtipdpifpblaldaaDoor
