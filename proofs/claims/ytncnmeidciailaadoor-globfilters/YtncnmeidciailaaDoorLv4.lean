/- A bracket of the plain answer in memory; the walk of its bracket. Conditions: a text of at most 2^40 bytes. -/
import Derived.Test.YtncnmeidciailaaDoorLv3
import Derived.Test.YtncnmeidciailaaDoorLq2
import Derived.Deep.DeepCutAuto
import Derived.Deep.LoopGhost
namespace Go.Proofs.YtncnmeidciailaaDoor
open Go.RowKit
attribute [local go_sem] ext_eq app_eq get_eq
/-- A bracket in memory. -/
def BrT (W : World) (b : Nat) (g : UInt8 → Bool) (n : Int) : Prop := ∃ arr, W.heap[b]? = some (.cells arr 89 (0, 0)) ∧ arr.size = 257 ∧ (∀ k : UInt8, arr[k.toNat]? = some (.bool (g k))) ∧ arr[256]? = some (.int .i64 n)
theorem zeroBr : Tryd.zeroCells89 = (Array.replicate 256 (Value.bool false)).push (.int .i64 0) := by kernel_rfl
theorem sizeBr : Tryd.zeroCells89.size = 257 := by rw [zeroBr]; simp
theorem BrT.new (w : World) : BrT (w.alloc (.cells Tryd.zeroCells89 89)) w.heap.size (fun _ => false) 0 := by
  refine ⟨_, heap_new _ _, sizeBr, fun k => ?_, ?_⟩
  · have := k.toNat_lt
    rw [zeroBr, Array.getElem?_push, if_neg (by simp; omega), Array.getElem?_replicate, if_pos (by simpa using this)]
  · rw [zeroBr, Array.getElem?_push, if_pos (by simp)]
theorem BrT.cellN {W : World} {b : Nat} {g : UInt8 → Bool} {n : Int} (h : BrT W b g n) (k : Nat) (hk : k < 256) : W.cell? ⟨b, k, none⟩ = some (.bool (g (UInt8.ofNat k))) := by
  obtain ⟨arr, h1, _, h2, _⟩ := h
  rw [cell_heap h1, ← h2, ofN hk]
theorem BrT.lenC {W : World} {b : Nat} {g : UInt8 → Bool} {n : Int} (h : BrT W b g n) : W.cell? ⟨b, 256, none⟩ = some (.int .i64 n) := by
  obtain ⟨arr, h1, _, _, h2⟩ := h
  rw [cell_heap h1]; exact h2
theorem BrT.frozen {W : World} {b : Nat} {g : UInt8 → Bool} {n : Int} (h : BrT W b g n) (k : Nat) : W.frozen? ⟨b, k, none⟩ = false := by
  obtain ⟨arr, h1, _⟩ := h
  simp [World.frozen?, h1]
theorem BrT.lt {W : World} {b : Nat} {g : UInt8 → Bool} {n : Int} (h : BrT W b g n) : b < W.heap.size := by
  obtain ⟨arr, h1, _⟩ := h
  exact heap_lt h1
theorem BrT.congr {W : World} {b : Nat} {g g' : UInt8 → Bool} {n : Int} (h : BrT W b g n) (e : ∀ x, g' x = g x) : BrT W b g' n := by
  obtain ⟨arr, h1, h0, h2, h3⟩ := h
  exact ⟨arr, h1, h0, fun k => by rw [e]; exact h2 k, h3⟩
theorem BrT.set {W : World} {b : Nat} {g : UInt8 → Bool} {n : Int} (h : BrT W b g n) (k : Nat) (hk : k < 256) (v : Bool) : BrT (W.setCell ⟨b, k, none⟩ (.bool v)) b (Gl.updB g (UInt8.ofNat k) v) n := by
  obtain ⟨arr, h1, h0, h2, h3⟩ := h
  refine ⟨arr.setIfInBounds k (.bool v), ?_, by simpa using h0, fun j => ?_, ?_⟩
  · show (W.heap.modify b _)[b]? = _
    rw [Array.getElem?_modify, if_pos rfl, h1]; rfl
  · unfold Gl.updB
    rw [Array.getElem?_setIfInBounds]
    by_cases e : j = UInt8.ofNat k
    · rw [if_pos ((ofN_eq hk j).1 e).symm, if_pos (by omega), if_pos e]
    · rw [if_neg (fun h => e ((ofN_eq hk j).2 h.symm)), if_neg e]; exact h2 j
  · rw [Array.getElem?_setIfInBounds, if_neg (by omega)]; exact h3
theorem BrT.setLen {W : World} {b : Nat} {g : UInt8 → Bool} {n : Int} (h : BrT W b g n) (m : Int) : BrT (W.setCell ⟨b, 256, none⟩ (.int .i64 m)) b g m := by
  obtain ⟨arr, h1, h0, h2, h3⟩ := h
  refine ⟨arr.setIfInBounds 256 (.int .i64 m), ?_, by simpa using h0, fun j => ?_, ?_⟩
  · show (W.heap.modify b _)[b]? = _
    rw [Array.getElem?_modify, if_pos rfl, h1]; rfl
  · have := j.toNat_lt
    rw [Array.getElem?_setIfInBounds, if_neg (by omega)]; exact h2 j
  · rw [Array.getElem?_setIfInBounds, if_pos rfl, if_pos (by omega)]
/-- A bracket's value. -/
structure BrV (g : UInt8 → Bool) (n : Int) (L : List Value) : Prop where
  len : L.length = 257
  bit : ∀ k : UInt8, L[k.toNat]? = some (.bool (g k))
  num : L[256]? = some (.int .i64 n)
  one : ∀ v ∈ L, v.oneCell' = true
theorem infoBr : (Tryd.prog.info? 89).map (·.size) = some 257 := by kernel_rfl
theorem BrV.inf {g : UInt8 → Bool} {n : Int} {L : List Value} (h : BrV g n L) : (Tryd.prog.info? 89).map (·.size) = some L.length := by rw [h.len]; exact infoBr
theorem BrV.infA {g : UInt8 → Bool} {n : Int} {L : List Value} (h : BrV g n L) : (Tryd.prog.info? 89).map (·.size) = some L.toArray.size := by rw [show L.toArray.size = L.length by simp]; exact h.inf
theorem BrT.vals {W : World} {b : Nat} {g : UInt8 → Bool} {n : Int} (h : BrT W b g n) : ∃ L, BrV g n L ∧ W.rangeAt b 0 L := by
  obtain ⟨arr, h1, h0, h2, h3⟩ := h
  have key : ∀ (j : Nat) (v : Value), arr[j]? = some v → v.oneCell' = true := fun j v hv => by
    have hj : j < 257 := by have := (Array.getElem?_eq_some_iff.1 hv).1; omega
    by_cases h256 : j = 256
    · subst h256; rw [h3] at hv; cases hv; rfl
    · have := h2 (UInt8.ofNat j)
      rw [ofN (by omega), hv] at this
      cases this; rfl
  refine ⟨arr.toList, ⟨by simpa using h0, fun k => by rw [Array.getElem?_toList]; exact h2 k, by rw [Array.getElem?_toList]; exact h3, fun v hv => ?_⟩, fun j v hv => ?_⟩
  · obtain ⟨j, hj⟩ := List.getElem?_of_mem hv
    rw [Array.getElem?_toList] at hj
    exact key j v hj
  · rw [cell_heap h1, Nat.zero_add, ← Array.getElem?_toList]; exact hv
theorem infoA : (Tryd.prog.info? 70).map (·.size) = some 256 := by kernel_rfl
theorem zeroA : Tryd.zeroCells70 = Array.replicate 256 (.bool false) := by kernel_rfl
theorem sizeA : Tryd.zeroCells70.size = 256 := by rw [zeroA, Array.size_replicate]
theorem BitsV.infO {g : UInt8 → Bool} {L : List Value} (h : BitsV g L) : (Tryd.prog.info? 70).map (·.size) = some L.length := by rw [h.len]; exact infoA
theorem BitsV.infOA {g : UInt8 → Bool} {L : List Value} (h : BitsV g L) : (Tryd.prog.info? 70).map (·.size) = some L.toArray.size := by rw [show L.toArray.size = L.length by simp]; exact h.infO
theorem BrT.bits {W : World} {b : Nat} {g : UInt8 → Bool} {n : Int} (h : BrT W b g n) : ∃ L, BitsV g L ∧ W.rangeAt b 0 L := by
  refine ⟨(List.range 256).map fun k => .bool (g (UInt8.ofNat k)), ⟨by simp, fun k => ?_, fun v hv => ?_⟩, fun j v hv => ?_⟩
  · rw [List.getElem?_map, List.getElem?_range k.toNat_lt]; simp
  · obtain ⟨k, _, rfl⟩ := List.mem_map.1 hv; rfl
  · rw [List.getElem?_map] at hv
    obtain ⟨k, h1, rfl⟩ := Option.map_eq_some_iff.1 hv
    have hj : j < 256 := by have := (List.getElem?_eq_some_iff.1 h1).1; simpa using this
    rw [List.getElem?_range hj] at h1
    cases h1
    rw [Nat.zero_add]; exact h.cellN j hj
/-- What bracket keeps. -/
structure BK (w W : World) (g : UInt8 → Bool) (n : Int) : Prop where
  tab : BrT W (w.heap.size + 1) g n
  res : W.heap[w.heap.size]? = some (.cells Tryd.zeroCells89 89 (0, 0))
  bel : Below w.heap.size w W
theorem BK.set {w W : World} {g : UInt8 → Bool} {n : Int} (h : BK w W g n) (k : Nat) (hk : k < 256) (v : Bool) : BK w (W.setCell ⟨w.heap.size + 1, k, none⟩ (.bool v)) (Gl.updB g (UInt8.ofNat k) v) n :=
  ⟨h.tab.set k hk v, (Below.heap_setCell _ _ _ _ (by show w.heap.size ≠ w.heap.size + 1; omega)).trans h.res, h.bel.setCell (p := ⟨w.heap.size + 1, k, none⟩) (by show _ ≤ w.heap.size + 1; omega) _⟩
theorem BK.congr {w W : World} {g g' : UInt8 → Bool} {n : Int} (h : BK w W g n) (e : ∀ x, g' x = g x) : BK w W g' n := ⟨h.tab.congr e, h.res, h.bel⟩
theorem BK.alloc {w W : World} {g : UInt8 → Bool} {n : Int} (h : BK w W g n) (o : Obj) : BK w (W.alloc o) g n := by
  obtain ⟨arr, h1, h2⟩ := h.tab
  exact ⟨⟨arr, (Below.heap_alloc _ _ _ (heap_lt h1)).trans h1, h2⟩, (Below.heap_alloc _ _ _ (heap_lt h.res)).trans h.res, h.bel.alloc h.bel.size _⟩
/-- What bracket tells. -/
def BkOut (l : List UInt8) (fl : Int) (w : World) (e : Ending) (w' : World) : Prop := Below w.heap.size w w' ∧ ∃ (L : List Value) (g : UInt8 → Bool) (n : Nat), e = .returned (.agg L.toArray) ∧ BrV g n L ∧ ((n = 0 ∧ Gl.bracket (Gl.flOf fl) l = none) ∨ (0 < n ∧ Gl.bracket (Gl.flOf fl) l = some (g, n)))
namespace Gl
theorem item_class {f : Fl} {l n : List UInt8} (h : cls l = some n) (hn : n ∈ names) : item f l = (inC n, n.length + 4) := by
  unfold item
  rw [classAt_cls, h]
  show (match (if n ∈ names then some n else none) with | some n => _ | none => _) = _
  rw [if_pos hn]
theorem classAt_no {l : List UInt8} (h : ∀ n, cls l = some n → n ∉ names) : classAt l = none := by
  rw [classAt_cls]
  cases hc : cls l with
  | none => rfl
  | some n => show (if n ∈ names then some n else none) = none; rw [if_neg (h n hc)]
theorem item_range {f : Fl} {l : List UInt8} (h : ∀ n, cls l = some n → n ∉ names) (hd : dash (l.drop (one f l).2) = true) : item f l = (rng (one f l).1 (one f (l.drop ((one f l).2 + 1))).1, (one f l).2 + 1 + (one f (l.drop ((one f l).2 + 1))).2) := by
  unfold item
  rw [classAt_no h]
  show (if dash (l.drop (one f l).2) = true then _ else _) = _
  rw [if_pos hd]
theorem item_single {f : Fl} {l : List UInt8} (h : ∀ n, cls l = some n → n ∉ names) (hd : dash (l.drop (one f l).2) = false) : item f l = (rng (one f l).1 (one f l).1, (one f l).2) := by
  unfold item
  rw [classAt_no h]
  show (if dash (l.drop (one f l).2) = true then _ else _) = _
  rw [if_neg (by simp [hd])]
  congr 1
  funext x
  unfold rng
  rw [Bool.eq_iff_iff]
  simp only [decide_eq_true_eq, Bool.and_eq_true]
  rw [← UInt8.toNat_inj]; omega
theorem dash_pl (l : List UInt8) (k : Nat) : dash (l.drop k) = (decide (k + 1 < l.length) && decide (l[k]? = some 45) && !decide (l[k + 1]? = some 93)) := by
  by_cases h : k + 1 < l.length
  · rw [List.drop_eq_getElem_cons (by omega), List.drop_eq_getElem_cons h, List.getElem?_eq_getElem (by omega), List.getElem?_eq_getElem h]
    simp [dash, h]
  · have : dash (l.drop k) = false := by
      cases hd : dash (l.drop k) with
      | false => rfl
      | true => have := dash_len hd; rw [List.length_drop] at this; omega
    rw [this]; simp [h]
theorem its_item {f : Fl} {l : List UInt8} {n0 i : Nat} {fb : Bool} {g : UInt8 → Bool} {t : UInt8 → Bool} {d : Nat} (hi : i < l.length) (hn : n0 ≤ i) (h : its f true (l.drop n0) = (its f fb (l.drop i)).map fun p => (fun x => g x || p.1 x, (i - n0) + p.2)) (hV : l[i] ≠ 93 ∨ fb = true) (hit : item f (l.drop i) = (t, d)) :
    its f true (l.drop n0) = (its f false (l.drop (i + d))).map fun p => (fun x => (g x || t x) || p.1 x, (i + d - n0) + p.2) := by
  rw [h, its_step hi hV, hit, Option.map_map]
  congr 1
  funext p
  show ((fun x => g x || (t x || p.1 x)), i - n0 + (d + p.2)) = _
  congr 1
  · funext x; rw [Bool.or_assoc]
  · omega
theorem bracket_nil (f : Fl) (l : List UInt8) (n0 i : Nat) (g : UInt8 → Bool) (fb : Bool) (hn0 : n0 = ngl l) (h : its f true (l.drop n0) = (its f fb (l.drop i)).map fun p => (fun x => g x || p.1 x, (i - n0) + p.2)) (hi : l.length ≤ i) : bracket f l = none := by
  have hb := bracket_its f l 0 (Nat.zero_le _)
  rw [List.drop_zero, Nat.zero_add, ← hn0, h, List.drop_eq_nil_of_le hi] at hb
  rw [hb]; rfl
theorem bracket_end (f : Fl) (l : List UInt8) (n0 i : Nat) (g : UInt8 → Bool) (hn0 : n0 = ngl l) (hn : n0 ≤ i) (h : its f true (l.drop n0) = (its f false (l.drop i)).map fun p => (fun x => g x || p.1 x, (i - n0) + p.2)) (hi : i < l.length) (h93 : l[i] = 93) : bracket f l = some (fin f (neg l) g, i + 1) := by
  have hb := bracket_its f l 0 (Nat.zero_le _)
  rw [List.drop_zero, Nat.zero_add, ← hn0, h, its_end hi h93] at hb
  rw [hb]
  show some (fin f (neg l) (fun x => g x || false), n0 + (i - n0 + 1)) = _
  rw [show (fun x => g x || false) = g by funext x; simp, show n0 + (i - n0 + 1) = i + 1 by omega]
end Gl
end Go.Proofs.YtncnmeidciailaaDoor
