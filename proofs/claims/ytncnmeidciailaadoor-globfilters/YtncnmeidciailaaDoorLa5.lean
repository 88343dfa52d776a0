/- A reader of patterns in memory; the walk of the program's piece. Conditions: a text that fits; what bracket answers, as a premise. -/
import Derived.Test.YtncnmeidciailaaDoorLa4
import Derived.Laws.OwnMore
import Derived.OwnWalk
import Derived.Laws.Rows
namespace Go.Proofs.YtncnmeidciailaaDoor
open Go.RowKit
attribute [local go_sem] ext_eq app_eq get_eq
/-- Of the blocks of memory that were there only those in s have turned. -/
structure Md (s : Nat → Prop) (w w' : World) : Prop where
  os : w'.os = w.os
  tape : w'.tape = w.tape
  output : w'.output = w.output
  size : w.heap.size ≤ w'.heap.size
  block : ∀ k, k < w.heap.size → ¬ s k → w'.heap[k]? = w.heap[k]?
section
variable {s t : Nat → Prop} {a b c w w' : World}
theorem Md.refl (s : Nat → Prop) (w : World) : Md s w w := ⟨rfl, rfl, rfl, Nat.le_refl _, fun _ _ _ => rfl⟩
theorem Md.trans (h : Md s a b) (k : Md s b c) : Md s a c :=
  ⟨k.os.trans h.os, k.tape.trans h.tape, k.output.trans h.output, Nat.le_trans h.size k.size, fun i hi hs => (k.block i (Nat.lt_of_lt_of_le hi h.size) hs).trans (h.block i hi hs)⟩
theorem Md.mono (h : Md s a b) (hst : ∀ k, k < a.heap.size → s k → t k) : Md t a b :=
  ⟨h.os, h.tape, h.output, h.size, fun i hi hs => h.block i hi fun hk => hs (hst i hi hk)⟩
theorem Md.drewN (h : Md s a b) (m : Nat) : Md s a (b.drewN m) := ⟨h.os, h.tape, h.output, h.size, h.block⟩
theorem Md.alloc (h : Md s a b) (o : Obj) : Md s a (b.alloc o) :=
  h.trans ⟨rfl, rfl, rfl, by simp, fun k hk _ => Below.heap_alloc _ _ _ hk⟩
theorem Md.setCell (h : Md s a b) (p : Addr) (v : Value) (hp : s p.block ∨ a.heap.size ≤ p.block) : Md s a (b.setCell p v) := by
  refine ⟨h.os, h.tape, h.output, by simp [World.setCell]; exact h.size, fun k hk hs => ?_⟩
  rw [Below.heap_setCell _ _ _ _ (fun e => ?_)]
  · exact h.block k hk hs
  · rcases hp with hp | hp
    · exact hs (e ▸ hp)
    · omega
theorem Md.cell (h : Md s w w') {p : Addr} (hp : p.block < w.heap.size) (hs : ¬ s p.block) : w'.cell? p = w.cell? p := World.cell?_of_block (w := w) (h.block _ hp hs)
theorem Md.below (h : Md s w w') {B : Nat} (hB : B ≤ w.heap.size) (hs : ∀ k, k < B → ¬ s k) : Below B w w' :=
  ⟨h.os, h.tape, h.output, h.size, fun k hk => h.block k (by omega) (hs k hk)⟩
theorem Md.of_below (h : Below w.heap.size w w') : Md s w w' := ⟨h.os, h.tape, h.output, h.size, fun k hk _ => h.block k hk⟩
end
theorem cell_heap {W : World} {g o : Nat} {cur : Array Value} {T : TypeId} {fr : Nat × Nat} (h : W.heap[g]? = some (.cells cur T fr)) : W.cell? ⟨g, o, none⟩ = cur[o]? := by
  simp [World.cell?, h]
theorem heap_lt {W : World} {g : Nat} {o : Obj} (h : W.heap[g]? = some o) : g < W.heap.size := (Array.getElem?_eq_some_iff.1 h).1
theorem heap_ne {W : World} {g g' : Nat} {cur cur' : Array Value} {T T' : TypeId} {fr fr' : Nat × Nat} (h : W.heap[g]? = some (.cells cur T fr)) (h' : W.heap[g']? = some (.cells cur' T' fr')) (hT : T ≠ T') : g ≠ g' := by
  rintro rfl
  rw [h] at h'
  cases h'
  exact hT rfl
theorem heap_new (W : World) (o : Obj) : (W.alloc o).heap[W.heap.size]? = some o := by show (W.heap.push _)[W.heap.size]? = _; simp
/-- A set of bytes in memory. -/
def SetT (W : World) (b : Nat) (g : UInt8 → Bool) : Prop := ∃ arr, W.heap[b]? = some (.cells arr 71 (0, 0)) ∧ ∀ k : UInt8, arr[k.toNat]? = some (.bool (g k))
/-- A piece's set in memory. -/
def PcT (W : World) : Gl.Pc → Option Addr → Prop
  | .some g, p => ∃ b, p = some ⟨b, 0, none⟩ ∧ SetT W b g
  | _, p => p = none
theorem SetT.on {W W' : World} {b : Nat} {g : UInt8 → Bool} (h : SetT W b g) (e : W'.heap[b]? = W.heap[b]?) : SetT W' b g := by
  obtain ⟨arr, h1, h2⟩ := h; exact ⟨arr, e.trans h1, h2⟩
theorem PcT.rep {W : World} {x : Gl.Pc} {p : Option Addr} (h : PcT W x p) : PcRep W x p := by
  cases x with
  | some g =>
    obtain ⟨b, rfl, arr, h1, h2⟩ := h
    exact ⟨b, rfl, heap_lt h1, fun k => by rw [cell_heap h1]; exact h2 k⟩
  | _ => exact h
theorem PcT.on {W W' : World} {x : Gl.Pc} {p : Option Addr} (h : PcT W x p) (e : ∀ (b : Nat) (arr : Array Value), W.heap[b]? = some (Obj.cells arr 71 (0, 0)) → W'.heap[b]? = W.heap[b]?) : PcT W' x p := by
  cases x with
  | some g =>
    obtain ⟨b, rfl, h1⟩ := h
    have h2 := h1
    obtain ⟨arr, h3, _⟩ := h2
    exact ⟨b, rfl, h1.on (e b arr h3)⟩
  | _ => exact h
namespace Gl
/-- Items whose places were seen lead to no end, unless no bracket can come to them. -/
def Lost (f : Fl) (l : List UInt8) (k : Nat) (sn : Nat → Bool) : Prop :=
  ∀ q, k ≤ q → q < l.length → sn q = true → items f (l.length + 1) false (l.drop q) = none ∨ ∀ j, k ≤ j → j < q → l[j]? ≠ some 91
theorem Lost.mono {f : Fl} {l : List UInt8} {k k' : Nat} {sn : Nat → Bool} (h : Lost f l k sn) (hk : k ≤ k') : Lost f l k' sn := fun q h1 h2 h3 => by
  rcases h q (by omega) h2 h3 with h4 | h4
  · exact .inl h4
  · exact .inr fun j hj => h4 j (by omega)
end Gl
/-- The places that were seen. -/
def Seen (W : World) (f : Gl.Fl) (l : List UInt8) (k : Nat) (sb : Option Nat) (sv : Value) : Prop :=
  match sb with
  | none => sv = .slice none 0 0
  | some b => ∃ (sn : Nat → Bool) (arr : Array Value) (cap : Nat), sv = .slice (some ⟨b, 0, none⟩) l.length cap ∧ W.heap[b]? = some (.cells arr 4 (0, 0)) ∧ arr.size = l.length ∧ (∀ q, q < l.length → arr[q]? = some (.bool (sn q))) ∧ Gl.Lost f l k sn
/-- The reader. -/
def RS (W : World) (rb : Nat) (l : List UInt8) (fl : Int) (sb : Option Nat) (k : Nat) : Prop :=
  ∃ sv, W.heap[rb]? = some (.cells #[.string ⟨l.toArray⟩, .int .i64 fl, sv] 82 (0, 0)) ∧ Seen W (Gl.flOf fl) l k sb sv
theorem RS.lt {W : World} {rb : Nat} {l : List UInt8} {fl : Int} {sb : Option Nat} {k : Nat} (h : RS W rb l fl sb k) : rb < W.heap.size ∧ ∀ b, sb = some b → b < W.heap.size ∧ b ≠ rb := by
  obtain ⟨sv, h1, h2⟩ := h
  refine ⟨heap_lt h1, fun b e => ?_⟩
  subst e
  obtain ⟨sn, arr, cap, _, h3, _⟩ := h2
  exact ⟨heap_lt h3, heap_ne h3 h1 (by decide)⟩
theorem RS.mono {W : World} {rb : Nat} {l : List UInt8} {fl : Int} {sb : Option Nat} {k k' : Nat} (h : RS W rb l fl sb k) (hk : k ≤ k') : RS W rb l fl sb k' := by
  obtain ⟨sv, h1, h2⟩ := h
  refine ⟨sv, h1, ?_⟩
  cases sb with
  | none => exact h2
  | some b =>
    obtain ⟨sn, arr, cap, h3, h4, h5, h6, h7⟩ := h2
    exact ⟨sn, arr, cap, h3, h4, h5, h6, h7.mono hk⟩
theorem RS.on {W W' : World} {rb : Nat} {l : List UInt8} {fl : Int} {sb : Option Nat} {k : Nat} (h : RS W rb l fl sb k) (e : W'.heap[rb]? = W.heap[rb]?) (e2 : ∀ b, sb = some b → W'.heap[b]? = W.heap[b]?) : RS W' rb l fl sb k := by
  obtain ⟨sv, h1, h2⟩ := h
  refine ⟨sv, e.trans h1, ?_⟩
  cases sb with
  | none => exact h2
  | some b =>
    obtain ⟨sn, arr, cap, h3, h4, h5⟩ := h2
    exact ⟨sn, arr, cap, h3, (e2 b rfl).trans h4, h5⟩
theorem RS.grow {W W' : World} {rb : Nat} {l : List UInt8} {fl : Int} {sb : Option Nat} {k : Nat} (h : RS W rb l fl sb k) (hB : Below W.heap.size W W') : RS W' rb l fl sb k :=
  h.on (hB.block _ h.lt.1) fun b e => hB.block _ (h.lt.2 b e).1
theorem RS.cells {W : World} {rb : Nat} {l : List UInt8} {fl : Int} {sb : Option Nat} {k : Nat} (h : RS W rb l fl sb k) : W.cell? ⟨rb, 0, none⟩ = some (.string ⟨l.toArray⟩) ∧ W.cell? ⟨rb, 1, none⟩ = some (.int .i64 fl) := by
  obtain ⟨sv, h1, h2⟩ := h
  exact ⟨by rw [cell_heap h1]; rfl, by rw [cell_heap h1]; rfl⟩
/-- The blocks that the reading may turn. -/
def sR (rb : Nat) (sb : Option Nat) (k : Nat) : Prop := k = rb ∨ sb = some k
/-- The places seen are the old ones, or new. -/
def sbNew (W : World) (sb sb' : Option Nat) : Prop := sb' = sb ∨ (sb = none ∧ ∃ b, sb' = some b ∧ W.heap.size ≤ b)
/-- What bracket tells. -/
def BrOut (l : List UInt8) (fl : Int) (rb : Nat) (sb : Option Nat) (k : Nat) (W : World) (e : Ending) (w' : World) : Prop :=
  Md (sR rb sb) W w' ∧ ∃ sb', sbNew W sb sb' ∧
    match Gl.bracket (Gl.flOf fl) (l.drop (k + 1)) with
    | some (g, n) => ∃ b, e = .returned (.tuple #[.pointer (some ⟨b, 0, none⟩), .int .i64 ((k + 1 + n : Nat) : Int), .bool true]) ∧ SetT w' b g ∧ RS w' rb l fl sb' (k + 1 + n)
    | none => e = .returned (.tuple #[.pointer none, .int .i64 0, .bool false]) ∧ RS w' rb l fl sb' (k + 1)
end Go.Proofs.YtncnmeidciailaaDoor
