/- What the loop of the program's bracket keeps. Conditions: a text that fits; the reader lies in memory; the table of names. -/
import Derived.Test.YtncnmeidciailaaDoorLd6
import Derived.Test.YtncnmeidciailaaDoorLa6
import Derived.Laws.EntriesVeiled
namespace Go.Proofs.YtncnmeidciailaaDoor
open Go.RowKit
attribute [local go_sem] ext_eq app_eq get_eq
theorem RS.rn {W : World} {rb : Nat} {l : List UInt8} {fl : Int} {sb : Option Nat} {k : Nat} (h : RS W rb l fl sb k) : ∃ sn, RN W rb l fl sb sn ∧ Gl.Lost (Gl.flOf fl) l k sn := by
  obtain ⟨sv, h1, h2⟩ := h
  cases sb with
  | none => exact ⟨fun _ => false, ⟨sv, h1, h2, fun _ => rfl⟩, fun q _ _ hq => by cases hq⟩
  | some b =>
    obtain ⟨sn, arr, cap, h3, h4, h5, h6, h7⟩ := h2
    exact ⟨sn, ⟨sv, h1, arr, cap, h3, h4, h5, h6⟩, h7⟩
theorem RN.rs {W : World} {rb : Nat} {l : List UInt8} {fl : Int} {sb : Option Nat} {sn : Nat → Bool} {k : Nat} (h : RN W rb l fl sb sn) (hL : Gl.Lost (Gl.flOf fl) l k sn) : RS W rb l fl sb k := by
  obtain ⟨sv, h1, h2⟩ := h
  refine ⟨sv, h1, ?_⟩
  cases sb with
  | none => exact h2.1
  | some b =>
    obtain ⟨arr, cap, h3, h4, h5, h6⟩ := h2
    exact ⟨sn, arr, cap, h3, h4, h5, h6, hL⟩
theorem RN.on {W W' : World} {rb : Nat} {l : List UInt8} {fl : Int} {sb : Option Nat} {sn : Nat → Bool} (h : RN W rb l fl sb sn) (e : ∀ (z : Nat) (cs : Array Value) (T : TypeId), W.heap[z]? = some (Obj.cells cs T (0, 0)) → T = 82 ∨ T = 4 → W'.heap[z]? = W.heap[z]?) : RN W' rb l fl sb sn := by
  obtain ⟨sv, h1, h2⟩ := h
  refine ⟨sv, (e _ _ _ h1 (.inl rfl)).trans h1, ?_⟩
  cases sb with
  | none => exact h2
  | some b =>
    obtain ⟨arr, cap, h3, h4, h5⟩ := h2
    exact ⟨arr, cap, h3, (e _ _ _ h4 (.inr rfl)).trans h4, h5⟩
theorem RN.tag {W : World} {rb : Nat} {l : List UInt8} {fl : Int} {sb : Option Nat} {sn : Nat → Bool} {z : Nat} {cs : Array Value} {T : TypeId} {fr : Nat × Nat} (h : RN W rb l fl sb sn) (hz : W.heap[z]? = some (.cells cs T fr)) (h1 : T ≠ 82) (h2 : T ≠ 4) : ¬ sR rb sb z := by
  obtain ⟨sv, h3, h4⟩ := h
  rintro (e | e)
  · exact heap_ne h3 hz (Ne.symm h1) e.symm
  · subst e
    obtain ⟨arr, cap, _, h5, _⟩ := h4
    exact heap_ne h5 hz (Ne.symm h2) rfl
/-- What the loop keeps. -/
structure BL (w W : World) (l : List UInt8) (fl : Int) (rb : Nat) (sb sb' : Option Nat) (sn' : Nat → Bool) (p : Nat) (g : UInt8 → Bool) : Prop where
  rn : RN W rb l fl sb' sn'
  st : SetT W (p + 1) g
  ce : CE W p (p + 1 + 1) (p + 1 + 1 + 1) rb (p + 1)
  md : Md (sR rb sb) w W
  sn : sbNew w sb sb'
theorem BL.lost {w W W' : World} {l : List UInt8} {fl : Int} {rb : Nat} {sb sb' sb2 : Option Nat} {sn' sn2 : Nat → Bool} {g : UInt8 → Bool} (h : BL w W l fl rb sb sb' sn' w.heap.size g) (hM : Md (sR rb sb') W W') (hn : sbNew W sb' sb2) (hr : RN W' rb l fl sb2 sn2) : BL w W' l fl rb sb sb2 sn2 w.heap.size g := by
  have key : ∀ (z : Nat) (cs : Array Value) (T : TypeId), W.heap[z]? = some (Obj.cells cs T (0, 0)) → T ≠ 82 → T ≠ 4 → W'.heap[z]? = W.heap[z]? := fun z cs T hz h1 h2 => hM.block z (heap_lt hz) (h.rn.tag hz h1 h2)
  refine ⟨hr, ?_, ⟨(key _ _ _ h.ce.e0 (by decide) (by decide)).trans h.ce.e0, (key _ _ _ h.ce.e1 (by decide) (by decide)).trans h.ce.e1, (key _ _ _ h.ce.e2 (by decide) (by decide)).trans h.ce.e2⟩, ?_, ?_⟩
  · obtain ⟨arr, h1, h2⟩ := h.st
    exact ⟨arr, (key _ _ _ h1 (by decide) (by decide)).trans h1, h2⟩
  · refine ⟨hM.os.trans h.md.os, hM.tape.trans h.md.tape, hM.output.trans h.md.output, Nat.le_trans h.md.size hM.size, fun z hz hs => ?_⟩
    rw [← h.md.block z hz hs]
    refine hM.block z (Nat.lt_of_lt_of_le hz h.md.size) (fun hh => ?_)
    rcases hh with e | e
    · exact hs (.inl e)
    · rcases h.sn with e2 | ⟨_, b2, e2, e3⟩
      · exact hs (.inr (e2 ▸ e))
      · rw [e2] at e; cases e; omega
  · rcases hn with rfl | ⟨rfl, b2, rfl, hb⟩
    · exact h.sn
    · rcases h.sn with e | ⟨_, _, e, _⟩
      · exact .inr ⟨e.symm, b2, rfl, Nat.le_trans h.md.size hb⟩
      · cases e
theorem BL.item {w W W' : World} {l : List UInt8} {fl : Int} {rb : Nat} {sb sb' : Option Nat} {sn' : Nat → Bool} {g g' : UInt8 → Bool} (h : BL w W l fl rb sb sb' sn' w.heap.size g) (hM : Md (fun z => z = w.heap.size + 1) W W') (hs : SetT W' (w.heap.size + 1) g') : BL w W' l fl rb sb sb' sn' w.heap.size g' := by
  obtain ⟨arr, ha, _⟩ := h.st
  have key : ∀ (z : Nat) (cs : Array Value) (T : TypeId), W.heap[z]? = some (Obj.cells cs T (0, 0)) → T ≠ 71 → W'.heap[z]? = W.heap[z]? := fun z cs T hz h1 => hM.block z (heap_lt hz) (heap_ne hz ha h1)
  refine ⟨h.rn.on (fun z cs T hz hT => key z cs T hz (by rcases hT with rfl | rfl <;> decide)), hs, ⟨(key _ _ _ h.ce.e0 (by decide)).trans h.ce.e0, (key _ _ _ h.ce.e1 (by decide)).trans h.ce.e1, (key _ _ _ h.ce.e2 (by decide)).trans h.ce.e2⟩, ?_, h.sn⟩
  refine ⟨hM.os.trans h.md.os, hM.tape.trans h.md.tape, hM.output.trans h.md.output, Nat.le_trans h.md.size hM.size, fun z hz hs => ?_⟩
  rw [← h.md.block z hz hs]
  exact hM.block z (Nat.lt_of_lt_of_le hz h.md.size) (fun e => by omega)
theorem BL.zero {w : World} {l : List UInt8} {fl : Int} {rb : Nat} {sb : Option Nat} {sn : Nat → Bool} (h : RN w rb l fl sb sn) : BL w ((((w.alloc (.cells #[.pointer (some ⟨rb, 0, none⟩)] 97)).alloc (.cells Tryd.zeroCells71 71)).alloc (.cells #[.pointer (some ⟨w.heap.size + 1, 0, none⟩)] 79)).alloc (.cells #[.func (.func 91) #[] #[.pointer (some ⟨w.heap.size, 0, none⟩), .pointer (some ⟨w.heap.size + 1 + 1, 0, none⟩), .pointer (some ⟨w.heap.size + 1 + 1 + 1, 0, none⟩)]] 113)) l fl rb sb sb sn w.heap.size (fun _ => false) := by
  generalize ho3 : Obj.cells #[.func (.func 91) #[] #[.pointer (some ⟨w.heap.size, 0, none⟩), .pointer (some ⟨w.heap.size + 1 + 1, 0, none⟩), .pointer (some ⟨w.heap.size + 1 + 1 + 1, 0, none⟩)]] 113 = o3
  generalize ho2 : Obj.cells #[.pointer (some ⟨w.heap.size + 1, 0, none⟩)] 79 = o2
  generalize ho1 : Obj.cells Tryd.zeroCells71 71 = o1
  generalize ho0 : Obj.cells #[.pointer (some ⟨rb, 0, none⟩)] 97 = o0
  have hb : Below w.heap.size w ((((w.alloc o0).alloc o1).alloc o2).alloc o3) := ((((Below.refl _ _).alloc (Nat.le_refl _) _).alloc (by simp) _).alloc (by simp <;> omega) _).alloc (by simp <;> omega) _
  have h0 : ((((w.alloc o0).alloc o1).alloc o2).alloc o3).heap[w.heap.size]? = some o0 := (Below.heap_alloc _ _ _ (by simp <;> omega)).trans ((Below.heap_alloc _ _ _ (by simp <;> omega)).trans ((Below.heap_alloc _ _ _ (by simp)).trans (heap_new _ _)))
  have h1 : ((((w.alloc o0).alloc o1).alloc o2).alloc o3).heap[w.heap.size + 1]? = some o1 := (Below.heap_alloc _ _ _ (by simp <;> omega)).trans ((Below.heap_alloc _ _ _ (by simp)).trans (by have := heap_new (w.alloc o0) o1; simpa using this))
  have h2 : ((((w.alloc o0).alloc o1).alloc o2).alloc o3).heap[w.heap.size + 1 + 1]? = some o2 := (Below.heap_alloc _ _ _ (by simp)).trans (by have := heap_new ((w.alloc o0).alloc o1) o2; simpa using this)
  have h3 : ((((w.alloc o0).alloc o1).alloc o2).alloc o3).heap[w.heap.size + 1 + 1 + 1]? = some o3 := by have := heap_new (((w.alloc o0).alloc o1).alloc o2) o3; simpa using this
  refine ⟨h.on (fun z cs T hz _ => hb.block z (heap_lt hz)), ⟨_, by rw [h1, ← ho1], fun k => ?_⟩, ⟨by rw [h0, ← ho0], by rw [h2, ← ho2], by rw [h3, ← ho3]⟩, Md.of_below hb, .inl rfl⟩
  rw [zero71, Array.getElem?_replicate, if_pos k.toNat_lt]
theorem Gl.Vis.lost' {f : Gl.Fl} {l : List UInt8} {k q F : Nat} {sn sn' : Nat → Bool} (h : Gl.Vis f l F q sn sn') (hF : k + 1 + Gl.ngl (l.drop (k + 1)) = F) (hL : Gl.Lost f l k sn) (hn : Gl.its f false (l.drop q) = none) : Gl.Lost f l (k + 1) sn' := by
  subst hF; exact h.lost hL hn
end Go.Proofs.YtncnmeidciailaaDoor
