/- The walk of take, of an indirect block's places and of a double one's. Conditions: the store lies in memory as 'St' says, the table's first cell leads to it, the ref lies in a block of its own. -/
import Derived.Test.YtgplmgliockbcaaDoorIno6
import Derived.Deep.WholeRow
namespace Go.Proofs.YtgplmgliockbcaaDoor
open Go.RowKit
theorem und_ref : Tryd.prog.underlying 134 = some (.array 16 87) := undP
theorem infP16 : (Tryd.prog.info? 134).map (·.size) = some 16 := infP
theorem set_row (w : World) (A : Array Value) (hs : A.size = 16) (h1 : A.all (·.oneCell') = true) : (w.alloc (.cells zeroP 134)).setCells w.heap.size 0 A.toList = w.alloc (.cells A 134) := by
  have := setCells_new w 134 zeroP A.toList (by rw [sizeP]; simp [hs]) (by simpa using h1) (by simpa [hs] using infP16)
  simpa using this
theorem TS.lts {b c n t ab ao x4 r : Nat} {u : Nat → Bool} {D : Nat → Nat} {w : World} (h : TS b c n t ab ao x4 (x4 + 1) r u D w) (hx : x4 + 2 ≤ w.heap.size) : ∀ k, k = b ∨ k = c ∨ k = t ∨ k = ab ∨ k = x4 ∨ k = x4 + 1 ∨ k = 0 → k < w.heap.size := by
  intro k hk
  rcases hk with rfl | rfl | rfl | rfl | rfl | rfl | rfl
  · exact h.S.lt_b
  · exact h.S.lt_c
  · exact block_lt_of_cell h.ct
  · exact block_lt_of_cell h.ca
  · omega
  · omega
  · exact h.S.tab.lt
/-- All that take holds when the refs of an indirect block lie in its variable at Pb. -/
structure TP (b c n t ab ao x4 x5 r : Nat) (u : Nat → Bool) (D : Nat → Nat) (w2 w : World) (Pb : Nat) (q : Nat → Nat) : Prop where
  T : TS b c n t ab ao x4 x5 r u D w
  at_ : ∀ j, j < 16 → w.cell? ⟨Pb, j, none⟩ = some (.int .i64 (q j : Nat))
  fr : ∀ o, o < 16 → w.frozen? ⟨Pb, o, none⟩ = false
  lt : x4 + 2 ≤ Pb
  mod : Mod (fun _ => False) w2 w
theorem TP.fr0 {b c n t ab ao x4 x5 r : Nat} {u : Nat → Bool} {D : Nat → Nat} {w2 w : World} {Pb : Nat} {q : Nat → Nat} (h : TP b c n t ab ao x4 x5 r u D w2 w Pb q) (hab : ab < w2.heap.size) : Fr b c ab ao w2 w :=
  Fr.of_mod h.mod hab (fun _ e => e.elim) h.T.A.nb h.T.A.nc
theorem s3 {b c n t ab ao x4 x5 r : Nat} {u : Nat → Bool} {D : Nat → Nat} {w : World} (h : TS b c n t ab ao x4 x5 r u D w) : w.cell? ⟨x4, 0, none⟩ = some (.pointer (some ⟨t, 0, none⟩)) ∧ w.cell? ⟨x5, 0, none⟩ = some (.pointer (some ⟨ab, ao, none⟩)) ∧ w.cell? ⟨ab, ao, none⟩ = some (.int .i64 (r : Nat)) := ⟨h.c4, h.c5, h.ca⟩
theorem one_list {A : Array Value} (h : A.all (·.oneCell') = true) : ∀ v ∈ A.toList, v.oneCell' = true := fun v hv => (Array.all_eq_true_iff_forall_mem.1 h) v (by simpa using hv)
theorem four1 {b c n t ab ao x4 x5 r : Nat} {u : Nat → Bool} {D : Nat → Nat} {w2 w3 : World} {q : Nat → Nat} (h : TS b c n t ab ao x4 x5 r u D w3) (A : Array Value) (hsz : A.size = 16) (hO : A.all (·.oneCell') = true)
    (hJ : ∀ j, j < 16 → A[j]? = some (.int .i64 (q j : Nat))) (hx : x4 + 2 ≤ w3.heap.size) (hM : Mod (fun _ => False) w2 w3) :
    ∃ w4 Pb, Hid (w4 = (w3.alloc (.cells zeroP 134)).setCells w3.heap.size 0 A.toList) ∧ Hid (Pb = w3.heap.size) ∧ Hid (TP b c n t ab ao x4 x5 r u D w2 w4 Pb q) := by
  refine ⟨_, _, rfl, rfl, ?_⟩
  show TP _ _ _ _ _ _ _ _ _ _ _ _ _ _ _
  rw [set_row w3 A hsz hO]
  exact ⟨h.new ((Mod.refl _ w3).alloc _), fun j hj => by rw [World.cell?_alloc_at _ _ _ _ rfl]; exact hJ j hj, fun o _ => World.frozen?_alloc_at _ _ _ _ rfl, hx, hM.alloc _⟩
theorem four2 {b c n t ab ao x4 x5 r : Nat} {u : Nat → Bool} {D : Nat → Nat} {w2 w3 : World} {q : Nat → Nat} (h : TS b c n t ab ao x4 x5 r u D w3) (A : Array Value) (hsz : A.size = 16)
    (hJ : ∀ j, j < 16 → A[j]? = some (.int .i64 (q j : Nat))) (hx : x4 + 2 ≤ w2.heap.size) (hT : w3.there w2.heap.size 0 16) (hM : Mod (fun _ => False) (w2.alloc (.cells zeroP 134)).drew w3)
    (hs : ∀ k, k = b ∨ k = c ∨ k = t ∨ k = ab ∨ k = x4 ∨ k = x5 ∨ k = 0 → k < w2.heap.size) :
    ∃ w4 Pb, Hid (w4 = w3.setCells w2.heap.size 0 A.toList) ∧ Hid (Pb = w2.heap.size) ∧ Hid (TP b c n t ab ao x4 x5 r u D w2 w4 Pb q) := by
  refine ⟨_, _, rfl, rfl, ?_⟩
  show TP _ _ _ _ _ _ _ _ _ _ _ _ _ _ _
  have hlen : A.toList.length = 16 := by simp [hsz]
  have m1 : Mod (fun k => k = w2.heap.size) w3 (w3.setCells w2.heap.size 0 A.toList) := Mod.setCells (s := fun k => k = w2.heap.size) w2.heap.size rfl A.toList 0 (Mod.refl (fun k => k = w2.heap.size) w3)
  have hne : ∀ k, k = b ∨ k = c ∨ k = t ∨ k = ab ∨ k = x4 ∨ k = x5 ∨ k = 0 → ¬ k = w2.heap.size := fun k hk e => by have := hs k hk; omega
  have m2 : Mod (fun _ => False) w2 w3 := ((((Mod.refl _ w2).alloc _).drewN 1).trans hM)
  refine ⟨h.step m1 (h.S.mod m1 (hne 0 (by simp)) (hne b (by simp)) (hne c (by simp))) (hne ab (by simp)) (hne t (by simp)) (hne x4 (by simp)) (hne x5 (by simp)), fun j hj => ?_, fun o ho => ?_, hx, m2.newCells _ (Nat.le_refl _) _ _⟩
  · have := World.rangeAt_setCells_same w3 w2.heap.size 0 A.toList (by rw [hlen]; exact hT) j _ (by rw [Array.getElem?_toList]; exact hJ j hj)
    rwa [Nat.zero_add] at this
  · have := (World.there_setCells hT w2.heap.size 0 A.toList o ho).2
    rwa [Nat.zero_add] at this
theorem fr_sub {b c ab ao Pb po : Nat} {w x y : World} (h : Fr b c Pb po (x.drewN 1) y) (hab : ab < x.heap.size) (h1 : ab ≠ b) (h2 : ab ≠ c) (h3 : ab ≠ Pb) (hl : w.heap.size ≤ Pb) (hF : Fr b c ab ao w x) : Fr b c ab ao w y :=
  have hM : Mod (fun k => k = b ∨ k = c ∨ k = Pb) x y := ((Mod.refl _ x).drewN 1).trans h.mod
  have hn : ¬ (ab = b ∨ ab = c ∨ ab = Pb) := fun e => e.elim h1 (fun e => e.elim h2 h3)
  ⟨⟨hM.os.trans hF.mod.os, hM.tape.trans hF.mod.tape, hM.output.trans hF.mod.output, Nat.le_trans hF.mod.size hM.size, fun k hk hs => (hM.block k (Nat.lt_of_lt_of_le hk hF.mod.size) (fun e => hs (e.elim .inl (fun e => e.elim (fun e => .inr (.inl e)) (fun e => absurd e (by omega)))))).trans (hF.mod.block k hk hs)⟩,
    fun o ho => (hM.cell (p := ⟨ab, o, none⟩) hab hn).trans (hF.cell o ho), fun o => (hM.frozen (p := ⟨ab, o, none⟩) hab hn).trans (hF.frz o)⟩
theorem row_of {w4 w5 : World} {Pb x p : Nat} {q : Nat → Nat} (h : ∀ j, j < 16 → w4.cell? ⟨Pb, j, none⟩ = some (.int .i64 (q j : Nat))) (h1 : w5.cell? ⟨Pb, x, none⟩ = some (.int .i64 (p : Nat))) (h2 : ∀ o, o ≠ x → w5.cell? ⟨Pb, o, none⟩ = w4.cell? ⟨Pb, o, none⟩) :
    ∃ L : List Value, L.length = 16 ∧ Hid (L.toArray = refsV (upd q x p)) ∧ Hid (w5.rangeAt Pb 0 L) := by
  refine ⟨(refsV (upd q x p)).toList, refsV_len _, rfl, fun j v hj => ?_⟩
  simp only [refsV, List.getElem?_map, Option.map_eq_some_iff] at hj
  obtain ⟨k, hk, rfl⟩ := hj
  obtain ⟨hl, he⟩ := List.getElem?_eq_some_iff.mp hk
  simp at hl he
  subst he
  rw [Nat.zero_add]
  unfold upd
  by_cases e : j = x
  · subst e; rw [if_pos rfl]; exact h1
  · rw [if_neg e, h2 j e]; exact h j hl
theorem range_mod {c Pb : Nat} {x y : World} {L : List Value} (h : Mod (fun k => k = c) (x.drewN 1) y) (hr : x.rangeAt Pb 0 L) (hp : Pb < x.heap.size) (hn : Pb ≠ c) : y.rangeAt Pb 0 L := fun j v hj =>
  (h.cell (p := ⟨Pb, 0 + j, none⟩) hp hn).trans (hr j v hj)
end Go.Proofs.YtgplmgliockbcaaDoor
