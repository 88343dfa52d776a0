/- Several texts of this claim, one behind the other, in their order. -/
import Derived.Test.YtpcbpikhiooafaaGreatDoorM3
import Derived.Deep.WholeRow
/- The walk of free: a ref's block is free, and the ref is a hole. Conditions: the store lies in memory as 'St' says, the table's first cell leads to it, the ref lies in a block of its own. -/
namespace Go.Proofs.YtpcbpikhiooafaaGreatDoor
open Go.RowKit
/-- Of what was there the store has turned, and of block ab only the cell at ao. -/
structure Fr (b c ab ao : Nat) (w w' : World) : Prop where
  mod : Mod (fun k => k = b ∨ k = c ∨ k = ab) w w'
  cell : ∀ o, o ≠ ao → w'.cell? ⟨ab, o, none⟩ = w.cell? ⟨ab, o, none⟩
  frz : ∀ o, w'.frozen? ⟨ab, o, none⟩ = w.frozen? ⟨ab, o, none⟩
theorem Fr.refl (b c ab ao : Nat) (w : World) : Fr b c ab ao w w := ⟨Mod.refl _ _, fun _ _ => rfl, fun _ => rfl⟩
theorem Fr.trans {b c ab ao : Nat} {x y z : World} (h : Fr b c ab ao x y) (k : Fr b c ab ao y z) : Fr b c ab ao x z :=
  ⟨h.mod.trans k.mod, fun o ho => (k.cell o ho).trans (h.cell o ho), fun o => (k.frz o).trans (h.frz o)⟩
theorem Fr.of_mod {b c ab ao : Nat} {s : Nat → Prop} {w w' : World} (h : Mod s w w') (hab : ab < w.heap.size) (hs : ∀ k, s k → k = b ∨ k = c) (h1 : ab ≠ b) (h2 : ab ≠ c) : Fr b c ab ao w w' :=
  have hn : ¬ s ab := fun e => (hs ab e).elim h1 h2
  ⟨h.mono (fun k _ e => (hs k e).elim .inl (fun e => .inr (.inl e))), fun _ _ => h.cell (p := ⟨ab, _, none⟩) hab hn, fun _ => h.frozen (p := ⟨ab, _, none⟩) hab hn⟩
theorem Fr.set {b c ab ao : Nat} {w w' : World} (h : Fr b c ab ao w w') (v : Value) : Fr b c ab ao w (w'.setCell ⟨ab, ao, none⟩ v) :=
  ⟨h.mod.setCell _ _ (.inr (.inr rfl)), fun o ho => (setCell_out _ _ _ _ _ (fun _ => ho)).trans (h.cell o ho), fun o => (setCell_frozen _ _ _ _ _).trans (h.frz o)⟩
theorem Fr.drewN {b c ab ao : Nat} {w w' : World} (h : Fr b c ab ao w w') (m : Nat) : Fr b c ab ao w (w'.drewN m) := ⟨h.mod.drewN m, h.cell, h.frz⟩
theorem St.set {w : World} {b c n : Nat} {u : Nat → Bool} {D : Nat → Nat} (S : St w b c n u D) (ab ao : Nat) (v : Value) (h0 : ab ≠ 1) (h1 : ab ≠ b) (h2 : ab ≠ c) : St (w.setCell ⟨ab, ao, none⟩ v) b c n u D :=
  S.mod (s := fun k => k = ab) ((Mod.refl _ w).setCell _ _ rfl) h0.symm h1.symm h2.symm
def freeU (u : Nat → Bool) (r : Nat) : Nat → Bool := if r ≠ 0 ∧ u (r - 1) = true then upd u (r - 1) false else u
def freeD (u : Nat → Bool) (D : Nat → Nat) (r : Nat) : Nat → Nat := if r ≠ 0 ∧ u (r - 1) = true then over D ((r - 1) * 64) zeros else D
section
variable {w : World} {b c n : Nat} {u : Nat → Bool} {D : Nat → Nat}
/-- The store's Free, of any ref. -/
theorem St.free_any (S : St w b c n u D) (r : Nat) :
    Calls Tryz.prog 129 #[.pointer (some ⟨b, 0, none⟩), .int .i64 ((r : Int) - 1)] w fun e w' => (∃ v, e = .returned (.int .i64 v)) ∧ St w' b c n (freeU u r) (freeD u D r) ∧ Mod (fun k => k = b ∨ k = c) w w' := by
  unfold freeU freeD
  by_cases h : r ≠ 0 ∧ u (r - 1) = true
  · have hrn : r - 1 < n := Nat.lt_of_not_le fun h' => by have := h.2; rw [S.out _ h'] at this; exact absurd this (by simp)
    rw [if_pos h, if_pos h, show (r : Int) - 1 = ((r - 1 : Nat) : Int) by have := h.1; omega]
    exact (S.free_ok (r - 1) hrn h.2).mono fun e w' ⟨h1, h2, h3, _⟩ => ⟨⟨_, h1⟩, h2, h3⟩
  · rw [if_neg h, if_neg h]
    exact (S.free_not _ (unfit_of h)).mono fun e w' ⟨h1, m, h2⟩ => ⟨⟨_, h1⟩, by subst h2; exact S.drewN m, by subst h2; exact (Mod.refl _ w).drewN m⟩
set_option maxRecDepth 8000 in
set_option maxHeartbeats 1000000 in
theorem free_any (S : St w b c n u D) (t ab ao r : Nat) (ht : w.cell? ⟨t, 0, none⟩ = some (.pointer (some ⟨b, 0, none⟩))) (ha : w.cell? ⟨ab, ao, none⟩ = some (.int .i64 r)) (hf : w.frozen? ⟨ab, ao, none⟩ = false)
    (h0 : ab ≠ 1) (h1 : ab ≠ b) (h2 : ab ≠ c) (htb : t ≠ b) (htc : t ≠ c) (hr : r < 4294967296) :
    Calls Tryz.prog 108 #[.pointer (some ⟨t, 0, none⟩), .pointer (some ⟨ab, ao, none⟩)] w fun e w' => e = .returned (.tuple #[]) ∧ St w' b c n (freeU u r) (freeD u D r) ∧ w'.cell? ⟨ab, ao, none⟩ = some (.int .i64 0) ∧ Fr b c ab ao w w' := by
  have HS : Hid (St (w.drewN 1) b c n u D) := S.drewN 1
  have HT : Hid ((w.drewN 1).cell? ⟨t, 0, none⟩ = some (.pointer (some ⟨b, 0, none⟩)) ∧ (w.drewN 1).cell? ⟨ab, ao, none⟩ = some (.int .i64 r)) := ⟨ht, ha⟩
  have hab := block_lt_of_cell ha
  have htl := block_lt_of_cell ht
  have HN : Hid (ab ≠ 1 ∧ ab ≠ b ∧ ab ≠ c ∧ t ≠ b ∧ t ≠ c) := ⟨h0, h1, h2, htb, htc⟩
  have HF : Hid (w.frozen? ⟨ab, ao, none⟩ = false) := hf
  clear S ht ha h0 h1 h2 htb htc hf
  go_enter Tryz.func108, Tryz.ntmps108
  go_wp2_with fail
  go_region_held (fun W' => W'.cell? ⟨t, 0, none⟩ = some (.pointer (some ⟨b, 0, none⟩)) ∧ W'.cell? ⟨ab, ao, none⟩ = some (.int .i64 r)) (first | exact hS1 | exact HT.out) (first | (go_at_call 103; refine (block_any r _ (by omega)).mono ?_; rintro e w2 ⟨rfl, rfl⟩) | (go_at_call 129; refine (HS.out.free_any r).mono ?_; rintro e w2 ⟨⟨v, rfl⟩, H2, M2⟩; have hS1 : w2.cell? ⟨t, 0, none⟩ = some (.pointer (some ⟨b, 0, none⟩)) ∧ w2.cell? ⟨ab, ao, none⟩ = some (.int .i64 r) := ⟨(M2.cell (p := ⟨t, 0, none⟩) htl (fun h => h.elim HN.out.2.2.2.1 HN.out.2.2.2.2)).trans HT.out.1, (M2.cell (p := ⟨ab, ao, none⟩) hab (fun h => h.elim HN.out.2.1 HN.out.2.2.1)).trans HT.out.2⟩; have HS2 : Hid (St w2 b c n (freeU u r) (freeD u D r)) := H2; have HM2 : Hid (Mod (fun k => k = b ∨ k = c) w w2) := ((Mod.refl _ w).drewN 1).trans M2; clear H2 M2))
  have hfz : w2.frozen? ⟨ab, ao, none⟩ = false := (HM2.out.frozen (p := ⟨ab, ao, none⟩) hab (fun h => h.elim HN.out.2.1 HN.out.2.2.1)).trans HF.out
  have hcl : w2.cell? ⟨ab, ao, none⟩ = some (.int .i64 r) := (HM2.out.cell (p := ⟨ab, ao, none⟩) hab (fun h => h.elim HN.out.2.1 HN.out.2.2.1)).trans HT.out.2
  go_wp2
  exact ⟨rfl, _, results_none rfl _ _ _, rfl, HS2.out.set ab ao _ HN.out.1 HN.out.2.1 HN.out.2.2.1, setCell_in _ _ _ _ _ hcl, (Fr.of_mod HM2.out hab (fun _ h => h) HN.out.2.1 HN.out.2.2.1).set _⟩
end
end Go.Proofs.YtpcbpikhiooafaaGreatDoor
/- The walk of take: a place gets a block, and ahead of it the indirect blocks that lead to it. Conditions: the store lies in memory as 'St' says, the table's first cell leads to it, the ref lies in a block of its own. -/
namespace Go.Proofs.YtpcbpikhiooafaaGreatDoor
open Go.RowKit
/-- The lowest number that is not in use. -/
def low (u : Nat → Bool) (n : Nat) : Option Nat := (List.range n).find? fun i => !u i
theorem low_some {u : Nat → Bool} {n i : Nat} (h : low u n = some i) : i < n ∧ u i = false ∧ ∀ j, j < i → u j = true := by
  unfold low at h
  rw [List.find?_range_eq_some] at h
  obtain ⟨h1, h2, h3⟩ := h
  refine ⟨by simpa using h2, by simpa using h1, fun j hj => ?_⟩
  have := h3 j hj
  simpa using this
theorem low_none {u : Nat → Bool} {n : Nat} (h : low u n = none) : ∀ i, i < n → u i = true := by
  unfold low at h
  rw [List.find?_eq_none] at h
  intro i hi
  have := h i (by simpa using hi)
  simpa using this
/-- take, by its words: what is in use, the bytes, the ref and what the place leads to behind it; none: nothing has changed. -/
def tk : Nat → Nat → (Nat → Bool) → (Nat → Nat) → Nat → Nat → Option ((Nat → Bool) × (Nat → Nat) × Nat × Nat)
  | 0, n, u, D, r, _ => if r ≠ 0 then some (u, D, r, r) else (low u n).map fun i => (upd u i true, D, i + 1, i + 1)
  | l + 1, n, u, D, r, k =>
    (if r ≠ 0 then some (u, r) else (low u n).map fun i => (upd u i true, i + 1)).bind fun (u1, r1) =>
      (tk l n u1 D (ptr u1 D r1 (k / 16 ^ l)) (k % 16 ^ l)).map fun (u2, D2, p, f) => (u2, saved u2 D2 r1 (upd (ptr u1 D r1) (k / 16 ^ l) p), r1, f)
theorem free_back {w : World} {b c n : Nat} {u : Nat → Bool} {D : Nat → Nat} (S : St w b c n u D) {i : Nat} (hi : i < n) (h : u i = false) : freeU (upd u i true) (i + 1) = u ∧ freeD (upd u i true) D (i + 1) = D := by
  have e : i + 1 ≠ 0 ∧ upd u i true (i + 1 - 1) = true := ⟨by omega, by simp [upd]⟩
  unfold freeU freeD
  rw [if_pos e, if_pos e, Nat.add_sub_cancel]
  constructor
  · funext j
    unfold upd
    by_cases e : j = i
    · subst e; rw [if_pos rfl, h]
    · rw [if_neg e, if_neg e]
  · funext j
    unfold over
    split
    · rename_i hj
      obtain ⟨h1, h2⟩ := hj
      rw [show zeros.length = 64 from rfl] at h2
      have := S.free i hi h (j - i * 64) (by omega)
      rw [show i * 64 + (j - i * 64) = j by omega] at this
      rw [this]
      have : ∀ k, k < 64 → zeros.getD k 0 = 0 := by decide
      exact this _ (by omega)
    · rfl
/-- What take makes of it all. -/
def TkPost (b c n t ab ao : Nat) (u : Nat → Bool) (D : Nat → Nat) (r : Nat) (w : World) (x : Option ((Nat → Bool) × (Nat → Nat) × Nat × Nat)) (e : Ending) (w' : World) : Prop :=
  match x with
  | none => e = .returned (.tuple #[.int .i64 0, .bool false]) ∧ St w' b c n u D ∧ w'.cell? ⟨ab, ao, none⟩ = some (.int .i64 r) ∧ Fr b c ab ao w w' ∧ w'.cell? ⟨t, 0, none⟩ = some (.pointer (some ⟨b, 0, none⟩))
  | some (u', D', r', f) => e = .returned (.tuple #[.int .i64 (f : Nat), .bool true]) ∧ St w' b c n u' D' ∧ w'.cell? ⟨ab, ao, none⟩ = some (.int .i64 (r' : Nat)) ∧ Fr b c ab ao w w' ∧ w'.cell? ⟨t, 0, none⟩ = some (.pointer (some ⟨b, 0, none⟩))
/-- The ref at ⟨ab, ao⟩ and the table t lie apart from the store. -/
structure Apart (b c t ab : Nat) : Prop where
  a0 : ab ≠ 1
  nb : ab ≠ b
  nc : ab ≠ c
  tb : t ≠ b
  tc : t ≠ c
  ta : t ≠ ab
/-- The store, the table, the ref and the two variables that take's closures hold. -/
structure TS (b c n t ab ao x4 x5 r : Nat) (u : Nat → Bool) (D : Nat → Nat) (w : World) : Prop where
  S : St w b c n u D
  ct : w.cell? ⟨t, 0, none⟩ = some (.pointer (some ⟨b, 0, none⟩))
  ca : w.cell? ⟨ab, ao, none⟩ = some (.int .i64 (r : Nat))
  fa : w.frozen? ⟨ab, ao, none⟩ = false
  c4 : w.cell? ⟨x4, 0, none⟩ = some (.pointer (some ⟨t, 0, none⟩))
  c5 : w.cell? ⟨x5, 0, none⟩ = some (.pointer (some ⟨ab, ao, none⟩))
  A : Apart b c t ab
  n4 : x4 ≠ b ∧ x4 ≠ c ∧ x4 ≠ ab
  n5 : x5 ≠ b ∧ x5 ≠ c ∧ x5 ≠ ab
section
variable {b c n t ab ao x4 x5 r : Nat} {u : Nat → Bool} {D : Nat → Nat} {w w' : World}
theorem TS.step (h : TS b c n t ab ao x4 x5 r u D w) {s : Nat → Prop} (hM : Mod s w w') {u' : Nat → Bool} {D' : Nat → Nat} (hS : St w' b c n u' D') (ha : ¬ s ab) (ht : ¬ s t) (h4 : ¬ s x4) (h5 : ¬ s x5) : TS b c n t ab ao x4 x5 r u' D' w' where
  S := hS
  ct := (hM.cell (p := ⟨t, 0, none⟩) (block_lt_of_cell h.ct) ht).trans h.ct
  ca := (hM.cell (p := ⟨ab, ao, none⟩) (block_lt_of_cell h.ca) ha).trans h.ca
  fa := (hM.frozen (p := ⟨ab, ao, none⟩) (block_lt_of_cell h.ca) ha).trans h.fa
  c4 := (hM.cell (p := ⟨x4, 0, none⟩) (block_lt_of_cell h.c4) h4).trans h.c4
  c5 := (hM.cell (p := ⟨x5, 0, none⟩) (block_lt_of_cell h.c5) h5).trans h.c5
  A := h.A
  n4 := h.n4
  n5 := h.n5
theorem TS.new (h : TS b c n t ab ao x4 x5 r u D w) (hM : Mod (fun _ => False) w w') : TS b c n t ab ao x4 x5 r u D w' :=
  h.step hM (h.S.mod hM (fun h => h) (fun h => h) (fun h => h)) (fun h => h) (fun h => h) (fun h => h) (fun h => h)
theorem TS.stored (h : TS b c n t ab ao x4 x5 r u D w) {s : Nat → Prop} (hM : Mod s w w') {u' : Nat → Bool} {D' : Nat → Nat} (hS : St w' b c n u' D') (hs : ∀ k, s k → k = b ∨ k = c) : TS b c n t ab ao x4 x5 r u' D' w' :=
  h.step hM hS (fun e => (hs _ e).elim h.A.nb h.A.nc) (fun e => (hs _ e).elim h.A.tb h.A.tc) (fun e => (hs _ e).elim h.n4.1 h.n4.2.1) (fun e => (hs _ e).elim h.n5.1 h.n5.2.1)
theorem TS.set (h : TS b c n t ab ao x4 x5 r u D w) (x : Nat) : TS b c n t ab ao x4 x5 x u D (w.setCell ⟨ab, ao, none⟩ (.int .i64 (x : Nat))) where
  S := h.S.set ab ao _ h.A.a0 h.A.nb h.A.nc
  ct := (setCell_out _ _ _ _ _ (fun e => absurd e h.A.ta)).trans h.ct
  ca := setCell_in _ _ _ _ _ h.ca
  fa := (setCell_frozen _ _ _ _ _).trans h.fa
  c4 := (setCell_out _ _ _ _ _ (fun e => absurd e h.n4.2.2)).trans h.c4
  c5 := (setCell_out _ _ _ _ _ (fun e => absurd e h.n5.2.2)).trans h.c5
  A := h.A
  n4 := h.n4
  n5 := h.n5
theorem TS.fr (h : TS b c n t ab ao x4 x5 r u D w) {s : Nat → Prop} (hM : Mod s w w') (hs : ∀ k, s k → k = b ∨ k = c) : Fr b c ab ao w w' := Fr.of_mod hM (block_lt_of_cell h.ca) hs h.A.nb h.A.nc
end
/-- The variables are made. -/
theorem TS.box {w : World} {b c n t ab ao r : Nat} {u : Nat → Bool} {D : Nat → Nat} (S : St w b c n u D) (ht : w.cell? ⟨t, 0, none⟩ = some (.pointer (some ⟨b, 0, none⟩))) (ha : w.cell? ⟨ab, ao, none⟩ = some (.int .i64 (r : Nat))) (hf : w.frozen? ⟨ab, ao, none⟩ = false) (hA : Apart b c t ab) :
    TS b c n t ab ao w.heap.size (w.heap.size + 1) r u D ((w.alloc (.cells #[.pointer (some ⟨t, 0, none⟩)] 45)).alloc (.cells #[.pointer (some ⟨ab, ao, none⟩)] 169)) :=
  have hM : Mod (fun _ => False) w ((w.alloc (.cells #[.pointer (some ⟨t, 0, none⟩)] 45)).alloc (.cells #[.pointer (some ⟨ab, ao, none⟩)] 169)) := ((Mod.refl _ w).alloc _).alloc _
  have hab := block_lt_of_cell ha
  have hb := S.lt_b
  have hc := S.lt_c
  { S := S.mod hM (fun h => h) (fun h => h) (fun h => h)
    ct := (hM.cell (p := ⟨t, 0, none⟩) (block_lt_of_cell ht) (fun h => h)).trans ht
    ca := (hM.cell (p := ⟨ab, ao, none⟩) hab (fun h => h)).trans ha
    fa := (hM.frozen (p := ⟨ab, ao, none⟩) hab (fun h => h)).trans hf
    c4 := by rw [World.cell?_alloc_past _ _ _ (by simp), World.cell?_alloc_at _ _ _ _ rfl]; rfl
    c5 := by rw [World.cell?_alloc_at _ _ _ _ (by simp)]; rfl
    A := hA
    n4 := by simp at hab; omega
    n5 := by simp at hab; omega }
section
variable {w : World} {b c n : Nat} {u : Nat → Bool} {D : Nat → Nat}
set_option maxRecDepth 8000 in
set_option maxHeartbeats 1000000 in
theorem take_have0 (S : St w b c n u D) (t ab ao r k : Nat) (ht : w.cell? ⟨t, 0, none⟩ = some (.pointer (some ⟨b, 0, none⟩))) (ha : w.cell? ⟨ab, ao, none⟩ = some (.int .i64 r))
    (hA : Apart b c t ab) (hr0 : r ≠ 0) :
    Calls Tryz.prog 104 #[.pointer (some ⟨t, 0, none⟩), .pointer (some ⟨ab, ao, none⟩), .int .i64 1, .int .i64 k] w (TkPost b c n t ab ao u D r w (some (u, D, r, r))) := by
  have hrb : ((r : Int) == 0) = false := by simpa using hr0
  have hab := block_lt_of_cell ha
  have htl := block_lt_of_cell ht
  have HS : Hid (St w b c n u D) := S
  have HA : Hid (Apart b c t ab) := hA
  clear S hA
  go_enter Tryz.func104, Tryz.ntmps104
  go_wp2
  go_ret2
  have hM : Mod (fun _ => False) w ((w.alloc (.cells #[.pointer (some ⟨t, 0, none⟩)] 45)).alloc (.cells #[.pointer (some ⟨ab, ao, none⟩)] 169)) := ((Mod.refl _ w).alloc _).alloc _
  exact ⟨by simp, HS.out.mod hM (fun h => h) (fun h => h) (fun h => h), (hM.cell (p := ⟨ab, ao, none⟩) hab (fun h => h)).trans ha, Fr.of_mod hM hab (fun _ h => h.elim) HA.out.nb HA.out.nc, (hM.cell (p := ⟨t, 0, none⟩) htl (fun h => h)).trans ht⟩
set_option maxRecDepth 8000 in
set_option maxHeartbeats 1000000 in
theorem take_full (S : St w b c n u D) (t ab ao k p : Nat) (ht : w.cell? ⟨t, 0, none⟩ = some (.pointer (some ⟨b, 0, none⟩))) (ha : w.cell? ⟨ab, ao, none⟩ = some (.int .i64 (0 : Nat)))
    (hf : w.frozen? ⟨ab, ao, none⟩ = false) (hA : Apart b c t ab) (hl : low u n = none) :
    Calls Tryz.prog 104 #[.pointer (some ⟨t, 0, none⟩), .pointer (some ⟨ab, ao, none⟩), .int .i64 p, .int .i64 k] w (TkPost b c n t ab ao u D 0 w none) := by
  have HT : Hid (TS b c n t ab ao w.heap.size (w.heap.size + 1) 0 u D ((w.alloc (.cells #[.pointer (some ⟨t, 0, none⟩)] 45)).alloc (.cells #[.pointer (some ⟨ab, ao, none⟩)] 169))) := TS.box S ht ha hf hA
  have hM : Hid (Mod (fun _ => False) w ((w.alloc (.cells #[.pointer (some ⟨t, 0, none⟩)] 45)).alloc (.cells #[.pointer (some ⟨ab, ao, none⟩)] 169))) := ((Mod.refl _ w).alloc _).alloc _
  have hab := block_lt_of_cell ha
  have htl := block_lt_of_cell ht
  have HL : Hid (∀ i, i < n → u i = true) := low_none hl
  clear S hl hf hA
  go_enter Tryz.func104, Tryz.ntmps104
  go_wp2_with (go_at_call 126; refine (HT.out.S.alloc_full HL.out).mono ?_; rintro e w1 ⟨rfl, rfl⟩)
  go_ret2
  exact ⟨by simp, HT.out.S, HT.out.ca, Fr.of_mod hM.out hab (fun _ h => h.elim) HT.out.A.nb HT.out.A.nc, HT.out.ct⟩
set_option maxRecDepth 8000 in
set_option maxHeartbeats 1000000 in
theorem take_new0 (S : St w b c n u D) (t ab ao k i : Nat) (ht : w.cell? ⟨t, 0, none⟩ = some (.pointer (some ⟨b, 0, none⟩))) (ha : w.cell? ⟨ab, ao, none⟩ = some (.int .i64 (0 : Nat)))
    (hf : w.frozen? ⟨ab, ao, none⟩ = false) (hA : Apart b c t ab) (hl : low u n = some i) :
    Calls Tryz.prog 104 #[.pointer (some ⟨t, 0, none⟩), .pointer (some ⟨ab, ao, none⟩), .int .i64 1, .int .i64 k] w (TkPost b c n t ab ao u D 0 w (some (upd u i true, D, i + 1, i + 1))) := by
  have HT : Hid (TS b c n t ab ao w.heap.size (w.heap.size + 1) 0 u D ((w.alloc (.cells #[.pointer (some ⟨t, 0, none⟩)] 45)).alloc (.cells #[.pointer (some ⟨ab, ao, none⟩)] 169))) := TS.box S ht ha hf hA
  have hM : Hid (Mod (fun _ => False) w ((w.alloc (.cells #[.pointer (some ⟨t, 0, none⟩)] 45)).alloc (.cells #[.pointer (some ⟨ab, ao, none⟩)] 169))) := ((Mod.refl _ w).alloc _).alloc _
  have hab := block_lt_of_cell ha
  have htl := block_lt_of_cell ht
  have hn := S.n2
  have HL : Hid (i < n ∧ u i = false ∧ ∀ j, j < i → u j = true) := low_some hl
  have hi : i < 4096 := by have := HL.out.1; omega
  clear S hl hf hA
  go_enter Tryz.func104, Tryz.ntmps104
  go_wp2_with (go_at_call 126; refine (HT.out.S.alloc_some i HL.out.1 HL.out.2.1 HL.out.2.2).mono ?_; rintro e w1 ⟨rfl, H1, M1, -⟩; have HT1 : Hid (TS b c n t ab ao w.heap.size (w.heap.size + 1) 0 (upd u i true) D w1) := HT.out.stored M1 H1 (fun _ h => .inl h); have HM1 : Hid (Mod (fun k => k = b) _ w1) := M1; have c1 := HT1.out.c4; have c2 := HT1.out.c5; have c3 := HT1.out.ca; have c4 := HT1.out.fa; clear H1 M1)
  go_ret2
  have HT2 := HT1.out.set (i + 1)
  exact ⟨by simp, HT2.S, HT2.ca, (Fr.of_mod hM.out hab (fun _ h => h.elim) HT.out.A.nb HT.out.A.nc).trans ((HT.out.fr HM1.out (fun _ h => .inl h)).set _), HT2.ct⟩
/-- take of one place. -/
theorem take0 (S : St w b c n u D) (t ab ao r k : Nat) (ht : w.cell? ⟨t, 0, none⟩ = some (.pointer (some ⟨b, 0, none⟩))) (ha : w.cell? ⟨ab, ao, none⟩ = some (.int .i64 (r : Nat)))
    (hf : w.frozen? ⟨ab, ao, none⟩ = false) (hA : Apart b c t ab) :
    Calls Tryz.prog 104 #[.pointer (some ⟨t, 0, none⟩), .pointer (some ⟨ab, ao, none⟩), .int .i64 1, .int .i64 k] w (TkPost b c n t ab ao u D r w (tk 0 n u D r k)) := by
  unfold tk
  by_cases h : r ≠ 0
  · rw [if_pos h]; exact take_have0 S t ab ao r k ht ha hA h
  · rw [if_neg h]
    obtain rfl : r = 0 := by omega
    cases hl : low u n with
    | none => exact take_full S t ab ao k 1 ht ha hf hA hl
    | some i => exact take_new0 S t ab ao k i ht ha hf hA hl
theorem noop_any (w : World) : Calls Tryz.prog 125 #[] w fun e w' => e = .returned (.tuple #[]) ∧ w' = w := by
  go_enter Tryz.func125, Tryz.ntmps125
  go_wp2
  exact ⟨rfl, _, results_none rfl _ _ _, rfl, rfl⟩
theorem back_any {t ab ao x4 x5 r : Nat} (h : TS b c n t ab ao x4 x5 r u D w) (hr : r < 4294967296) : Calls Tryz.prog 127 #[.pointer (some ⟨x4, 0, none⟩), .pointer (some ⟨x5, 0, none⟩)] w fun e w' => e = .returned (.tuple #[]) ∧ St w' b c n (freeU u r) (freeD u D r) ∧ w'.cell? ⟨ab, ao, none⟩ = some (.int .i64 0) ∧ Fr b c ab ao w w' := by
  have HT : Hid (TS b c n t ab ao x4 x5 r u D w) := h
  have c1 := h.c4
  have c2 := h.c5
  clear h
  go_enter Tryz.func127, Tryz.ntmps127
  go_wp2_with (go_at_call 108; refine (free_any HT.out.S t ab ao r HT.out.ct HT.out.ca HT.out.fa HT.out.A.a0 HT.out.A.nb HT.out.A.nc HT.out.A.tb HT.out.A.tc hr).mono ?_; rintro e w1 ⟨rfl, H1, C1, F1⟩; have HH : Hid (St w1 b c n (freeU u r) (freeD u D r) ∧ w1.cell? ⟨ab, ao, none⟩ = some (.int .i64 0) ∧ Fr b c ab ao w w1) := ⟨H1, C1, F1⟩; clear H1 C1 F1)
  exact ⟨rfl, _, results_none rfl _ _ _, rfl, HH.out⟩
end
end Go.Proofs.YtpcbpikhiooafaaGreatDoor
/- The walk of take, of an indirect block's places and of a double one's. Conditions: the store lies in memory as 'St' says, the table's first cell leads to it, the ref lies in a block of its own. -/
namespace Go.Proofs.YtpcbpikhiooafaaGreatDoor
open Go.RowKit
theorem und_ref : Tryz.prog.underlying 195 = some (.array 16 89) := undP
theorem infP16 : (Tryz.prog.info? 195).map (·.size) = some 16 := infP
theorem set_row (w : World) (A : Array Value) (hs : A.size = 16) (h1 : A.all (·.oneCell') = true) : (w.alloc (.cells zeroP 195)).setCells w.heap.size 0 A.toList = w.alloc (.cells A 195) := by
  have := setCells_new w 195 zeroP A.toList (by rw [sizeP]; simp [hs]) (by simpa using h1) (by simpa [hs] using infP16)
  simpa using this
theorem TS.lts {b c n t ab ao x4 r : Nat} {u : Nat → Bool} {D : Nat → Nat} {w : World} (h : TS b c n t ab ao x4 (x4 + 1) r u D w) (hx : x4 + 2 ≤ w.heap.size) : ∀ k, k = b ∨ k = c ∨ k = t ∨ k = ab ∨ k = x4 ∨ k = x4 + 1 ∨ k = 1 → k < w.heap.size := by
  intro k hk
  rcases hk with rfl | rfl | rfl | rfl | rfl | rfl | rfl
  · exact h.S.lt_b
  · exact h.S.lt_c
  · exact block_lt_of_cell h.ct
  · exact block_lt_of_cell h.ca
  · omega
  · omega
  · exact h.S.tab.lt
/-- All that take holds when the refs of an indirect block lie in its variable at Pb. -/
structure TP (b c n t ab ao x4 x5 r : Nat) (u : Nat → Bool) (D : Nat → Nat) (w2 w : World) (Pb : Nat) (q : Nat → Nat) : Prop where
  T : TS b c n t ab ao x4 x5 r u D w
  at_ : ∀ j, j < 16 → w.cell? ⟨Pb, j, none⟩ = some (.int .i64 (q j : Nat))
  fr : ∀ o, o < 16 → w.frozen? ⟨Pb, o, none⟩ = false
  lt : x4 + 2 ≤ Pb
  mod : Mod (fun _ => False) w2 w
theorem TP.fr0 {b c n t ab ao x4 x5 r : Nat} {u : Nat → Bool} {D : Nat → Nat} {w2 w : World} {Pb : Nat} {q : Nat → Nat} (h : TP b c n t ab ao x4 x5 r u D w2 w Pb q) (hab : ab < w2.heap.size) : Fr b c ab ao w2 w :=
  Fr.of_mod h.mod hab (fun _ e => e.elim) h.T.A.nb h.T.A.nc
theorem s3 {b c n t ab ao x4 x5 r : Nat} {u : Nat → Bool} {D : Nat → Nat} {w : World} (h : TS b c n t ab ao x4 x5 r u D w) : w.cell? ⟨x4, 0, none⟩ = some (.pointer (some ⟨t, 0, none⟩)) ∧ w.cell? ⟨x5, 0, none⟩ = some (.pointer (some ⟨ab, ao, none⟩)) ∧ w.cell? ⟨ab, ao, none⟩ = some (.int .i64 (r : Nat)) := ⟨h.c4, h.c5, h.ca⟩
theorem one_list {A : Array Value} (h : A.all (·.oneCell') = true) : ∀ v ∈ A.toList, v.oneCell' = true := fun v hv => (Array.all_eq_true_iff_forall_mem.1 h) v (by simpa using hv)
theorem four1 {b c n t ab ao x4 x5 r : Nat} {u : Nat → Bool} {D : Nat → Nat} {w2 w3 : World} {q : Nat → Nat} (h : TS b c n t ab ao x4 x5 r u D w3) (A : Array Value) (hsz : A.size = 16) (hO : A.all (·.oneCell') = true)
    (hJ : ∀ j, j < 16 → A[j]? = some (.int .i64 (q j : Nat))) (hx : x4 + 2 ≤ w3.heap.size) (hM : Mod (fun _ => False) w2 w3) :
    ∃ w4 Pb, Hid (w4 = (w3.alloc (.cells zeroP 195)).setCells w3.heap.size 0 A.toList) ∧ Hid (Pb = w3.heap.size) ∧ Hid (TP b c n t ab ao x4 x5 r u D w2 w4 Pb q) := by
  refine ⟨_, _, rfl, rfl, ?_⟩
  show TP _ _ _ _ _ _ _ _ _ _ _ _ _ _ _
  rw [set_row w3 A hsz hO]
  exact ⟨h.new ((Mod.refl _ w3).alloc _), fun j hj => by rw [World.cell?_alloc_at _ _ _ _ rfl]; exact hJ j hj, fun o _ => World.frozen?_alloc_at _ _ _ _ rfl, hx, hM.alloc _⟩
theorem four2 {b c n t ab ao x4 x5 r : Nat} {u : Nat → Bool} {D : Nat → Nat} {w2 w3 : World} {q : Nat → Nat} (h : TS b c n t ab ao x4 x5 r u D w3) (A : Array Value) (hsz : A.size = 16)
    (hJ : ∀ j, j < 16 → A[j]? = some (.int .i64 (q j : Nat))) (hx : x4 + 2 ≤ w2.heap.size) (hT : w3.there w2.heap.size 0 16) (hM : Mod (fun _ => False) (w2.alloc (.cells zeroP 195)).drew w3)
    (hs : ∀ k, k = b ∨ k = c ∨ k = t ∨ k = ab ∨ k = x4 ∨ k = x5 ∨ k = 1 → k < w2.heap.size) :
    ∃ w4 Pb, Hid (w4 = w3.setCells w2.heap.size 0 A.toList) ∧ Hid (Pb = w2.heap.size) ∧ Hid (TP b c n t ab ao x4 x5 r u D w2 w4 Pb q) := by
  refine ⟨_, _, rfl, rfl, ?_⟩
  show TP _ _ _ _ _ _ _ _ _ _ _ _ _ _ _
  have hlen : A.toList.length = 16 := by simp [hsz]
  have m1 : Mod (fun k => k = w2.heap.size) w3 (w3.setCells w2.heap.size 0 A.toList) := Mod.setCells (s := fun k => k = w2.heap.size) w2.heap.size rfl A.toList 0 (Mod.refl (fun k => k = w2.heap.size) w3)
  have hne : ∀ k, k = b ∨ k = c ∨ k = t ∨ k = ab ∨ k = x4 ∨ k = x5 ∨ k = 1 → ¬ k = w2.heap.size := fun k hk e => by have := hs k hk; omega
  have m2 : Mod (fun _ => False) w2 w3 := ((((Mod.refl _ w2).alloc _).drewN 1).trans hM)
  refine ⟨h.step m1 (h.S.mod m1 (hne 1 (by simp)) (hne b (by simp)) (hne c (by simp))) (hne ab (by simp)) (hne t (by simp)) (hne x4 (by simp)) (hne x5 (by simp)), fun j hj => ?_, fun o ho => ?_, hx, m2.newCells _ (Nat.le_refl _) _ _⟩
  · have := World.rangeAt_setCells_same w3 w2.heap.size 0 A.toList (by rw [hlen]; exact hT) j _ (by rw [Array.getElem?_toList]; exact hJ j hj)
    rwa [Nat.zero_add] at this
  · have := (World.there_setCells hT w2.heap.size 0 A.toList o ho).2
    rwa [Nat.zero_add] at this
theorem fr_sub {b c ab ao Pb po : Nat} {w x y : World} (h : Fr b c Pb po (x.drewN 1) y) (hab : ab < x.heap.size) (h1 : ab ≠ b) (h2 : ab ≠ c) (h3 : ab ≠ Pb) (hl : w.heap.size ≤ Pb) (hF : Fr b c ab ao w x) : Fr b c ab ao w y :=
  have hM : Mod (fun k => k = b ∨ k = c ∨ k = Pb) x y := ((Mod.refl _ x).drewN 1).trans h.mod
  have hn : ¬ (ab = b ∨ ab = c ∨ ab = Pb) := fun e => e.elim h1 (fun e => e.elim h2 h3)
  ⟨⟨hM.os.trans hF.mod.os, hM.tape.trans hF.mod.tape, hM.output.trans hF.mod.output, Nat.le_trans hF.mod.size hM.size, fun k hk hs => (hM.block k (Nat.lt_of_lt_of_le hk hF.mod.size) (fun e => hs (e.elim .inl (fun e => e.elim (fun e => .inr (.inl e)) (fun e => absurd e (by omega)))))).trans (hF.mod.block k hk hs)⟩,
    fun o ho => (hM.cell (p := ⟨ab, o, none⟩) hab hn).trans (hF.cell o ho), fun o => (hM.frozen (p := ⟨ab, o, none⟩) hab hn).trans (hF.frz o)⟩
theorem row_of {w4 w5 : World} {Pb x p : Nat} {q : Nat → Nat} (h : ∀ j, j < 16 → w4.cell? ⟨Pb, j, none⟩ = some (.int .i64 (q j : Nat))) (h1 : w5.cell? ⟨Pb, x, none⟩ = some (.int .i64 (p : Nat))) (h2 : ∀ o, o ≠ x → w5.cell? ⟨Pb, o, none⟩ = w4.cell? ⟨Pb, o, none⟩) :
    ∃ L : List Value, L.length = 16 ∧ Hid (L.toArray = refsV (upd q x p)) ∧ Hid (w5.rangeAt Pb 0 L) := by
  refine ⟨(refsV (upd q x p)).toList, refsV_len _, rfl, fun j v hj => ?_⟩
  simp only [refsV, List.getElem?_map, Option.map_eq_some_iff] at hj
  obtain ⟨k, hk, rfl⟩ := hj
  obtain ⟨hl, he⟩ := List.getElem?_eq_some_iff.mp hk
  simp at hl he
  subst he
  rw [Nat.zero_add]
  unfold upd
  by_cases e : j = x
  · subst e; rw [if_pos rfl]; exact h1
  · rw [if_neg e, h2 j e]; exact h j hl
theorem range_mod {c Pb : Nat} {x y : World} {L : List Value} (h : Mod (fun k => k = c) (x.drewN 1) y) (hr : x.rangeAt Pb 0 L) (hp : Pb < x.heap.size) (hn : Pb ≠ c) : y.rangeAt Pb 0 L := fun j v hj =>
  (h.cell (p := ⟨Pb, 0 + j, none⟩) hp hn).trans (hr j v hj)
end Go.Proofs.YtpcbpikhiooafaaGreatDoor
