/- The walk of take: a place gets a block, and ahead of it the indirect blocks that lead to it. Conditions: the store lies in memory as 'St' says, the table's first cell leads to it, the ref lies in a block of its own. -/
import Derived.Test.YtgplmgliockbcaaDoorIno5
namespace Go.Proofs.YtgplmgliockbcaaDoor
open Go.RowKit
/-- The lowest number that is not in use. -/
def low (u : Nat → Bool) (n : Nat) : Option Nat := (List.range n).find? fun i => !u i
theorem low_some {u : Nat → Bool} {n i : Nat} (h : low u n = some i) : i < n ∧ u i = false ∧ ∀ j, j < i → u j = true := by
  unfold low at h
  rw [List.find?_range_eq_some] at h
  obtain ⟨h1, h2, h3⟩ := h
  refine ⟨by simpa using h2, by simpa using h1, fun j hj => ?_⟩
  have := h3 j hj
  simpa using this
theorem low_none {u : Nat → Bool} {n : Nat} (h : low u n = none) : ∀ i, i < n → u i = true := by
  unfold low at h
  rw [List.find?_eq_none] at h
  intro i hi
  have := h i (by simpa using hi)
  simpa using this
/-- take, by its words: what is in use, the bytes, the ref and what the place leads to behind it; none: nothing has changed. -/
def tk : Nat → Nat → (Nat → Bool) → (Nat → Nat) → Nat → Nat → Option ((Nat → Bool) × (Nat → Nat) × Nat × Nat)
  | 0, n, u, D, r, _ => if r ≠ 0 then some (u, D, r, r) else (low u n).map fun i => (upd u i true, D, i + 1, i + 1)
  | l + 1, n, u, D, r, k =>
    (if r ≠ 0 then some (u, r) else (low u n).map fun i => (upd u i true, i + 1)).bind fun (u1, r1) =>
      (tk l n u1 D (ptr u1 D r1 (k / 16 ^ l)) (k % 16 ^ l)).map fun (u2, D2, p, f) => (u2, saved u2 D2 r1 (upd (ptr u1 D r1) (k / 16 ^ l) p), r1, f)
theorem free_back {w : World} {b c n : Nat} {u : Nat → Bool} {D : Nat → Nat} (S : St w b c n u D) {i : Nat} (hi : i < n) (h : u i = false) : freeU (upd u i true) (i + 1) = u ∧ freeD (upd u i true) D (i + 1) = D := by
  have e : i + 1 ≠ 0 ∧ upd u i true (i + 1 - 1) = true := ⟨by omega, by simp [upd]⟩
  unfold freeU freeD
  rw [if_pos e, if_pos e, Nat.add_sub_cancel]
  constructor
  · funext j
    unfold upd
    by_cases e : j = i
    · subst e; rw [if_pos rfl, h]
    · rw [if_neg e, if_neg e]
  · funext j
    unfold over
    split
    · rename_i hj
      obtain ⟨h1, h2⟩ := hj
      rw [show zeros.length = 64 from rfl] at h2
      have := S.free i hi h (j - i * 64) (by omega)
      rw [show i * 64 + (j - i * 64) = j by omega] at this
      rw [this]
      have : ∀ k, k < 64 → zeros.getD k 0 = 0 := by decide
      exact this _ (by omega)
    · rfl
/-- What take makes of it all. -/
def TkPost (b c n t ab ao : Nat) (u : Nat → Bool) (D : Nat → Nat) (r : Nat) (w : World) (x : Option ((Nat → Bool) × (Nat → Nat) × Nat × Nat)) (e : Ending) (w' : World) : Prop :=
  match x with
  | none => e = .returned (.tuple #[.int .i64 0, .bool false]) ∧ St w' b c n u D ∧ w'.cell? ⟨ab, ao, none⟩ = some (.int .i64 r) ∧ Fr b c ab ao w w' ∧ w'.cell? ⟨t, 0, none⟩ = some (.pointer (some ⟨b, 0, none⟩))
  | some (u', D', r', f) => e = .returned (.tuple #[.int .i64 (f : Nat), .bool true]) ∧ St w' b c n u' D' ∧ w'.cell? ⟨ab, ao, none⟩ = some (.int .i64 (r' : Nat)) ∧ Fr b c ab ao w w' ∧ w'.cell? ⟨t, 0, none⟩ = some (.pointer (some ⟨b, 0, none⟩))
/-- The ref at ⟨ab, ao⟩ and the table t lie apart from the store. -/
structure Apart (b c t ab : Nat) : Prop where
  a0 : ab ≠ 0
  nb : ab ≠ b
  nc : ab ≠ c
  tb : t ≠ b
  tc : t ≠ c
  ta : t ≠ ab
/-- The store, the table, the ref and the two variables that take's closures hold. -/
structure TS (b c n t ab ao x4 x5 r : Nat) (u : Nat → Bool) (D : Nat → Nat) (w : World) : Prop where
  S : St w b c n u D
  ct : w.cell? ⟨t, 0, none⟩ = some (.pointer (some ⟨b, 0, none⟩))
  ca : w.cell? ⟨ab, ao, none⟩ = some (.int .i64 (r : Nat))
  fa : w.frozen? ⟨ab, ao, none⟩ = false
  c4 : w.cell? ⟨x4, 0, none⟩ = some (.pointer (some ⟨t, 0, none⟩))
  c5 : w.cell? ⟨x5, 0, none⟩ = some (.pointer (some ⟨ab, ao, none⟩))
  A : Apart b c t ab
  n4 : x4 ≠ b ∧ x4 ≠ c ∧ x4 ≠ ab
  n5 : x5 ≠ b ∧ x5 ≠ c ∧ x5 ≠ ab
section
variable {b c n t ab ao x4 x5 r : Nat} {u : Nat → Bool} {D : Nat → Nat} {w w' : World}
theorem TS.step (h : TS b c n t ab ao x4 x5 r u D w) {s : Nat → Prop} (hM : Mod s w w') {u' : Nat → Bool} {D' : Nat → Nat} (hS : St w' b c n u' D') (ha : ¬ s ab) (ht : ¬ s t) (h4 : ¬ s x4) (h5 : ¬ s x5) : TS b c n t ab ao x4 x5 r u' D' w' where
  S := hS
  ct := (hM.cell (p := ⟨t, 0, none⟩) (block_lt_of_cell h.ct) ht).trans h.ct
  ca := (hM.cell (p := ⟨ab, ao, none⟩) (block_lt_of_cell h.ca) ha).trans h.ca
  fa := (hM.frozen (p := ⟨ab, ao, none⟩) (block_lt_of_cell h.ca) ha).trans h.fa
  c4 := (hM.cell (p := ⟨x4, 0, none⟩) (block_lt_of_cell h.c4) h4).trans h.c4
  c5 := (hM.cell (p := ⟨x5, 0, none⟩) (block_lt_of_cell h.c5) h5).trans h.c5
  A := h.A
  n4 := h.n4
  n5 := h.n5
theorem TS.new (h : TS b c n t ab ao x4 x5 r u D w) (hM : Mod (fun _ => False) w w') : TS b c n t ab ao x4 x5 r u D w' :=
  h.step hM (h.S.mod hM (fun h => h) (fun h => h) (fun h => h)) (fun h => h) (fun h => h) (fun h => h) (fun h => h)
theorem TS.stored (h : TS b c n t ab ao x4 x5 r u D w) {s : Nat → Prop} (hM : Mod s w w') {u' : Nat → Bool} {D' : Nat → Nat} (hS : St w' b c n u' D') (hs : ∀ k, s k → k = b ∨ k = c) : TS b c n t ab ao x4 x5 r u' D' w' :=
  h.step hM hS (fun e => (hs _ e).elim h.A.nb h.A.nc) (fun e => (hs _ e).elim h.A.tb h.A.tc) (fun e => (hs _ e).elim h.n4.1 h.n4.2.1) (fun e => (hs _ e).elim h.n5.1 h.n5.2.1)
theorem TS.set (h : TS b c n t ab ao x4 x5 r u D w) (x : Nat) : TS b c n t ab ao x4 x5 x u D (w.setCell ⟨ab, ao, none⟩ (.int .i64 (x : Nat))) where
  S := h.S.set ab ao _ h.A.a0 h.A.nb h.A.nc
  ct := (setCell_out _ _ _ _ _ (fun e => absurd e h.A.ta)).trans h.ct
  ca := setCell_in _ _ _ _ _ h.ca
  fa := (setCell_frozen _ _ _ _ _).trans h.fa
  c4 := (setCell_out _ _ _ _ _ (fun e => absurd e h.n4.2.2)).trans h.c4
  c5 := (setCell_out _ _ _ _ _ (fun e => absurd e h.n5.2.2)).trans h.c5
  A := h.A
  n4 := h.n4
  n5 := h.n5
theorem TS.fr (h : TS b c n t ab ao x4 x5 r u D w) {s : Nat → Prop} (hM : Mod s w w') (hs : ∀ k, s k → k = b ∨ k = c) : Fr b c ab ao w w' := Fr.of_mod hM (block_lt_of_cell h.ca) hs h.A.nb h.A.nc
end
/-- The variables are made. -/
theorem TS.box {w : World} {b c n t ab ao r : Nat} {u : Nat → Bool} {D : Nat → Nat} (S : St w b c n u D) (ht : w.cell? ⟨t, 0, none⟩ = some (.pointer (some ⟨b, 0, none⟩))) (ha : w.cell? ⟨ab, ao, none⟩ = some (.int .i64 (r : Nat))) (hf : w.frozen? ⟨ab, ao, none⟩ = false) (hA : Apart b c t ab) :
    TS b c n t ab ao w.heap.size (w.heap.size + 1) r u D ((w.alloc (.cells #[.pointer (some ⟨t, 0, none⟩)] 25)).alloc (.cells #[.pointer (some ⟨ab, ao, none⟩)] 108)) :=
  have hM : Mod (fun _ => False) w ((w.alloc (.cells #[.pointer (some ⟨t, 0, none⟩)] 25)).alloc (.cells #[.pointer (some ⟨ab, ao, none⟩)] 108)) := ((Mod.refl _ w).alloc _).alloc _
  have hab := block_lt_of_cell ha
  have hb := S.lt_b
  have hc := S.lt_c
  { S := S.mod hM (fun h => h) (fun h => h) (fun h => h)
    ct := (hM.cell (p := ⟨t, 0, none⟩) (block_lt_of_cell ht) (fun h => h)).trans ht
    ca := (hM.cell (p := ⟨ab, ao, none⟩) hab (fun h => h)).trans ha
    fa := (hM.frozen (p := ⟨ab, ao, none⟩) hab (fun h => h)).trans hf
    c4 := by rw [World.cell?_alloc_past _ _ _ (by simp), World.cell?_alloc_at _ _ _ _ rfl]; rfl
    c5 := by rw [World.cell?_alloc_at _ _ _ _ (by simp)]; rfl
    A := hA
    n4 := by simp at hab; omega
    n5 := by simp at hab; omega }
section
variable {w : World} {b c n : Nat} {u : Nat → Bool} {D : Nat → Nat}
set_option maxRecDepth 8000 in
set_option maxHeartbeats 1000000 in
theorem take_have0 (S : St w b c n u D) (t ab ao r k : Nat) (ht : w.cell? ⟨t, 0, none⟩ = some (.pointer (some ⟨b, 0, none⟩))) (ha : w.cell? ⟨ab, ao, none⟩ = some (.int .i64 r))
    (hA : Apart b c t ab) (hr0 : r ≠ 0) :
    Calls Tryd.prog 63 #[.pointer (some ⟨t, 0, none⟩), .pointer (some ⟨ab, ao, none⟩), .int .i64 1, .int .i64 k] w (TkPost b c n t ab ao u D r w (some (u, D, r, r))) := by
  have hrb : ((r : Int) == 0) = false := by simpa using hr0
  have hab := block_lt_of_cell ha
  have htl := block_lt_of_cell ht
  have HS : Hid (St w b c n u D) := S
  have HA : Hid (Apart b c t ab) := hA
  clear S hA
  go_enter Tryd.func63, Tryd.ntmps63
  go_wp2
  go_ret2
  have hM : Mod (fun _ => False) w ((w.alloc (.cells #[.pointer (some ⟨t, 0, none⟩)] 25)).alloc (.cells #[.pointer (some ⟨ab, ao, none⟩)] 108)) := ((Mod.refl _ w).alloc _).alloc _
  exact ⟨by simp, HS.out.mod hM (fun h => h) (fun h => h) (fun h => h), (hM.cell (p := ⟨ab, ao, none⟩) hab (fun h => h)).trans ha, Fr.of_mod hM hab (fun _ h => h.elim) HA.out.nb HA.out.nc, (hM.cell (p := ⟨t, 0, none⟩) htl (fun h => h)).trans ht⟩
set_option maxRecDepth 8000 in
set_option maxHeartbeats 1000000 in
theorem take_full (S : St w b c n u D) (t ab ao k p : Nat) (ht : w.cell? ⟨t, 0, none⟩ = some (.pointer (some ⟨b, 0, none⟩))) (ha : w.cell? ⟨ab, ao, none⟩ = some (.int .i64 (0 : Nat)))
    (hf : w.frozen? ⟨ab, ao, none⟩ = false) (hA : Apart b c t ab) (hl : low u n = none) :
    Calls Tryd.prog 63 #[.pointer (some ⟨t, 0, none⟩), .pointer (some ⟨ab, ao, none⟩), .int .i64 p, .int .i64 k] w (TkPost b c n t ab ao u D 0 w none) := by
  have HT : Hid (TS b c n t ab ao w.heap.size (w.heap.size + 1) 0 u D ((w.alloc (.cells #[.pointer (some ⟨t, 0, none⟩)] 25)).alloc (.cells #[.pointer (some ⟨ab, ao, none⟩)] 108))) := TS.box S ht ha hf hA
  have hM : Hid (Mod (fun _ => False) w ((w.alloc (.cells #[.pointer (some ⟨t, 0, none⟩)] 25)).alloc (.cells #[.pointer (some ⟨ab, ao, none⟩)] 108))) := ((Mod.refl _ w).alloc _).alloc _
  have hab := block_lt_of_cell ha
  have htl := block_lt_of_cell ht
  have HL : Hid (∀ i, i < n → u i = true) := low_none hl
  clear S hl hf hA
  go_enter Tryd.func63, Tryd.ntmps63
  go_wp2_with (go_at_call 74; refine (HT.out.S.alloc_full HL.out).mono ?_; rintro e w1 ⟨rfl, rfl⟩)
  go_ret2
  exact ⟨by simp, HT.out.S, HT.out.ca, Fr.of_mod hM.out hab (fun _ h => h.elim) HT.out.A.nb HT.out.A.nc, HT.out.ct⟩
set_option maxRecDepth 8000 in
set_option maxHeartbeats 1000000 in
theorem take_new0 (S : St w b c n u D) (t ab ao k i : Nat) (ht : w.cell? ⟨t, 0, none⟩ = some (.pointer (some ⟨b, 0, none⟩))) (ha : w.cell? ⟨ab, ao, none⟩ = some (.int .i64 (0 : Nat)))
    (hf : w.frozen? ⟨ab, ao, none⟩ = false) (hA : Apart b c t ab) (hl : low u n = some i) :
    Calls Tryd.prog 63 #[.pointer (some ⟨t, 0, none⟩), .pointer (some ⟨ab, ao, none⟩), .int .i64 1, .int .i64 k] w (TkPost b c n t ab ao u D 0 w (some (upd u i true, D, i + 1, i + 1))) := by
  have HT : Hid (TS b c n t ab ao w.heap.size (w.heap.size + 1) 0 u D ((w.alloc (.cells #[.pointer (some ⟨t, 0, none⟩)] 25)).alloc (.cells #[.pointer (some ⟨ab, ao, none⟩)] 108))) := TS.box S ht ha hf hA
  have hM : Hid (Mod (fun _ => False) w ((w.alloc (.cells #[.pointer (some ⟨t, 0, none⟩)] 25)).alloc (.cells #[.pointer (some ⟨ab, ao, none⟩)] 108))) := ((Mod.refl _ w).alloc _).alloc _
  have hab := block_lt_of_cell ha
  have htl := block_lt_of_cell ht
  have hn := S.n2
  have HL : Hid (i < n ∧ u i = false ∧ ∀ j, j < i → u j = true) := low_some hl
  have hi : i < 4096 := by have := HL.out.1; omega
  clear S hl hf hA
  go_enter Tryd.func63, Tryd.ntmps63
  go_wp2_with (go_at_call 74; refine (HT.out.S.alloc_some i HL.out.1 HL.out.2.1 HL.out.2.2).mono ?_; rintro e w1 ⟨rfl, H1, M1, -⟩; have HT1 : Hid (TS b c n t ab ao w.heap.size (w.heap.size + 1) 0 (upd u i true) D w1) := HT.out.stored M1 H1 (fun _ h => .inl h); have HM1 : Hid (Mod (fun k => k = b) _ w1) := M1; have c1 := HT1.out.c4; have c2 := HT1.out.c5; have c3 := HT1.out.ca; have c4 := HT1.out.fa; clear H1 M1)
  go_ret2
  have HT2 := HT1.out.set (i + 1)
  exact ⟨by simp, HT2.S, HT2.ca, (Fr.of_mod hM.out hab (fun _ h => h.elim) HT.out.A.nb HT.out.A.nc).trans ((HT.out.fr HM1.out (fun _ h => .inl h)).set _), HT2.ct⟩
/-- take of one place. -/
theorem take0 (S : St w b c n u D) (t ab ao r k : Nat) (ht : w.cell? ⟨t, 0, none⟩ = some (.pointer (some ⟨b, 0, none⟩))) (ha : w.cell? ⟨ab, ao, none⟩ = some (.int .i64 (r : Nat)))
    (hf : w.frozen? ⟨ab, ao, none⟩ = false) (hA : Apart b c t ab) :
    Calls Tryd.prog 63 #[.pointer (some ⟨t, 0, none⟩), .pointer (some ⟨ab, ao, none⟩), .int .i64 1, .int .i64 k] w (TkPost b c n t ab ao u D r w (tk 0 n u D r k)) := by
  unfold tk
  by_cases h : r ≠ 0
  · rw [if_pos h]; exact take_have0 S t ab ao r k ht ha hA h
  · rw [if_neg h]
    obtain rfl : r = 0 := by omega
    cases hl : low u n with
    | none => exact take_full S t ab ao k 1 ht ha hf hA hl
    | some i => exact take_new0 S t ab ao k i ht ha hf hA hl
theorem noop_any (w : World) : Calls Tryd.prog 73 #[] w fun e w' => e = .returned (.tuple #[]) ∧ w' = w := by
  go_enter Tryd.func73, Tryd.ntmps73
  go_wp2
  exact ⟨rfl, _, results_none rfl _ _ _, rfl, rfl⟩
theorem back_any {t ab ao x4 x5 r : Nat} (h : TS b c n t ab ao x4 x5 r u D w) (hr : r < 4294967296) : Calls Tryd.prog 75 #[.pointer (some ⟨x4, 0, none⟩), .pointer (some ⟨x5, 0, none⟩)] w fun e w' => e = .returned (.tuple #[]) ∧ St w' b c n (freeU u r) (freeD u D r) ∧ w'.cell? ⟨ab, ao, none⟩ = some (.int .i64 0) ∧ Fr b c ab ao w w' := by
  have HT : Hid (TS b c n t ab ao x4 x5 r u D w) := h
  have c1 := h.c4
  have c2 := h.c5
  clear h
  go_enter Tryd.func75, Tryd.ntmps75
  go_wp2_with (go_at_call 76; refine (free_any HT.out.S t ab ao r HT.out.ct HT.out.ca HT.out.fa HT.out.A.a0 HT.out.A.nb HT.out.A.nc HT.out.A.tb HT.out.A.tc hr).mono ?_; rintro e w1 ⟨rfl, H1, C1, F1⟩; have HH : Hid (St w1 b c n (freeU u r) (freeD u D r) ∧ w1.cell? ⟨ab, ao, none⟩ = some (.int .i64 0) ∧ Fr b c ab ao w w1) := ⟨H1, C1, F1⟩; clear H1 C1 F1)
  exact ⟨rfl, _, results_none rfl _ _ _, rfl, HH.out⟩
end
end Go.Proofs.YtgplmgliockbcaaDoor
