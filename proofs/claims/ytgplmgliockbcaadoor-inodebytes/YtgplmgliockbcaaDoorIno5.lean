/- The walk of free: a ref's block is free, and the ref is a hole. Conditions: the store lies in memory as 'St' says, the table's first cell leads to it, the ref lies in a block of its own. -/
import Derived.Test.YtgplmgliockbcaaDoorM2
namespace Go.Proofs.YtgplmgliockbcaaDoor
open Go.RowKit
/-- Of what was there the store has turned, and of block ab only the cell at ao. -/
structure Fr (b c ab ao : Nat) (w w' : World) : Prop where
  mod : Mod (fun k => k = b ∨ k = c ∨ k = ab) w w'
  cell : ∀ o, o ≠ ao → w'.cell? ⟨ab, o, none⟩ = w.cell? ⟨ab, o, none⟩
  frz : ∀ o, w'.frozen? ⟨ab, o, none⟩ = w.frozen? ⟨ab, o, none⟩
theorem Fr.refl (b c ab ao : Nat) (w : World) : Fr b c ab ao w w := ⟨Mod.refl _ _, fun _ _ => rfl, fun _ => rfl⟩
theorem Fr.trans {b c ab ao : Nat} {x y z : World} (h : Fr b c ab ao x y) (k : Fr b c ab ao y z) : Fr b c ab ao x z :=
  ⟨h.mod.trans k.mod, fun o ho => (k.cell o ho).trans (h.cell o ho), fun o => (k.frz o).trans (h.frz o)⟩
theorem Fr.of_mod {b c ab ao : Nat} {s : Nat → Prop} {w w' : World} (h : Mod s w w') (hab : ab < w.heap.size) (hs : ∀ k, s k → k = b ∨ k = c) (h1 : ab ≠ b) (h2 : ab ≠ c) : Fr b c ab ao w w' :=
  have hn : ¬ s ab := fun e => (hs ab e).elim h1 h2
  ⟨h.mono (fun k _ e => (hs k e).elim .inl (fun e => .inr (.inl e))), fun _ _ => h.cell (p := ⟨ab, _, none⟩) hab hn, fun _ => h.frozen (p := ⟨ab, _, none⟩) hab hn⟩
theorem Fr.set {b c ab ao : Nat} {w w' : World} (h : Fr b c ab ao w w') (v : Value) : Fr b c ab ao w (w'.setCell ⟨ab, ao, none⟩ v) :=
  ⟨h.mod.setCell _ _ (.inr (.inr rfl)), fun o ho => (setCell_out _ _ _ _ _ (fun _ => ho)).trans (h.cell o ho), fun o => (setCell_frozen _ _ _ _ _).trans (h.frz o)⟩
theorem Fr.drewN {b c ab ao : Nat} {w w' : World} (h : Fr b c ab ao w w') (m : Nat) : Fr b c ab ao w (w'.drewN m) := ⟨h.mod.drewN m, h.cell, h.frz⟩
theorem St.set {w : World} {b c n : Nat} {u : Nat → Bool} {D : Nat → Nat} (S : St w b c n u D) (ab ao : Nat) (v : Value) (h0 : ab ≠ 0) (h1 : ab ≠ b) (h2 : ab ≠ c) : St (w.setCell ⟨ab, ao, none⟩ v) b c n u D :=
  S.mod (s := fun k => k = ab) ((Mod.refl _ w).setCell _ _ rfl) h0.symm h1.symm h2.symm
def freeU (u : Nat → Bool) (r : Nat) : Nat → Bool := if r ≠ 0 ∧ u (r - 1) = true then upd u (r - 1) false else u
def freeD (u : Nat → Bool) (D : Nat → Nat) (r : Nat) : Nat → Nat := if r ≠ 0 ∧ u (r - 1) = true then over D ((r - 1) * 64) zeros else D
section
variable {w : World} {b c n : Nat} {u : Nat → Bool} {D : Nat → Nat}
/-- The store's Free, of any ref. -/
theorem St.free_any (S : St w b c n u D) (r : Nat) :
    Calls Tryd.prog 79 #[.pointer (some ⟨b, 0, none⟩), .int .i64 ((r : Int) - 1)] w fun e w' => (∃ v, e = .returned (.int .i64 v)) ∧ St w' b c n (freeU u r) (freeD u D r) ∧ Mod (fun k => k = b ∨ k = c) w w' := by
  unfold freeU freeD
  by_cases h : r ≠ 0 ∧ u (r - 1) = true
  · have hrn : r - 1 < n := Nat.lt_of_not_le fun h' => by have := h.2; rw [S.out _ h'] at this; exact absurd this (by simp)
    rw [if_pos h, if_pos h, show (r : Int) - 1 = ((r - 1 : Nat) : Int) by have := h.1; omega]
    exact (S.free_ok (r - 1) hrn h.2).mono fun e w' ⟨h1, h2, h3, _⟩ => ⟨⟨_, h1⟩, h2, h3⟩
  · rw [if_neg h, if_neg h]
    exact (S.free_not _ (unfit_of h)).mono fun e w' ⟨h1, m, h2⟩ => ⟨⟨_, h1⟩, by subst h2; exact S.drewN m, by subst h2; exact (Mod.refl _ w).drewN m⟩
set_option maxRecDepth 8000 in
set_option maxHeartbeats 1000000 in
theorem free_any (S : St w b c n u D) (t ab ao r : Nat) (ht : w.cell? ⟨t, 0, none⟩ = some (.pointer (some ⟨b, 0, none⟩))) (ha : w.cell? ⟨ab, ao, none⟩ = some (.int .i64 r)) (hf : w.frozen? ⟨ab, ao, none⟩ = false)
    (h0 : ab ≠ 0) (h1 : ab ≠ b) (h2 : ab ≠ c) (htb : t ≠ b) (htc : t ≠ c) (hr : r < 4294967296) :
    Calls Tryd.prog 76 #[.pointer (some ⟨t, 0, none⟩), .pointer (some ⟨ab, ao, none⟩)] w fun e w' => e = .returned (.tuple #[]) ∧ St w' b c n (freeU u r) (freeD u D r) ∧ w'.cell? ⟨ab, ao, none⟩ = some (.int .i64 0) ∧ Fr b c ab ao w w' := by
  have HS : Hid (St (w.drewN 1) b c n u D) := S.drewN 1
  have HT : Hid ((w.drewN 1).cell? ⟨t, 0, none⟩ = some (.pointer (some ⟨b, 0, none⟩)) ∧ (w.drewN 1).cell? ⟨ab, ao, none⟩ = some (.int .i64 r)) := ⟨ht, ha⟩
  have hab := block_lt_of_cell ha
  have htl := block_lt_of_cell ht
  have HN : Hid (ab ≠ 0 ∧ ab ≠ b ∧ ab ≠ c ∧ t ≠ b ∧ t ≠ c) := ⟨h0, h1, h2, htb, htc⟩
  have HF : Hid (w.frozen? ⟨ab, ao, none⟩ = false) := hf
  clear S ht ha h0 h1 h2 htb htc hf
  go_enter Tryd.func76, Tryd.ntmps76
  go_wp2_with fail
  go_region_held (fun W' => W'.cell? ⟨t, 0, none⟩ = some (.pointer (some ⟨b, 0, none⟩)) ∧ W'.cell? ⟨ab, ao, none⟩ = some (.int .i64 r)) (first | exact hS1 | exact HT.out) (first | (go_at_call 62; refine (block_any r _ (by omega)).mono ?_; rintro e w2 ⟨rfl, rfl⟩) | (go_at_call 79; refine (HS.out.free_any r).mono ?_; rintro e w2 ⟨⟨v, rfl⟩, H2, M2⟩; have hS1 : w2.cell? ⟨t, 0, none⟩ = some (.pointer (some ⟨b, 0, none⟩)) ∧ w2.cell? ⟨ab, ao, none⟩ = some (.int .i64 r) := ⟨(M2.cell (p := ⟨t, 0, none⟩) htl (fun h => h.elim HN.out.2.2.2.1 HN.out.2.2.2.2)).trans HT.out.1, (M2.cell (p := ⟨ab, ao, none⟩) hab (fun h => h.elim HN.out.2.1 HN.out.2.2.1)).trans HT.out.2⟩; have HS2 : Hid (St w2 b c n (freeU u r) (freeD u D r)) := H2; have HM2 : Hid (Mod (fun k => k = b ∨ k = c) w w2) := ((Mod.refl _ w).drewN 1).trans M2; clear H2 M2))
  have hfz : w2.frozen? ⟨ab, ao, none⟩ = false := (HM2.out.frozen (p := ⟨ab, ao, none⟩) hab (fun h => h.elim HN.out.2.1 HN.out.2.2.1)).trans HF.out
  have hcl : w2.cell? ⟨ab, ao, none⟩ = some (.int .i64 r) := (HM2.out.cell (p := ⟨ab, ao, none⟩) hab (fun h => h.elim HN.out.2.1 HN.out.2.2.1)).trans HT.out.2
  go_wp2
  exact ⟨rfl, _, results_none rfl _ _ _, rfl, HS2.out.set ab ao _ HN.out.1 HN.out.2.1 HN.out.2.2.1, setCell_in _ _ _ _ _ hcl, (Fr.of_mod HM2.out hab (fun _ h => h) HN.out.2.1 HN.out.2.2.1).set _⟩
end
end Go.Proofs.YtgplmgliockbcaaDoor
