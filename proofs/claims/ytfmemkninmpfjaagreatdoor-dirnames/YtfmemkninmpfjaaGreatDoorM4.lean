/- Several texts of this claim, one behind the other, in their order. -/
import Derived.Test.YtfmemkninmpfjaaGreatDoorM3
/- The walk of look: what a place leads to. Conditions: the store lies in memory as 'St' says, the table's first cell leads to it. -/
namespace Go.Proofs.YtfmemkninmpfjaaGreatDoor
open Go.RowKit
/-- What place k below ref r leads to, l levels down. -/
def lk : Nat → (Nat → Bool) → (Nat → Nat) → Nat → Nat → Nat
  | 0, _, _, r, _ => r
  | l + 1, u, D, r, k => lk l u D (ptr u D r (k / 16 ^ l)) (k % 16 ^ l)
theorem ptr_zero (u : Nat → Bool) (D : Nat → Nat) (j : Nat) : ptr u D 0 j = 0 := by simp [ptr]
theorem lk_zero (u : Nat → Bool) (D : Nat → Nat) : ∀ l k, lk l u D 0 k = 0
  | 0, _ => rfl
  | l + 1, k => by simp only [lk, ptr_zero]; exact lk_zero u D l _
theorem run_indexP (A : Array Value) (i : Int) (k x : Nat) (hi : i = (k : Nat)) (hk : k < 16) (hA : A[k]? = some (.int .i64 x)) (W : World) : (Instr.index 198 (.agg A) (.int .i64 i)).run Tryz.prog W = .ok (.int .i64 x) W := by
  subst hi
  simp [Instr.index, go_sem]
  rw [if_pos hk, hA]; rfl
section
variable {w : World} {b c n : Nat} {u : Nat → Bool} {D : Nat → Nat}
theorem load_row (S : St w b c n u D) (t r : Nat) (ht : w.cell? ⟨t, 0, none⟩ = some (.pointer (some ⟨b, 0, none⟩))) (hr : r < 4294967296) :
    Calls Tryz.prog 127 #[.pointer (some ⟨t, 0, none⟩), .int .i64 r] w fun e w' => ∃ A, e = .returned (.agg A) ∧ A.size = 16 ∧ Hid (A = refsV (ptr u D r)) ∧ Hid (A.all (·.oneCell') = true) ∧ Hid (∀ j, j < 16 → A[j]? = some (.int .i64 (ptr u D r j : Nat))) ∧ Hid (Mod (fun _ => False) w w') :=
  (load_any S t r ht hr).mono fun e w' ⟨he, hM⟩ => ⟨_, he, refsV_size _, rfl, refsV_one _, fun j hj => by simp [refsV, List.getElem?_range hj, refV], hM⟩
theorem look_one (r k t : Nat) (w : World) : Calls Tryz.prog 131 #[.pointer (some ⟨t, 0, none⟩), .int .i64 r, .int .i64 1, .int .i64 k] w fun e w' => e = .returned (.int .i64 r) ∧ w' = w := by
  by_cases h0 : ((r : Int) == 0) = true
  · go_enter Tryz.func131, Tryz.ntmps131
    go_wp2
    go_ret
    exact ⟨by simp, rfl⟩
  · have h1 : ((r : Int) == 0) = false := by simpa using h0
    clear h0
    go_enter Tryz.func131, Tryz.ntmps131
    go_wp2
    go_ret
    exact ⟨by simp, rfl⟩
theorem look_none (k p t : Nat) (w : World) : Calls Tryz.prog 131 #[.pointer (some ⟨t, 0, none⟩), .int .i64 0, .int .i64 p, .int .i64 k] w fun e w' => e = .returned (.int .i64 0) ∧ w' = w := by
  go_enter Tryz.func131, Tryz.ntmps131
  go_wp2
  go_ret
  exact ⟨by simp, rfl⟩
theorem look0 (u : Nat → Bool) (D : Nat → Nat) (w : World) (t r k : Nat) : Calls Tryz.prog 131 #[.pointer (some ⟨t, 0, none⟩), .int .i64 r, .int .i64 1, .int .i64 k] w fun e w' => e = .returned (.int .i64 (lk 0 u D r k : Nat)) ∧ Mod (fun _ => False) w w' :=
  (look_one r k t w).mono fun _ _ ⟨h1, h2⟩ => ⟨h1, h2 ▸ Mod.refl _ _⟩

set_option maxRecDepth 8000 in
set_option maxHeartbeats 1000000 in
theorem look1 (S : St w b c n u D) (t r k : Nat) (ht : w.cell? ⟨t, 0, none⟩ = some (.pointer (some ⟨b, 0, none⟩))) (hr : r < 4294967296) (hk : k < 16) : Calls Tryz.prog 131 #[.pointer (some ⟨t, 0, none⟩), .int .i64 r, .int .i64 16, .int .i64 k] w fun e w' => e = .returned (.int .i64 (lk 1 u D r k : Nat)) ∧ Mod (fun _ => False) w w' := by
  by_cases h0 : r = 0
  · subst h0
    rw [lk_zero]
    exact (look_none k 16 t w).mono fun _ _ ⟨h1, h2⟩ => ⟨h1, h2 ▸ Mod.refl _ _⟩
  · have h1 : ((r : Int) == 0) = false := by simpa using h0
    have hx := ptr_lt u D S.dl r (k)
    have HX : Hid (lk 1 u D r k = ptr u D r k) := by show _ = _; simp [lk]
    have HS : Hid (St (w.drewN 1) b c n u D) := S.drewN 1
    have HT : Hid ((w.drewN 1).cell? ⟨t, 0, none⟩ = some (.pointer (some ⟨b, 0, none⟩))) := ht
    obtain ⟨x, hxe⟩ : ∃ x, x = ptr u D r (k) := ⟨_, rfl⟩
    have HE : Hid (x = ptr u D r (k)) := hxe
    rw [← hxe] at hx
    have hw1 : IntKind.i64.wrap (k : Int) = k := by rw [IntKind.wrap_i64]; omega
    clear S ht h0 hxe
    go_enter Tryz.func131, Tryz.ntmps131
    go_wp2_with fail
    go_region_held (fun W' => W'.cell? ⟨t, 0, none⟩ = some (.pointer (some ⟨b, 0, none⟩))) (first | exact hS2 | exact hS1 | exact HT.out) (first | (go_at_call 127; refine (load_row HS.out t r HT.out hr).mono ?_; rintro e w1 ⟨A, rfl, hsz, HA, -, HJ, HM⟩; have hix := run_indexP A _ k x rfl hk ((HJ.out _ (by omega)).trans (by rw [HE.out])); have hS1 := (HM.out.cell (p := ⟨t, 0, none⟩) (block_lt_of_cell (w := w) HT.out) (fun h => h)).trans HT.out) | (go_at_call 131; refine (look_one x 0 t w1).mono ?_; rintro e w2 ⟨rfl, hw2⟩; rw [hw2]; clear hw2 w2))
    go_wp2
    go_ret
    exact ⟨by simp [HX.out, HE.out], ((Mod.refl (fun _ => False) w).drewN 1).trans (HM.out)⟩

set_option maxRecDepth 8000 in
set_option maxHeartbeats 1000000 in
theorem look2 (S : St w b c n u D) (t r k : Nat) (ht : w.cell? ⟨t, 0, none⟩ = some (.pointer (some ⟨b, 0, none⟩))) (hr : r < 4294967296) (hk : k < 256) : Calls Tryz.prog 131 #[.pointer (some ⟨t, 0, none⟩), .int .i64 r, .int .i64 256, .int .i64 k] w fun e w' => e = .returned (.int .i64 (lk 2 u D r k : Nat)) ∧ Mod (fun _ => False) w w' := by
  by_cases h0 : r = 0
  · subst h0
    rw [lk_zero]
    exact (look_none k 256 t w).mono fun _ _ ⟨h1, h2⟩ => ⟨h1, h2 ▸ Mod.refl _ _⟩
  · have h1 : ((r : Int) == 0) = false := by simpa using h0
    have hx := ptr_lt u D S.dl r (k / 16)
    have HX : Hid (lk 2 u D r k = lk 1 u D (ptr u D r (k / 16)) (k % 16)) := by show _ = _; simp [lk]
    have HS : Hid (St (w.drewN 1) b c n u D) := S.drewN 1
    have HT : Hid ((w.drewN 1).cell? ⟨t, 0, none⟩ = some (.pointer (some ⟨b, 0, none⟩))) := ht
    obtain ⟨x, hxe⟩ : ∃ x, x = ptr u D r (k / 16) := ⟨_, rfl⟩
    have HE : Hid (x = ptr u D r (k / 16)) := hxe
    rw [← hxe] at hx
    have hw2 : IntKind.i64.wrap ((k : Int) / 16) = (k : Int) / 16 := by rw [IntKind.wrap_i64]; omega
    have HTM : Hid ((k : Int).tmod 16 = ((k % 16 : Nat) : Int)) := by show _ = _; rw [Int.tmod_eq_emod_of_nonneg (by omega)]; omega
    have hw1 : IntKind.i64.wrap (k : Int) = k := by rw [IntKind.wrap_i64]; omega
    clear S ht h0 hxe
    go_enter Tryz.func131, Tryz.ntmps131
    go_wp2_with fail
    go_region_held (fun W' => W'.cell? ⟨t, 0, none⟩ = some (.pointer (some ⟨b, 0, none⟩))) (first | exact hS2 | exact hS1 | exact HT.out) (first | (go_at_call 127; refine (load_row HS.out t r HT.out hr).mono ?_; rintro e w1 ⟨A, rfl, hsz, HA, -, HJ, HM⟩; have hix := run_indexP A ((k : Int) / 16) (k / 16) x (by omega) (by omega) ((HJ.out _ (by omega)).trans (by rw [HE.out])); have hS1 := (HM.out.cell (p := ⟨t, 0, none⟩) (block_lt_of_cell (w := w) HT.out) (fun h => h)).trans HT.out) | (go_at_call 131; rw [HTM.out]; refine (look1 (HS.out.mod HM.out (fun h => h) (fun h => h) (fun h => h)) t x (k % 16) ((HM.out.cell (p := ⟨t, 0, none⟩) (block_lt_of_cell (w := w) HT.out) (fun h => h)).trans HT.out) hx (by omega)).mono ?_; rintro e w2 ⟨rfl, M2⟩; have hS2 := (M2.cell (p := ⟨t, 0, none⟩) (block_lt_of_cell hS1) (fun h => h)).trans hS1; have HM2 : Hid (Mod (fun _ => False) w1 w2) := M2; clear M2))
    go_wp2
    go_ret
    exact ⟨by simp [HX.out, HE.out], ((Mod.refl (fun _ => False) w).drewN 1).trans (HM.out.trans HM2.out)⟩
end
end Go.Proofs.YtfmemkninmpfjaaGreatDoor
/- The walk of free: a ref's block is free, and the ref is a hole. Conditions: the store lies in memory as 'St' says, the table's first cell leads to it, the ref lies in a block of its own. -/
namespace Go.Proofs.YtfmemkninmpfjaaGreatDoor
open Go.RowKit
/-- Of what was there the store has turned, and of block ab only the cell at ao. -/
structure Fr (b c ab ao : Nat) (w w' : World) : Prop where
  mod : Mod (fun k => k = b ∨ k = c ∨ k = ab) w w'
  cell : ∀ o, o ≠ ao → w'.cell? ⟨ab, o, none⟩ = w.cell? ⟨ab, o, none⟩
  frz : ∀ o, w'.frozen? ⟨ab, o, none⟩ = w.frozen? ⟨ab, o, none⟩
theorem Fr.refl (b c ab ao : Nat) (w : World) : Fr b c ab ao w w := ⟨Mod.refl _ _, fun _ _ => rfl, fun _ => rfl⟩
theorem Fr.trans {b c ab ao : Nat} {x y z : World} (h : Fr b c ab ao x y) (k : Fr b c ab ao y z) : Fr b c ab ao x z :=
  ⟨h.mod.trans k.mod, fun o ho => (k.cell o ho).trans (h.cell o ho), fun o => (k.frz o).trans (h.frz o)⟩
theorem Fr.of_mod {b c ab ao : Nat} {s : Nat → Prop} {w w' : World} (h : Mod s w w') (hab : ab < w.heap.size) (hs : ∀ k, s k → k = b ∨ k = c) (h1 : ab ≠ b) (h2 : ab ≠ c) : Fr b c ab ao w w' :=
  have hn : ¬ s ab := fun e => (hs ab e).elim h1 h2
  ⟨h.mono (fun k _ e => (hs k e).elim .inl (fun e => .inr (.inl e))), fun _ _ => h.cell (p := ⟨ab, _, none⟩) hab hn, fun _ => h.frozen (p := ⟨ab, _, none⟩) hab hn⟩
theorem Fr.set {b c ab ao : Nat} {w w' : World} (h : Fr b c ab ao w w') (v : Value) : Fr b c ab ao w (w'.setCell ⟨ab, ao, none⟩ v) :=
  ⟨h.mod.setCell _ _ (.inr (.inr rfl)), fun o ho => (setCell_out _ _ _ _ _ (fun _ => ho)).trans (h.cell o ho), fun o => (setCell_frozen _ _ _ _ _).trans (h.frz o)⟩
theorem Fr.drewN {b c ab ao : Nat} {w w' : World} (h : Fr b c ab ao w w') (m : Nat) : Fr b c ab ao w (w'.drewN m) := ⟨h.mod.drewN m, h.cell, h.frz⟩
theorem St.set {w : World} {b c n : Nat} {u : Nat → Bool} {D : Nat → Nat} (S : St w b c n u D) (ab ao : Nat) (v : Value) (h0 : ab ≠ 1) (h1 : ab ≠ b) (h2 : ab ≠ c) : St (w.setCell ⟨ab, ao, none⟩ v) b c n u D :=
  S.mod (s := fun k => k = ab) ((Mod.refl _ w).setCell _ _ rfl) h0.symm h1.symm h2.symm
def freeU (u : Nat → Bool) (r : Nat) : Nat → Bool := if r ≠ 0 ∧ u (r - 1) = true then upd u (r - 1) false else u
def freeD (u : Nat → Bool) (D : Nat → Nat) (r : Nat) : Nat → Nat := if r ≠ 0 ∧ u (r - 1) = true then over D ((r - 1) * 64) zeros else D
section
variable {w : World} {b c n : Nat} {u : Nat → Bool} {D : Nat → Nat}
/-- The store's Free, of any ref. -/
theorem St.free_any (S : St w b c n u D) (r : Nat) :
    Calls Tryz.prog 141 #[.pointer (some ⟨b, 0, none⟩), .int .i64 ((r : Int) - 1)] w fun e w' => (∃ v, e = .returned (.int .i64 v)) ∧ St w' b c n (freeU u r) (freeD u D r) ∧ Mod (fun k => k = b ∨ k = c) w w' := by
  unfold freeU freeD
  by_cases h : r ≠ 0 ∧ u (r - 1) = true
  · have hrn : r - 1 < n := Nat.lt_of_not_le fun h' => by have := h.2; rw [S.out _ h'] at this; exact absurd this (by simp)
    rw [if_pos h, if_pos h, show (r : Int) - 1 = ((r - 1 : Nat) : Int) by have := h.1; omega]
    exact (S.free_ok (r - 1) hrn h.2).mono fun e w' ⟨h1, h2, h3, _⟩ => ⟨⟨_, h1⟩, h2, h3⟩
  · rw [if_neg h, if_neg h]
    exact (S.free_not _ (unfit_of h)).mono fun e w' ⟨h1, m, h2⟩ => ⟨⟨_, h1⟩, by subst h2; exact S.drewN m, by subst h2; exact (Mod.refl _ w).drewN m⟩
set_option maxRecDepth 8000 in
set_option maxHeartbeats 1000000 in
theorem free_any (S : St w b c n u D) (t ab ao r : Nat) (ht : w.cell? ⟨t, 0, none⟩ = some (.pointer (some ⟨b, 0, none⟩))) (ha : w.cell? ⟨ab, ao, none⟩ = some (.int .i64 r)) (hf : w.frozen? ⟨ab, ao, none⟩ = false)
    (h0 : ab ≠ 1) (h1 : ab ≠ b) (h2 : ab ≠ c) (htb : t ≠ b) (htc : t ≠ c) (hr : r < 4294967296) :
    Calls Tryz.prog 126 #[.pointer (some ⟨t, 0, none⟩), .pointer (some ⟨ab, ao, none⟩)] w fun e w' => e = .returned (.tuple #[]) ∧ St w' b c n (freeU u r) (freeD u D r) ∧ w'.cell? ⟨ab, ao, none⟩ = some (.int .i64 0) ∧ Fr b c ab ao w w' := by
  have HS : Hid (St (w.drewN 1) b c n u D) := S.drewN 1
  have HT : Hid ((w.drewN 1).cell? ⟨t, 0, none⟩ = some (.pointer (some ⟨b, 0, none⟩)) ∧ (w.drewN 1).cell? ⟨ab, ao, none⟩ = some (.int .i64 r)) := ⟨ht, ha⟩
  have hab := block_lt_of_cell ha
  have htl := block_lt_of_cell ht
  have HN : Hid (ab ≠ 1 ∧ ab ≠ b ∧ ab ≠ c ∧ t ≠ b ∧ t ≠ c) := ⟨h0, h1, h2, htb, htc⟩
  have HF : Hid (w.frozen? ⟨ab, ao, none⟩ = false) := hf
  clear S ht ha h0 h1 h2 htb htc hf
  go_enter Tryz.func126, Tryz.ntmps126
  go_wp2_with fail
  go_region_held (fun W' => W'.cell? ⟨t, 0, none⟩ = some (.pointer (some ⟨b, 0, none⟩)) ∧ W'.cell? ⟨ab, ao, none⟩ = some (.int .i64 r)) (first | exact hS1 | exact HT.out) (first | (go_at_call 107; refine (block_any r _ (by omega)).mono ?_; rintro e w2 ⟨rfl, rfl⟩) | (go_at_call 141; refine (HS.out.free_any r).mono ?_; rintro e w2 ⟨⟨v, rfl⟩, H2, M2⟩; have hS1 : w2.cell? ⟨t, 0, none⟩ = some (.pointer (some ⟨b, 0, none⟩)) ∧ w2.cell? ⟨ab, ao, none⟩ = some (.int .i64 r) := ⟨(M2.cell (p := ⟨t, 0, none⟩) htl (fun h => h.elim HN.out.2.2.2.1 HN.out.2.2.2.2)).trans HT.out.1, (M2.cell (p := ⟨ab, ao, none⟩) hab (fun h => h.elim HN.out.2.1 HN.out.2.2.1)).trans HT.out.2⟩; have HS2 : Hid (St w2 b c n (freeU u r) (freeD u D r)) := H2; have HM2 : Hid (Mod (fun k => k = b ∨ k = c) w w2) := ((Mod.refl _ w).drewN 1).trans M2; clear H2 M2))
  have hfz : w2.frozen? ⟨ab, ao, none⟩ = false := (HM2.out.frozen (p := ⟨ab, ao, none⟩) hab (fun h => h.elim HN.out.2.1 HN.out.2.2.1)).trans HF.out
  have hcl : w2.cell? ⟨ab, ao, none⟩ = some (.int .i64 r) := (HM2.out.cell (p := ⟨ab, ao, none⟩) hab (fun h => h.elim HN.out.2.1 HN.out.2.2.1)).trans HT.out.2
  go_wp2
  exact ⟨rfl, _, results_none rfl _ _ _, rfl, HS2.out.set ab ao _ HN.out.1 HN.out.2.1 HN.out.2.2.1, setCell_in _ _ _ _ _ hcl, (Fr.of_mod HM2.out hab (fun _ h => h) HN.out.2.1 HN.out.2.2.1).set _⟩
end
end Go.Proofs.YtfmemkninmpfjaaGreatDoor
/- The walk of take: a place gets a block, and ahead of it the indirect blocks that lead to it. Conditions: the store lies in memory as 'St' says, the table's first cell leads to it, the ref lies in a block of its own. -/
namespace Go.Proofs.YtfmemkninmpfjaaGreatDoor
open Go.RowKit
/-- The lowest number that is not in use. -/
def low (u : Nat → Bool) (n : Nat) : Option Nat := (List.range n).find? fun i => !u i
theorem low_some {u : Nat → Bool} {n i : Nat} (h : low u n = some i) : i < n ∧ u i = false ∧ ∀ j, j < i → u j = true := by
  unfold low at h
  rw [List.find?_range_eq_some] at h
  obtain ⟨h1, h2, h3⟩ := h
  refine ⟨by simpa using h2, by simpa using h1, fun j hj => ?_⟩
  have := h3 j hj
  simpa using this
theorem low_none {u : Nat → Bool} {n : Nat} (h : low u n = none) : ∀ i, i < n → u i = true := by
  unfold low at h
  rw [List.find?_eq_none] at h
  intro i hi
  have := h i (by simpa using hi)
  simpa using this
/-- take, by its words: what is in use, the bytes, the ref and what the place leads to behind it; none: nothing has changed. -/
def tk : Nat → Nat → (Nat → Bool) → (Nat → Nat) → Nat → Nat → Option ((Nat → Bool) × (Nat → Nat) × Nat × Nat)
  | 0, n, u, D, r, _ => if r ≠ 0 then some (u, D, r, r) else (low u n).map fun i => (upd u i true, D, i + 1, i + 1)
  | l + 1, n, u, D, r, k =>
    (if r ≠ 0 then some (u, r) else (low u n).map fun i => (upd u i true, i + 1)).bind fun (u1, r1) =>
      (tk l n u1 D (ptr u1 D r1 (k / 16 ^ l)) (k % 16 ^ l)).map fun (u2, D2, p, f) => (u2, saved u2 D2 r1 (upd (ptr u1 D r1) (k / 16 ^ l) p), r1, f)
theorem free_back {w : World} {b c n : Nat} {u : Nat → Bool} {D : Nat → Nat} (S : St w b c n u D) {i : Nat} (hi : i < n) (h : u i = false) : freeU (upd u i true) (i + 1) = u ∧ freeD (upd u i true) D (i + 1) = D := by
  have e : i + 1 ≠ 0 ∧ upd u i true (i + 1 - 1) = true := ⟨by omega, by simp [upd]⟩
  unfold freeU freeD
  rw [if_pos e, if_pos e, Nat.add_sub_cancel]
  constructor
  · funext j
    unfold upd
    by_cases e : j = i
    · subst e; rw [if_pos rfl, h]
    · rw [if_neg e, if_neg e]
  · funext j
    unfold over
    split
    · rename_i hj
      obtain ⟨h1, h2⟩ := hj
      rw [show zeros.length = 64 from rfl] at h2
      have := S.free i hi h (j - i * 64) (by omega)
      rw [show i * 64 + (j - i * 64) = j by omega] at this
      rw [this]
      have : ∀ k, k < 64 → zeros.getD k 0 = 0 := by decide
      exact this _ (by omega)
    · rfl
/-- What take makes of it all. -/
def TkPost (b c n t ab ao : Nat) (u : Nat → Bool) (D : Nat → Nat) (r : Nat) (w : World) (x : Option ((Nat → Bool) × (Nat → Nat) × Nat × Nat)) (e : Ending) (w' : World) : Prop :=
  match x with
  | none => e = .returned (.tuple #[.int .i64 0, .bool false]) ∧ St w' b c n u D ∧ w'.cell? ⟨ab, ao, none⟩ = some (.int .i64 r) ∧ Fr b c ab ao w w' ∧ w'.cell? ⟨t, 0, none⟩ = some (.pointer (some ⟨b, 0, none⟩))
  | some (u', D', r', f) => e = .returned (.tuple #[.int .i64 (f : Nat), .bool true]) ∧ St w' b c n u' D' ∧ w'.cell? ⟨ab, ao, none⟩ = some (.int .i64 (r' : Nat)) ∧ Fr b c ab ao w w' ∧ w'.cell? ⟨t, 0, none⟩ = some (.pointer (some ⟨b, 0, none⟩))
/-- The ref at ⟨ab, ao⟩ and the table t lie apart from the store. -/
structure Apart (b c t ab : Nat) : Prop where
  a0 : ab ≠ 1
  nb : ab ≠ b
  nc : ab ≠ c
  tb : t ≠ b
  tc : t ≠ c
  ta : t ≠ ab
/-- The store, the table, the ref and the two variables that take's closures hold. -/
structure TS (b c n t ab ao x4 x5 r : Nat) (u : Nat → Bool) (D : Nat → Nat) (w : World) : Prop where
  S : St w b c n u D
  ct : w.cell? ⟨t, 0, none⟩ = some (.pointer (some ⟨b, 0, none⟩))
  ca : w.cell? ⟨ab, ao, none⟩ = some (.int .i64 (r : Nat))
  fa : w.frozen? ⟨ab, ao, none⟩ = false
  c4 : w.cell? ⟨x4, 0, none⟩ = some (.pointer (some ⟨t, 0, none⟩))
  c5 : w.cell? ⟨x5, 0, none⟩ = some (.pointer (some ⟨ab, ao, none⟩))
  A : Apart b c t ab
  n4 : x4 ≠ b ∧ x4 ≠ c ∧ x4 ≠ ab
  n5 : x5 ≠ b ∧ x5 ≠ c ∧ x5 ≠ ab
section
variable {b c n t ab ao x4 x5 r : Nat} {u : Nat → Bool} {D : Nat → Nat} {w w' : World}
theorem TS.step (h : TS b c n t ab ao x4 x5 r u D w) {s : Nat → Prop} (hM : Mod s w w') {u' : Nat → Bool} {D' : Nat → Nat} (hS : St w' b c n u' D') (ha : ¬ s ab) (ht : ¬ s t) (h4 : ¬ s x4) (h5 : ¬ s x5) : TS b c n t ab ao x4 x5 r u' D' w' where
  S := hS
  ct := (hM.cell (p := ⟨t, 0, none⟩) (block_lt_of_cell h.ct) ht).trans h.ct
  ca := (hM.cell (p := ⟨ab, ao, none⟩) (block_lt_of_cell h.ca) ha).trans h.ca
  fa := (hM.frozen (p := ⟨ab, ao, none⟩) (block_lt_of_cell h.ca) ha).trans h.fa
  c4 := (hM.cell (p := ⟨x4, 0, none⟩) (block_lt_of_cell h.c4) h4).trans h.c4
  c5 := (hM.cell (p := ⟨x5, 0, none⟩) (block_lt_of_cell h.c5) h5).trans h.c5
  A := h.A
  n4 := h.n4
  n5 := h.n5
theorem TS.new (h : TS b c n t ab ao x4 x5 r u D w) (hM : Mod (fun _ => False) w w') : TS b c n t ab ao x4 x5 r u D w' :=
  h.step hM (h.S.mod hM (fun h => h) (fun h => h) (fun h => h)) (fun h => h) (fun h => h) (fun h => h) (fun h => h)
theorem TS.stored (h : TS b c n t ab ao x4 x5 r u D w) {s : Nat → Prop} (hM : Mod s w w') {u' : Nat → Bool} {D' : Nat → Nat} (hS : St w' b c n u' D') (hs : ∀ k, s k → k = b ∨ k = c) : TS b c n t ab ao x4 x5 r u' D' w' :=
  h.step hM hS (fun e => (hs _ e).elim h.A.nb h.A.nc) (fun e => (hs _ e).elim h.A.tb h.A.tc) (fun e => (hs _ e).elim h.n4.1 h.n4.2.1) (fun e => (hs _ e).elim h.n5.1 h.n5.2.1)
theorem TS.set (h : TS b c n t ab ao x4 x5 r u D w) (x : Nat) : TS b c n t ab ao x4 x5 x u D (w.setCell ⟨ab, ao, none⟩ (.int .i64 (x : Nat))) where
  S := h.S.set ab ao _ h.A.a0 h.A.nb h.A.nc
  ct := (setCell_out _ _ _ _ _ (fun e => absurd e h.A.ta)).trans h.ct
  ca := setCell_in _ _ _ _ _ h.ca
  fa := (setCell_frozen _ _ _ _ _).trans h.fa
  c4 := (setCell_out _ _ _ _ _ (fun e => absurd e h.n4.2.2)).trans h.c4
  c5 := (setCell_out _ _ _ _ _ (fun e => absurd e h.n5.2.2)).trans h.c5
  A := h.A
  n4 := h.n4
  n5 := h.n5
theorem TS.fr (h : TS b c n t ab ao x4 x5 r u D w) {s : Nat → Prop} (hM : Mod s w w') (hs : ∀ k, s k → k = b ∨ k = c) : Fr b c ab ao w w' := Fr.of_mod hM (block_lt_of_cell h.ca) hs h.A.nb h.A.nc
end
/-- The variables are made. -/
theorem TS.box {w : World} {b c n t ab ao r : Nat} {u : Nat → Bool} {D : Nat → Nat} (S : St w b c n u D) (ht : w.cell? ⟨t, 0, none⟩ = some (.pointer (some ⟨b, 0, none⟩))) (ha : w.cell? ⟨ab, ao, none⟩ = some (.int .i64 (r : Nat))) (hf : w.frozen? ⟨ab, ao, none⟩ = false) (hA : Apart b c t ab) :
    TS b c n t ab ao w.heap.size (w.heap.size + 1) r u D ((w.alloc (.cells #[.pointer (some ⟨t, 0, none⟩)] 38)).alloc (.cells #[.pointer (some ⟨ab, ao, none⟩)] 177)) :=
  have hM : Mod (fun _ => False) w ((w.alloc (.cells #[.pointer (some ⟨t, 0, none⟩)] 38)).alloc (.cells #[.pointer (some ⟨ab, ao, none⟩)] 177)) := ((Mod.refl _ w).alloc _).alloc _
  have hab := block_lt_of_cell ha
  have hb := S.lt_b
  have hc := S.lt_c
  { S := S.mod hM (fun h => h) (fun h => h) (fun h => h)
    ct := (hM.cell (p := ⟨t, 0, none⟩) (block_lt_of_cell ht) (fun h => h)).trans ht
    ca := (hM.cell (p := ⟨ab, ao, none⟩) hab (fun h => h)).trans ha
    fa := (hM.frozen (p := ⟨ab, ao, none⟩) hab (fun h => h)).trans hf
    c4 := by rw [World.cell?_alloc_past _ _ _ (by simp), World.cell?_alloc_at _ _ _ _ rfl]; rfl
    c5 := by rw [World.cell?_alloc_at _ _ _ _ (by simp)]; rfl
    A := hA
    n4 := by simp at hab; omega
    n5 := by simp at hab; omega }
section
variable {w : World} {b c n : Nat} {u : Nat → Bool} {D : Nat → Nat}
set_option maxRecDepth 8000 in
set_option maxHeartbeats 1000000 in
theorem take_have0 (S : St w b c n u D) (t ab ao r k : Nat) (ht : w.cell? ⟨t, 0, none⟩ = some (.pointer (some ⟨b, 0, none⟩))) (ha : w.cell? ⟨ab, ao, none⟩ = some (.int .i64 r))
    (hA : Apart b c t ab) (hr0 : r ≠ 0) :
    Calls Tryz.prog 104 #[.pointer (some ⟨t, 0, none⟩), .pointer (some ⟨ab, ao, none⟩), .int .i64 1, .int .i64 k] w (TkPost b c n t ab ao u D r w (some (u, D, r, r))) := by
  have hrb : ((r : Int) == 0) = false := by simpa using hr0
  have hab := block_lt_of_cell ha
  have htl := block_lt_of_cell ht
  have HS : Hid (St w b c n u D) := S
  have HA : Hid (Apart b c t ab) := hA
  clear S hA
  go_enter Tryz.func104, Tryz.ntmps104
  go_wp2
  go_ret2
  have hM : Mod (fun _ => False) w ((w.alloc (.cells #[.pointer (some ⟨t, 0, none⟩)] 38)).alloc (.cells #[.pointer (some ⟨ab, ao, none⟩)] 177)) := ((Mod.refl _ w).alloc _).alloc _
  exact ⟨by simp, HS.out.mod hM (fun h => h) (fun h => h) (fun h => h), (hM.cell (p := ⟨ab, ao, none⟩) hab (fun h => h)).trans ha, Fr.of_mod hM hab (fun _ h => h.elim) HA.out.nb HA.out.nc, (hM.cell (p := ⟨t, 0, none⟩) htl (fun h => h)).trans ht⟩
set_option maxRecDepth 8000 in
set_option maxHeartbeats 1000000 in
theorem take_full (S : St w b c n u D) (t ab ao k p : Nat) (ht : w.cell? ⟨t, 0, none⟩ = some (.pointer (some ⟨b, 0, none⟩))) (ha : w.cell? ⟨ab, ao, none⟩ = some (.int .i64 (0 : Nat)))
    (hf : w.frozen? ⟨ab, ao, none⟩ = false) (hA : Apart b c t ab) (hl : low u n = none) :
    Calls Tryz.prog 104 #[.pointer (some ⟨t, 0, none⟩), .pointer (some ⟨ab, ao, none⟩), .int .i64 p, .int .i64 k] w (TkPost b c n t ab ao u D 0 w none) := by
  have HT : Hid (TS b c n t ab ao w.heap.size (w.heap.size + 1) 0 u D ((w.alloc (.cells #[.pointer (some ⟨t, 0, none⟩)] 38)).alloc (.cells #[.pointer (some ⟨ab, ao, none⟩)] 177))) := TS.box S ht ha hf hA
  have hM : Hid (Mod (fun _ => False) w ((w.alloc (.cells #[.pointer (some ⟨t, 0, none⟩)] 38)).alloc (.cells #[.pointer (some ⟨ab, ao, none⟩)] 177))) := ((Mod.refl _ w).alloc _).alloc _
  have hab := block_lt_of_cell ha
  have htl := block_lt_of_cell ht
  have HL : Hid (∀ i, i < n → u i = true) := low_none hl
  clear S hl hf hA
  go_enter Tryz.func104, Tryz.ntmps104
  go_wp2_with (go_at_call 124; refine (HT.out.S.alloc_full HL.out).mono ?_; rintro e w1 ⟨rfl, rfl⟩)
  go_ret2
  exact ⟨by simp, HT.out.S, HT.out.ca, Fr.of_mod hM.out hab (fun _ h => h.elim) HT.out.A.nb HT.out.A.nc, HT.out.ct⟩
set_option maxRecDepth 8000 in
set_option maxHeartbeats 1000000 in
theorem take_new0 (S : St w b c n u D) (t ab ao k i : Nat) (ht : w.cell? ⟨t, 0, none⟩ = some (.pointer (some ⟨b, 0, none⟩))) (ha : w.cell? ⟨ab, ao, none⟩ = some (.int .i64 (0 : Nat)))
    (hf : w.frozen? ⟨ab, ao, none⟩ = false) (hA : Apart b c t ab) (hl : low u n = some i) :
    Calls Tryz.prog 104 #[.pointer (some ⟨t, 0, none⟩), .pointer (some ⟨ab, ao, none⟩), .int .i64 1, .int .i64 k] w (TkPost b c n t ab ao u D 0 w (some (upd u i true, D, i + 1, i + 1))) := by
  have HT : Hid (TS b c n t ab ao w.heap.size (w.heap.size + 1) 0 u D ((w.alloc (.cells #[.pointer (some ⟨t, 0, none⟩)] 38)).alloc (.cells #[.pointer (some ⟨ab, ao, none⟩)] 177))) := TS.box S ht ha hf hA
  have hM : Hid (Mod (fun _ => False) w ((w.alloc (.cells #[.pointer (some ⟨t, 0, none⟩)] 38)).alloc (.cells #[.pointer (some ⟨ab, ao, none⟩)] 177))) := ((Mod.refl _ w).alloc _).alloc _
  have hab := block_lt_of_cell ha
  have htl := block_lt_of_cell ht
  have hn := S.n2
  have HL : Hid (i < n ∧ u i = false ∧ ∀ j, j < i → u j = true) := low_some hl
  have hi : i < 4096 := by have := HL.out.1; omega
  clear S hl hf hA
  go_enter Tryz.func104, Tryz.ntmps104
  go_wp2_with (go_at_call 124; refine (HT.out.S.alloc_some i HL.out.1 HL.out.2.1 HL.out.2.2).mono ?_; rintro e w1 ⟨rfl, H1, M1, -⟩; have HT1 : Hid (TS b c n t ab ao w.heap.size (w.heap.size + 1) 0 (upd u i true) D w1) := HT.out.stored M1 H1 (fun _ h => .inl h); have HM1 : Hid (Mod (fun k => k = b) _ w1) := M1; have c1 := HT1.out.c4; have c2 := HT1.out.c5; have c3 := HT1.out.ca; have c4 := HT1.out.fa; clear H1 M1)
  go_ret2
  have HT2 := HT1.out.set (i + 1)
  exact ⟨by simp, HT2.S, HT2.ca, (Fr.of_mod hM.out hab (fun _ h => h.elim) HT.out.A.nb HT.out.A.nc).trans ((HT.out.fr HM1.out (fun _ h => .inl h)).set _), HT2.ct⟩
/-- take of one place. -/
theorem take0 (S : St w b c n u D) (t ab ao r k : Nat) (ht : w.cell? ⟨t, 0, none⟩ = some (.pointer (some ⟨b, 0, none⟩))) (ha : w.cell? ⟨ab, ao, none⟩ = some (.int .i64 (r : Nat)))
    (hf : w.frozen? ⟨ab, ao, none⟩ = false) (hA : Apart b c t ab) :
    Calls Tryz.prog 104 #[.pointer (some ⟨t, 0, none⟩), .pointer (some ⟨ab, ao, none⟩), .int .i64 1, .int .i64 k] w (TkPost b c n t ab ao u D r w (tk 0 n u D r k)) := by
  unfold tk
  by_cases h : r ≠ 0
  · rw [if_pos h]; exact take_have0 S t ab ao r k ht ha hA h
  · rw [if_neg h]
    obtain rfl : r = 0 := by omega
    cases hl : low u n with
    | none => exact take_full S t ab ao k 1 ht ha hf hA hl
    | some i => exact take_new0 S t ab ao k i ht ha hf hA hl
theorem noop_any (w : World) : Calls Tryz.prog 123 #[] w fun e w' => e = .returned (.tuple #[]) ∧ w' = w := by
  go_enter Tryz.func123, Tryz.ntmps123
  go_wp2
  exact ⟨rfl, _, results_none rfl _ _ _, rfl, rfl⟩
theorem back_any {t ab ao x4 x5 r : Nat} (h : TS b c n t ab ao x4 x5 r u D w) (hr : r < 4294967296) : Calls Tryz.prog 125 #[.pointer (some ⟨x4, 0, none⟩), .pointer (some ⟨x5, 0, none⟩)] w fun e w' => e = .returned (.tuple #[]) ∧ St w' b c n (freeU u r) (freeD u D r) ∧ w'.cell? ⟨ab, ao, none⟩ = some (.int .i64 0) ∧ Fr b c ab ao w w' := by
  have HT : Hid (TS b c n t ab ao x4 x5 r u D w) := h
  have c1 := h.c4
  have c2 := h.c5
  clear h
  go_enter Tryz.func125, Tryz.ntmps125
  go_wp2_with (go_at_call 126; refine (free_any HT.out.S t ab ao r HT.out.ct HT.out.ca HT.out.fa HT.out.A.a0 HT.out.A.nb HT.out.A.nc HT.out.A.tb HT.out.A.tc hr).mono ?_; rintro e w1 ⟨rfl, H1, C1, F1⟩; have HH : Hid (St w1 b c n (freeU u r) (freeD u D r) ∧ w1.cell? ⟨ab, ao, none⟩ = some (.int .i64 0) ∧ Fr b c ab ao w w1) := ⟨H1, C1, F1⟩; clear H1 C1 F1)
  exact ⟨rfl, _, results_none rfl _ _ _, rfl, HH.out⟩
end
end Go.Proofs.YtfmemkninmpfjaaGreatDoor
