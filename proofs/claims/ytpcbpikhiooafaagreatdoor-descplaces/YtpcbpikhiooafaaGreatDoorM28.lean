/- Several texts of this claim, one behind the other, in their order. -/
import Derived.Test.YtpcbpikhiooafaaGreatDoorWr2
import Derived.Test.YtpcbpikhiooafaaGreatDoorRd2
import Derived.Test.YtpcbpikhiooafaaGreatDoorCut
/- Plain facts on the blocks below a ref: who owns what, what stays as it was, and take. No walk. -/
namespace Go.Proofs.YtpcbpikhiooafaaGreatDoor
open Go.RowKit
namespace Mp
/-- The blocks that are owned below a ref. -/
def Ow : Nat → (Nat → Bool) → (Nat → Nat) → Nat → Nat → Prop
  | 0, _, _, r, b => r ≠ 0 ∧ b = r - 1
  | l + 1, u, D, r, b => r ≠ 0 ∧ (b = r - 1 ∨ ∃ j, j < 16 ∧ Ow l u D (ptr u D r j) b)
/-- Those among them that hold refs. -/
def Ix : Nat → (Nat → Bool) → (Nat → Nat) → Nat → Nat → Prop
  | 0, _, _, _, _ => False
  | l + 1, u, D, r, b => r ≠ 0 ∧ (b = r - 1 ∨ ∃ j, j < 16 ∧ Ix l u D (ptr u D r j) b)
/-- All are in use, and no two places share one. -/
def WF : Nat → (Nat → Bool) → (Nat → Nat) → Nat → Prop
  | 0, u, _, r => r ≠ 0 → u (r - 1) = true
  | l + 1, u, D, r => r ≠ 0 → u (r - 1) = true ∧ (∀ j, j < 16 → WF l u D (ptr u D r j)) ∧ (∀ j, j < 16 → ¬ Ow l u D (ptr u D r j) (r - 1)) ∧ (∀ i j, i < 16 → j < 16 → i ≠ j → ∀ b, Ow l u D (ptr u D r i) b → ¬ Ow l u D (ptr u D r j) b)
theorem ow_zero : ∀ l u D b, ¬ Ow l u D 0 b
  | 0, _, _, _, h => h.1 rfl
  | _ + 1, _, _, _, h => h.1 rfl
theorem ix_zero : ∀ l u D b, ¬ Ix l u D 0 b
  | 0, _, _, _, h => h
  | _ + 1, _, _, _, h => h.1 rfl
theorem wf_zero : ∀ l u D, WF l u D 0
  | 0, _, _ => fun h => absurd rfl h
  | _ + 1, _, _ => fun h => absurd rfl h
theorem ix_ow : ∀ l u D r b, Ix l u D r b → Ow l u D r b
  | 0, _, _, _, _, h => h.elim
  | l + 1, u, D, r, b, h => by
    obtain ⟨hr, h⟩ := h
    rcases h with h | ⟨j, hj, h⟩
    · exact ⟨hr, .inl h⟩
    · exact ⟨hr, .inr ⟨j, hj, ix_ow l u D _ b h⟩⟩
theorem ow_use : ∀ l u D r b, WF l u D r → Ow l u D r b → u b = true
  | 0, u, D, r, b, hw, h => by rw [h.2]; exact hw h.1
  | l + 1, u, D, r, b, hw, h => by
    obtain ⟨hr, h⟩ := h
    obtain ⟨h1, h2, -, -⟩ := hw hr
    rcases h with rfl | ⟨j, hj, h⟩
    · exact h1
    · exact ow_use l u D _ b (h2 j hj) h
theorem le4_congr {D D' : Nat → Nat} {o : Nat} (h : ∀ i, i < 4 → D' (o + i) = D (o + i)) : le4 D' o = le4 D o := by
  simp only [le4, lePart, h 0 (by omega), h 1 (by omega), h 2 (by omega), h 3 (by omega)]
theorem ptr_eq {u u' : Nat → Bool} {D D' : Nat → Nat} {r j : Nat} (hj : j < 16) (hu : u' (r - 1) = u (r - 1)) (hd : ∀ x, x < 64 → D' ((r - 1) * 64 + x) = D ((r - 1) * 64 + x)) : ptr u' D' r j = ptr u D r j := by
  unfold ptr
  rw [hu]
  split
  · exact le4_congr (fun i hi => by rw [Nat.add_assoc]; exact hd _ (by omega))
  · rfl
theorem over_leB (D q : Nat → Nat) (r x : Nat) (hx : x < 64) : over D (r * 64) (leB q) (r * 64 + x) = leAt q x := by
  unfold over
  rw [if_pos ⟨by omega, by rw [leB_len]; omega⟩, Nat.add_sub_cancel_left, List.getD_eq_getElem?_getD, leB_at q x hx]
  rfl
theorem saved_other (u : Nat → Bool) (D : Nat → Nat) (r : Nat) (q : Nat → Nat) (b x : Nat) (hb : b ≠ r - 1) (hx : x < 64) : saved u D r q (b * 64 + x) = D (b * 64 + x) := by
  unfold saved
  split
  · exact over_else _ _ _ _ (by rw [leB_len]; omega)
  · rfl
theorem saved_lt {u : Nat → Bool} {D : Nat → Nat} {r : Nat} {q : Nat → Nat} (hD : ∀ j, D j < 256) (j : Nat) : saved u D r q j < 256 := by
  unfold saved
  split
  · unfold over
    split
    · rename_i h
      rw [leB_len] at h
      rw [List.getD_eq_getElem?_getD, leB_at q _ (by omega)]
      exact Nat.mod_lt _ (by omega)
    · exact hD j
  · exact hD j
theorem bytes4 (x : Nat) (h : x < 4294967296) : x % 256 + x / 256 % 256 * 256 + x / 65536 % 256 * 65536 + x / 16777216 % 256 * 16777216 = x := by omega
theorem ptr_saved {u : Nat → Bool} {D : Nat → Nat} {r : Nat} {q : Nat → Nat} {j : Nat} (hr : r ≠ 0) (hu : u (r - 1) = true) (hj : j < 16) (hq : q j < 4294967296) : ptr u (saved u D r q) r j = q j := by
  unfold ptr saved
  rw [if_pos ⟨hr, hu⟩, if_pos ⟨hr, hu⟩]
  have e : ∀ i, i < 4 → over D ((r - 1) * 64) (leB q) ((r - 1) * 64 + 4 * j + i) = q j / 2 ^ (8 * i) % 256 := fun i hi => by
    rw [Nat.add_assoc, over_leB _ _ _ _ (by omega)]
    unfold leAt
    rw [show (4 * j + i) / 4 = j by omega, show (4 * j + i) % 4 = i by omega]
  simp only [le4, lePart, e 0 (by omega), e 1 (by omega), e 2 (by omega), e 3 (by omega)]
  have := bytes4 (q j) hq
  simp
  omega
theorem ptr_fresh {u : Nat → Bool} {D : Nat → Nat} {i j : Nat} (hj : j < 16) (hz : ∀ x, x < 64 → D (i * 64 + x) = 0) : ptr u D (i + 1) j = 0 := by
  unfold ptr
  split
  · have e : ∀ k, k < 4 → D ((i + 1 - 1) * 64 + 4 * j + k) = 0 := fun k hk => by rw [Nat.add_sub_cancel, Nat.add_assoc]; exact hz _ (by omega)
    simp only [le4, lePart, e 0 (by omega), e 1 (by omega), e 2 (by omega), e 3 (by omega)]
  · rfl
theorem div_lt16 {l k : Nat} (h : k < 16 ^ (l + 1)) : k / 16 ^ l < 16 := by
  rw [Nat.pow_succ] at h
  exact Nat.div_lt_of_lt_mul h
theorem mod_lt16 (l k : Nat) : k % 16 ^ l < 16 ^ l := Nat.mod_lt _ (Nat.pow_pos (by omega))
/-- What is as it was where refs lie, and in use as it was, leads where it led. -/
theorem frame : ∀ (l : Nat) (u u' : Nat → Bool) (D D' : Nat → Nat) (r : Nat), (∀ b, Ow l u D r b → u' b = u b) → (∀ b, Ix l u D r b → ∀ x, x < 64 → D' (b * 64 + x) = D (b * 64 + x)) →
    (∀ b, Ow l u' D' r b ↔ Ow l u D r b) ∧ (∀ b, Ix l u' D' r b ↔ Ix l u D r b) ∧ (WF l u D r → WF l u' D' r) ∧ (∀ k, k < 16 ^ l → lk l u' D' r k = lk l u D r k)
  | 0, u, u', D, D', r, hu, hd => ⟨fun _ => Iff.rfl, fun _ => Iff.rfl, fun hw hr => by rw [hu _ ⟨hr, rfl⟩]; exact hw hr, fun _ _ => rfl⟩
  | l + 1, u, u', D, D', r, hu, hd => by
    by_cases hr : r = 0
    · subst hr
      exact ⟨fun b => ⟨fun h => absurd h (ow_zero _ _ _ _), fun h => absurd h (ow_zero _ _ _ _)⟩, fun b => ⟨fun h => absurd h (ix_zero _ _ _ _), fun h => absurd h (ix_zero _ _ _ _)⟩, fun _ => wf_zero _ _ _, fun k _ => by rw [lk_zero, lk_zero]⟩
    · have hp : ∀ j, j < 16 → ptr u' D' r j = ptr u D r j := fun j hj => ptr_eq hj (hu _ ⟨hr, .inl rfl⟩) (hd _ ⟨hr, .inl rfl⟩)
      have cf := fun j (hj : j < 16) => frame l u u' D D' (ptr u D r j) (fun b hb => hu b ⟨hr, .inr ⟨j, hj, hb⟩⟩) (fun b hb => hd b ⟨hr, .inr ⟨j, hj, hb⟩⟩)
      refine ⟨fun b => ?_, fun b => ?_, fun hw _ => ?_, fun k hk => ?_⟩
      · constructor
        · rintro ⟨-, h | ⟨j, hj, h⟩⟩
          · exact ⟨hr, .inl h⟩
          · rw [hp j hj] at h; exact ⟨hr, .inr ⟨j, hj, ((cf j hj).1 b).1 h⟩⟩
        · rintro ⟨-, h | ⟨j, hj, h⟩⟩
          · exact ⟨hr, .inl h⟩
          · exact ⟨hr, .inr ⟨j, hj, by rw [hp j hj]; exact ((cf j hj).1 b).2 h⟩⟩
      · constructor
        · rintro ⟨-, h | ⟨j, hj, h⟩⟩
          · exact ⟨hr, .inl h⟩
          · rw [hp j hj] at h; exact ⟨hr, .inr ⟨j, hj, ((cf j hj).2.1 b).1 h⟩⟩
        · rintro ⟨-, h | ⟨j, hj, h⟩⟩
          · exact ⟨hr, .inl h⟩
          · exact ⟨hr, .inr ⟨j, hj, by rw [hp j hj]; exact ((cf j hj).2.1 b).2 h⟩⟩
      · obtain ⟨h1, h2, h3, h4⟩ := hw hr
        refine ⟨by rw [hu _ ⟨hr, .inl rfl⟩]; exact h1, fun j hj => by rw [hp j hj]; exact (cf j hj).2.2.1 (h2 j hj), fun j hj h => ?_, fun i j hi hj hij b hb hb' => ?_⟩
        · rw [hp j hj] at h; exact h3 j hj (((cf j hj).1 _).1 h)
        · rw [hp i hi] at hb; rw [hp j hj] at hb'
          exact h4 i j hi hj hij b (((cf i hi).1 b).1 hb) (((cf j hj).1 b).1 hb')
      · rw [lk, lk, hp _ (div_lt16 hk)]
        exact (cf _ (div_lt16 hk)).2.2.2 _ (mod_lt16 l k)
theorem lk_ow : ∀ (l : Nat) (u : Nat → Bool) (D : Nat → Nat) (r k : Nat), k < 16 ^ l → lk l u D r k ≠ 0 → Ow l u D r (lk l u D r k - 1)
  | 0, u, D, r, k, _, h => ⟨h, rfl⟩
  | l + 1, u, D, r, k, hk, h => by
    have hr : r ≠ 0 := fun e => by subst e; rw [lk_zero] at h; exact h rfl
    rw [lk] at h ⊢
    exact ⟨hr, .inr ⟨_, div_lt16 hk, lk_ow l u D _ _ (mod_lt16 l k) h⟩⟩
/-- A leaf holds no refs. -/
theorem lk_leaf : ∀ (l : Nat) (u : Nat → Bool) (D : Nat → Nat) (r k : Nat), WF l u D r → k < 16 ^ l → lk l u D r k ≠ 0 → ¬ Ix l u D r (lk l u D r k - 1)
  | 0, _, _, _, _, _, _, _, h => h
  | l + 1, u, D, r, k, hw, hk, h, hx => by
    obtain ⟨hr, hx⟩ := hx
    obtain ⟨-, h2, h3, h4⟩ := hw hr
    rw [lk] at h hx
    have ho := lk_ow l u D _ _ (mod_lt16 l k) h
    rcases hx with hx | ⟨j, hj, hx⟩
    · exact h3 _ (div_lt16 hk) (hx ▸ ho)
    · by_cases e : j = k / 16 ^ l
      · subst e; exact lk_leaf l u D _ _ (h2 _ hj) (mod_lt16 l k) h hx
      · exact h4 j _ hj (div_lt16 hk) e _ (ix_ow _ _ _ _ _ hx) ho
/-- Two places have two leaves. -/
theorem lk_inj : ∀ (l : Nat) (u : Nat → Bool) (D : Nat → Nat) (r k k' : Nat), WF l u D r → k < 16 ^ l → k' < 16 ^ l → k ≠ k' → lk l u D r k ≠ 0 → lk l u D r k ≠ lk l u D r k'
  | 0, _, _, _, k, k', _, hk, hk', hne, _ => fun _ => by simp at hk hk'; omega
  | l + 1, u, D, r, k, k', hw, hk, hk', hne, h => fun e => by
    have hr : r ≠ 0 := fun e => by subst e; rw [lk_zero] at h; exact h rfl
    obtain ⟨-, h2, h3, h4⟩ := hw hr
    rw [lk] at h e
    rw [lk] at e
    by_cases ej : k / 16 ^ l = k' / 16 ^ l
    · have em : k % 16 ^ l ≠ k' % 16 ^ l := fun em => hne (by rw [← Nat.div_add_mod k (16 ^ l), ← Nat.div_add_mod k' (16 ^ l), ej, em])
      rw [ej] at h e
      exact lk_inj l u D _ _ _ (h2 _ (div_lt16 hk')) (mod_lt16 l k) (mod_lt16 l k') em h e
    · have o1 := lk_ow l u D _ _ (mod_lt16 l k) h
      have o2 := lk_ow l u D _ _ (mod_lt16 l k') (by rw [← e]; exact h)
      rw [← e] at o2
      exact h4 _ _ (div_lt16 hk) (div_lt16 hk') ej _ o1 o2
end Mp
end Go.Proofs.YtpcbpikhiooafaaGreatDoor
/- Plain facts on take: a leaf for a place, whoever lacked on the way. No walk. -/
namespace Go.Proofs.YtpcbpikhiooafaaGreatDoor
open Go.RowKit
namespace Mp
structure TkOk (l n : Nat) (u : Nat → Bool) (D : Nat → Nat) (r k : Nat) (u' : Nat → Bool) (D' : Nat → Nat) (r' f : Nat) : Prop where
  ne : r' ≠ 0
  lt : r' < 4294967296
  wf : WF l u' D' r'
  new : ∀ b, Ow l u' D' r' b → Ow l u D r b ∨ (u b = false ∧ b < n)
  old : ∀ b, Ow l u D r b → Ow l u' D' r' b
  up : ∀ b, u b = true → u' b = true
  un : ∀ b, u' b = true → u b = true ∨ Ow l u' D' r' b
  dd : ∀ b, ¬ Ix l u' D' r' b → ∀ x, x < 64 → D' (b * 64 + x) = D (b * 64 + x)
  d8 : ∀ j, D' j < 256
  at_ : lk l u' D' r' k = f
  f0 : f ≠ 0
  els : ∀ k', k' < 16 ^ l → k' ≠ k → lk l u' D' r' k' = lk l u D r k'
  fold : lk l u D r k ≠ 0 → f = lk l u D r k
  fnew : lk l u D r k = 0 → u (f - 1) = false
theorem upd_true {u : Nat → Bool} {i b : Nat} (h : u b = true) : upd u i true b = true := by unfold upd; split; rfl; exact h
theorem upd_false {u : Nat → Bool} {i b : Nat} (h : upd u i true b = false) : u b = false := by
  unfold upd at h; split at h
  · cases h
  · exact h
theorem upd_self (u : Nat → Bool) (i : Nat) : upd u i true i = true := by simp [upd]
theorem upd_un {u : Nat → Bool} {i b : Nat} (h : upd u i true b = true) : u b = true ∨ b = i := by
  unfold upd at h; split at h
  · exact .inr (by assumption)
  · exact .inl h
/-- The indirect block is there: what its child takes. -/
theorem take_in {l n : Nat} {u : Nat → Bool} {D : Nat → Nat} {r k : Nat} {u2 : Nat → Bool} {D2 : Nat → Nat} {p f : Nat} (hD : ∀ j, D j < 256) (hr : r ≠ 0) (hrl : r < 4294967296) (hw : WF (l + 1) u D r) (hk : k < 16 ^ (l + 1))
    (T : TkOk l n u D (ptr u D r (k / 16 ^ l)) (k % 16 ^ l) u2 D2 p f) : TkOk (l + 1) n u D r k u2 (saved u2 D2 r (upd (ptr u D r) (k / 16 ^ l) p)) r f := by
  obtain ⟨h1, h2, h3, h4⟩ := hw hr
  have hg := div_lt16 hk
  have hlkk : lk (l + 1) u D r k = lk l u D (ptr u D r (k / 16 ^ l)) (k % 16 ^ l) := rfl
  generalize hgd : k / 16 ^ l = g at *
  have hr1 : u2 (r - 1) = true := T.up _ h1
  have hp : ∀ j, j < 16 → ptr u2 (saved u2 D2 r (upd (ptr u D r) g p)) r j = upd (ptr u D r) g p j := fun j hj => ptr_saved hr hr1 hj (by
    unfold upd; split
    · exact T.lt
    · exact ptr_lt u D hD r j)
  have hpg : ptr u2 (saved u2 D2 r (upd (ptr u D r) g p)) r g = p := by rw [hp g hg]; simp [upd]
  have hps : ∀ j, j < 16 → j ≠ g → ptr u2 (saved u2 D2 r (upd (ptr u D r) g p)) r j = ptr u D r j := fun j hj e => by rw [hp j hj]; simp [upd, e]
  have c1 : ¬ Ow l u2 D2 p (r - 1) := fun h => by
    rcases T.new _ h with h | h
    · exact h3 g hg h
    · rw [h1] at h; cases h.1
  have c2 : ∀ j, j < 16 → j ≠ g → ∀ b, Ow l u D (ptr u D r j) b → ¬ Ow l u2 D2 p b := fun j hj e b hb h => by
    rcases T.new _ h with h | h
    · exact h4 j g hj hg e b hb h
    · rw [ow_use _ _ _ _ _ (h2 j hj) hb] at h; cases h.1
  have fc := frame l u2 u2 D2 (saved u2 D2 r (upd (ptr u D r) g p)) p (fun _ _ => rfl) (fun b hb x hx => saved_other _ _ _ _ _ _ (fun e => c1 (e ▸ ix_ow _ _ _ _ _ hb)) hx)
  have fs := fun j (hj : j < 16) (e : j ≠ g) => frame l u u2 D (saved u2 D2 r (upd (ptr u D r) g p)) (ptr u D r j) (fun b hb => by have := ow_use _ _ _ _ _ (h2 j hj) hb; rw [T.up b this, this])
    (fun b hb x hx => (saved_other _ _ _ _ _ _ (fun e' => h3 j hj (e' ▸ ix_ow _ _ _ _ _ hb)) hx).trans (T.dd b (fun h => c2 j hj e b (ix_ow _ _ _ _ _ hb) (ix_ow _ _ _ _ _ h)) x hx))
  generalize hD3 : saved u2 D2 r (upd (ptr u D r) g p) = D3 at *
  have owg : ∀ b, Ow l u2 D3 (ptr u2 D3 r g) b ↔ Ow l u2 D2 p b := fun b => by rw [hpg]; exact fc.1 b
  have ows : ∀ j, j < 16 → j ≠ g → ∀ b, Ow l u2 D3 (ptr u2 D3 r j) b ↔ Ow l u D (ptr u D r j) b := fun j hj e b => by rw [hps j hj e]; exact (fs j hj e).1 b
  refine { ne := hr, lt := hrl, wf := fun _ => ⟨hr1, fun j hj => ?_, fun j hj h => ?_, fun i j hi hj hij b hb hb' => ?_⟩, new := fun b hb => ?_, old := fun b hb => ?_, up := T.up, un := fun b hb => ?_, dd := fun b hb x hx => ?_, d8 := fun j => hD3 ▸ saved_lt T.d8 j, at_ := ?_, f0 := T.f0, els := fun k' hk' hne => ?_, fold := fun h => by rw [hlkk] at h ⊢; exact T.fold h, fnew := fun h => T.fnew (by rw [← hlkk]; exact h) }
  · by_cases e : j = g
    · subst e; rw [hpg]; exact fc.2.2.1 T.wf
    · rw [hps j hj e]; exact (fs j hj e).2.2.1 (h2 j hj)
  · by_cases e : j = g
    · subst e; exact c1 ((owg _).1 h)
    · exact h3 j hj ((ows j hj e _).1 h)
  · by_cases ei : i = g
    · subst ei
      exact c2 j hj (fun e => hij e.symm) b ((ows j hj (fun e => hij e.symm) b).1 hb') ((owg b).1 hb)
    · by_cases ej : j = g
      · subst ej
        exact c2 i hi ei b ((ows i hi ei b).1 hb) ((owg b).1 hb')
      · exact h4 i j hi hj hij b ((ows i hi ei b).1 hb) ((ows j hj ej b).1 hb')
  · obtain ⟨-, h | ⟨j, hj, h⟩⟩ := hb
    · exact .inl ⟨hr, .inl h⟩
    · by_cases e : j = g
      · subst e
        rcases T.new b ((owg b).1 h) with h | h
        · exact .inl ⟨hr, .inr ⟨j, hj, h⟩⟩
        · exact .inr h
      · exact .inl ⟨hr, .inr ⟨j, hj, (ows j hj e b).1 h⟩⟩
  · obtain ⟨-, h | ⟨j, hj, h⟩⟩ := hb
    · exact ⟨hr, .inl h⟩
    · by_cases e : j = g
      · subst e; exact ⟨hr, .inr ⟨j, hj, (owg b).2 (T.old b h)⟩⟩
      · exact ⟨hr, .inr ⟨j, hj, (ows j hj e b).2 h⟩⟩
  · rcases T.un b hb with h | h
    · exact .inl h
    · exact .inr ⟨hr, .inr ⟨g, hg, (owg b).2 h⟩⟩
  · have e1 : b ≠ r - 1 := fun e => hb ⟨hr, .inl e⟩
    have e2 : ¬ Ix l u2 D2 p b := fun h => hb ⟨hr, .inr ⟨g, hg, by rw [hpg]; exact (fc.2.1 b).2 h⟩⟩
    rw [← hD3]
    exact (saved_other _ _ _ _ _ _ e1 hx).trans (T.dd b e2 x hx)
  · rw [lk, hgd, hpg, fc.2.2.2 _ (mod_lt16 l k)]
    exact T.at_
  · rw [lk, lk]
    by_cases e : k' / 16 ^ l = g
    · rw [e, hpg, fc.2.2.2 _ (mod_lt16 l k')]
      exact T.els _ (mod_lt16 l k') (fun em => hne (by rw [← Nat.div_add_mod k' (16 ^ l), ← Nat.div_add_mod k (16 ^ l), em, e, hgd]))
    · rw [hps _ (div_lt16 hk') e]
      exact (fs _ (div_lt16 hk') e).2.2.2 _ (mod_lt16 l k')
theorem tk_ok (n : Nat) (hn : n ≤ 4096) : ∀ (l : Nat) (u : Nat → Bool) (D : Nat → Nat) (r k : Nat) (u' : Nat → Bool) (D' : Nat → Nat) (r' f : Nat), WF l u D r → (∀ j, D j < 256) → (∀ i, i < n → u i = false → ∀ x, x < 64 → D (i * 64 + x) = 0) → r < 4294967296 → k < 16 ^ l →
    tk l n u D r k = some (u', D', r', f) → TkOk l n u D r k u' D' r' f
  | 0, u, D, r, k, u', D', r', f, hw, hD, hz, hrl, hk, h => by
    unfold tk at h
    simp at hk
    by_cases hr : r ≠ 0
    · rw [if_pos hr] at h
      simp only [Option.some.injEq, Prod.mk.injEq] at h
      obtain ⟨rfl, rfl, rfl, rfl⟩ := h
      exact ⟨hr, hrl, hw, fun _ h => .inl h, fun _ h => h, fun _ h => h, fun _ h => .inl h, fun _ _ _ _ => rfl, hD, rfl, hr, fun k' hk' hne => by simp at hk'; omega, fun _ => rfl, fun h => absurd h hr⟩
    · rw [if_neg hr] at h
      obtain rfl : r = 0 := by omega
      cases hlow : low u n with
      | none => rw [hlow] at h; cases h
      | some i =>
        rw [hlow] at h
        simp only [Option.map_some, Option.some.injEq, Prod.mk.injEq] at h
        obtain ⟨rfl, rfl, rfl, rfl⟩ := h
        obtain ⟨hi, hu, -⟩ := low_some hlow
        exact ⟨by omega, by omega, fun _ => by rw [Nat.add_sub_cancel]; exact upd_self u i, fun b hb => .inr (by rw [hb.2, Nat.add_sub_cancel]; exact ⟨hu, hi⟩), fun b hb => absurd hb (ow_zero _ _ _ _), fun _ h => upd_true h,
          fun b hb => (upd_un hb).imp_right (fun e => ⟨by omega, by omega⟩), fun _ _ _ _ => rfl, hD, rfl, by omega, fun k' hk' hne => by simp at hk'; omega, fun h => absurd rfl h, fun _ => by rw [Nat.add_sub_cancel]; exact hu⟩
  | l + 1, u, D, r, k, u', D', r', f, hw, hD, hz, hrl, hk, h => by
    unfold tk at h
    by_cases hr : r ≠ 0
    · rw [if_pos hr] at h
      simp only [Option.bind_some, Option.map_eq_some_iff] at h
      obtain ⟨⟨u2, D2, p, f2⟩, ht, h⟩ := h
      simp only [Prod.mk.injEq] at h
      obtain ⟨rfl, rfl, rfl, rfl⟩ := h
      exact take_in hD hr hrl hw hk (tk_ok n hn l u D _ _ _ _ _ _ ((hw hr).2.1 _ (div_lt16 hk)) hD hz (ptr_lt u D hD r _) (mod_lt16 l k) ht)
    · rw [if_neg hr] at h
      obtain rfl : r = 0 := by omega
      cases hlow : low u n with
      | none => rw [hlow] at h; cases h
      | some i =>
        rw [hlow] at h
        simp only [Option.map_some, Option.bind_some, Option.map_eq_some_iff] at h
        obtain ⟨⟨u2, D2, p, f2⟩, ht, h⟩ := h
        simp only [Prod.mk.injEq] at h
        obtain ⟨rfl, rfl, rfl, rfl⟩ := h
        obtain ⟨hi, hu, -⟩ := low_some hlow
        have hp0 : ∀ j, j < 16 → ptr (upd u i true) D (i + 1) j = 0 := fun j hj => ptr_fresh hj (hz i hi hu)
        have hw1 : WF (l + 1) (upd u i true) D (i + 1) := fun _ => ⟨by rw [Nat.add_sub_cancel]; exact upd_self u i, fun j hj => by rw [hp0 j hj]; exact wf_zero _ _ _, fun j hj => by rw [hp0 j hj]; exact ow_zero _ _ _ _, fun a b ha _ _ c hc => by rw [hp0 a ha] at hc; exact absurd hc (ow_zero _ _ _ _)⟩
        have hl0 : ∀ k', k' < 16 ^ (l + 1) → lk (l + 1) (upd u i true) D (i + 1) k' = 0 := fun k' hk' => by rw [lk, hp0 _ (div_lt16 hk'), lk_zero]
        have T := take_in hD (show i + 1 ≠ 0 by omega) (show i + 1 < 4294967296 by omega) hw1 hk (tk_ok n hn l (upd u i true) D _ _ _ _ _ _ (by rw [hp0 _ (div_lt16 hk)]; exact wf_zero _ _ _) hD (fun a ha hf => hz a ha (upd_false hf)) (ptr_lt _ D hD _ _) (mod_lt16 l k) ht)
        refine { ne := T.ne, lt := T.lt, wf := T.wf, new := fun b hb => ?_, old := fun b hb => absurd hb (ow_zero _ _ _ _), up := fun b hb => T.up b (upd_true hb), un := fun b hb => ?_, dd := T.dd, d8 := T.d8, at_ := T.at_, f0 := T.f0, els := fun k' hk' hne => ?_, fold := fun h => absurd (lk_zero _ _ _ _) h, fnew := fun _ => upd_false (T.fnew (hl0 k hk)) }
        · rcases T.new b hb with h | h
          · obtain ⟨-, h | ⟨j, hj, h⟩⟩ := h
            · rw [Nat.add_sub_cancel] at h; subst h; exact .inr ⟨hu, hi⟩
            · rw [hp0 j hj] at h; exact absurd h (ow_zero _ _ _ _)
          · exact .inr ⟨upd_false h.1, h.2⟩
        · rcases T.un b hb with h | h
          · rcases upd_un h with h | rfl
            · exact .inl h
            · exact .inr (T.old b ⟨by omega, .inl (by omega)⟩)
          · exact .inr h
        · rw [T.els k' hk' hne, hl0 k' hk', lk_zero]
end Mp
end Go.Proofs.YtpcbpikhiooafaaGreatDoor
/- Plain facts on a file: eight refs, 278 places; take, a write into a leaf, a whole write. No walk. -/
namespace Go.Proofs.YtpcbpikhiooafaaGreatDoor
open Go.RowKit
namespace Mp
/-- A file's blocks. -/
def OwF (u : Nat → Bool) (D : Nat → Nat) (R : Nat → Nat) (b : Nat) : Prop := ∃ j, j < 8 ∧ Ow (lwOf j) u D (R j) b
structure FI (u : Nat → Bool) (D : Nat → Nat) (R : Nat → Nat) : Prop where
  wf : ∀ j, j < 8 → WF (lwOf j) u D (R j)
  dj : ∀ i j, i < 8 → j < 8 → i ≠ j → ∀ b, Ow (lwOf i) u D (R i) b → ¬ Ow (lwOf j) u D (R j) b
  lt : ∀ j, j < 8 → R j < 4294967296
theorem FI.use {u : Nat → Bool} {D R : Nat → Nat} (h : FI u D R) {b : Nat} (hb : OwF u D R b) : u b = true := by
  obtain ⟨j, hj, hb⟩ := hb
  exact ow_use _ _ _ _ _ (h.wf j hj) hb
theorem lv_rt (k : Nat) : lv k = lwOf (rt k) := by
  unfold lv lwOf rt
  by_cases h : k < 6
  · simp [h]
  · by_cases h2 : k < 22
    · simp [h, h2]
    · simp [h, h2]
theorem kk_lt (k : Nat) (h : k < 278) : kk k < 16 ^ lv k := by
  unfold kk lv
  by_cases h1 : k < 6
  · simp [h1]
  · by_cases h2 : k < 22
    · simp [h1, h2]; omega
    · simp [h1, h2]; omega
theorem kk_inj {k k' : Nat} (h : rt k = rt k') (hne : k ≠ k') : kk k ≠ kk k' := by
  unfold rt at h
  unfold kk
  by_cases a1 : k < 6 <;> by_cases b1 : k' < 6 <;> by_cases a2 : k < 22 <;> by_cases b2 : k' < 22 <;> simp [a1, b1, a2, b2] at h ⊢ <;> omega
/-- What is as it was where a file's refs lie leads where it led. -/
theorem FI.frame {u u' : Nat → Bool} {D D' R : Nat → Nat} (h : FI u D R) (hu : ∀ b, OwF u D R b → u' b = u b) (hd : ∀ b, (∃ j, j < 8 ∧ Ix (lwOf j) u D (R j) b) → ∀ x, x < 64 → D' (b * 64 + x) = D (b * 64 + x)) :
    FI u' D' R ∧ (∀ b, OwF u' D' R b ↔ OwF u D R b) ∧ ∀ k, k < 278 → lkAt u' D' R k = lkAt u D R k := by
  have f := fun j (hj : j < 8) => Mp.frame (lwOf j) u u' D D' (R j) (fun b hb => hu b ⟨j, hj, hb⟩) (fun b hb => hd b ⟨j, hj, hb⟩)
  refine ⟨⟨fun j hj => (f j hj).2.2.1 (h.wf j hj), fun i j hi hj hij b hb hb' => h.dj i j hi hj hij b (((f i hi).1 b).1 hb) (((f j hj).1 b).1 hb'), h.lt⟩, fun b => ?_, fun k hk => ?_⟩
  · constructor
    · rintro ⟨j, hj, hb⟩; exact ⟨j, hj, ((f j hj).1 b).1 hb⟩
    · rintro ⟨j, hj, hb⟩; exact ⟨j, hj, ((f j hj).1 b).2 hb⟩
  · unfold lkAt
    rw [lv_rt]
    exact (f _ (rt_lt k)).2.2.2 _ (by rw [← lv_rt]; exact kk_lt k hk)
theorem lkAt_ow {u : Nat → Bool} {D R : Nat → Nat} {k : Nat} (hk : k < 278) (h : lkAt u D R k ≠ 0) : Ow (lwOf (rt k)) u D (R (rt k)) (lkAt u D R k - 1) := by
  unfold lkAt at h ⊢
  rw [lv_rt] at h ⊢
  exact lk_ow _ _ _ _ _ (by rw [← lv_rt]; exact kk_lt k hk) h
theorem FI.leaf {u : Nat → Bool} {D R : Nat → Nat} (h : FI u D R) {k : Nat} (hk : k < 278) (h0 : lkAt u D R k ≠ 0) : ¬ ∃ j, j < 8 ∧ Ix (lwOf j) u D (R j) (lkAt u D R k - 1) := by
  rintro ⟨j, hj, hx⟩
  have ho := lkAt_ow hk h0
  by_cases e : j = rt k
  · subst e
    unfold lkAt at h0 hx
    rw [lv_rt] at h0 hx
    exact lk_leaf _ _ _ _ _ (h.wf _ hj) (by rw [← lv_rt]; exact kk_lt k hk) h0 hx
  · exact h.dj j _ hj (rt_lt k) e _ (ix_ow _ _ _ _ _ hx) ho
theorem FI.inj {u : Nat → Bool} {D R : Nat → Nat} (h : FI u D R) {k k' : Nat} (hk : k < 278) (hk' : k' < 278) (hne : k ≠ k') (h0 : lkAt u D R k ≠ 0) : lkAt u D R k ≠ lkAt u D R k' := fun e => by
  have o1 := lkAt_ow hk h0
  have o2 := lkAt_ow (u := u) (D := D) (R := R) hk' (by rw [← e]; exact h0)
  rw [← e] at o2
  by_cases ej : rt k = rt k'
  · have hkk := kk_inj ej hne
    unfold lkAt at h0 e
    have l1 := kk_lt k hk
    have l2 := kk_lt k' hk'
    rw [lv_rt] at h0 e l1
    rw [lv_rt, ← ej] at e l2
    exact lk_inj _ _ _ _ _ _ (h.wf _ (rt_lt k)) l1 l2 hkk h0 e
  · exact h.dj _ _ (rt_lt k) (rt_lt k') ej _ o1 o2
structure TaOk (n : Nat) (u : Nat → Bool) (D R : Nat → Nat) (k : Nat) (u' : Nat → Bool) (D' R' : Nat → Nat) (f : Nat) : Prop where
  fi : FI u' D' R'
  new : ∀ b, OwF u' D' R' b → OwF u D R b ∨ (u b = false ∧ b < n)
  old : ∀ b, OwF u D R b → OwF u' D' R' b
  up : ∀ b, u b = true → u' b = true
  un : ∀ b, u' b = true → u b = true ∨ OwF u' D' R' b
  out : ∀ b, ¬ OwF u' D' R' b → ∀ x, x < 64 → D' (b * 64 + x) = D (b * 64 + x)
  d8 : ∀ j, D' j < 256
  at_ : lkAt u' D' R' k = f
  f0 : f ≠ 0
  rd : ∀ x, x < 17792 → rd u' D' R' x = rd u D R x
theorem TaOk.free {n : Nat} {u : Nat → Bool} {D R : Nat → Nat} {k : Nat} {u' : Nat → Bool} {D' R' : Nat → Nat} {f : Nat} (T : TaOk n u D R k u' D' R' f) (hz : ∀ i, i < n → u i = false → ∀ x, x < 64 → D (i * 64 + x) = 0) :
    ∀ i, i < n → u' i = false → ∀ x, x < 64 → D' (i * 64 + x) = 0 := fun i hi h x hx => by
  have h1 : ¬ OwF u' D' R' i := fun ho => by rw [T.fi.use ho] at h; cases h
  have h2 : u i = false := by
    cases hu : u i with
    | false => rfl
    | true => rw [T.up i hu] at h; cases h
  rw [T.out i h1 x hx]
  exact hz i hi h2 x hx
theorem tkAt_ok {n : Nat} (hn : n ≤ 4096) {u : Nat → Bool} {D R : Nat → Nat} {k : Nat} {u' : Nat → Bool} {D' : Nat → Nat} {r' f : Nat} (F : FI u D R) (hD : ∀ j, D j < 256) (hz : ∀ i, i < n → u i = false → ∀ x, x < 64 → D (i * 64 + x) = 0) (hk : k < 278)
    (h : tkAt n u D R k = some (u', D', r', f)) : TaOk n u D R k u' D' (upd R (rt k) r') f := by
  have hkl := kk_lt k hk
  unfold tkAt at h
  rw [lv_rt] at h hkl
  have hR0 := rt_lt k
  have T := tk_ok n hn (lwOf (rt k)) u D (R (rt k)) (kk k) u' D' r' f (F.wf _ hR0) hD hz (F.lt _ hR0) hkl h
  have hg : upd R (rt k) r' (rt k) = r' := by simp [upd]
  have hs : ∀ j, j ≠ rt k → upd R (rt k) r' j = R j := fun j e => by simp [upd, e]
  have c2 : ∀ j, j < 8 → j ≠ rt k → ∀ b, Ow (lwOf j) u D (R j) b → ¬ Ow (lwOf (rt k)) u' D' r' b := fun j hj e b hb h => by
    rcases T.new b h with h | h
    · exact F.dj j _ hj hR0 e b hb h
    · rw [ow_use _ _ _ _ _ (F.wf j hj) hb] at h; cases h.1
  have fs := fun j (hj : j < 8) (e : j ≠ rt k) => Mp.frame (lwOf j) u u' D D' (R j) (fun b hb => by have := ow_use _ _ _ _ _ (F.wf j hj) hb; rw [T.up b this, this]) (fun b hb x hx => T.dd b (fun h => c2 j hj e b (ix_ow _ _ _ _ _ hb) (ix_ow _ _ _ _ _ h)) x hx)
  have ows : ∀ j, j < 8 → j ≠ rt k → ∀ b, Ow (lwOf j) u' D' (upd R (rt k) r' j) b ↔ Ow (lwOf j) u D (R j) b := fun j hj e b => by rw [hs j e]; exact (fs j hj e).1 b
  have hfi : FI u' D' (upd R (rt k) r') := by
    refine ⟨fun j hj => ?_, fun i j hi hj hij b hb hb' => ?_, fun j hj => ?_⟩
    · by_cases e : j = rt k
      · subst e; rw [hg]; exact T.wf
      · rw [hs j e]; exact (fs j hj e).2.2.1 (F.wf j hj)
    · by_cases ei : i = rt k
      · subst ei
        rw [hg] at hb
        exact c2 j hj (fun e => hij e.symm) b ((ows j hj (fun e => hij e.symm) b).1 hb') hb
      · by_cases ej : j = rt k
        · subst ej
          rw [hg] at hb'
          exact c2 i hi ei b ((ows i hi ei b).1 hb) hb'
        · exact F.dj i j hi hj hij b ((ows i hi ei b).1 hb) ((ows j hj ej b).1 hb')
    · by_cases e : j = rt k
      · subst e; rw [hg]; exact T.lt
      · rw [hs j e]; exact F.lt j hj
  have hels : ∀ k', k' < 278 → k' ≠ k → lkAt u' D' (upd R (rt k) r') k' = lkAt u D R k' := fun k' hk' hne => by
    have hkl' := kk_lt k' hk'
    unfold lkAt
    rw [lv_rt] at hkl' ⊢
    by_cases e : rt k' = rt k
    · rw [e] at hkl' ⊢
      rw [hg]
      exact T.els _ hkl' (kk_inj e hne)
    · rw [hs _ e]
      exact (fs _ (rt_lt k') e).2.2.2 _ hkl'
  have hat : lkAt u' D' (upd R (rt k) r') k = f := by
    unfold lkAt
    rw [lv_rt, hg]
    exact T.at_
  have hlf : ∀ k', k' < 278 → lkAt u' D' (upd R (rt k) r') k' ≠ 0 → ∀ x, x < 64 → D' ((lkAt u' D' (upd R (rt k) r') k' - 1) * 64 + x) = D ((lkAt u' D' (upd R (rt k) r') k' - 1) * 64 + x) := fun k' hk' h0 x hx =>
    T.dd _ (fun hx => hfi.leaf hk' h0 ⟨rt k, hR0, by rw [hg]; exact hx⟩) x hx
  refine ⟨hfi, fun b hb => ?_, fun b hb => ?_, T.up, fun b hb => ?_, fun b hb x hx => ?_, T.d8, hat, T.f0, fun x hx => ?_⟩
  · obtain ⟨j, hj, hb⟩ := hb
    by_cases e : j = rt k
    · subst e
      rw [hg] at hb
      rcases T.new b hb with h | h
      · exact .inl ⟨_, hj, h⟩
      · exact .inr h
    · exact .inl ⟨j, hj, (ows j hj e b).1 hb⟩
  · obtain ⟨j, hj, hb⟩ := hb
    by_cases e : j = rt k
    · subst e; exact ⟨_, hj, by rw [hg]; exact T.old b hb⟩
    · exact ⟨j, hj, (ows j hj e b).2 hb⟩
  · rcases T.un b hb with h | h
    · exact .inl h
    · exact .inr ⟨_, hR0, by rw [hg]; exact h⟩
  · exact T.dd b (fun h => hb ⟨_, hR0, by rw [hg]; exact ix_ow _ _ _ _ _ h⟩) x hx
  · have hx2 : x / 64 < 278 := by omega
    have hx3 : x % 64 < 64 := by omega
    unfold Go.Proofs.YtpcbpikhiooafaaGreatDoor.rd
    by_cases e : x / 64 = k
    · rw [e, hat]
      have hu' : u' (f - 1) = true := by
        have := hfi.use ⟨_, hR0, lkAt_ow hk (by rw [hat]; exact T.f0)⟩
        rw [hat] at this
        exact this
      rw [if_pos ⟨T.f0, hu'⟩]
      have hl := hlf k hk (by rw [hat]; exact T.f0) (x % 64) hx3
      rw [hat] at hl
      rw [hl]
      have hold : lkAt u D R k = lk (lwOf (rt k)) u D (R (rt k)) (kk k) := by unfold lkAt; rw [lv_rt]
      by_cases h0 : lkAt u D R k = 0
      · rw [if_neg (by rw [h0]; simp)]
        have hf := T.fnew (by rw [← hold]; exact h0)
        have hfn : f - 1 < n := Nat.lt_of_not_le fun hge => by
          rcases T.new (f - 1) (by rw [← T.at_]; exact lk_ow _ _ _ _ _ hkl (by rw [T.at_]; exact T.f0)) with h | h
          · rw [ow_use _ _ _ _ _ (F.wf _ hR0) h] at hf; cases hf
          · omega
        exact hz _ hfn hf _ hx3
      · have hf := T.fold (by rw [← hold]; exact h0)
        rw [← hold] at hf
        rw [if_pos ⟨h0, F.use ⟨_, hR0, lkAt_ow hk h0⟩⟩, hf]
    · rw [hels _ hx2 e]
      by_cases h0 : lkAt u D R (x / 64) = 0
      · rw [if_neg (by rw [h0]; simp), if_neg (by rw [h0]; simp)]
      · have hl := hlf _ hx2 (by rw [hels _ hx2 e]; exact h0) (x % 64) hx3
        rw [hels _ hx2 e] at hl
        have hu1 := F.use ⟨_, rt_lt _, lkAt_ow hx2 h0⟩
        rw [if_pos ⟨h0, T.up _ hu1⟩, if_pos ⟨h0, hu1⟩, hl]
end Mp
end Go.Proofs.YtpcbpikhiooafaaGreatDoor
