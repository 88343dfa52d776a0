/- Plain facts on the blocks below a ref: who owns what, what stays as it was, and take. No walk. -/
import Derived.Test.YtgplmgliockbcaaDoorWr2
import Derived.Test.YtgplmgliockbcaaDoorM9
import Derived.Test.YtgplmgliockbcaaDoorCut
namespace Go.Proofs.YtgplmgliockbcaaDoor
open Go.RowKit
namespace Mp
/-- The blocks that are owned below a ref. -/
def Ow : Nat → (Nat → Bool) → (Nat → Nat) → Nat → Nat → Prop
  | 0, _, _, r, b => r ≠ 0 ∧ b = r - 1
  | l + 1, u, D, r, b => r ≠ 0 ∧ (b = r - 1 ∨ ∃ j, j < 16 ∧ Ow l u D (ptr u D r j) b)
/-- Those among them that hold refs. -/
def Ix : Nat → (Nat → Bool) → (Nat → Nat) → Nat → Nat → Prop
  | 0, _, _, _, _ => False
  | l + 1, u, D, r, b => r ≠ 0 ∧ (b = r - 1 ∨ ∃ j, j < 16 ∧ Ix l u D (ptr u D r j) b)
/-- All are in use, and no two places share one. -/
def WF : Nat → (Nat → Bool) → (Nat → Nat) → Nat → Prop
  | 0, u, _, r => r ≠ 0 → u (r - 1) = true
  | l + 1, u, D, r => r ≠ 0 → u (r - 1) = true ∧ (∀ j, j < 16 → WF l u D (ptr u D r j)) ∧ (∀ j, j < 16 → ¬ Ow l u D (ptr u D r j) (r - 1)) ∧ (∀ i j, i < 16 → j < 16 → i ≠ j → ∀ b, Ow l u D (ptr u D r i) b → ¬ Ow l u D (ptr u D r j) b)
theorem ow_zero : ∀ l u D b, ¬ Ow l u D 0 b
  | 0, _, _, _, h => h.1 rfl
  | _ + 1, _, _, _, h => h.1 rfl
theorem ix_zero : ∀ l u D b, ¬ Ix l u D 0 b
  | 0, _, _, _, h => h
  | _ + 1, _, _, _, h => h.1 rfl
theorem wf_zero : ∀ l u D, WF l u D 0
  | 0, _, _ => fun h => absurd rfl h
  | _ + 1, _, _ => fun h => absurd rfl h
theorem ix_ow : ∀ l u D r b, Ix l u D r b → Ow l u D r b
  | 0, _, _, _, _, h => h.elim
  | l + 1, u, D, r, b, h => by
    obtain ⟨hr, h⟩ := h
    rcases h with h | ⟨j, hj, h⟩
    · exact ⟨hr, .inl h⟩
    · exact ⟨hr, .inr ⟨j, hj, ix_ow l u D _ b h⟩⟩
theorem ow_use : ∀ l u D r b, WF l u D r → Ow l u D r b → u b = true
  | 0, u, D, r, b, hw, h => by rw [h.2]; exact hw h.1
  | l + 1, u, D, r, b, hw, h => by
    obtain ⟨hr, h⟩ := h
    obtain ⟨h1, h2, -, -⟩ := hw hr
    rcases h with rfl | ⟨j, hj, h⟩
    · exact h1
    · exact ow_use l u D _ b (h2 j hj) h
theorem le4_congr {D D' : Nat → Nat} {o : Nat} (h : ∀ i, i < 4 → D' (o + i) = D (o + i)) : le4 D' o = le4 D o := by
  simp only [le4, lePart, h 0 (by omega), h 1 (by omega), h 2 (by omega), h 3 (by omega)]
theorem ptr_eq {u u' : Nat → Bool} {D D' : Nat → Nat} {r j : Nat} (hj : j < 16) (hu : u' (r - 1) = u (r - 1)) (hd : ∀ x, x < 64 → D' ((r - 1) * 64 + x) = D ((r - 1) * 64 + x)) : ptr u' D' r j = ptr u D r j := by
  unfold ptr
  rw [hu]
  split
  · exact le4_congr (fun i hi => by rw [Nat.add_assoc]; exact hd _ (by omega))
  · rfl
theorem over_leB (D q : Nat → Nat) (r x : Nat) (hx : x < 64) : over D (r * 64) (leB q) (r * 64 + x) = leAt q x := by
  unfold over
  rw [if_pos ⟨by omega, by rw [leB_len]; omega⟩, Nat.add_sub_cancel_left, List.getD_eq_getElem?_getD, leB_at q x hx]
  rfl
theorem saved_other (u : Nat → Bool) (D : Nat → Nat) (r : Nat) (q : Nat → Nat) (b x : Nat) (hb : b ≠ r - 1) (hx : x < 64) : saved u D r q (b * 64 + x) = D (b * 64 + x) := by
  unfold saved
  split
  · exact over_else _ _ _ _ (by rw [leB_len]; omega)
  · rfl
theorem saved_lt {u : Nat → Bool} {D : Nat → Nat} {r : Nat} {q : Nat → Nat} (hD : ∀ j, D j < 256) (j : Nat) : saved u D r q j < 256 := by
  unfold saved
  split
  · unfold over
    split
    · rename_i h
      rw [leB_len] at h
      rw [List.getD_eq_getElem?_getD, leB_at q _ (by omega)]
      exact Nat.mod_lt _ (by omega)
    · exact hD j
  · exact hD j
theorem bytes4 (x : Nat) (h : x < 4294967296) : x % 256 + x / 256 % 256 * 256 + x / 65536 % 256 * 65536 + x / 16777216 % 256 * 16777216 = x := by omega
theorem ptr_saved {u : Nat → Bool} {D : Nat → Nat} {r : Nat} {q : Nat → Nat} {j : Nat} (hr : r ≠ 0) (hu : u (r - 1) = true) (hj : j < 16) (hq : q j < 4294967296) : ptr u (saved u D r q) r j = q j := by
  unfold ptr saved
  rw [if_pos ⟨hr, hu⟩, if_pos ⟨hr, hu⟩]
  have e : ∀ i, i < 4 → over D ((r - 1) * 64) (leB q) ((r - 1) * 64 + 4 * j + i) = q j / 2 ^ (8 * i) % 256 := fun i hi => by
    rw [Nat.add_assoc, over_leB _ _ _ _ (by omega)]
    unfold leAt
    rw [show (4 * j + i) / 4 = j by omega, show (4 * j + i) % 4 = i by omega]
  simp only [le4, lePart, e 0 (by omega), e 1 (by omega), e 2 (by omega), e 3 (by omega)]
  have := bytes4 (q j) hq
  simp
  omega
theorem ptr_fresh {u : Nat → Bool} {D : Nat → Nat} {i j : Nat} (hj : j < 16) (hz : ∀ x, x < 64 → D (i * 64 + x) = 0) : ptr u D (i + 1) j = 0 := by
  unfold ptr
  split
  · have e : ∀ k, k < 4 → D ((i + 1 - 1) * 64 + 4 * j + k) = 0 := fun k hk => by rw [Nat.add_sub_cancel, Nat.add_assoc]; exact hz _ (by omega)
    simp only [le4, lePart, e 0 (by omega), e 1 (by omega), e 2 (by omega), e 3 (by omega)]
  · rfl
theorem div_lt16 {l k : Nat} (h : k < 16 ^ (l + 1)) : k / 16 ^ l < 16 := by
  rw [Nat.pow_succ] at h
  exact Nat.div_lt_of_lt_mul h
theorem mod_lt16 (l k : Nat) : k % 16 ^ l < 16 ^ l := Nat.mod_lt _ (Nat.pow_pos (by omega))
/-- What is as it was where refs lie, and in use as it was, leads where it led. -/
theorem frame : ∀ (l : Nat) (u u' : Nat → Bool) (D D' : Nat → Nat) (r : Nat), (∀ b, Ow l u D r b → u' b = u b) → (∀ b, Ix l u D r b → ∀ x, x < 64 → D' (b * 64 + x) = D (b * 64 + x)) →
    (∀ b, Ow l u' D' r b ↔ Ow l u D r b) ∧ (∀ b, Ix l u' D' r b ↔ Ix l u D r b) ∧ (WF l u D r → WF l u' D' r) ∧ (∀ k, k < 16 ^ l → lk l u' D' r k = lk l u D r k)
  | 0, u, u', D, D', r, hu, hd => ⟨fun _ => Iff.rfl, fun _ => Iff.rfl, fun hw hr => by rw [hu _ ⟨hr, rfl⟩]; exact hw hr, fun _ _ => rfl⟩
  | l + 1, u, u', D, D', r, hu, hd => by
    by_cases hr : r = 0
    · subst hr
      exact ⟨fun b => ⟨fun h => absurd h (ow_zero _ _ _ _), fun h => absurd h (ow_zero _ _ _ _)⟩, fun b => ⟨fun h => absurd h (ix_zero _ _ _ _), fun h => absurd h (ix_zero _ _ _ _)⟩, fun _ => wf_zero _ _ _, fun k _ => by rw [lk_zero, lk_zero]⟩
    · have hp : ∀ j, j < 16 → ptr u' D' r j = ptr u D r j := fun j hj => ptr_eq hj (hu _ ⟨hr, .inl rfl⟩) (hd _ ⟨hr, .inl rfl⟩)
      have cf := fun j (hj : j < 16) => frame l u u' D D' (ptr u D r j) (fun b hb => hu b ⟨hr, .inr ⟨j, hj, hb⟩⟩) (fun b hb => hd b ⟨hr, .inr ⟨j, hj, hb⟩⟩)
      refine ⟨fun b => ?_, fun b => ?_, fun hw _ => ?_, fun k hk => ?_⟩
      · constructor
        · rintro ⟨-, h | ⟨j, hj, h⟩⟩
          · exact ⟨hr, .inl h⟩
          · rw [hp j hj] at h; exact ⟨hr, .inr ⟨j, hj, ((cf j hj).1 b).1 h⟩⟩
        · rintro ⟨-, h | ⟨j, hj, h⟩⟩
          · exact ⟨hr, .inl h⟩
          · exact ⟨hr, .inr ⟨j, hj, by rw [hp j hj]; exact ((cf j hj).1 b).2 h⟩⟩
      · constructor
        · rintro ⟨-, h | ⟨j, hj, h⟩⟩
          · exact ⟨hr, .inl h⟩
          · rw [hp j hj] at h; exact ⟨hr, .inr ⟨j, hj, ((cf j hj).2.1 b).1 h⟩⟩
        · rintro ⟨-, h | ⟨j, hj, h⟩⟩
          · exact ⟨hr, .inl h⟩
          · exact ⟨hr, .inr ⟨j, hj, by rw [hp j hj]; exact ((cf j hj).2.1 b).2 h⟩⟩
      · obtain ⟨h1, h2, h3, h4⟩ := hw hr
        refine ⟨by rw [hu _ ⟨hr, .inl rfl⟩]; exact h1, fun j hj => by rw [hp j hj]; exact (cf j hj).2.2.1 (h2 j hj), fun j hj h => ?_, fun i j hi hj hij b hb hb' => ?_⟩
        · rw [hp j hj] at h; exact h3 j hj (((cf j hj).1 _).1 h)
        · rw [hp i hi] at hb; rw [hp j hj] at hb'
          exact h4 i j hi hj hij b (((cf i hi).1 b).1 hb) (((cf j hj).1 b).1 hb')
      · rw [lk, lk, hp _ (div_lt16 hk)]
        exact (cf _ (div_lt16 hk)).2.2.2 _ (mod_lt16 l k)
theorem lk_ow : ∀ (l : Nat) (u : Nat → Bool) (D : Nat → Nat) (r k : Nat), k < 16 ^ l → lk l u D r k ≠ 0 → Ow l u D r (lk l u D r k - 1)
  | 0, u, D, r, k, _, h => ⟨h, rfl⟩
  | l + 1, u, D, r, k, hk, h => by
    have hr : r ≠ 0 := fun e => by subst e; rw [lk_zero] at h; exact h rfl
    rw [lk] at h ⊢
    exact ⟨hr, .inr ⟨_, div_lt16 hk, lk_ow l u D _ _ (mod_lt16 l k) h⟩⟩
/-- A leaf holds no refs. -/
theorem lk_leaf : ∀ (l : Nat) (u : Nat → Bool) (D : Nat → Nat) (r k : Nat), WF l u D r → k < 16 ^ l → lk l u D r k ≠ 0 → ¬ Ix l u D r (lk l u D r k - 1)
  | 0, _, _, _, _, _, _, _, h => h
  | l + 1, u, D, r, k, hw, hk, h, hx => by
    obtain ⟨hr, hx⟩ := hx
    obtain ⟨-, h2, h3, h4⟩ := hw hr
    rw [lk] at h hx
    have ho := lk_ow l u D _ _ (mod_lt16 l k) h
    rcases hx with hx | ⟨j, hj, hx⟩
    · exact h3 _ (div_lt16 hk) (hx ▸ ho)
    · by_cases e : j = k / 16 ^ l
      · subst e; exact lk_leaf l u D _ _ (h2 _ hj) (mod_lt16 l k) h hx
      · exact h4 j _ hj (div_lt16 hk) e _ (ix_ow _ _ _ _ _ hx) ho
/-- Two places have two leaves. -/
theorem lk_inj : ∀ (l : Nat) (u : Nat → Bool) (D : Nat → Nat) (r k k' : Nat), WF l u D r → k < 16 ^ l → k' < 16 ^ l → k ≠ k' → lk l u D r k ≠ 0 → lk l u D r k ≠ lk l u D r k'
  | 0, _, _, _, k, k', _, hk, hk', hne, _ => fun _ => by simp at hk hk'; omega
  | l + 1, u, D, r, k, k', hw, hk, hk', hne, h => fun e => by
    have hr : r ≠ 0 := fun e => by subst e; rw [lk_zero] at h; exact h rfl
    obtain ⟨-, h2, h3, h4⟩ := hw hr
    rw [lk] at h e
    rw [lk] at e
    by_cases ej : k / 16 ^ l = k' / 16 ^ l
    · have em : k % 16 ^ l ≠ k' % 16 ^ l := fun em => hne (by rw [← Nat.div_add_mod k (16 ^ l), ← Nat.div_add_mod k' (16 ^ l), ej, em])
      rw [ej] at h e
      exact lk_inj l u D _ _ _ (h2 _ (div_lt16 hk')) (mod_lt16 l k) (mod_lt16 l k') em h e
    · have o1 := lk_ow l u D _ _ (mod_lt16 l k) h
      have o2 := lk_ow l u D _ _ (mod_lt16 l k') (by rw [← e]; exact h)
      rw [← e] at o2
      exact h4 _ _ (div_lt16 hk) (div_lt16 hk') ej _ o1 o2
end Mp
end Go.Proofs.YtgplmgliockbcaaDoor
