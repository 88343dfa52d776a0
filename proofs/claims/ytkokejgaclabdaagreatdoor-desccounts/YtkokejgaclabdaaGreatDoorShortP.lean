/- How far a write comes, in plain numbers: it ends short just where too few blocks are left. -/
import Derived.Test.YtkokejgaclabdaaGreatDoorWr2
namespace Go.Proofs.YtkokejgaclabdaaGreatDoor
open Go.RowKit
theorem cnt_all (u : Nat → Bool) : ∀ n, (∀ i, i < n → u i = true) → Bt.cnt u n = n
  | 0, _ => rfl
  | n + 1, h => by
    rw [Bt.cnt, cnt_all u n (fun i hi => h i (by omega)), h n (by omega)]; rfl
theorem cnt_none (u : Nat → Bool) : ∀ n, (∀ i, i < n → u i = false) → Bt.cnt u n = 0
  | 0, _ => rfl
  | n + 1, h => by
    rw [Bt.cnt, cnt_none u n (fun i hi => h i (by omega)), h n (by omega)]; rfl
theorem cnt_upd (u : Nat → Bool) (i : Nat) (h : u i = false) : ∀ n, Bt.cnt (upd u i true) n = if i < n then Bt.cnt u n + 1 else Bt.cnt u n
  | 0 => by simp [Bt.cnt]
  | n + 1 => by
    have ih := cnt_upd u i h n
    by_cases e : n = i
    · subst e
      simp [Bt.cnt, ih, upd, h]
    · have hu : upd u i true n = u n := by simp [upd, e]
      by_cases h2 : i < n
      · have h3 : i < n + 1 := by omega
        simp only [Bt.cnt, ih, hu, if_pos h2, if_pos h3]; omega
      · have h3 : ¬ i < n + 1 := by omega
        simp only [Bt.cnt, ih, hu, if_neg h2, if_neg h3]
/-- Where take fails, no more blocks than levels are left. -/
theorem tk_none_left {n : Nat} {D : Nat → Nat} : ∀ (l : Nat) (u : Nat → Bool) (r k : Nat), tk l n u D r k = none → n ≤ Bt.cnt u n + l
  | 0, u, r, k, h => by
    rw [tk] at h
    split at h
    · exact absurd h (by simp)
    · cases hl : low u n with
      | none => rw [cnt_all u n (low_none hl)]; omega
      | some i => rw [hl] at h; simp at h
  | l + 1, u, r, k, h => by
    rw [tk] at h
    by_cases h0 : r ≠ 0
    · rw [if_pos h0, Option.bind_some, Option.map_eq_none_iff] at h
      have := tk_none_left l u _ _ h
      omega
    · rw [if_neg h0] at h
      cases hl : low u n with
      | none => rw [cnt_all u n (low_none hl)]; omega
      | some i =>
        rw [hl, Option.map_some, Option.bind_some, Option.map_eq_none_iff] at h
        have h1 := tk_none_left l _ _ _ h
        obtain ⟨hi, hf, _⟩ := low_some hl
        rw [cnt_upd u i hf, if_pos hi] at h1
        omega
theorem lv_le (k : Nat) : lv k ≤ 2 := by unfold lv; split; omega; split <;> omega
/-- How a write ends. -/
theorem wrun_ends (n off : Nat) (bs : List Nat) (s0 : WS) : ∀ (f : Nat) (s : WS), bs.length - s.done ≤ f → s.done ≤ bs.length → (s.done = 0 → s = s0) → (0 < s.done → s.done < bs.length → (off + s.done) % 64 = 0) →
    (wrun n off bs f s).done = bs.length ∨ (n ≤ Bt.cnt (wrun n off bs f s).u n + 2 ∧ ((wrun n off bs f s).done = 0 → wrun n off bs f s = s0) ∧ (0 < (wrun n off bs f s).done → (off + (wrun n off bs f s).done) % 64 = 0))
  | 0, s, hf, hd, _, _ => by left; show s.done = _; omega
  | f + 1, s, hf, hd, h0, h1 => by
    by_cases hlt : s.done < bs.length
    · cases hx : tkAt n s.u s.D s.R ((off + s.done) / 64) with
      | none =>
        rw [wrun_stop hx]
        right
        have := tk_none_left _ _ _ _ hx
        have := lv_le ((off + s.done) / 64)
        exact ⟨by omega, h0, fun h => h1 h hlt⟩
      | some y =>
        obtain ⟨u', D', r', x⟩ := y
        rw [wrun_step hlt hx]
        refine wrun_ends n off bs s0 f _ ?_ ?_ ?_ ?_
        · show bs.length - (s.done + min _ _) ≤ f; omega
        · show s.done + min _ _ ≤ _; omega
        · intro h; exact absurd h (by show ¬ s.done + min _ _ = 0; omega)
        · intro _ h
          show (off + (s.done + min _ _)) % 64 = 0
          have h' : s.done + min (bs.length - s.done) (64 - (off + s.done) % 64) < bs.length := h
          omega
    · rw [wrun_end hlt]; left; omega
end Go.Proofs.YtkokejgaclabdaaGreatDoor
