/- Several texts of this claim, one behind the other, in their order. -/
import Derived.Test.YtpcbpikhiooafaaGreatDoorWr2
/- How far a write comes, in plain numbers: it ends short just where too few blocks are left. -/
namespace Go.Proofs.YtpcbpikhiooafaaGreatDoor
open Go.RowKit
theorem cnt_all (u : Nat → Bool) : ∀ n, (∀ i, i < n → u i = true) → Bt.cnt u n = n
  | 0, _ => rfl
  | n + 1, h => by
    rw [Bt.cnt, cnt_all u n (fun i hi => h i (by omega)), h n (by omega)]; rfl
theorem cnt_none (u : Nat → Bool) : ∀ n, (∀ i, i < n → u i = false) → Bt.cnt u n = 0
  | 0, _ => rfl
  | n + 1, h => by
    rw [Bt.cnt, cnt_none u n (fun i hi => h i (by omega)), h n (by omega)]; rfl
theorem cnt_upd (u : Nat → Bool) (i : Nat) (h : u i = false) : ∀ n, Bt.cnt (upd u i true) n = if i < n then Bt.cnt u n + 1 else Bt.cnt u n
  | 0 => by simp [Bt.cnt]
  | n + 1 => by
    have ih := cnt_upd u i h n
    by_cases e : n = i
    · subst e
      simp [Bt.cnt, ih, upd, h]
    · have hu : upd u i true n = u n := by simp [upd, e]
      by_cases h2 : i < n
      · have h3 : i < n + 1 := by omega
        simp only [Bt.cnt, ih, hu, if_pos h2, if_pos h3]; omega
      · have h3 : ¬ i < n + 1 := by omega
        simp only [Bt.cnt, ih, hu, if_neg h2, if_neg h3]
/-- Where take fails, no more blocks than levels are left. -/
theorem tk_none_left {n : Nat} {D : Nat → Nat} : ∀ (l : Nat) (u : Nat → Bool) (r k : Nat), tk l n u D r k = none → n ≤ Bt.cnt u n + l
  | 0, u, r, k, h => by
    rw [tk] at h
    split at h
    · exact absurd h (by simp)
    · cases hl : low u n with
      | none => rw [cnt_all u n (low_none hl)]; omega
      | some i => rw [hl] at h; simp at h
  | l + 1, u, r, k, h => by
    rw [tk] at h
    by_cases h0 : r ≠ 0
    · rw [if_pos h0, Option.bind_some, Option.map_eq_none_iff] at h
      have := tk_none_left l u _ _ h
      omega
    · rw [if_neg h0] at h
      cases hl : low u n with
      | none => rw [cnt_all u n (low_none hl)]; omega
      | some i =>
        rw [hl, Option.map_some, Option.bind_some, Option.map_eq_none_iff] at h
        have h1 := tk_none_left l _ _ _ h
        obtain ⟨hi, hf, _⟩ := low_some hl
        rw [cnt_upd u i hf, if_pos hi] at h1
        omega
theorem lv_le (k : Nat) : lv k ≤ 2 := by unfold lv; split; omega; split <;> omega
/-- How a write ends. -/
theorem wrun_ends (n off : Nat) (bs : List Nat) (s0 : WS) : ∀ (f : Nat) (s : WS), bs.length - s.done ≤ f → s.done ≤ bs.length → (s.done = 0 → s = s0) → (0 < s.done → s.done < bs.length → (off + s.done) % 64 = 0) →
    (wrun n off bs f s).done = bs.length ∨ (n ≤ Bt.cnt (wrun n off bs f s).u n + 2 ∧ ((wrun n off bs f s).done = 0 → wrun n off bs f s = s0) ∧ (0 < (wrun n off bs f s).done → (off + (wrun n off bs f s).done) % 64 = 0))
  | 0, s, hf, hd, _, _ => by left; show s.done = _; omega
  | f + 1, s, hf, hd, h0, h1 => by
    by_cases hlt : s.done < bs.length
    · cases hx : tkAt n s.u s.D s.R ((off + s.done) / 64) with
      | none =>
        rw [wrun_stop hx]
        right
        have := tk_none_left _ _ _ _ hx
        have := lv_le ((off + s.done) / 64)
        exact ⟨by omega, h0, fun h => h1 h hlt⟩
      | some y =>
        obtain ⟨u', D', r', x⟩ := y
        rw [wrun_step hlt hx]
        refine wrun_ends n off bs s0 f _ ?_ ?_ ?_ ?_
        · show bs.length - (s.done + min _ _) ≤ f; omega
        · show s.done + min _ _ ≤ _; omega
        · intro h; exact absurd h (by show ¬ s.done + min _ _ = 0; omega)
        · intro _ h
          show (off + (s.done + min _ _)) % 64 = 0
          have h' : s.done + min (bs.length - s.done) (64 - (off + s.done) % 64) < bs.length := h
          omega
    · rw [wrun_end hlt]; left; omega
end Go.Proofs.YtpcbpikhiooafaaGreatDoor
/- How many blocks a write takes, in plain numbers: at most three a place; so a write of at most 2000 bytes is whole where 110 blocks are free. -/
namespace Go.Proofs.YtpcbpikhiooafaaGreatDoor
open Go.RowKit
theorem low_cnt {u : Nat → Bool} {n i : Nat} (h : low u n = some i) : Bt.cnt (upd u i true) n = Bt.cnt u n + 1 := by
  obtain ⟨h1, h2, _⟩ := low_some h
  rw [cnt_upd u i h2 n, if_pos h1]
theorem tk_cnt {n : Nat} {D : Nat → Nat} : ∀ (l : Nat) (u : Nat → Bool) (r k : Nat) (y : (Nat → Bool) × (Nat → Nat) × Nat × Nat), tk l n u D r k = some y → Bt.cnt y.1 n ≤ Bt.cnt u n + (l + 1)
  | 0, u, r, k, y, h => by
    rw [tk] at h
    split at h
    · cases h; show Bt.cnt u n ≤ _; omega
    · rw [Option.map_eq_some_iff] at h
      obtain ⟨i, hi, rfl⟩ := h
      show Bt.cnt (upd u i true) n ≤ _
      rw [low_cnt hi]
      omega
  | l + 1, u, r, k, y, h => by
    rw [tk, Option.bind_eq_some_iff] at h
    obtain ⟨⟨u1, r1⟩, h1, h2⟩ := h
    simp only [Option.map_eq_some_iff] at h2
    obtain ⟨⟨u2, D2, p, f⟩, h3, rfl⟩ := h2
    have ih := tk_cnt l u1 _ _ _ h3
    have hu : Bt.cnt u1 n ≤ Bt.cnt u n + 1 := by
      split at h1
      · cases h1; omega
      · rw [Option.map_eq_some_iff] at h1
        obtain ⟨i, hi, e⟩ := h1
        cases e
        rw [low_cnt hi]
        omega
    show Bt.cnt u2 n ≤ _
    have ih' : Bt.cnt u2 n ≤ Bt.cnt u1 n + (l + 1) := ih
    omega
theorem wrun_cnt (n off : Nat) (bs : List Nat) : ∀ (f : Nat) (s : WS), s.done ≤ bs.length → (0 < s.done → s.done < bs.length → (off + s.done) % 64 = 0) →
    Bt.cnt (wrun n off bs f s).u n ≤ Bt.cnt s.u n + 3 * ((bs.length - s.done + 63) / 64 + (if s.done = 0 then 1 else 0))
  | 0, s, _, _ => by rw [wrun]; omega
  | f + 1, s, hd, h1 => by
    rw [wrun]
    by_cases hlt : s.done < bs.length
    · rw [if_pos hlt]
      cases ht : tkAt n s.u s.D s.R ((off + s.done) / 64) with
      | none => show Bt.cnt s.u n ≤ _; omega
      | some y =>
        obtain ⟨u', D', r', x⟩ := y
        have hc : Bt.cnt u' n ≤ Bt.cnt s.u n + 3 := by
          have := tk_cnt _ _ _ _ _ ht
          have h2 := lv_le ((off + s.done) / 64)
          have h3 : Bt.cnt u' n ≤ Bt.cnt s.u n + (lv ((off + s.done) / 64) + 1) := this
          omega
        obtain ⟨m, hm⟩ : ∃ m, m = min (bs.length - s.done) (64 - (off + s.done) % 64) := ⟨_, rfl⟩
        have ih := wrun_cnt n off bs f ⟨s.done + m, u', wrt u' D' x ((off + s.done) % 64) ((bs.drop s.done).take m), upd s.R (rt ((off + s.done) / 64)) r'⟩ (by show s.done + m ≤ _; omega) (fun _ h => by
          have h4 : s.done + m < bs.length := h
          show (off + (s.done + m)) % 64 = 0
          omega)
        simp only [← hm]
        refine Nat.le_trans ih ?_
        show Bt.cnt u' n + 3 * ((bs.length - (s.done + m) + 63) / 64 + (if s.done + m = 0 then 1 else 0)) ≤ _
        rw [if_neg (by omega)]
        by_cases h0 : s.done = 0
        · rw [if_pos h0]; omega
        · rw [if_neg h0]
          have h5 := h1 (by omega) hlt
          omega
    · rw [if_neg hlt]
      omega
/-- A write of at most 2000 bytes into a system of 300 blocks of which at most 100 are in use is whole. -/
theorem wrun_whole (off : Nat) (bs : List Nat) (s : WS) (hs : s.done = 0) (hl : bs.length ≤ 2000) (hc : Bt.cnt s.u 300 ≤ 100) : (wrun 300 off bs bs.length s).done = bs.length := by
  have h1 := wrun_cnt 300 off bs bs.length s (by omega) (fun h => by omega)
  rw [if_pos hs] at h1
  rcases wrun_ends 300 off bs s bs.length s (by omega) (by omega) (fun _ => rfl) (fun h => by omega) with h | ⟨h, _⟩
  · exact h
  · omega
end Go.Proofs.YtpcbpikhiooafaaGreatDoor
