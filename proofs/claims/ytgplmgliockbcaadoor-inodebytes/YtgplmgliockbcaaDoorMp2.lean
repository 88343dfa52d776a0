/- Plain facts on take: a leaf for a place, whoever lacked on the way. No walk. -/
import Derived.Test.YtgplmgliockbcaaDoorMp1
namespace Go.Proofs.YtgplmgliockbcaaDoor
open Go.RowKit
namespace Mp
structure TkOk (l n : Nat) (u : Nat → Bool) (D : Nat → Nat) (r k : Nat) (u' : Nat → Bool) (D' : Nat → Nat) (r' f : Nat) : Prop where
  ne : r' ≠ 0
  lt : r' < 4294967296
  wf : WF l u' D' r'
  new : ∀ b, Ow l u' D' r' b → Ow l u D r b ∨ (u b = false ∧ b < n)
  old : ∀ b, Ow l u D r b → Ow l u' D' r' b
  up : ∀ b, u b = true → u' b = true
  un : ∀ b, u' b = true → u b = true ∨ Ow l u' D' r' b
  dd : ∀ b, ¬ Ix l u' D' r' b → ∀ x, x < 64 → D' (b * 64 + x) = D (b * 64 + x)
  d8 : ∀ j, D' j < 256
  at_ : lk l u' D' r' k = f
  f0 : f ≠ 0
  els : ∀ k', k' < 16 ^ l → k' ≠ k → lk l u' D' r' k' = lk l u D r k'
  fold : lk l u D r k ≠ 0 → f = lk l u D r k
  fnew : lk l u D r k = 0 → u (f - 1) = false
theorem upd_true {u : Nat → Bool} {i b : Nat} (h : u b = true) : upd u i true b = true := by unfold upd; split; rfl; exact h
theorem upd_false {u : Nat → Bool} {i b : Nat} (h : upd u i true b = false) : u b = false := by
  unfold upd at h; split at h
  · cases h
  · exact h
theorem upd_self (u : Nat → Bool) (i : Nat) : upd u i true i = true := by simp [upd]
theorem upd_un {u : Nat → Bool} {i b : Nat} (h : upd u i true b = true) : u b = true ∨ b = i := by
  unfold upd at h; split at h
  · exact .inr (by assumption)
  · exact .inl h
/-- The indirect block is there: what its child takes. -/
theorem take_in {l n : Nat} {u : Nat → Bool} {D : Nat → Nat} {r k : Nat} {u2 : Nat → Bool} {D2 : Nat → Nat} {p f : Nat} (hD : ∀ j, D j < 256) (hr : r ≠ 0) (hrl : r < 4294967296) (hw : WF (l + 1) u D r) (hk : k < 16 ^ (l + 1))
    (T : TkOk l n u D (ptr u D r (k / 16 ^ l)) (k % 16 ^ l) u2 D2 p f) : TkOk (l + 1) n u D r k u2 (saved u2 D2 r (upd (ptr u D r) (k / 16 ^ l) p)) r f := by
  obtain ⟨h1, h2, h3, h4⟩ := hw hr
  have hg := div_lt16 hk
  have hlkk : lk (l + 1) u D r k = lk l u D (ptr u D r (k / 16 ^ l)) (k % 16 ^ l) := rfl
  generalize hgd : k / 16 ^ l = g at *
  have hr1 : u2 (r - 1) = true := T.up _ h1
  have hp : ∀ j, j < 16 → ptr u2 (saved u2 D2 r (upd (ptr u D r) g p)) r j = upd (ptr u D r) g p j := fun j hj => ptr_saved hr hr1 hj (by
    unfold upd; split
    · exact T.lt
    · exact ptr_lt u D hD r j)
  have hpg : ptr u2 (saved u2 D2 r (upd (ptr u D r) g p)) r g = p := by rw [hp g hg]; simp [upd]
  have hps : ∀ j, j < 16 → j ≠ g → ptr u2 (saved u2 D2 r (upd (ptr u D r) g p)) r j = ptr u D r j := fun j hj e => by rw [hp j hj]; simp [upd, e]
  have c1 : ¬ Ow l u2 D2 p (r - 1) := fun h => by
    rcases T.new _ h with h | h
    · exact h3 g hg h
    · rw [h1] at h; cases h.1
  have c2 : ∀ j, j < 16 → j ≠ g → ∀ b, Ow l u D (ptr u D r j) b → ¬ Ow l u2 D2 p b := fun j hj e b hb h => by
    rcases T.new _ h with h | h
    · exact h4 j g hj hg e b hb h
    · rw [ow_use _ _ _ _ _ (h2 j hj) hb] at h; cases h.1
  have fc := frame l u2 u2 D2 (saved u2 D2 r (upd (ptr u D r) g p)) p (fun _ _ => rfl) (fun b hb x hx => saved_other _ _ _ _ _ _ (fun e => c1 (e ▸ ix_ow _ _ _ _ _ hb)) hx)
  have fs := fun j (hj : j < 16) (e : j ≠ g) => frame l u u2 D (saved u2 D2 r (upd (ptr u D r) g p)) (ptr u D r j) (fun b hb => by have := ow_use _ _ _ _ _ (h2 j hj) hb; rw [T.up b this, this])
    (fun b hb x hx => (saved_other _ _ _ _ _ _ (fun e' => h3 j hj (e' ▸ ix_ow _ _ _ _ _ hb)) hx).trans (T.dd b (fun h => c2 j hj e b (ix_ow _ _ _ _ _ hb) (ix_ow _ _ _ _ _ h)) x hx))
  generalize hD3 : saved u2 D2 r (upd (ptr u D r) g p) = D3 at *
  have owg : ∀ b, Ow l u2 D3 (ptr u2 D3 r g) b ↔ Ow l u2 D2 p b := fun b => by rw [hpg]; exact fc.1 b
  have ows : ∀ j, j < 16 → j ≠ g → ∀ b, Ow l u2 D3 (ptr u2 D3 r j) b ↔ Ow l u D (ptr u D r j) b := fun j hj e b => by rw [hps j hj e]; exact (fs j hj e).1 b
  refine { ne := hr, lt := hrl, wf := fun _ => ⟨hr1, fun j hj => ?_, fun j hj h => ?_, fun i j hi hj hij b hb hb' => ?_⟩, new := fun b hb => ?_, old := fun b hb => ?_, up := T.up, un := fun b hb => ?_, dd := fun b hb x hx => ?_, d8 := fun j => hD3 ▸ saved_lt T.d8 j, at_ := ?_, f0 := T.f0, els := fun k' hk' hne => ?_, fold := fun h => by rw [hlkk] at h ⊢; exact T.fold h, fnew := fun h => T.fnew (by rw [← hlkk]; exact h) }
  · by_cases e : j = g
    · subst e; rw [hpg]; exact fc.2.2.1 T.wf
    · rw [hps j hj e]; exact (fs j hj e).2.2.1 (h2 j hj)
  · by_cases e : j = g
    · subst e; exact c1 ((owg _).1 h)
    · exact h3 j hj ((ows j hj e _).1 h)
  · by_cases ei : i = g
    · subst ei
      exact c2 j hj (fun e => hij e.symm) b ((ows j hj (fun e => hij e.symm) b).1 hb') ((owg b).1 hb)
    · by_cases ej : j = g
      · subst ej
        exact c2 i hi ei b ((ows i hi ei b).1 hb) ((owg b).1 hb')
      · exact h4 i j hi hj hij b ((ows i hi ei b).1 hb) ((ows j hj ej b).1 hb')
  · obtain ⟨-, h | ⟨j, hj, h⟩⟩ := hb
    · exact .inl ⟨hr, .inl h⟩
    · by_cases e : j = g
      · subst e
        rcases T.new b ((owg b).1 h) with h | h
        · exact .inl ⟨hr, .inr ⟨j, hj, h⟩⟩
        · exact .inr h
      · exact .inl ⟨hr, .inr ⟨j, hj, (ows j hj e b).1 h⟩⟩
  · obtain ⟨-, h | ⟨j, hj, h⟩⟩ := hb
    · exact ⟨hr, .inl h⟩
    · by_cases e : j = g
      · subst e; exact ⟨hr, .inr ⟨j, hj, (owg b).2 (T.old b h)⟩⟩
      · exact ⟨hr, .inr ⟨j, hj, (ows j hj e b).2 h⟩⟩
  · rcases T.un b hb with h | h
    · exact .inl h
    · exact .inr ⟨hr, .inr ⟨g, hg, (owg b).2 h⟩⟩
  · have e1 : b ≠ r - 1 := fun e => hb ⟨hr, .inl e⟩
    have e2 : ¬ Ix l u2 D2 p b := fun h => hb ⟨hr, .inr ⟨g, hg, by rw [hpg]; exact (fc.2.1 b).2 h⟩⟩
    rw [← hD3]
    exact (saved_other _ _ _ _ _ _ e1 hx).trans (T.dd b e2 x hx)
  · rw [lk, hgd, hpg, fc.2.2.2 _ (mod_lt16 l k)]
    exact T.at_
  · rw [lk, lk]
    by_cases e : k' / 16 ^ l = g
    · rw [e, hpg, fc.2.2.2 _ (mod_lt16 l k')]
      exact T.els _ (mod_lt16 l k') (fun em => hne (by rw [← Nat.div_add_mod k' (16 ^ l), ← Nat.div_add_mod k (16 ^ l), em, e, hgd]))
    · rw [hps _ (div_lt16 hk') e]
      exact (fs _ (div_lt16 hk') e).2.2.2 _ (mod_lt16 l k')
theorem tk_ok (n : Nat) (hn : n ≤ 4096) : ∀ (l : Nat) (u : Nat → Bool) (D : Nat → Nat) (r k : Nat) (u' : Nat → Bool) (D' : Nat → Nat) (r' f : Nat), WF l u D r → (∀ j, D j < 256) → (∀ i, i < n → u i = false → ∀ x, x < 64 → D (i * 64 + x) = 0) → r < 4294967296 → k < 16 ^ l →
    tk l n u D r k = some (u', D', r', f) → TkOk l n u D r k u' D' r' f
  | 0, u, D, r, k, u', D', r', f, hw, hD, hz, hrl, hk, h => by
    unfold tk at h
    simp at hk
    by_cases hr : r ≠ 0
    · rw [if_pos hr] at h
      simp only [Option.some.injEq, Prod.mk.injEq] at h
      obtain ⟨rfl, rfl, rfl, rfl⟩ := h
      exact ⟨hr, hrl, hw, fun _ h => .inl h, fun _ h => h, fun _ h => h, fun _ h => .inl h, fun _ _ _ _ => rfl, hD, rfl, hr, fun k' hk' hne => by simp at hk'; omega, fun _ => rfl, fun h => absurd h hr⟩
    · rw [if_neg hr] at h
      obtain rfl : r = 0 := by omega
      cases hlow : low u n with
      | none => rw [hlow] at h; cases h
      | some i =>
        rw [hlow] at h
        simp only [Option.map_some, Option.some.injEq, Prod.mk.injEq] at h
        obtain ⟨rfl, rfl, rfl, rfl⟩ := h
        obtain ⟨hi, hu, -⟩ := low_some hlow
        exact ⟨by omega, by omega, fun _ => by rw [Nat.add_sub_cancel]; exact upd_self u i, fun b hb => .inr (by rw [hb.2, Nat.add_sub_cancel]; exact ⟨hu, hi⟩), fun b hb => absurd hb (ow_zero _ _ _ _), fun _ h => upd_true h,
          fun b hb => (upd_un hb).imp_right (fun e => ⟨by omega, by omega⟩), fun _ _ _ _ => rfl, hD, rfl, by omega, fun k' hk' hne => by simp at hk'; omega, fun h => absurd rfl h, fun _ => by rw [Nat.add_sub_cancel]; exact hu⟩
  | l + 1, u, D, r, k, u', D', r', f, hw, hD, hz, hrl, hk, h => by
    unfold tk at h
    by_cases hr : r ≠ 0
    · rw [if_pos hr] at h
      simp only [Option.bind_some, Option.map_eq_some_iff] at h
      obtain ⟨⟨u2, D2, p, f2⟩, ht, h⟩ := h
      simp only [Prod.mk.injEq] at h
      obtain ⟨rfl, rfl, rfl, rfl⟩ := h
      exact take_in hD hr hrl hw hk (tk_ok n hn l u D _ _ _ _ _ _ ((hw hr).2.1 _ (div_lt16 hk)) hD hz (ptr_lt u D hD r _) (mod_lt16 l k) ht)
    · rw [if_neg hr] at h
      obtain rfl : r = 0 := by omega
      cases hlow : low u n with
      | none => rw [hlow] at h; cases h
      | some i =>
        rw [hlow] at h
        simp only [Option.map_some, Option.bind_some, Option.map_eq_some_iff] at h
        obtain ⟨⟨u2, D2, p, f2⟩, ht, h⟩ := h
        simp only [Prod.mk.injEq] at h
        obtain ⟨rfl, rfl, rfl, rfl⟩ := h
        obtain ⟨hi, hu, -⟩ := low_some hlow
        have hp0 : ∀ j, j < 16 → ptr (upd u i true) D (i + 1) j = 0 := fun j hj => ptr_fresh hj (hz i hi hu)
        have hw1 : WF (l + 1) (upd u i true) D (i + 1) := fun _ => ⟨by rw [Nat.add_sub_cancel]; exact upd_self u i, fun j hj => by rw [hp0 j hj]; exact wf_zero _ _ _, fun j hj => by rw [hp0 j hj]; exact ow_zero _ _ _ _, fun a b ha _ _ c hc => by rw [hp0 a ha] at hc; exact absurd hc (ow_zero _ _ _ _)⟩
        have hl0 : ∀ k', k' < 16 ^ (l + 1) → lk (l + 1) (upd u i true) D (i + 1) k' = 0 := fun k' hk' => by rw [lk, hp0 _ (div_lt16 hk'), lk_zero]
        have T := take_in hD (show i + 1 ≠ 0 by omega) (show i + 1 < 4294967296 by omega) hw1 hk (tk_ok n hn l (upd u i true) D _ _ _ _ _ _ (by rw [hp0 _ (div_lt16 hk)]; exact wf_zero _ _ _) hD (fun a ha hf => hz a ha (upd_false hf)) (ptr_lt _ D hD _ _) (mod_lt16 l k) ht)
        refine { ne := T.ne, lt := T.lt, wf := T.wf, new := fun b hb => ?_, old := fun b hb => absurd hb (ow_zero _ _ _ _), up := fun b hb => T.up b (upd_true hb), un := fun b hb => ?_, dd := T.dd, d8 := T.d8, at_ := T.at_, f0 := T.f0, els := fun k' hk' hne => ?_, fold := fun h => absurd (lk_zero _ _ _ _) h, fnew := fun _ => upd_false (T.fnew (hl0 k hk)) }
        · rcases T.new b hb with h | h
          · obtain ⟨-, h | ⟨j, hj, h⟩⟩ := h
            · rw [Nat.add_sub_cancel] at h; subst h; exact .inr ⟨hu, hi⟩
            · rw [hp0 j hj] at h; exact absurd h (ow_zero _ _ _ _)
          · exact .inr ⟨upd_false h.1, h.2⟩
        · rcases T.un b hb with h | h
          · rcases upd_un h with h | rfl
            · exact .inl h
            · exact .inr (T.old b ⟨by omega, .inl (by omega)⟩)
          · exact .inr h
        · rw [T.els k' hk' hne, hl0 k' hk', lk_zero]
end Mp
end Go.Proofs.YtgplmgliockbcaaDoor
