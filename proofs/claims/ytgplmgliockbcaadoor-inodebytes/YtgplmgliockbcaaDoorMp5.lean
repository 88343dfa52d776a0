/- Plain facts on prune and cut: what lies past the end goes, and is empty and free. No walk. -/
import Derived.Test.YtgplmgliockbcaaDoorMp4
namespace Go.Proofs.YtgplmgliockbcaaDoor
open Go.RowKit
namespace Mp
structure PrOk (l : Nat) (u : Nat → Bool) (D : Nat → Nat) (r : Nat) (keep : Int) (u' : Nat → Bool) (D' : Nat → Nat) (r' : Nat) : Prop where
  wf : WF l u' D' r'
  lt : r' ≤ r
  sub : ∀ b, Ow l u' D' r' b → Ow l u D r b
  dn : ∀ b, u' b = true → u b = true
  kp : ∀ b, u b = true → u' b = true ∨ (Ow l u D r b ∧ ¬ Ow l u' D' r' b)
  fr : ∀ b, Ow l u D r b → ¬ Ow l u' D' r' b → u' b = false ∧ ∀ x, x < 64 → D' (b * 64 + x) = 0
  out : ∀ b, ¬ Ow l u D r b → ∀ x, x < 64 → D' (b * 64 + x) = D (b * 64 + x)
  ix : ∀ b, Ow l u' D' r' b → Ix l u D r b → Ix l u' D' r' b
  lf : ∀ b, Ow l u' D' r' b → ¬ Ix l u' D' r' b → ∀ x, x < 64 → D' (b * 64 + x) = D (b * 64 + x)
  lk : ∀ k, k < 16 ^ l → lk l u' D' r' k = if (k : Int) < keep then lk l u D r k else 0
  d8 : ∀ j, D' j < 256
/-- A row of refs, the first i of them pruned. -/
structure Row (m : Nat) (lev rf : Nat → Nat) (kf : Nat → Int) (u : Nat → Bool) (D : Nat → Nat) (i : Nat) (u' : Nat → Bool) (D' q : Nat → Nat) : Prop where
  wf : ∀ j, j < m → WF (lev j) u' D' (q j)
  lt : ∀ j, j < m → q j ≤ rf j
  sub : ∀ j, j < m → ∀ b, Ow (lev j) u' D' (q j) b → Ow (lev j) u D (rf j) b
  dn : ∀ b, u' b = true → u b = true
  kp : ∀ b, u b = true → u' b = true ∨ ∃ j, j < m ∧ Ow (lev j) u D (rf j) b ∧ ¬ Ow (lev j) u' D' (q j) b
  fr : ∀ j, j < m → ∀ b, Ow (lev j) u D (rf j) b → ¬ Ow (lev j) u' D' (q j) b → u' b = false ∧ ∀ x, x < 64 → D' (b * 64 + x) = 0
  out : ∀ b, (∀ j, j < m → ¬ Ow (lev j) u D (rf j) b) → ∀ x, x < 64 → D' (b * 64 + x) = D (b * 64 + x)
  ix : ∀ j, j < m → ∀ b, Ow (lev j) u' D' (q j) b → Ix (lev j) u D (rf j) b → Ix (lev j) u' D' (q j) b
  lf : ∀ j, j < m → ∀ b, Ow (lev j) u' D' (q j) b → ¬ Ix (lev j) u' D' (q j) b → ∀ x, x < 64 → D' (b * 64 + x) = D (b * 64 + x)
  lk : ∀ j, j < m → ∀ k, k < 16 ^ lev j → lk (lev j) u' D' (q j) k = if j < i ∧ ¬ (k : Int) < kf j then 0 else lk (lev j) u D (rf j) k
  d8 : ∀ j, D' j < 256
theorem Row.start {m : Nat} {lev rf : Nat → Nat} {kf : Nat → Int} {u : Nat → Bool} {D : Nat → Nat} (hw : ∀ j, j < m → WF (lev j) u D (rf j)) (hD : ∀ j, D j < 256) : Row m lev rf kf u D 0 u D rf where
  wf := hw
  lt _ _ := Nat.le_refl _
  sub _ _ _ h := h
  dn _ h := h
  kp _ h := .inl h
  fr _ _ _ h h' := absurd h h'
  out _ _ _ _ := rfl
  ix _ _ _ _ h := h
  lf _ _ _ _ _ _ _ := rfl
  lk j _ k _ := by rw [if_neg (by omega)]
  d8 := hD
theorem Row.step {m : Nat} {lev rf : Nat → Nat} {kf : Nat → Int} {u : Nat → Bool} {D : Nat → Nat} {i : Nat} {ui : Nat → Bool} {Di q : Nat → Nat} (hdj : ∀ a b, a < m → b < m → a ≠ b → ∀ x, Ow (lev a) u D (rf a) x → ¬ Ow (lev b) u D (rf b) x)
    (R : Row m lev rf kf u D i ui Di q) (hi : i < m) {u' : Nat → Bool} {D' : Nat → Nat} {p : Nat} (P : PrOk (lev i) ui Di (q i) (kf i) u' D' p) : Row m lev rf kf u D (i + 1) u' D' (upd q i p) := by
  have hg : upd q i p i = p := by simp [upd]
  have hs : ∀ j, j ≠ i → upd q i p j = q j := fun j e => by simp [upd, e]
  have hno : ∀ j, j < m → j ≠ i → ∀ b, Ow (lev j) u D (rf j) b → ¬ Ow (lev i) ui Di (q i) b := fun j hj e b hb h => hdj j i hj hi e b hb (R.sub i hi b h)
  have fs := fun j (hj : j < m) (e : j ≠ i) => Mp.frame (lev j) ui u' Di D' (q j) (fun b hb => by
      have h1 := ow_use _ _ _ _ _ (R.wf j hj) hb
      rcases P.kp b h1 with h | h
      · rw [h, h1]
      · exact absurd h.1 (hno j hj e b (R.sub j hj b hb)))
    (fun b hb x hx => P.out b (hno j hj e b (R.sub j hj b (ix_ow _ _ _ _ _ hb))) x hx)
  have hf : ∀ b, ui b = false → u' b = false := fun b hb => by
    cases h : u' b with
    | false => rfl
    | true => rw [P.dn b h] at hb; cases hb
  refine { wf := fun j hj => ?_, lt := fun j hj => ?_, sub := fun j hj b hb => ?_, dn := fun b h => R.dn b (P.dn b h), kp := fun b h => ?_, fr := fun j hj b hb hn => ?_, out := fun b hb x hx => ?_, ix := fun j hj b hb hx => ?_, lf := fun j hj b hb hn x hx => ?_, lk := fun j hj k hk => ?_, d8 := P.d8 }
  · by_cases e : j = i
    · subst e; rw [hg]; exact P.wf
    · rw [hs j e]; exact (fs j hj e).2.2.1 (R.wf j hj)
  · by_cases e : j = i
    · subst e; rw [hg]; exact Nat.le_trans P.lt (R.lt j hj)
    · rw [hs j e]; exact R.lt j hj
  · by_cases e : j = i
    · subst e; rw [hg] at hb; exact R.sub j hj b (P.sub b hb)
    · rw [hs j e] at hb; exact R.sub j hj b (((fs j hj e).1 b).1 hb)
  · rcases R.kp b h with h | ⟨j, hj, h1, h2⟩
    · rcases P.kp b h with h | h
      · exact .inl h
      · exact .inr ⟨i, hi, R.sub i hi b h.1, by rw [hg]; exact h.2⟩
    · refine .inr ⟨j, hj, h1, fun h => h2 ?_⟩
      by_cases e : j = i
      · subst e; rw [hg] at h; exact P.sub b h
      · rw [hs j e] at h; exact ((fs j hj e).1 b).1 h
  · by_cases e : j = i
    · subst e
      rw [hg] at hn
      by_cases ho : Ow (lev j) ui Di (q j) b
      · exact P.fr b ho hn
      · obtain ⟨h1, h2⟩ := R.fr j hj b hb ho
        exact ⟨hf b h1, fun x hx => (P.out b ho x hx).trans (h2 x hx)⟩
    · rw [hs j e] at hn
      obtain ⟨h1, h2⟩ := R.fr j hj b hb (fun h => hn (((fs j hj e).1 b).2 h))
      exact ⟨hf b h1, fun x hx => (P.out b (hno j hj e b hb) x hx).trans (h2 x hx)⟩
  · exact (P.out b (fun h => hb i hi (R.sub i hi b h)) x hx).trans (R.out b hb x hx)
  · by_cases e : j = i
    · subst e; rw [hg] at hb ⊢; exact P.ix b hb (R.ix j hj b (P.sub b hb) hx)
    · rw [hs j e] at hb ⊢; exact ((fs j hj e).2.1 b).2 (R.ix j hj b (((fs j hj e).1 b).1 hb) hx)
  · by_cases e : j = i
    · subst e
      rw [hg] at hb hn
      exact (P.lf b hb hn x hx).trans (R.lf j hj b (P.sub b hb) (fun h => hn (P.ix b hb h)) x hx)
    · rw [hs j e] at hb hn
      have hb' := ((fs j hj e).1 b).1 hb
      exact (P.out b (hno j hj e b (R.sub j hj b hb')) x hx).trans (R.lf j hj b hb' (fun h => hn (((fs j hj e).2.1 b).2 h)) x hx)
  · by_cases e : j = i
    · subst e
      rw [hg, P.lk k hk]
      by_cases hlt : (k : Int) < kf j
      · rw [if_pos hlt, if_neg (fun h => h.2 hlt), R.lk j hj k hk, if_neg (by omega)]
      · rw [if_neg hlt, if_pos ⟨by omega, hlt⟩]
    · rw [hs j e, (fs j hj e).2.2.2 k hk, R.lk j hj k hk]
      by_cases hlt : (k : Int) < kf j
      · rw [if_neg (fun h => h.2 hlt), if_neg (fun h => h.2 hlt)]
      · by_cases hji : j < i
        · rw [if_pos ⟨hji, hlt⟩, if_pos ⟨by omega, hlt⟩]
        · rw [if_neg (fun h => hji h.1), if_neg (fun h => by omega)]
theorem freeU_in {u : Nat → Bool} {r : Nat} (hr : r ≠ 0) (hu : u (r - 1) = true) : freeU u r = upd u (r - 1) false := by unfold freeU; rw [if_pos ⟨hr, hu⟩]
theorem freeD_in {u : Nat → Bool} {D : Nat → Nat} {r : Nat} (hr : r ≠ 0) (hu : u (r - 1) = true) : freeD u D r = over D ((r - 1) * 64) zeros := by unfold freeD; rw [if_pos ⟨hr, hu⟩]
theorem over_z {D : Nat → Nat} {c b x : Nat} (hx : x < 64) : over D (c * 64) zeros (b * 64 + x) = if b = c then 0 else D (b * 64 + x) := by
  by_cases e : b = c
  · subst e; rw [if_pos rfl]; exact over_zero _ _ _ (by omega) (by omega)
  · rw [if_neg e]; exact over_else _ _ _ _ (by simp [zeros]; omega)
theorem over_z8 {D : Nat → Nat} {o : Nat} (hD : ∀ j, D j < 256) (j : Nat) : over D o zeros j < 256 := over_lt hD (fun x hx => by simp [zeros] at hx; omega) j
theorem same_ok {l : Nat} {u : Nat → Bool} {D : Nat → Nat} {r : Nat} {keep : Int} (hw : WF l u D r) (hD : ∀ j, D j < 256) (h : r = 0 ∨ ((16 ^ l : Nat) : Int) ≤ keep) : PrOk l u D r keep u D r where
  wf := hw
  lt := Nat.le_refl _
  sub _ h := h
  dn _ h := h
  kp _ h := .inl h
  fr _ h h' := absurd h h'
  out _ _ _ _ := rfl
  ix _ _ h := h
  lf _ _ _ _ _ := rfl
  lk k hk := by
    rcases h with h | h
    · subst h; rw [lk_zero]; split <;> rfl
    · rw [if_pos (by have : ((k : Nat) : Int) < ((16 ^ l : Nat) : Int) := Int.ofNat_lt.2 hk; omega)]
  d8 := hD
theorem prRow_ok {l : Nat} {u : Nat → Bool} {D : Nat → Nat} {r : Nat} {keep : Int} (hr : r ≠ 0) (hw : WF (l + 1) u D r) (hD : ∀ j, D j < 256)
    (ih : ∀ (u : Nat → Bool) (D : Nat → Nat) (r : Nat) (keep : Int), WF l u D r → (∀ j, D j < 256) → PrOk l u D r keep (pr l u D r keep).1 (pr l u D r keep).2.1 (pr l u D r keep).2.2) :
    ∀ i, i ≤ 16 → Row 16 (fun _ => l) (ptr u D r) (fun j => keep - (j * 16 ^ l : Nat)) u D i (prRow (pr l) (16 ^ l) keep i (u, D, ptr u D r)).1 (prRow (pr l) (16 ^ l) keep i (u, D, ptr u D r)).2.1 (prRow (pr l) (16 ^ l) keep i (u, D, ptr u D r)).2.2
  | 0, _ => Row.start (hw hr).2.1 hD
  | i + 1, hi => by
    have I := prRow_ok (keep := keep) hr hw hD ih i (by omega)
    rw [prRow]
    exact I.step (hw hr).2.2.2 (by omega) (ih _ _ _ _ (I.wf i (by omega)) I.d8)
theorem pr_ok : ∀ (l : Nat) (u : Nat → Bool) (D : Nat → Nat) (r : Nat) (keep : Int), WF l u D r → (∀ j, D j < 256) → PrOk l u D r keep (pr l u D r keep).1 (pr l u D r keep).2.1 (pr l u D r keep).2.2
  | 0, u, D, r, keep, hw, hD => by
    rw [pr]
    by_cases h : r = 0 ∨ 1 ≤ keep
    · rw [if_pos h]
      exact same_ok hw hD (by simpa using h)
    · rw [if_neg h]
      have hr : r ≠ 0 := fun e => h (.inl e)
      have hu := hw hr
      show PrOk 0 u D r keep (freeU u r) (freeD u D r) 0
      rw [freeU_in hr hu, freeD_in hr hu]
      refine { wf := wf_zero _ _ _, lt := Nat.zero_le _, sub := fun b hb => absurd hb (ow_zero _ _ _ _), dn := fun b hb => ?_, kp := fun b hb => ?_, fr := fun b hb _ => ?_, out := fun b hb x hx => ?_, ix := fun b hb => absurd hb (ow_zero _ _ _ _), lf := fun b hb => absurd hb (ow_zero _ _ _ _), lk := fun k hk => ?_, d8 := over_z8 hD }
      · unfold upd at hb; split at hb
        · cases hb
        · exact hb
      · by_cases e : b = r - 1
        · exact .inr ⟨⟨hr, e⟩, ow_zero _ _ _ _⟩
        · exact .inl (by unfold upd; rw [if_neg e]; exact hb)
      · rw [hb.2]
        exact ⟨by simp [upd], fun x hx => by rw [over_z hx, if_pos rfl]⟩
      · rw [over_z hx, if_neg (fun e => hb ⟨hr, e⟩)]
      · simp at hk
        rw [lk_zero, if_neg (by omega)]
  | l + 1, u, D, r, keep, hw, hD => by
    rw [pr]
    by_cases h : r = 0 ∨ ((16 ^ (l + 1) : Nat) : Int) ≤ keep
    · rw [if_pos h]
      exact same_ok hw hD h
    · rw [if_neg h]
      have hr : r ≠ 0 := fun e => h (.inl e)
      obtain ⟨h1, h2, h3, h4⟩ := hw hr
      have R := prRow_ok (keep := keep) hr hw hD (fun u D r keep hw hD => pr_ok l u D r keep hw hD) 16 (Nat.le_refl _)
      generalize prRow (pr l) (16 ^ l) keep 16 (u, D, ptr u D r) = E at *
      obtain ⟨ue, De, q⟩ := E
      simp only at R ⊢
      have hue : ue (r - 1) = true := by
        rcases R.kp (r - 1) h1 with h | ⟨j, hj, h, _⟩
        · exact h
        · exact absurd h (h3 j hj)
      have hcut : ∀ k, k < 16 ^ (l + 1) → (((k % 16 ^ l : Nat) : Int) < keep - (k / 16 ^ l * 16 ^ l : Nat) ↔ (k : Int) < keep) := fun k _ => by
        have e : k / 16 ^ l * 16 ^ l + k % 16 ^ l = k := by rw [Nat.mul_comm]; exact Nat.div_add_mod k _
        generalize k / 16 ^ l * 16 ^ l = a at *
        generalize k % 16 ^ l = c at *
        omega
      have hlk : ∀ k, k < 16 ^ (l + 1) → lk l ue De (q (k / 16 ^ l)) (k % 16 ^ l) = if (k : Int) < keep then lk (l + 1) u D r k else 0 := fun k hk => by
        rw [R.lk _ (div_lt16 hk) _ (mod_lt16 l k)]
        by_cases hlt : (k : Int) < keep
        · rw [if_pos hlt, if_neg (fun h => h.2 ((hcut k hk).2 hlt))]
          rfl
        · rw [if_neg hlt, if_pos ⟨div_lt16 hk, fun h => hlt ((hcut k hk).1 h)⟩]
      by_cases hz : allZ q = true
      · rw [if_pos hz, freeU_in hr hue, freeD_in hr hue]
        show PrOk (l + 1) u D r keep (upd ue (r - 1) false) (over De ((r - 1) * 64) zeros) 0
        have hq0 : ∀ j, j < 16 → q j = 0 := fun j hj => by
          have := List.all_eq_true.1 hz j (List.mem_range.2 hj)
          simpa using this
        refine { wf := wf_zero _ _ _, lt := Nat.zero_le _, sub := fun b hb => absurd hb (ow_zero _ _ _ _), dn := fun b hb => ?_, kp := fun b hb => ?_, fr := fun b hb _ => ?_, out := fun b hb x hx => ?_, ix := fun b hb => absurd hb (ow_zero _ _ _ _), lf := fun b hb => absurd hb (ow_zero _ _ _ _), lk := fun k hk => ?_, d8 := over_z8 R.d8 }
        · unfold upd at hb; split at hb
          · cases hb
          · exact R.dn b hb
        · rcases R.kp b hb with h | ⟨j, hj, h, _⟩
          · by_cases e : b = r - 1
            · exact .inr ⟨⟨hr, .inl e⟩, ow_zero _ _ _ _⟩
            · exact .inl (by unfold upd; rw [if_neg e]; exact h)
          · exact .inr ⟨⟨hr, .inr ⟨j, hj, h⟩⟩, ow_zero _ _ _ _⟩
        · obtain ⟨-, h | ⟨j, hj, h⟩⟩ := hb
          · rw [h]
            exact ⟨by simp [upd], fun x hx => by rw [over_z hx, if_pos rfl]⟩
          · obtain ⟨a1, a2⟩ := R.fr j hj b h (by rw [hq0 j hj]; exact ow_zero _ _ _ _)
            refine ⟨?_, fun x hx => ?_⟩
            · unfold upd; split
              · rfl
              · exact a1
            · rw [over_z hx]; split
              · rfl
              · exact a2 x hx
        · rw [over_z hx, if_neg (fun e => hb ⟨hr, .inl e⟩)]
          exact R.out b (fun j hj h => hb ⟨hr, .inr ⟨j, hj, h⟩⟩) x hx
        · have := hlk k hk
          rw [hq0 _ (div_lt16 hk), lk_zero] at this
          rw [lk_zero]
          exact this
      · rw [if_neg hz]
        show PrOk (l + 1) u D r keep ue (saved ue De r q) r
        have hp : ∀ j, j < 16 → ptr ue (saved ue De r q) r j = q j := fun j hj => ptr_saved hr hue hj (Nat.lt_of_le_of_lt (R.lt j hj) (ptr_lt u D hD r j))
        have hc1 : ∀ j, j < 16 → ¬ Ow l ue De (q j) (r - 1) := fun j hj h => h3 j hj (R.sub j hj _ h)
        have fs := fun j (hj : j < 16) => Mp.frame l ue ue De (saved ue De r q) (q j) (fun _ _ => rfl) (fun b hb x hx => saved_other _ _ _ _ _ _ (fun e => hc1 j hj (e ▸ ix_ow _ _ _ _ _ hb)) hx)
        have so : ∀ b x, b ≠ r - 1 → x < 64 → saved ue De r q (b * 64 + x) = De (b * 64 + x) := fun b x => saved_other _ _ _ _ _ _
        have s8 : ∀ j, saved ue De r q j < 256 := saved_lt R.d8
        generalize saved ue De r q = D3 at *
        have ows : ∀ j, j < 16 → ∀ b, Ow l ue D3 (ptr ue D3 r j) b ↔ Ow l ue De (q j) b := fun j hj b => by rw [hp j hj]; exact (fs j hj).1 b
        have ixs : ∀ j, j < 16 → ∀ b, Ix l ue D3 (ptr ue D3 r j) b ↔ Ix l ue De (q j) b := fun j hj b => by rw [hp j hj]; exact (fs j hj).2.1 b
        refine { wf := fun _ => ⟨hue, fun j hj => by rw [hp j hj]; exact (fs j hj).2.2.1 (R.wf j hj), fun j hj h => hc1 j hj ((ows j hj _).1 h), fun i j hi hj hij b hb hb' => h4 i j hi hj hij b (R.sub i hi b ((ows i hi b).1 hb)) (R.sub j hj b ((ows j hj b).1 hb'))⟩, lt := Nat.le_refl _, sub := fun b hb => ?_, dn := R.dn, kp := fun b hb => ?_, fr := fun b hb hn => ?_, out := fun b hb x hx => ?_, ix := fun b hb hx => ?_, lf := fun b hb hn x hx => ?_, lk := fun k hk => ?_, d8 := s8 }
        · obtain ⟨-, h | ⟨j, hj, h⟩⟩ := hb
          · exact ⟨hr, .inl h⟩
          · exact ⟨hr, .inr ⟨j, hj, R.sub j hj b ((ows j hj b).1 h)⟩⟩
        · rcases R.kp b hb with h | ⟨j, hj, h, hn⟩
          · exact .inl h
          · refine .inr ⟨⟨hr, .inr ⟨j, hj, h⟩⟩, ?_⟩
            rintro ⟨-, h' | ⟨i, hi, h'⟩⟩
            · subst h'; exact h3 j hj h
            · by_cases e : i = j
              · subst e; exact hn ((ows i hi b).1 h')
              · exact h4 i j hi hj e b (R.sub i hi b ((ows i hi b).1 h')) h
        · obtain ⟨-, h | ⟨j, hj, h⟩⟩ := hb
          · exact absurd ⟨hr, .inl h⟩ hn
          · obtain ⟨a1, a2⟩ := R.fr j hj b h (fun h' => hn ⟨hr, .inr ⟨j, hj, (ows j hj b).2 h'⟩⟩)
            exact ⟨a1, fun x hx => (so b x (fun e => h3 j hj (e ▸ h)) hx).trans (a2 x hx)⟩
        · exact (so b x (fun e => hb ⟨hr, .inl e⟩) hx).trans (R.out b (fun j hj h => hb ⟨hr, .inr ⟨j, hj, h⟩⟩) x hx)
        · obtain ⟨-, h | ⟨j, hj, h⟩⟩ := hx
          · exact ⟨hr, .inl h⟩
          · obtain ⟨-, h' | ⟨i, hi, h'⟩⟩ := hb
            · exact ⟨hr, .inl h'⟩
            · by_cases e : i = j
              · subst e; exact ⟨hr, .inr ⟨i, hi, (ixs i hi b).2 (R.ix i hi b ((ows i hi b).1 h') h)⟩⟩
              · exact absurd (ix_ow _ _ _ _ _ h) (h4 i j hi hj e b (R.sub i hi b ((ows i hi b).1 h')))
        · obtain ⟨-, h | ⟨j, hj, h⟩⟩ := hb
          · exact absurd ⟨hr, .inl h⟩ hn
          · have e1 : b ≠ r - 1 := fun e => hn ⟨hr, .inl e⟩
            exact (so b x e1 hx).trans (R.lf j hj b ((ows j hj b).1 h) (fun h' => hn ⟨hr, .inr ⟨j, hj, (ixs j hj b).2 h'⟩⟩) x hx)
        · rw [← hlk k hk, Go.Proofs.YtgplmgliockbcaaDoor.lk, hp _ (div_lt16 hk)]
          exact (fs _ (div_lt16 hk)).2.2.2 _ (mod_lt16 l k)
end Mp
end Go.Proofs.YtgplmgliockbcaaDoor
