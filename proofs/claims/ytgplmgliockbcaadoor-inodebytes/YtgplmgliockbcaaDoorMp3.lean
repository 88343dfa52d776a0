/- Plain facts on a file: eight refs, 278 places; take, a write into a leaf, a whole write. No walk. -/
import Derived.Test.YtgplmgliockbcaaDoorMp2
namespace Go.Proofs.YtgplmgliockbcaaDoor
open Go.RowKit
namespace Mp
/-- A file's blocks. -/
def OwF (u : Nat → Bool) (D : Nat → Nat) (R : Nat → Nat) (b : Nat) : Prop := ∃ j, j < 8 ∧ Ow (lwOf j) u D (R j) b
structure FI (u : Nat → Bool) (D : Nat → Nat) (R : Nat → Nat) : Prop where
  wf : ∀ j, j < 8 → WF (lwOf j) u D (R j)
  dj : ∀ i j, i < 8 → j < 8 → i ≠ j → ∀ b, Ow (lwOf i) u D (R i) b → ¬ Ow (lwOf j) u D (R j) b
  lt : ∀ j, j < 8 → R j < 4294967296
theorem FI.use {u : Nat → Bool} {D R : Nat → Nat} (h : FI u D R) {b : Nat} (hb : OwF u D R b) : u b = true := by
  obtain ⟨j, hj, hb⟩ := hb
  exact ow_use _ _ _ _ _ (h.wf j hj) hb
theorem lv_rt (k : Nat) : lv k = lwOf (rt k) := by
  unfold lv lwOf rt
  by_cases h : k < 6
  · simp [h]
  · by_cases h2 : k < 22
    · simp [h, h2]
    · simp [h, h2]
theorem kk_lt (k : Nat) (h : k < 278) : kk k < 16 ^ lv k := by
  unfold kk lv
  by_cases h1 : k < 6
  · simp [h1]
  · by_cases h2 : k < 22
    · simp [h1, h2]; omega
    · simp [h1, h2]; omega
theorem kk_inj {k k' : Nat} (h : rt k = rt k') (hne : k ≠ k') : kk k ≠ kk k' := by
  unfold rt at h
  unfold kk
  by_cases a1 : k < 6 <;> by_cases b1 : k' < 6 <;> by_cases a2 : k < 22 <;> by_cases b2 : k' < 22 <;> simp [a1, b1, a2, b2] at h ⊢ <;> omega
/-- What is as it was where a file's refs lie leads where it led. -/
theorem FI.frame {u u' : Nat → Bool} {D D' R : Nat → Nat} (h : FI u D R) (hu : ∀ b, OwF u D R b → u' b = u b) (hd : ∀ b, (∃ j, j < 8 ∧ Ix (lwOf j) u D (R j) b) → ∀ x, x < 64 → D' (b * 64 + x) = D (b * 64 + x)) :
    FI u' D' R ∧ (∀ b, OwF u' D' R b ↔ OwF u D R b) ∧ ∀ k, k < 278 → lkAt u' D' R k = lkAt u D R k := by
  have f := fun j (hj : j < 8) => Mp.frame (lwOf j) u u' D D' (R j) (fun b hb => hu b ⟨j, hj, hb⟩) (fun b hb => hd b ⟨j, hj, hb⟩)
  refine ⟨⟨fun j hj => (f j hj).2.2.1 (h.wf j hj), fun i j hi hj hij b hb hb' => h.dj i j hi hj hij b (((f i hi).1 b).1 hb) (((f j hj).1 b).1 hb'), h.lt⟩, fun b => ?_, fun k hk => ?_⟩
  · constructor
    · rintro ⟨j, hj, hb⟩; exact ⟨j, hj, ((f j hj).1 b).1 hb⟩
    · rintro ⟨j, hj, hb⟩; exact ⟨j, hj, ((f j hj).1 b).2 hb⟩
  · unfold lkAt
    rw [lv_rt]
    exact (f _ (rt_lt k)).2.2.2 _ (by rw [← lv_rt]; exact kk_lt k hk)
theorem lkAt_ow {u : Nat → Bool} {D R : Nat → Nat} {k : Nat} (hk : k < 278) (h : lkAt u D R k ≠ 0) : Ow (lwOf (rt k)) u D (R (rt k)) (lkAt u D R k - 1) := by
  unfold lkAt at h ⊢
  rw [lv_rt] at h ⊢
  exact lk_ow _ _ _ _ _ (by rw [← lv_rt]; exact kk_lt k hk) h
theorem FI.leaf {u : Nat → Bool} {D R : Nat → Nat} (h : FI u D R) {k : Nat} (hk : k < 278) (h0 : lkAt u D R k ≠ 0) : ¬ ∃ j, j < 8 ∧ Ix (lwOf j) u D (R j) (lkAt u D R k - 1) := by
  rintro ⟨j, hj, hx⟩
  have ho := lkAt_ow hk h0
  by_cases e : j = rt k
  · subst e
    unfold lkAt at h0 hx
    rw [lv_rt] at h0 hx
    exact lk_leaf _ _ _ _ _ (h.wf _ hj) (by rw [← lv_rt]; exact kk_lt k hk) h0 hx
  · exact h.dj j _ hj (rt_lt k) e _ (ix_ow _ _ _ _ _ hx) ho
theorem FI.inj {u : Nat → Bool} {D R : Nat → Nat} (h : FI u D R) {k k' : Nat} (hk : k < 278) (hk' : k' < 278) (hne : k ≠ k') (h0 : lkAt u D R k ≠ 0) : lkAt u D R k ≠ lkAt u D R k' := fun e => by
  have o1 := lkAt_ow hk h0
  have o2 := lkAt_ow (u := u) (D := D) (R := R) hk' (by rw [← e]; exact h0)
  rw [← e] at o2
  by_cases ej : rt k = rt k'
  · have hkk := kk_inj ej hne
    unfold lkAt at h0 e
    have l1 := kk_lt k hk
    have l2 := kk_lt k' hk'
    rw [lv_rt] at h0 e l1
    rw [lv_rt, ← ej] at e l2
    exact lk_inj _ _ _ _ _ _ (h.wf _ (rt_lt k)) l1 l2 hkk h0 e
  · exact h.dj _ _ (rt_lt k) (rt_lt k') ej _ o1 o2
structure TaOk (n : Nat) (u : Nat → Bool) (D R : Nat → Nat) (k : Nat) (u' : Nat → Bool) (D' R' : Nat → Nat) (f : Nat) : Prop where
  fi : FI u' D' R'
  new : ∀ b, OwF u' D' R' b → OwF u D R b ∨ (u b = false ∧ b < n)
  old : ∀ b, OwF u D R b → OwF u' D' R' b
  up : ∀ b, u b = true → u' b = true
  un : ∀ b, u' b = true → u b = true ∨ OwF u' D' R' b
  out : ∀ b, ¬ OwF u' D' R' b → ∀ x, x < 64 → D' (b * 64 + x) = D (b * 64 + x)
  d8 : ∀ j, D' j < 256
  at_ : lkAt u' D' R' k = f
  f0 : f ≠ 0
  rd : ∀ x, x < 17792 → rd u' D' R' x = rd u D R x
theorem TaOk.free {n : Nat} {u : Nat → Bool} {D R : Nat → Nat} {k : Nat} {u' : Nat → Bool} {D' R' : Nat → Nat} {f : Nat} (T : TaOk n u D R k u' D' R' f) (hz : ∀ i, i < n → u i = false → ∀ x, x < 64 → D (i * 64 + x) = 0) :
    ∀ i, i < n → u' i = false → ∀ x, x < 64 → D' (i * 64 + x) = 0 := fun i hi h x hx => by
  have h1 : ¬ OwF u' D' R' i := fun ho => by rw [T.fi.use ho] at h; cases h
  have h2 : u i = false := by
    cases hu : u i with
    | false => rfl
    | true => rw [T.up i hu] at h; cases h
  rw [T.out i h1 x hx]
  exact hz i hi h2 x hx
theorem tkAt_ok {n : Nat} (hn : n ≤ 4096) {u : Nat → Bool} {D R : Nat → Nat} {k : Nat} {u' : Nat → Bool} {D' : Nat → Nat} {r' f : Nat} (F : FI u D R) (hD : ∀ j, D j < 256) (hz : ∀ i, i < n → u i = false → ∀ x, x < 64 → D (i * 64 + x) = 0) (hk : k < 278)
    (h : tkAt n u D R k = some (u', D', r', f)) : TaOk n u D R k u' D' (upd R (rt k) r') f := by
  have hkl := kk_lt k hk
  unfold tkAt at h
  rw [lv_rt] at h hkl
  have hR0 := rt_lt k
  have T := tk_ok n hn (lwOf (rt k)) u D (R (rt k)) (kk k) u' D' r' f (F.wf _ hR0) hD hz (F.lt _ hR0) hkl h
  have hg : upd R (rt k) r' (rt k) = r' := by simp [upd]
  have hs : ∀ j, j ≠ rt k → upd R (rt k) r' j = R j := fun j e => by simp [upd, e]
  have c2 : ∀ j, j < 8 → j ≠ rt k → ∀ b, Ow (lwOf j) u D (R j) b → ¬ Ow (lwOf (rt k)) u' D' r' b := fun j hj e b hb h => by
    rcases T.new b h with h | h
    · exact F.dj j _ hj hR0 e b hb h
    · rw [ow_use _ _ _ _ _ (F.wf j hj) hb] at h; cases h.1
  have fs := fun j (hj : j < 8) (e : j ≠ rt k) => Mp.frame (lwOf j) u u' D D' (R j) (fun b hb => by have := ow_use _ _ _ _ _ (F.wf j hj) hb; rw [T.up b this, this]) (fun b hb x hx => T.dd b (fun h => c2 j hj e b (ix_ow _ _ _ _ _ hb) (ix_ow _ _ _ _ _ h)) x hx)
  have ows : ∀ j, j < 8 → j ≠ rt k → ∀ b, Ow (lwOf j) u' D' (upd R (rt k) r' j) b ↔ Ow (lwOf j) u D (R j) b := fun j hj e b => by rw [hs j e]; exact (fs j hj e).1 b
  have hfi : FI u' D' (upd R (rt k) r') := by
    refine ⟨fun j hj => ?_, fun i j hi hj hij b hb hb' => ?_, fun j hj => ?_⟩
    · by_cases e : j = rt k
      · subst e; rw [hg]; exact T.wf
      · rw [hs j e]; exact (fs j hj e).2.2.1 (F.wf j hj)
    · by_cases ei : i = rt k
      · subst ei
        rw [hg] at hb
        exact c2 j hj (fun e => hij e.symm) b ((ows j hj (fun e => hij e.symm) b).1 hb') hb
      · by_cases ej : j = rt k
        · subst ej
          rw [hg] at hb'
          exact c2 i hi ei b ((ows i hi ei b).1 hb) hb'
        · exact F.dj i j hi hj hij b ((ows i hi ei b).1 hb) ((ows j hj ej b).1 hb')
    · by_cases e : j = rt k
      · subst e; rw [hg]; exact T.lt
      · rw [hs j e]; exact F.lt j hj
  have hels : ∀ k', k' < 278 → k' ≠ k → lkAt u' D' (upd R (rt k) r') k' = lkAt u D R k' := fun k' hk' hne => by
    have hkl' := kk_lt k' hk'
    unfold lkAt
    rw [lv_rt] at hkl' ⊢
    by_cases e : rt k' = rt k
    · rw [e] at hkl' ⊢
      rw [hg]
      exact T.els _ hkl' (kk_inj e hne)
    · rw [hs _ e]
      exact (fs _ (rt_lt k') e).2.2.2 _ hkl'
  have hat : lkAt u' D' (upd R (rt k) r') k = f := by
    unfold lkAt
    rw [lv_rt, hg]
    exact T.at_
  have hlf : ∀ k', k' < 278 → lkAt u' D' (upd R (rt k) r') k' ≠ 0 → ∀ x, x < 64 → D' ((lkAt u' D' (upd R (rt k) r') k' - 1) * 64 + x) = D ((lkAt u' D' (upd R (rt k) r') k' - 1) * 64 + x) := fun k' hk' h0 x hx =>
    T.dd _ (fun hx => hfi.leaf hk' h0 ⟨rt k, hR0, by rw [hg]; exact hx⟩) x hx
  refine ⟨hfi, fun b hb => ?_, fun b hb => ?_, T.up, fun b hb => ?_, fun b hb x hx => ?_, T.d8, hat, T.f0, fun x hx => ?_⟩
  · obtain ⟨j, hj, hb⟩ := hb
    by_cases e : j = rt k
    · subst e
      rw [hg] at hb
      rcases T.new b hb with h | h
      · exact .inl ⟨_, hj, h⟩
      · exact .inr h
    · exact .inl ⟨j, hj, (ows j hj e b).1 hb⟩
  · obtain ⟨j, hj, hb⟩ := hb
    by_cases e : j = rt k
    · subst e; exact ⟨_, hj, by rw [hg]; exact T.old b hb⟩
    · exact ⟨j, hj, (ows j hj e b).2 hb⟩
  · rcases T.un b hb with h | h
    · exact .inl h
    · exact .inr ⟨_, hR0, by rw [hg]; exact h⟩
  · exact T.dd b (fun h => hb ⟨_, hR0, by rw [hg]; exact ix_ow _ _ _ _ _ h⟩) x hx
  · have hx2 : x / 64 < 278 := by omega
    have hx3 : x % 64 < 64 := by omega
    unfold Go.Proofs.YtgplmgliockbcaaDoor.rd
    by_cases e : x / 64 = k
    · rw [e, hat]
      have hu' : u' (f - 1) = true := by
        have := hfi.use ⟨_, hR0, lkAt_ow hk (by rw [hat]; exact T.f0)⟩
        rw [hat] at this
        exact this
      rw [if_pos ⟨T.f0, hu'⟩]
      have hl := hlf k hk (by rw [hat]; exact T.f0) (x % 64) hx3
      rw [hat] at hl
      rw [hl]
      have hold : lkAt u D R k = lk (lwOf (rt k)) u D (R (rt k)) (kk k) := by unfold lkAt; rw [lv_rt]
      by_cases h0 : lkAt u D R k = 0
      · rw [if_neg (by rw [h0]; simp)]
        have hf := T.fnew (by rw [← hold]; exact h0)
        have hfn : f - 1 < n := Nat.lt_of_not_le fun hge => by
          rcases T.new (f - 1) (by rw [← T.at_]; exact lk_ow _ _ _ _ _ hkl (by rw [T.at_]; exact T.f0)) with h | h
          · rw [ow_use _ _ _ _ _ (F.wf _ hR0) h] at hf; cases hf
          · omega
        exact hz _ hfn hf _ hx3
      · have hf := T.fold (by rw [← hold]; exact h0)
        rw [← hold] at hf
        rw [if_pos ⟨h0, F.use ⟨_, hR0, lkAt_ow hk h0⟩⟩, hf]
    · rw [hels _ hx2 e]
      by_cases h0 : lkAt u D R (x / 64) = 0
      · rw [if_neg (by rw [h0]; simp), if_neg (by rw [h0]; simp)]
      · have hl := hlf _ hx2 (by rw [hels _ hx2 e]; exact h0) (x % 64) hx3
        rw [hels _ hx2 e] at hl
        have hu1 := F.use ⟨_, rt_lt _, lkAt_ow hx2 h0⟩
        rw [if_pos ⟨h0, T.up _ hu1⟩, if_pos ⟨h0, hu1⟩, hl]
end Mp
end Go.Proofs.YtgplmgliockbcaaDoor
