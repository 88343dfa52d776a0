/- Plain facts on cut and truncate: what is read behind them. No walk. -/
import Derived.Test.YtgplmgliockbcaaDoorMp5
import Derived.Test.YtgplmgliockbcaaDoorTrunc
namespace Go.Proofs.YtgplmgliockbcaaDoor
open Go.RowKit
namespace Mp
theorem cut_row {keep : Int} {u : Nat → Bool} {D R : Nat → Nat} (F : FI u D R) (hD : ∀ j, D j < 256) : ∀ i, i ≤ 8 → Row 8 lwOf R (fun j => keep - (kOf j : Nat)) u D i (cutS keep u D R i).1 (cutS keep u D R i).2.1 (cutS keep u D R i).2.2
  | 0, _ => Row.start F.wf hD
  | i + 1, hi => by
    have I := cut_row (keep := keep) F hD i (by omega)
    rw [cutS]
    exact I.step F.dj (by omega) (pr_ok _ _ _ _ _ (I.wf i (by omega)) I.d8)
theorem k_of (k : Nat) (h : k < 278) : kOf (rt k) + kk k = k := by
  unfold kOf rt kk
  by_cases h1 : k < 6
  · simp [h1]; omega
  · by_cases h2 : k < 22
    · simp [h1, h2]; omega
    · simp [h1, h2]; omega
structure CuOk (u : Nat → Bool) (D R : Nat → Nat) (u' : Nat → Bool) (D' R' : Nat → Nat) : Prop where
  fi : FI u' D' R'
  sub : ∀ b, OwF u' D' R' b → OwF u D R b
  dn : ∀ b, u' b = true → u b = true
  kp : ∀ b, u b = true → u' b = true ∨ (OwF u D R b ∧ ¬ OwF u' D' R' b)
  fr : ∀ b, OwF u D R b → ¬ OwF u' D' R' b → u' b = false ∧ ∀ x, x < 64 → D' (b * 64 + x) = 0
  out : ∀ b, ¬ OwF u D R b → ∀ x, x < 64 → D' (b * 64 + x) = D (b * 64 + x)
  d8 : ∀ j, D' j < 256
theorem CuOk.free {n : Nat} {u : Nat → Bool} {D R : Nat → Nat} {u' : Nat → Bool} {D' R' : Nat → Nat} (T : CuOk u D R u' D' R') (hz : Zf n u D) : Zf n u' D' := fun i hi h x hx => by
  by_cases ho : OwF u D R i
  · exact (T.fr i ho (fun h' => by rw [T.fi.use h'] at h; cases h)).2 x hx
  · have h2 : u i = false := by
      cases hu : u i with
      | false => rfl
      | true =>
        rcases T.kp i hu with h' | h'
        · rw [h'] at h; cases h
        · exact absurd h'.1 ho
    rw [T.out i ho x hx]
    exact hz i hi h2 x hx
/-- A file that owns all that is in use goes on so. -/
theorem CuOk.all {u : Nat → Bool} {D R : Nat → Nat} {u' : Nat → Bool} {D' R' : Nat → Nat} (T : CuOk u D R u' D' R') (h : ∀ b, u b = true → OwF u D R b) (b : Nat) (hb : u' b = true) : OwF u' D' R' b := by
  refine Classical.byContradiction fun hn => ?_
  rw [(T.fr b (h b (T.dn b hb)) hn).1] at hb
  cases hb
theorem Gr.all {n : Nat} {u : Nat → Bool} {D R : Nat → Nat} {u' : Nat → Bool} {D' R' : Nat → Nat} (T : Gr n u D R u' D' R') (h : ∀ b, u b = true → OwF u D R b) (b : Nat) (hb : u' b = true) : OwF u' D' R' b := by
  rcases T.un b hb with h' | h'
  · exact T.old b (h b h')
  · exact h'
theorem cut_ok {keep : Int} {u : Nat → Bool} {D R : Nat → Nat} (F : FI u D R) (hD : ∀ j, D j < 256) :
    CuOk u D R (cutS keep u D R 8).1 (cutS keep u D R 8).2.1 (cutS keep u D R 8).2.2 ∧ (∀ k, k < 278 → lkAt (cutS keep u D R 8).1 (cutS keep u D R 8).2.1 (cutS keep u D R 8).2.2 k = if (k : Int) < keep then lkAt u D R k else 0) ∧
      ∀ x, x < 17792 → rd (cutS keep u D R 8).1 (cutS keep u D R 8).2.1 (cutS keep u D R 8).2.2 x = if ((x / 64 : Nat) : Int) < keep then rd u D R x else 0 := by
  have W := cut_row (keep := keep) F hD 8 (Nat.le_refl _)
  generalize cutS keep u D R 8 = E at *
  obtain ⟨u', D', R'⟩ := E
  simp only at W ⊢
  have hfi : FI u' D' R' := ⟨W.wf, fun i j hi hj hij b hb hb' => F.dj i j hi hj hij b (W.sub i hi b hb) (W.sub j hj b hb'), fun j hj => Nat.lt_of_le_of_lt (W.lt j hj) (F.lt j hj)⟩
  have hlk : ∀ k, k < 278 → lkAt u' D' R' k = if (k : Int) < keep then lkAt u D R k else 0 := fun k hk => by
    have hkl := kk_lt k hk
    have hk2 := k_of k hk
    unfold lkAt
    rw [lv_rt] at hkl ⊢
    rw [W.lk _ (rt_lt k) _ hkl]
    by_cases hlt : (k : Int) < keep
    · rw [if_pos hlt, if_neg (fun h => h.2 (by omega))]
    · rw [if_neg hlt, if_pos ⟨rt_lt k, by omega⟩]
  refine ⟨⟨hfi, fun b hb => ?_, W.dn, fun b hb => ?_, fun b hb hn => ?_, fun b hb x hx => W.out b (fun j hj h => hb ⟨j, hj, h⟩) x hx, W.d8⟩, hlk, fun x hx => ?_⟩
  · obtain ⟨j, hj, h⟩ := hb; exact ⟨j, hj, W.sub j hj b h⟩
  · rcases W.kp b hb with h | ⟨j, hj, h, hn⟩
    · exact .inl h
    · refine .inr ⟨⟨j, hj, h⟩, ?_⟩
      rintro ⟨i, hi, h'⟩
      by_cases e : i = j
      · subst e; exact hn h'
      · exact F.dj i j hi hj e b (W.sub i hi b h') h
  · obtain ⟨j, hj, h⟩ := hb
    exact W.fr j hj b h (fun h' => hn ⟨j, hj, h'⟩)
  · have hx2 : x / 64 < 278 := by omega
    have hx3 : x % 64 < 64 := by omega
    unfold rd
    rw [hlk _ hx2]
    by_cases hlt : ((x / 64 : Nat) : Int) < keep
    · rw [if_pos hlt, if_pos hlt]
      by_cases h0 : lkAt u D R (x / 64) = 0
      · rw [if_neg (by rw [h0]; simp), if_neg (by rw [h0]; simp)]
      · have e1 := hlk _ hx2
        rw [if_pos hlt] at e1
        have o1 := lkAt_ow (u := u') (D := D') (R := R') hx2 (by rw [e1]; exact h0)
        rw [e1] at o1
        have l1 := hfi.leaf hx2 (by rw [e1]; exact h0)
        rw [e1] at l1
        rw [if_pos ⟨h0, hfi.use ⟨_, rt_lt _, o1⟩⟩, if_pos ⟨h0, F.use ⟨_, rt_lt _, lkAt_ow hx2 h0⟩⟩]
        exact W.lf _ (rt_lt _) _ o1 (fun h => l1 ⟨_, rt_lt _, h⟩) _ hx3
    · rw [if_neg hlt, if_neg (by simp), if_neg hlt]
/-- Truncate, by its words. -/
theorem trunc_ok {n : Nat} {u : Nat → Bool} {D R : Nat → Nat} (F : FI u D R) (hD : ∀ j, D j < 256) (hz : Zf n u D) (hall : ∀ b, u b = true → OwF u D R b) (size : Nat) (hs : size ≤ 17792) (y : (Nat → Bool) × (Nat → Nat) × (Nat → Nat)) (hy : cutS (((size + 63) / 64 : Nat) : Int) u D R 8 = y) :
    FI y.1 (wipeD y.1 y.2.1 y.2.2 size) y.2.2 ∧ (∀ j, wipeD y.1 y.2.1 y.2.2 size j < 256) ∧ Zf n y.1 (wipeD y.1 y.2.1 y.2.2 size) ∧ (∀ b, y.1 b = true → OwF y.1 (wipeD y.1 y.2.1 y.2.2 size) y.2.2 b) ∧
      ∀ x, x < 17792 → rd y.1 (wipeD y.1 y.2.1 y.2.2 size) y.2.2 x = if x < size then rd u D R x else 0 := by
  obtain ⟨C, hlk, hrd⟩ := cut_ok (keep := (((size + 63) / 64 : Nat) : Int)) F hD
  rw [hy] at C hlk hrd
  clear hy
  obtain ⟨u', D', R'⟩ := y
  simp only at C hlk hrd ⊢
  have hz' := C.free hz
  have ha' := C.all hall
  unfold wipeD
  by_cases h1 : size % 64 = 0
  · rw [if_pos h1]
    refine ⟨C.fi, C.d8, hz', ha', fun x hx => ?_⟩
    rw [hrd x hx]
    by_cases hlt : x < size
    · rw [if_pos hlt, if_pos (by omega)]
    · rw [if_neg hlt, if_neg (by omega)]
  · rw [if_neg h1]
    have hk : size / 64 < 278 := by omega
    by_cases h0 : lkAt u' D' R' (size / 64) = 0
    · rw [if_pos h0]
      refine ⟨C.fi, C.d8, hz', ha', fun x hx => ?_⟩
      by_cases hlt : x < size
      · rw [hrd x hx, if_pos hlt, if_pos (by omega)]
      · rw [if_neg hlt]
        by_cases e : x / 64 = size / 64
        · unfold rd; rw [e, h0, if_neg (by simp)]
        · rw [hrd x hx, if_neg (by omega)]
    · rw [if_neg h0]
      have hnl : (noughts (64 - size % 64)).length = 64 - size % 64 := by simp [noughts]
      have P := put_ok (n := n) (o := size % 64) (bs := noughts (64 - size % 64)) C.fi C.d8 hk rfl h0 (by rw [hnl]; omega) (fun x hx => by simp [noughts] at hx; omega)
      refine ⟨P.1.fi, P.1.d8, P.1.free hz', P.1.all ha', fun x hx => ?_⟩
      rw [P.2 x hx, hnl]
      by_cases hlt : x < size
      · rw [if_pos hlt, if_neg (by omega), hrd x hx, if_pos (by omega)]
      · rw [if_neg hlt]
        by_cases e : x / 64 = size / 64
        · rw [if_pos ⟨e, by omega, by omega⟩, List.getD_eq_getElem?_getD]
          unfold noughts
          rw [List.getElem?_replicate]
          split <;> rfl
        · rw [if_neg (fun h => e h.1), hrd x hx, if_neg (by omega)]
end Mp
end Go.Proofs.YtgplmgliockbcaaDoor
