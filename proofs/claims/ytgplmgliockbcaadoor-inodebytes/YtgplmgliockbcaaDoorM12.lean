/- Several texts of this claim, one behind the other, in their order. -/
import Derived.Test.YtgplmgliockbcaaDoorCut
import Derived.Test.YtgplmgliockbcaaDoorM9
import Derived.Test.YtgplmgliockbcaaDoorMp5
/- The walks of wipe and Truncate. Condition: the table lies in memory as 'Tb' says. -/
namespace Go.Proofs.YtgplmgliockbcaaDoor
open Go.RowKit
def noughts (m : Nat) : List Nat := List.replicate m 0
/-- The bytes when the place in which size lies is wiped from size on. -/
def wipeD (u : Nat → Bool) (D : Nat → Nat) (R : Nat → Nat) (size : Nat) : Nat → Nat :=
  if size % 64 = 0 then D else if lkAt u D R (size / 64) = 0 then D else wrt u D (lkAt u D R (size / 64)) (size % 64) (noughts (64 - size % 64))
section
variable {w w' : World} {t q b c n N : Nat} {clk : Int} {F : Nat → Nat → Int} {R : Nat → Nat → Nat} {u : Nat → Bool} {D : Nat → Nat}
set_option maxRecDepth 8000 in
set_option maxHeartbeats 4000000 in
theorem wipe_any (T : Tb w t q b c n N clk F R u D) (i size : Nat) (hi : i < N) (hs : size ≤ 17792) :
    Calls Tryd.prog 50 #[.pointer (some ⟨t, 0, none⟩), .pointer (some ⟨q, i * 17, none⟩), .int .i64 size] w fun e w' => e = .returned (.tuple #[]) ∧ Tb w' t q b c n N clk F R u (wipeD u D (R i) size) ∧ Mod (fun k => k = c) w w' := by
  have HT : Hid (Tb w t q b c n N clk F R u D) := T
  have HR : (size : Int).tmod 64 = ((size % 64 : Nat) : Int) := by rw [Int.tmod_eq_emod_of_nonneg (by omega)]; omega
  have hc64 : ((size % 64 : Nat) : Int) = (size : Int) % 64 := by omega
  by_cases h0 : size % 64 = 0
  · have hz : ((size : Int) % 64 == 0) = true := by simp; omega
    have HW : Hid (wipeD u D (R i) size = D) := by show _ = _; rw [wipeD, if_pos h0]
    clear T h0 hs HR hc64
    go_enter Tryd.func50, Tryd.ntmps50
    go_wp2
    refine bodyPost_ret (results_none rfl _ _ _) rfl ⟨rfl, ?_, Mod.refl _ _⟩
    rw [HW.out]; exact HT.out
  · have hk : size / 64 < 278 := by omega
    have hz : ((size : Int) % 64 == 0) = false := by simp; omega
    have HQ : Hid ((size : Int) / 64 = ((size / 64 : Nat) : Int)) := by show _ = _; omega
    have HL : Hid (lkAt u D (R i) (size / 64) < 4294967296) := lk_lt T.S.dl _ _ _ (T.rl _ _)
    have H0 : Hid (¬ size % 64 = 0) := h0
    obtain ⟨m, hm⟩ : ∃ m : Nat, m = 64 - size % 64 := ⟨_, rfl⟩
    have HMm : Hid (m = 64 - size % 64) := hm
    have hm64 : m ≤ 64 := by omega
    have hme : 64 - (size : Int) % 64 = (m : Int) := by omega
    have hmk := mk_bytes m (by omega)
    have hwm : IntKind.i64.wrap (m : Int) = m := by rw [IntKind.wrap_i64]; omega
    have HC64 : Hid ((size : Int) % 64 = ((size % 64 : Nat) : Int)) := hc64.symm
    clear T h0 hs hm HR hc64
    go_enter Tryd.func50, Tryd.ntmps50
    go_wp2_with (go_at_call 59; rw [HQ.out]; refine (place_any3 q (i * 17) _ _ hk).mono ?_; rintro e w1 ⟨o, P, K, rfl, HP, HM1⟩; have HT1 : Hid (Tb (w1.alloc (.cells #[.pointer (some ⟨q, o, none⟩), .int .i64 P] 110)) t q b c n N clk F R u D) := HT.out.new (HM1.out.alloc _))
    have HC : Hid ((w1.alloc (.cells #[.pointer (some ⟨q, o, none⟩), .int .i64 P] 110)).cell? ⟨w1.heap.size, 0, none⟩ = some (.pointer (some ⟨q, o, none⟩)) ∧ (w1.alloc (.cells #[.pointer (some ⟨q, o, none⟩), .int .i64 P] 110)).cell? ⟨w1.heap.size, 1, none⟩ = some (.int .i64 P) ∧ (w1.alloc (.cells #[.pointer (some ⟨q, o, none⟩), .int .i64 P] 110)).cell? ⟨q, o, none⟩ = some (.int .i64 (R i (rt (size / 64)) : Nat))) := by
      refine ⟨?_, ?_, ?_⟩
      · rw [World.cell?_alloc_at _ _ _ _ rfl]; rfl
      · rw [World.cell?_alloc_at _ _ _ _ rfl]; rfl
      · have := HT1.out.cr i (rt (size / 64)) hi (rt_lt _)
        rw [← HP.out.1] at this; exact this
    have HM2 : Hid (Mod (fun _ => False) w (w1.alloc (.cells #[.pointer (some ⟨q, o, none⟩), .int .i64 P] 110))) := HM1.out.alloc _
    generalize hw2 : w1.alloc (.cells #[.pointer (some ⟨q, o, none⟩), .int .i64 P] 110) = w2 at *
    generalize w1.heap.size = x8 at *
    clear hw2 HM1
    go_region_held (fun W' => W'.cell? ⟨x8, 0, none⟩ = some (.pointer (some ⟨q, o, none⟩)) ∧ W'.cell? ⟨x8, 1, none⟩ = some (.int .i64 P) ∧ W'.cell? ⟨q, o, none⟩ = some (.int .i64 (R i (rt (size / 64)) : Nat))) (first | exact hS3 | exact HC.out) (first | (go_at_call 60; refine (lookAt (HT1.out.drewN 1) i (size / 64) P K _ hk ⟨HP.out.2.1, HP.out.2.2, rfl⟩).mono ?_; rintro e w3 ⟨rfl, M3⟩; have HM3 : Hid (Mod (fun _ => False) w2 w3) := ((Mod.refl _ w2).drewN 1).trans M3; have hS3 : w3.cell? ⟨x8, 0, none⟩ = some (.pointer (some ⟨q, o, none⟩)) ∧ w3.cell? ⟨x8, 1, none⟩ = some (.int .i64 P) ∧ w3.cell? ⟨q, o, none⟩ = some (.int .i64 (R i (rt (size / 64)) : Nat)) := ⟨(M3.cell (p := ⟨x8, 0, none⟩) (block_lt_of_cell (w := w2) HC.out.1) (fun h => h)).trans HC.out.1, (M3.cell (p := ⟨x8, 1, none⟩) (block_lt_of_cell (w := w2) HC.out.2.1) (fun h => h)).trans HC.out.2.1, (M3.cell (p := ⟨q, o, none⟩) (block_lt_of_cell (w := w2) HC.out.2.2) (fun h => h)).trans HC.out.2.2⟩; clear M3))
    clear hS3
    have HT3 : Hid (Tb w3 t q b c n N clk F R u D) := HT1.out.new HM3.out
    have HM4 : Hid (Mod (fun _ => False) w w3) := HM2.out.trans HM3.out
    clear HM2 HM3 HT1 HC
    obtain ⟨r, hr⟩ : ∃ r, r = lkAt u D (R i) (size / 64) := ⟨_, rfl⟩
    rw [← hr]
    have HE : Hid (r = lkAt u D (R i) (size / 64)) := hr
    have hrl : r < 4294967296 := by rw [hr]; exact HL.out
    clear hr
    by_cases hr0 : r = 0
    · have HW : Hid (wipeD u D (R i) size = D) := by show _ = _; rw [wipeD, if_neg H0.out, if_pos (by rw [← HE.out]; exact hr0)]
      subst hr0
      go_wp2
      refine ⟨rfl, _, results_none rfl _ _ _, rfl, ?_, HM4.out.mono (fun _ _ h => h.elim)⟩
      rw [HW.out]; exact HT3.out
    · have hrb : ((r : Int) == 0) = false := by simpa using hr0
      have HW : Hid (wipeD u D (R i) size = wrt u D r (size % 64) (noughts m)) := by show _ = _; rw [wipeD, if_neg H0.out, if_neg (by rw [← HE.out]; exact hr0), ← HE.out, HMm.out]
      have HT5 : Hid (Tb (w3.alloc (.cells (madeCells #[.int .u8 0] m) 5)).drew t q b c n N clk F R u D) := HT3.out.new (((Mod.refl _ w3).alloc _).drewN 1)
      have HS5 : Hid (∀ j v, ((noughts m).map byteV)[j]? = some v → (w3.alloc (.cells (madeCells #[.int .u8 0] m) 5)).drew.cell? ((⟨w3.heap.size, 0, none⟩ : Addr).add j) = some v) := fun j v hv => by
        rw [Addr.add_mid, Nat.zero_add]
        show (w3.alloc _).cell? _ = _
        rw [World.cell?_alloc_at _ _ _ _ rfl]
        rw [List.getElem?_map, Option.map_eq_some_iff] at hv
        obtain ⟨x, hx, rfl⟩ := hv
        have hj : j < m := by have := (List.getElem?_eq_some_iff.mp hx).1; simpa [noughts] using this
        have hx0 : x = 0 := by have := (List.getElem?_eq_some_iff.mp hx).2; simpa [noughts] using this.symm
        rw [hx0]
        simp only [madeCells, Array.getElem?_map]
        rw [Array.getElem?_eq_getElem (by simpa using hj)]
        simp [Nat.mod_one, byteV]
      have hC0 : (w3.drewN 1).cell? ⟨t, 0, none⟩ = some (.pointer (some ⟨b, 0, none⟩)) := HT3.out.c0
      have HC0 : Hid ((w3.drewN 1).cell? ⟨t, 0, none⟩ = some (.pointer (some ⟨b, 0, none⟩))) := hC0
      have HC5 : Hid ((w3.alloc (.cells (madeCells #[.int .u8 0] m) 5)).drew.cell? ⟨t, 0, none⟩ = some (.pointer (some ⟨b, 0, none⟩))) := HT5.out.c0
      clear hC0
      go_wp2_with fail
      go_region_held (fun W' => W'.cell? ⟨t, 0, none⟩ = some (.pointer (some ⟨b, 0, none⟩))) (first | exact hS6 | exact HC0.out | exact HC5.out) (first | (go_at_call 62; refine (block_any r _ (by omega)).mono ?_; rintro e w5 ⟨rfl, rfl⟩) | (go_at_call 64; rw [HC64.out]; refine (HT5.out.S.write_any r (size % 64) _ m _ (noughts m) (by have := HMm.out; have := Nat.mod_lt size (show 0 < 64 by omega); omega) (by simp [noughts]) (fun x hx => by (have := List.eq_of_mem_replicate hx; omega)) (fun _ => ⟨_, rfl, HS5.out⟩)).mono ?_; rintro e w6 ⟨⟨v, rfl⟩, H6, M6⟩; have HM6 : Hid (Mod (fun k => k = c) w3 w6) := (((Mod.refl _ w3).alloc _).drewN 1).trans M6.out; have HT6 : Hid (Tb w6 t q b c n N clk F R u (wrt u D r (size % 64) (noughts m))) := HT3.out.store HM6.out H6.out HT3.out.tc HT3.out.qc; have hS6 := HT6.out.c0; clear H6 M6))
      all_goals go_wp2
      all_goals refine ⟨rfl, _, results_none rfl _ _ _, rfl, ?_, (HM4.out.mono (fun _ _ h => h.elim)).trans HM6.out⟩
      all_goals (rw [HW.out]; exact HT6.out)
end
end Go.Proofs.YtgplmgliockbcaaDoor
/- Plain facts on cut and truncate: what is read behind them. No walk. -/
namespace Go.Proofs.YtgplmgliockbcaaDoor
open Go.RowKit
namespace Mp
theorem cut_row {keep : Int} {u : Nat → Bool} {D R : Nat → Nat} (F : FI u D R) (hD : ∀ j, D j < 256) : ∀ i, i ≤ 8 → Row 8 lwOf R (fun j => keep - (kOf j : Nat)) u D i (cutS keep u D R i).1 (cutS keep u D R i).2.1 (cutS keep u D R i).2.2
  | 0, _ => Row.start F.wf hD
  | i + 1, hi => by
    have I := cut_row (keep := keep) F hD i (by omega)
    rw [cutS]
    exact I.step F.dj (by omega) (pr_ok _ _ _ _ _ (I.wf i (by omega)) I.d8)
theorem k_of (k : Nat) (h : k < 278) : kOf (rt k) + kk k = k := by
  unfold kOf rt kk
  by_cases h1 : k < 6
  · simp [h1]; omega
  · by_cases h2 : k < 22
    · simp [h1, h2]; omega
    · simp [h1, h2]; omega
structure CuOk (u : Nat → Bool) (D R : Nat → Nat) (u' : Nat → Bool) (D' R' : Nat → Nat) : Prop where
  fi : FI u' D' R'
  sub : ∀ b, OwF u' D' R' b → OwF u D R b
  dn : ∀ b, u' b = true → u b = true
  kp : ∀ b, u b = true → u' b = true ∨ (OwF u D R b ∧ ¬ OwF u' D' R' b)
  fr : ∀ b, OwF u D R b → ¬ OwF u' D' R' b → u' b = false ∧ ∀ x, x < 64 → D' (b * 64 + x) = 0
  out : ∀ b, ¬ OwF u D R b → ∀ x, x < 64 → D' (b * 64 + x) = D (b * 64 + x)
  d8 : ∀ j, D' j < 256
theorem CuOk.free {n : Nat} {u : Nat → Bool} {D R : Nat → Nat} {u' : Nat → Bool} {D' R' : Nat → Nat} (T : CuOk u D R u' D' R') (hz : Zf n u D) : Zf n u' D' := fun i hi h x hx => by
  by_cases ho : OwF u D R i
  · exact (T.fr i ho (fun h' => by rw [T.fi.use h'] at h; cases h)).2 x hx
  · have h2 : u i = false := by
      cases hu : u i with
      | false => rfl
      | true =>
        rcases T.kp i hu with h' | h'
        · rw [h'] at h; cases h
        · exact absurd h'.1 ho
    rw [T.out i ho x hx]
    exact hz i hi h2 x hx
/-- A file that owns all that is in use goes on so. -/
theorem CuOk.all {u : Nat → Bool} {D R : Nat → Nat} {u' : Nat → Bool} {D' R' : Nat → Nat} (T : CuOk u D R u' D' R') (h : ∀ b, u b = true → OwF u D R b) (b : Nat) (hb : u' b = true) : OwF u' D' R' b := by
  refine Classical.byContradiction fun hn => ?_
  rw [(T.fr b (h b (T.dn b hb)) hn).1] at hb
  cases hb
theorem Gr.all {n : Nat} {u : Nat → Bool} {D R : Nat → Nat} {u' : Nat → Bool} {D' R' : Nat → Nat} (T : Gr n u D R u' D' R') (h : ∀ b, u b = true → OwF u D R b) (b : Nat) (hb : u' b = true) : OwF u' D' R' b := by
  rcases T.un b hb with h' | h'
  · exact T.old b (h b h')
  · exact h'
theorem cut_ok {keep : Int} {u : Nat → Bool} {D R : Nat → Nat} (F : FI u D R) (hD : ∀ j, D j < 256) :
    CuOk u D R (cutS keep u D R 8).1 (cutS keep u D R 8).2.1 (cutS keep u D R 8).2.2 ∧ (∀ k, k < 278 → lkAt (cutS keep u D R 8).1 (cutS keep u D R 8).2.1 (cutS keep u D R 8).2.2 k = if (k : Int) < keep then lkAt u D R k else 0) ∧
      ∀ x, x < 17792 → rd (cutS keep u D R 8).1 (cutS keep u D R 8).2.1 (cutS keep u D R 8).2.2 x = if ((x / 64 : Nat) : Int) < keep then rd u D R x else 0 := by
  have W := cut_row (keep := keep) F hD 8 (Nat.le_refl _)
  generalize cutS keep u D R 8 = E at *
  obtain ⟨u', D', R'⟩ := E
  simp only at W ⊢
  have hfi : FI u' D' R' := ⟨W.wf, fun i j hi hj hij b hb hb' => F.dj i j hi hj hij b (W.sub i hi b hb) (W.sub j hj b hb'), fun j hj => Nat.lt_of_le_of_lt (W.lt j hj) (F.lt j hj)⟩
  have hlk : ∀ k, k < 278 → lkAt u' D' R' k = if (k : Int) < keep then lkAt u D R k else 0 := fun k hk => by
    have hkl := kk_lt k hk
    have hk2 := k_of k hk
    unfold lkAt
    rw [lv_rt] at hkl ⊢
    rw [W.lk _ (rt_lt k) _ hkl]
    by_cases hlt : (k : Int) < keep
    · rw [if_pos hlt, if_neg (fun h => h.2 (by omega))]
    · rw [if_neg hlt, if_pos ⟨rt_lt k, by omega⟩]
  refine ⟨⟨hfi, fun b hb => ?_, W.dn, fun b hb => ?_, fun b hb hn => ?_, fun b hb x hx => W.out b (fun j hj h => hb ⟨j, hj, h⟩) x hx, W.d8⟩, hlk, fun x hx => ?_⟩
  · obtain ⟨j, hj, h⟩ := hb; exact ⟨j, hj, W.sub j hj b h⟩
  · rcases W.kp b hb with h | ⟨j, hj, h, hn⟩
    · exact .inl h
    · refine .inr ⟨⟨j, hj, h⟩, ?_⟩
      rintro ⟨i, hi, h'⟩
      by_cases e : i = j
      · subst e; exact hn h'
      · exact F.dj i j hi hj e b (W.sub i hi b h') h
  · obtain ⟨j, hj, h⟩ := hb
    exact W.fr j hj b h (fun h' => hn ⟨j, hj, h'⟩)
  · have hx2 : x / 64 < 278 := by omega
    have hx3 : x % 64 < 64 := by omega
    unfold rd
    rw [hlk _ hx2]
    by_cases hlt : ((x / 64 : Nat) : Int) < keep
    · rw [if_pos hlt, if_pos hlt]
      by_cases h0 : lkAt u D R (x / 64) = 0
      · rw [if_neg (by rw [h0]; simp), if_neg (by rw [h0]; simp)]
      · have e1 := hlk _ hx2
        rw [if_pos hlt] at e1
        have o1 := lkAt_ow (u := u') (D := D') (R := R') hx2 (by rw [e1]; exact h0)
        rw [e1] at o1
        have l1 := hfi.leaf hx2 (by rw [e1]; exact h0)
        rw [e1] at l1
        rw [if_pos ⟨h0, hfi.use ⟨_, rt_lt _, o1⟩⟩, if_pos ⟨h0, F.use ⟨_, rt_lt _, lkAt_ow hx2 h0⟩⟩]
        exact W.lf _ (rt_lt _) _ o1 (fun h => l1 ⟨_, rt_lt _, h⟩) _ hx3
    · rw [if_neg hlt, if_neg (by simp), if_neg hlt]
/-- Truncate, by its words. -/
theorem trunc_ok {n : Nat} {u : Nat → Bool} {D R : Nat → Nat} (F : FI u D R) (hD : ∀ j, D j < 256) (hz : Zf n u D) (hall : ∀ b, u b = true → OwF u D R b) (size : Nat) (hs : size ≤ 17792) (y : (Nat → Bool) × (Nat → Nat) × (Nat → Nat)) (hy : cutS (((size + 63) / 64 : Nat) : Int) u D R 8 = y) :
    FI y.1 (wipeD y.1 y.2.1 y.2.2 size) y.2.2 ∧ (∀ j, wipeD y.1 y.2.1 y.2.2 size j < 256) ∧ Zf n y.1 (wipeD y.1 y.2.1 y.2.2 size) ∧ (∀ b, y.1 b = true → OwF y.1 (wipeD y.1 y.2.1 y.2.2 size) y.2.2 b) ∧
      ∀ x, x < 17792 → rd y.1 (wipeD y.1 y.2.1 y.2.2 size) y.2.2 x = if x < size then rd u D R x else 0 := by
  obtain ⟨C, hlk, hrd⟩ := cut_ok (keep := (((size + 63) / 64 : Nat) : Int)) F hD
  rw [hy] at C hlk hrd
  clear hy
  obtain ⟨u', D', R'⟩ := y
  simp only at C hlk hrd ⊢
  have hz' := C.free hz
  have ha' := C.all hall
  unfold wipeD
  by_cases h1 : size % 64 = 0
  · rw [if_pos h1]
    refine ⟨C.fi, C.d8, hz', ha', fun x hx => ?_⟩
    rw [hrd x hx]
    by_cases hlt : x < size
    · rw [if_pos hlt, if_pos (by omega)]
    · rw [if_neg hlt, if_neg (by omega)]
  · rw [if_neg h1]
    have hk : size / 64 < 278 := by omega
    by_cases h0 : lkAt u' D' R' (size / 64) = 0
    · rw [if_pos h0]
      refine ⟨C.fi, C.d8, hz', ha', fun x hx => ?_⟩
      by_cases hlt : x < size
      · rw [hrd x hx, if_pos hlt, if_pos (by omega)]
      · rw [if_neg hlt]
        by_cases e : x / 64 = size / 64
        · unfold rd; rw [e, h0, if_neg (by simp)]
        · rw [hrd x hx, if_neg (by omega)]
    · rw [if_neg h0]
      have hnl : (noughts (64 - size % 64)).length = 64 - size % 64 := by simp [noughts]
      have P := put_ok (n := n) (o := size % 64) (bs := noughts (64 - size % 64)) C.fi C.d8 hk rfl h0 (by rw [hnl]; omega) (fun x hx => by simp [noughts] at hx; omega)
      refine ⟨P.1.fi, P.1.d8, P.1.free hz', P.1.all ha', fun x hx => ?_⟩
      rw [P.2 x hx, hnl]
      by_cases hlt : x < size
      · rw [if_pos hlt, if_neg (by omega), hrd x hx, if_pos (by omega)]
      · rw [if_neg hlt]
        by_cases e : x / 64 = size / 64
        · rw [if_pos ⟨e, by omega, by omega⟩, List.getD_eq_getElem?_getD]
          unfold noughts
          rw [List.getElem?_replicate]
          split <;> rfl
        · rw [if_neg (fun h => e h.1), hrd x hx, if_neg (by omega)]
end Mp
end Go.Proofs.YtgplmgliockbcaaDoor
