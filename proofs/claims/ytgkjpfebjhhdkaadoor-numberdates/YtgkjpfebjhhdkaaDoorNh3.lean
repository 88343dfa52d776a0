/- Sizes written short: the program's unitOf, short, Human. Condition: the table of powers of ten reads as its text lays it. -/
import Derived.Test.YtgkjpfebjhhdkaaDoorNh2
namespace Go.Proofs.YtgkjpfebjhhdkaaDoor
open Go.RowKit
attribute [local go_sem] ext_eq app_eq get_eq
theorem dd_len (u : Nat) (h : u < 18446744073709551616) : (Lib.decDigits u).length ≤ 21 := by
  rw [Lib.decDigits_length]
  by_cases h1 : 1 ≤ u
  · have := Lib.numDigits_eq u h1 h; split at this <;> omega
  · rw [Lib.nDigits_small (by omega)]; omega
/-- None of the first i units fits. -/
def noU (s : Int) : Nat → Prop
  | 0 => True
  | 1 => ¬ Na.wu s 1024 < 1024
  | 2 => ¬ Na.wu s 1024 < 1024 ∧ ¬ Na.wu s 1048576 < 1024
  | 3 => ¬ Na.wu s 1024 < 1024 ∧ ¬ Na.wu s 1048576 < 1024 ∧ ¬ Na.wu s 1073741824 < 1024
  | 4 => ¬ Na.wu s 1024 < 1024 ∧ ¬ Na.wu s 1048576 < 1024 ∧ ¬ Na.wu s 1073741824 < 1024 ∧ ¬ Na.wu s 1099511627776 < 1024
  | 5 => ¬ Na.wu s 1024 < 1024 ∧ ¬ Na.wu s 1048576 < 1024 ∧ ¬ Na.wu s 1073741824 < 1024 ∧ ¬ Na.wu s 1099511627776 < 1024 ∧ ¬ Na.wu s 1125899906842624 < 1024
  | 6 => ¬ Na.wu s 1024 < 1024 ∧ ¬ Na.wu s 1048576 < 1024 ∧ ¬ Na.wu s 1073741824 < 1024 ∧ ¬ Na.wu s 1099511627776 < 1024 ∧ ¬ Na.wu s 1125899906842624 < 1024 ∧ ¬ Na.wu s 1152921504606846976 < 1024
  | _ => True
def uStep : Nat → Int
  | 0 => 1
  | n + 1 => Na.uV (n + 1)
def nStep : Nat → List UInt8
  | 0 => []
  | n + 1 => [Na.uN (n + 1)]
set_option maxRecDepth 100000 in
set_option maxHeartbeats 4000000 in
theorem nUnitOf (s : Int) (h0 : 0 ≤ s) (h1 : s < 18446744073709551616) (w : World) : Calls Tryd.prog 64 #[.int .u64 s] w fun e w' => e = .returned (.tuple #[.int .u64 (Na.uV (Na.uI s)), .string ⟨#[Na.uN (Na.uI s)]⟩]) ∧ Below w.heap.size w w' := by
  have HB : Hid (∀ p, Below w.heap.size w (w.iter ⟨#[75, 77, 71, 84, 80, 69]⟩ p)) := fun p => below_iter w _ p
  generalize hbk : w.heap.size = bk at *
  go_enter Tryd.func64, Tryd.ntmps64
  go_wp2_with fail
  go_loopw [4, 5] (fun u n w' => ∃ (pos : Nat), u = .int .u64 (uStep pos) ∧ n = .string ⟨(nStep pos).toArray⟩ ∧ w' = w.iter ⟨#[75, 77, 71, 84, 80, 69]⟩ pos ∧ pos ≤ 6 ∧ Hid (noU s pos)) (fun _ _ w' => 6 - w'.iterPos bk)
  case atStart => exact ⟨0, rfl, rfl, rfl, by decide, trivial⟩
  case round =>
    obtain ⟨pos, rfl, rfl, rfl, hle, HN⟩ := hrel
    obtain rfl | rfl | rfl | rfl | rfl | rfl | rfl : pos = 0 ∨ pos = 1 ∨ pos = 2 ∨ pos = 3 ∨ pos = 4 ∨ pos = 5 ∨ pos = 6 := by omega
    · have HN2 : Hid (True) := HN
      have hnx : ∀ ty, (Instr.next (.pointer (some ⟨bk, 0, none⟩)) true ty).run Tryd.prog (w.iter ⟨#[75, 77, 71, 84, 80, 69]⟩ 0) = .ok (.tuple #[.bool true, .int .i64 0, .int .i32 75]) (w.iter ⟨#[75, 77, 71, 84, 80, 69]⟩ 1) := fun ty => nit_low w bk hbk [75, 77, 71, 84, 80, 69] 0 (by decide) (by decide) ty
      have HW := hidA (fun w => nWholeUp s 1024 h0 h1 (by decide) (by decide) w)
      clear HN
      by_cases hq : Na.wu s 1024 < 1024
      · have HE : Hid (Na.uI s = 1) := by
          show _ = _
          unfold Na.uI
          simp [hq]
        generalize Na.wu s 1024 = q at HW hq
        clear HN2
        go_wp2_with (go_at_call 66; refine (HW.out _).mono ?_; rintro e w1 ⟨rfl, rfl⟩)
        go_ret2
        exact ⟨by rw [HE.out]; rfl, HB.out _⟩
      · have HN3 : Hid (noU s 1) := by show noU s 1; simp [noU]; omega
        generalize Na.wu s 1024 = q at HW hq
        clear HN2
        go_wp2_with (go_at_call 66; refine (HW.out _).mono ?_; rintro e w1 ⟨rfl, rfl⟩)
        exact ⟨⟨1, rfl, rfl, rfl, by decide, HN3⟩, by rw [nit_pos w bk hbk, nit_pos w bk hbk]; decide⟩
    · have HN2 : Hid (¬ Na.wu s 1024 < 1024) := HN
      have hnx : ∀ ty, (Instr.next (.pointer (some ⟨bk, 0, none⟩)) true ty).run Tryd.prog (w.iter ⟨#[75, 77, 71, 84, 80, 69]⟩ 1) = .ok (.tuple #[.bool true, .int .i64 1, .int .i32 77]) (w.iter ⟨#[75, 77, 71, 84, 80, 69]⟩ 2) := fun ty => nit_low w bk hbk [75, 77, 71, 84, 80, 69] 1 (by decide) (by decide) ty
      have HW := hidA (fun w => nWholeUp s 1048576 h0 h1 (by decide) (by decide) w)
      clear HN
      by_cases hq : Na.wu s 1048576 < 1024
      · have HE : Hid (Na.uI s = 2) := by
          have h2 := HN2.out
          show _ = _
          unfold Na.uI
          simp [h2, hq]
        generalize Na.wu s 1048576 = q at HW hq
        clear HN2
        go_wp2_with (go_at_call 66; refine (HW.out _).mono ?_; rintro e w1 ⟨rfl, rfl⟩)
        go_ret2
        exact ⟨by rw [HE.out]; rfl, HB.out _⟩
      · have HN3 : Hid (noU s 2) := by have h2 := HN2.out; show noU s 2; simp [noU, h2]; omega
        generalize Na.wu s 1048576 = q at HW hq
        clear HN2
        go_wp2_with (go_at_call 66; refine (HW.out _).mono ?_; rintro e w1 ⟨rfl, rfl⟩)
        exact ⟨⟨2, rfl, rfl, rfl, by decide, HN3⟩, by rw [nit_pos w bk hbk, nit_pos w bk hbk]; decide⟩
    · have HN2 : Hid (¬ Na.wu s 1024 < 1024 ∧ ¬ Na.wu s 1048576 < 1024) := HN
      have hnx : ∀ ty, (Instr.next (.pointer (some ⟨bk, 0, none⟩)) true ty).run Tryd.prog (w.iter ⟨#[75, 77, 71, 84, 80, 69]⟩ 2) = .ok (.tuple #[.bool true, .int .i64 2, .int .i32 71]) (w.iter ⟨#[75, 77, 71, 84, 80, 69]⟩ 3) := fun ty => nit_low w bk hbk [75, 77, 71, 84, 80, 69] 2 (by decide) (by decide) ty
      have HW := hidA (fun w => nWholeUp s 1073741824 h0 h1 (by decide) (by decide) w)
      clear HN
      by_cases hq : Na.wu s 1073741824 < 1024
      · have HE : Hid (Na.uI s = 3) := by
          have h2 := HN2.out
          show _ = _
          unfold Na.uI
          simp [h2, hq]
        generalize Na.wu s 1073741824 = q at HW hq
        clear HN2
        go_wp2_with (go_at_call 66; refine (HW.out _).mono ?_; rintro e w1 ⟨rfl, rfl⟩)
        go_ret2
        exact ⟨by rw [HE.out]; rfl, HB.out _⟩
      · have HN3 : Hid (noU s 3) := by have h2 := HN2.out; show noU s 3; simp [noU, h2]; omega
        generalize Na.wu s 1073741824 = q at HW hq
        clear HN2
        go_wp2_with (go_at_call 66; refine (HW.out _).mono ?_; rintro e w1 ⟨rfl, rfl⟩)
        exact ⟨⟨3, rfl, rfl, rfl, by decide, HN3⟩, by rw [nit_pos w bk hbk, nit_pos w bk hbk]; decide⟩
    · have HN2 : Hid (¬ Na.wu s 1024 < 1024 ∧ ¬ Na.wu s 1048576 < 1024 ∧ ¬ Na.wu s 1073741824 < 1024) := HN
      have hnx : ∀ ty, (Instr.next (.pointer (some ⟨bk, 0, none⟩)) true ty).run Tryd.prog (w.iter ⟨#[75, 77, 71, 84, 80, 69]⟩ 3) = .ok (.tuple #[.bool true, .int .i64 3, .int .i32 84]) (w.iter ⟨#[75, 77, 71, 84, 80, 69]⟩ 4) := fun ty => nit_low w bk hbk [75, 77, 71, 84, 80, 69] 3 (by decide) (by decide) ty
      have HW := hidA (fun w => nWholeUp s 1099511627776 h0 h1 (by decide) (by decide) w)
      clear HN
      by_cases hq : Na.wu s 1099511627776 < 1024
      · have HE : Hid (Na.uI s = 4) := by
          have h2 := HN2.out
          show _ = _
          unfold Na.uI
          simp [h2, hq]
        generalize Na.wu s 1099511627776 = q at HW hq
        clear HN2
        go_wp2_with (go_at_call 66; refine (HW.out _).mono ?_; rintro e w1 ⟨rfl, rfl⟩)
        go_ret2
        exact ⟨by rw [HE.out]; rfl, HB.out _⟩
      · have HN3 : Hid (noU s 4) := by have h2 := HN2.out; show noU s 4; simp [noU, h2]; omega
        generalize Na.wu s 1099511627776 = q at HW hq
        clear HN2
        go_wp2_with (go_at_call 66; refine (HW.out _).mono ?_; rintro e w1 ⟨rfl, rfl⟩)
        exact ⟨⟨4, rfl, rfl, rfl, by decide, HN3⟩, by rw [nit_pos w bk hbk, nit_pos w bk hbk]; decide⟩
    · have HN2 : Hid (¬ Na.wu s 1024 < 1024 ∧ ¬ Na.wu s 1048576 < 1024 ∧ ¬ Na.wu s 1073741824 < 1024 ∧ ¬ Na.wu s 1099511627776 < 1024) := HN
      have hnx : ∀ ty, (Instr.next (.pointer (some ⟨bk, 0, none⟩)) true ty).run Tryd.prog (w.iter ⟨#[75, 77, 71, 84, 80, 69]⟩ 4) = .ok (.tuple #[.bool true, .int .i64 4, .int .i32 80]) (w.iter ⟨#[75, 77, 71, 84, 80, 69]⟩ 5) := fun ty => nit_low w bk hbk [75, 77, 71, 84, 80, 69] 4 (by decide) (by decide) ty
      have HW := hidA (fun w => nWholeUp s 1125899906842624 h0 h1 (by decide) (by decide) w)
      clear HN
      by_cases hq : Na.wu s 1125899906842624 < 1024
      · have HE : Hid (Na.uI s = 5) := by
          have h2 := HN2.out
          show _ = _
          unfold Na.uI
          simp [h2, hq]
        generalize Na.wu s 1125899906842624 = q at HW hq
        clear HN2
        go_wp2_with (go_at_call 66; refine (HW.out _).mono ?_; rintro e w1 ⟨rfl, rfl⟩)
        go_ret2
        exact ⟨by rw [HE.out]; rfl, HB.out _⟩
      · have HN3 : Hid (noU s 5) := by have h2 := HN2.out; show noU s 5; simp [noU, h2]; omega
        generalize Na.wu s 1125899906842624 = q at HW hq
        clear HN2
        go_wp2_with (go_at_call 66; refine (HW.out _).mono ?_; rintro e w1 ⟨rfl, rfl⟩)
        exact ⟨⟨5, rfl, rfl, rfl, by decide, HN3⟩, by rw [nit_pos w bk hbk, nit_pos w bk hbk]; decide⟩
    · have HN2 : Hid (¬ Na.wu s 1024 < 1024 ∧ ¬ Na.wu s 1048576 < 1024 ∧ ¬ Na.wu s 1073741824 < 1024 ∧ ¬ Na.wu s 1099511627776 < 1024 ∧ ¬ Na.wu s 1125899906842624 < 1024) := HN
      have hnx : ∀ ty, (Instr.next (.pointer (some ⟨bk, 0, none⟩)) true ty).run Tryd.prog (w.iter ⟨#[75, 77, 71, 84, 80, 69]⟩ 5) = .ok (.tuple #[.bool true, .int .i64 5, .int .i32 69]) (w.iter ⟨#[75, 77, 71, 84, 80, 69]⟩ 6) := fun ty => nit_low w bk hbk [75, 77, 71, 84, 80, 69] 5 (by decide) (by decide) ty
      have HW := hidA (fun w => nWholeUp s 1152921504606846976 h0 h1 (by decide) (by decide) w)
      clear HN
      by_cases hq : Na.wu s 1152921504606846976 < 1024
      · have HE : Hid (Na.uI s = 6) := by
          have h2 := HN2.out
          show _ = _
          unfold Na.uI
          simp [h2]
        generalize Na.wu s 1152921504606846976 = q at HW hq
        clear HN2
        go_wp2_with (go_at_call 66; refine (HW.out _).mono ?_; rintro e w1 ⟨rfl, rfl⟩)
        go_ret2
        exact ⟨by rw [HE.out]; rfl, HB.out _⟩
      · have HN3 : Hid (noU s 6) := by have h2 := HN2.out; show noU s 6; simp [noU, h2]; omega
        generalize Na.wu s 1152921504606846976 = q at HW hq
        clear HN2
        go_wp2_with (go_at_call 66; refine (HW.out _).mono ?_; rintro e w1 ⟨rfl, rfl⟩)
        exact ⟨⟨6, rfl, rfl, rfl, by decide, HN3⟩, by rw [nit_pos w bk hbk, nit_pos w bk hbk]; decide⟩
    · have hnx : ∀ ty, (Instr.next (.pointer (some ⟨bk, 0, none⟩)) true ty).run Tryd.prog (w.iter ⟨#[75, 77, 71, 84, 80, 69]⟩ 6) = _ := fun ty => nit_fin w bk hbk [75, 77, 71, 84, 80, 69] 6 (by decide) ty
      have HE : Hid (Na.uI s = 6) := by
        have h2 := HN.out
        simp only [noU] at h2
        show _ = _
        unfold Na.uI
        simp [h2]
      clear HN
      go_wp2_with fail
      go_ret2
      exact ⟨by rw [HE.out]; rfl, HB.out _⟩
set_option maxRecDepth 100000 in
set_option maxHeartbeats 4000000 in
theorem nShort (s : Int) (h0 : 0 ≤ s) (h1 : s < 18446744073709551616) (w : World) (ht : P10 w) : Calls Tryd.prog 40 #[.int .u64 s] w fun e w' => e = .returned (.string ⟨(Na.shortP s).toArray⟩) ∧ Below w.heap.size w w' := by
  by_cases hs : s < 1024
  · have HF := hidA (nFmt s h0 h1 w ht)
    have HE : Hid (Na.shortP s = Lib.decDigits s.toNat) := if_pos hs
    go_enter Tryd.func40, Tryd.ntmps40
    go_wp2_with (go_at_call 63; refine HF.out.mono ?_; rintro e w1 ⟨rfl, b1⟩)
    go_ret
    exact ⟨by rw [HE.out]; rfl, b1⟩
  · have HU := hidA (nUnitOf s h0 h1 w)
    have HE0 : Hid (Na.shortP s = if Na.tu s (Na.uV (Na.uI s)) < 100 then Lib.decDigits (Na.tu s (Na.uV (Na.uI s)) / 10).toNat ++ [46] ++ Lib.decDigits (Na.tu s (Na.uV (Na.uI s)) % 10).toNat ++ [Na.uN (Na.uI s)] else Lib.decDigits (Na.wu s (Na.uV (Na.uI s))).toNat ++ [Na.uN (Na.uI s)]) := if_neg hs
    obtain ⟨hu0, hu1⟩ := Na.uV_rng (Na.uI s)
    generalize Na.uV (Na.uI s) = u at *
    generalize Na.uN (Na.uI s) = n at *
    have HT := hidA (fun w => nTenthsUp s u h0 h1 hu0 hu1 w)
    have HW := hidA (fun w => nWholeUp s u h0 h1 hu0 hu1 w)
    have ht0 : 0 ≤ Na.tu s u := by
      have h1 := (Na.div_rng h0 hu0).1
      have h2 := (Na.wu_rng (s := s % u * 10) (u := u) (by have := Int.emod_nonneg s (show u ≠ 0 by omega); omega) hu0).1
      unfold Na.tu; omega
    obtain ⟨hw0, hw1⟩ := Na.wu_rng h0 hu0
    generalize Na.tu s u = t at *
    generalize Na.wu s u = v at *
    have HP := hidA (fun (w' : World) (b : Below w.heap.size w w') => ht.on b)
    have HD := hidA (fun (w : World) (m : Nat) => bl_drew w m)
    by_cases ht1 : t < 100
    · rw [if_pos ht1] at HE0
      have hq0 : 0 ≤ t / 10 := by omega
      have hq1 : t / 10 < 18446744073709551616 := by omega
      have hm0 : 0 ≤ t % 10 := by omega
      have hm1 : t % 10 < 18446744073709551616 := by omega
      have hqd : t.tdiv 10 = t / 10 := Int.tdiv_eq_ediv_of_nonneg ht0
      have hqm : t.tmod 10 = t % 10 := Int.tmod_eq_emod_of_nonneg ht0
      have HF1 := hidA (fun w ht => nFmt (t / 10) hq0 hq1 w ht)
      have HF2 := hidA (fun w ht => nFmt (t % 10) hm0 hm1 w ht)
      have HL1 : Hid ((Lib.decDigits (t / 10).toNat).length ≤ 21) := dd_len _ (by omega)
      have HL2 : Hid ((Lib.decDigits (t % 10).toNat).length ≤ 21) := dd_len _ (by omega)
      have hl1 : (Lib.decDigits (t / 10).toNat).length ≤ 21 := HL1.out
      have hl2 : (Lib.decDigits (t % 10).toNat).length ≤ 21 := HL2.out
      generalize Lib.decDigits (t / 10).toNat = D1 at *
      generalize Lib.decDigits (t % 10).toNat = D2 at *
      generalize t / 10 = q at *
      generalize t % 10 = r at *
      go_enter Tryd.func40, Tryd.ntmps40
      go_wp2_with (first | (go_at_call 64; refine HU.out.mono ?_; rintro e w1 ⟨rfl, b1⟩) | (go_at_call 65; refine (HT.out _).mono ?_; rintro e w2 ⟨rfl, m, rfl⟩) | (go_at_call 63; first | (with_reducible refine (HF1.out _ (HP.out _ (bl2 b1 (HD.out _ _)))).mono ?_; rintro e w3 ⟨rfl, b3⟩) | (with_reducible refine (HF2.out _ (HP.out _ (bl2 (bl2 b1 (HD.out _ _)) b3))).mono ?_; rintro e w4 ⟨rfl, b4⟩)))
      go_ret
      exact ⟨by rw [HE0.out]; simp [Array.getD], bl2 (bl2 (bl2 b1 (HD.out _ _)) b3) b4⟩
    · rw [if_neg ht1] at HE0
      have HF1 := hidA (fun w ht => nFmt v hw0 (by omega) w ht)
      have hl1 : (Lib.decDigits v.toNat).length ≤ 21 := dd_len _ (by omega)
      generalize Lib.decDigits v.toNat = D1 at *
      go_enter Tryd.func40, Tryd.ntmps40
      go_wp2_with (first | (go_at_call 64; refine HU.out.mono ?_; rintro e w1 ⟨rfl, b1⟩) | (go_at_call 65; refine (HT.out _).mono ?_; rintro e w2 ⟨rfl, m, rfl⟩) | (go_at_call 66; refine (HW.out _).mono ?_; rintro e w5 ⟨rfl, rfl⟩) | (go_at_call 63; refine (HF1.out _ (HP.out _ (bl2 b1 (HD.out _ _)))).mono ?_; rintro e w3 ⟨rfl, b3⟩))
      go_ret
      exact ⟨by rw [HE0.out]; simp [Array.getD], bl2 (bl2 b1 (HD.out _ _)) b3⟩
end Go.Proofs.YtgkjpfebjhhdkaaDoor
