/- The walks of the plain answer's Quote and of GlobMatches. Conditions: texts that fit; the table of names; a number where a library's variable lies. -/
import Derived.Test.YtncnmeidciailaaDoorLv9
import Derived.Test.YtncnmeidciailaaDoorLd9
import Derived.Test.YtncnmeidciailaaDoorLc0
namespace Go.Proofs.YtncnmeidciailaaDoor
open Go.RowKit
attribute [local go_sem] ext_eq app_eq get_eq
set_option maxRecDepth 100000 in
set_option maxHeartbeats 4000000 in
theorem rQuote (l : List UInt8) (hl : l.length ≤ 2 ^ 40) (w : World) : Calls Tryd.prog 17 #[.string ⟨l.toArray⟩] w fun e w' => e = .returned (.string ⟨(Gl.qt l).toArray⟩) ∧ Below w.heap.size w w' := by
  have hs : (⟨l.toArray⟩ : ByteArray).size = l.length := str_size l
  obtain ⟨iB, hiB, hz0, hz1, hz2⟩ := infoB
  have HY0 := hidA (By.nil w.heap.size w)
  have HB0 := hidA (Below.refl w.heap.size w)
  go_enter Tryd.func17, Tryd.ntmps17
  go_wp2
  go_loopw [3, 7] (fun v s7 W => ∃ (k : Nat), s7 = .int .i64 k ∧ k ≤ l.length ∧ Hid (By w.heap.size W v (Gl.qt (l.take k))) ∧ Hid (Below w.heap.size w W)) (fun _ s7 _ => l.length - (intOf s7).toNat)
  case atStart => exact ⟨0, rfl, Nat.zero_le _, HY0, HB0⟩
  case round =>
    obtain ⟨k, rfl, hk, HY, HB⟩ := hrel
    have hsz : w.heap.size ≤ wr.heap.size := HB.out.size
    by_cases hlt : k < l.length
    · have htk : l.take (k + 1) = l.take k ++ [l[k]] := List.take_succ_eq_append_getElem hlt
      have hqs := Gl.qt_snoc (l.take k) l[k]
      rw [← htk] at hqs
      have hql := Gl.qt_len (l.take k)
      rw [List.length_take, Nat.min_eq_left (by omega)] at hql
      generalize Gl.qt (l.take k) = PK at *
      clear htk HY0 HB0
      by_cases c1 : l[k] = 42 ∨ l[k] = 63 ∨ l[k] = 91 ∨ l[k] = 92
      · have HQ : Hid (Gl.qt (l.take (k + 1)) = (PK ++ [92]) ++ [l[k]]) := by
          show _ = _
          rw [hqs, if_pos (by rcases c1 with h | h | h | h <;> rw [h] <;> rfl)]; simp
        clear hqs
        rcases c1 with e | e | e | e
        · have n42 := byte_yes _ 42 42 rfl e
          clear e
          go_wp2_with (first | (at_builtin; refine wpList_append_own_at _ rfl _ _ 32 rfl w.heap.size 5 iB (.int .u8 0) 1 1 Tryd.underlying32 hiB hz0 hz1 hz2 rfl (by decide) _ _ _ rfl (HY.out.alloc _) ⟨wr.heap.size, 0, none⟩ 1 1 [.int .u8 92] rfl rfl (cell_one_new _ _ _) (one_u8 _) (by unfold maxLen; omega) (by omega) (by simp; omega) ?_; intro v2 w2 hown hg _ hat; obtain ⟨y2, b2, k2⟩ := HY.out.add (c := 92) HB.out hsz _ hown hg; have Y2 := hidA y2; have B2 := hidA b2; have hsz2 : w.heap.size ≤ w2.heap.size := b2.size; clear hown hg hat y2 b2 k2) | (at_builtin; refine wpList_append_own_at _ rfl _ _ 32 rfl w.heap.size 5 iB (.int .u8 0) 1 1 Tryd.underlying32 hiB hz0 hz1 hz2 rfl (by decide) _ _ _ rfl (Y2.out.alloc _) ⟨w2.heap.size, 0, none⟩ 1 1 [.int .u8 l[k].toNat] rfl rfl (cell_one_new _ _ _) (one_u8 _) (by unfold maxLen; simp; omega) (by simp; omega) (by simp; omega) ?_; intro v3 w3 hown hg _ hat; obtain ⟨y3, b3, k3⟩ := Y2.out.add B2.out hsz2 _ hown hg; have Y3 := hidA y3; have B3 := hidA b3; clear hown hg hat y3 b3 k3))
          exact ⟨⟨k + 1, by first | rfl | go_num, hlt, hidA (by rw [HQ.out]; exact Y3.out), B3⟩, by simp [intOf]; omega⟩
        · have n42 : ((l[k].toNat : Int) == 42) = false := by rw [e]; rfl
          have n63 := byte_yes _ 63 63 rfl e
          clear e
          go_wp2_with (first | (at_builtin; refine wpList_append_own_at _ rfl _ _ 32 rfl w.heap.size 5 iB (.int .u8 0) 1 1 Tryd.underlying32 hiB hz0 hz1 hz2 rfl (by decide) _ _ _ rfl (HY.out.alloc _) ⟨wr.heap.size, 0, none⟩ 1 1 [.int .u8 92] rfl rfl (cell_one_new _ _ _) (one_u8 _) (by unfold maxLen; omega) (by omega) (by simp; omega) ?_; intro v2 w2 hown hg _ hat; obtain ⟨y2, b2, k2⟩ := HY.out.add (c := 92) HB.out hsz _ hown hg; have Y2 := hidA y2; have B2 := hidA b2; have hsz2 : w.heap.size ≤ w2.heap.size := b2.size; clear hown hg hat y2 b2 k2) | (at_builtin; refine wpList_append_own_at _ rfl _ _ 32 rfl w.heap.size 5 iB (.int .u8 0) 1 1 Tryd.underlying32 hiB hz0 hz1 hz2 rfl (by decide) _ _ _ rfl (Y2.out.alloc _) ⟨w2.heap.size, 0, none⟩ 1 1 [.int .u8 l[k].toNat] rfl rfl (cell_one_new _ _ _) (one_u8 _) (by unfold maxLen; simp; omega) (by simp; omega) (by simp; omega) ?_; intro v3 w3 hown hg _ hat; obtain ⟨y3, b3, k3⟩ := Y2.out.add B2.out hsz2 _ hown hg; have Y3 := hidA y3; have B3 := hidA b3; clear hown hg hat y3 b3 k3))
          exact ⟨⟨k + 1, by first | rfl | go_num, hlt, hidA (by rw [HQ.out]; exact Y3.out), B3⟩, by simp [intOf]; omega⟩
        · have n42 : ((l[k].toNat : Int) == 42) = false := by rw [e]; rfl
          have n63 : ((l[k].toNat : Int) == 63) = false := by rw [e]; rfl
          have n91 := byte_yes _ 91 91 rfl e
          clear e
          go_wp2_with (first | (at_builtin; refine wpList_append_own_at _ rfl _ _ 32 rfl w.heap.size 5 iB (.int .u8 0) 1 1 Tryd.underlying32 hiB hz0 hz1 hz2 rfl (by decide) _ _ _ rfl (HY.out.alloc _) ⟨wr.heap.size, 0, none⟩ 1 1 [.int .u8 92] rfl rfl (cell_one_new _ _ _) (one_u8 _) (by unfold maxLen; omega) (by omega) (by simp; omega) ?_; intro v2 w2 hown hg _ hat; obtain ⟨y2, b2, k2⟩ := HY.out.add (c := 92) HB.out hsz _ hown hg; have Y2 := hidA y2; have B2 := hidA b2; have hsz2 : w.heap.size ≤ w2.heap.size := b2.size; clear hown hg hat y2 b2 k2) | (at_builtin; refine wpList_append_own_at _ rfl _ _ 32 rfl w.heap.size 5 iB (.int .u8 0) 1 1 Tryd.underlying32 hiB hz0 hz1 hz2 rfl (by decide) _ _ _ rfl (Y2.out.alloc _) ⟨w2.heap.size, 0, none⟩ 1 1 [.int .u8 l[k].toNat] rfl rfl (cell_one_new _ _ _) (one_u8 _) (by unfold maxLen; simp; omega) (by simp; omega) (by simp; omega) ?_; intro v3 w3 hown hg _ hat; obtain ⟨y3, b3, k3⟩ := Y2.out.add B2.out hsz2 _ hown hg; have Y3 := hidA y3; have B3 := hidA b3; clear hown hg hat y3 b3 k3))
          exact ⟨⟨k + 1, by first | rfl | go_num, hlt, hidA (by rw [HQ.out]; exact Y3.out), B3⟩, by simp [intOf]; omega⟩
        · have n42 : ((l[k].toNat : Int) == 42) = false := by rw [e]; rfl
          have n63 : ((l[k].toNat : Int) == 63) = false := by rw [e]; rfl
          have n91 : ((l[k].toNat : Int) == 91) = false := by rw [e]; rfl
          have n92 := byte_yes _ 92 92 rfl e
          clear e
          go_wp2_with (first | (at_builtin; refine wpList_append_own_at _ rfl _ _ 32 rfl w.heap.size 5 iB (.int .u8 0) 1 1 Tryd.underlying32 hiB hz0 hz1 hz2 rfl (by decide) _ _ _ rfl (HY.out.alloc _) ⟨wr.heap.size, 0, none⟩ 1 1 [.int .u8 92] rfl rfl (cell_one_new _ _ _) (one_u8 _) (by unfold maxLen; omega) (by omega) (by simp; omega) ?_; intro v2 w2 hown hg _ hat; obtain ⟨y2, b2, k2⟩ := HY.out.add (c := 92) HB.out hsz _ hown hg; have Y2 := hidA y2; have B2 := hidA b2; have hsz2 : w.heap.size ≤ w2.heap.size := b2.size; clear hown hg hat y2 b2 k2) | (at_builtin; refine wpList_append_own_at _ rfl _ _ 32 rfl w.heap.size 5 iB (.int .u8 0) 1 1 Tryd.underlying32 hiB hz0 hz1 hz2 rfl (by decide) _ _ _ rfl (Y2.out.alloc _) ⟨w2.heap.size, 0, none⟩ 1 1 [.int .u8 l[k].toNat] rfl rfl (cell_one_new _ _ _) (one_u8 _) (by unfold maxLen; simp; omega) (by simp; omega) (by simp; omega) ?_; intro v3 w3 hown hg _ hat; obtain ⟨y3, b3, k3⟩ := Y2.out.add B2.out hsz2 _ hown hg; have Y3 := hidA y3; have B3 := hidA b3; clear hown hg hat y3 b3 k3))
          exact ⟨⟨k + 1, by first | rfl | go_num, hlt, hidA (by rw [HQ.out]; exact Y3.out), B3⟩, by simp [intOf]; omega⟩
      · rw [not_or, not_or, not_or] at c1
        obtain ⟨e1, e2, e3, e4⟩ := c1
        have HQ : Hid (Gl.qt (l.take (k + 1)) = PK ++ [l[k]]) := by
          show _ = _
          rw [hqs, if_neg (by simp [Gl.spc, e1, e2, e3, e4])]
        have n1 := byte_no _ 42 42 rfl e1
        have n2 := byte_no _ 63 63 rfl e2
        have n3 := byte_no _ 91 91 rfl e3
        have n4 := byte_no _ 92 92 rfl e4
        clear hqs e1 e2 e3 e4
        go_wp2_with ((at_builtin; refine wpList_append_own_at _ rfl _ _ 32 rfl w.heap.size 5 iB (.int .u8 0) 1 1 Tryd.underlying32 hiB hz0 hz1 hz2 rfl (by decide) _ _ _ rfl (HY.out.alloc _) ⟨wr.heap.size, 0, none⟩ 1 1 [.int .u8 l[k].toNat] rfl rfl (cell_one_new _ _ _) (one_u8 _) (by unfold maxLen; omega) (by omega) (by simp; omega) ?_; intro v2 w2 hown hg _ hat; obtain ⟨y2, b2, k2⟩ := HY.out.add (c := l[k]) HB.out hsz _ hown hg; have Y2 := hidA y2; have B2 := hidA b2; have hsz2 : w.heap.size ≤ w2.heap.size := b2.size; clear hown hg hat y2 b2 k2))
        exact ⟨⟨k + 1, by first | rfl | go_num, hlt, hidA (by rw [HQ.out]; exact Y2.out), B2⟩, by simp [intOf]; omega⟩
    · have hcv := HY.out.text
      rw [List.take_of_length_le (by omega)] at hcv
      clear HY HY0 HB0
      go_wp2
      go_ret
      exact ⟨rfl, HB.out⟩
theorem gFarM (l : List UInt8) (w : World) : Calls Tryd.prog 11 #[.string ⟨l.toArray⟩] w fun e w' => e = .returned (.bool (decide (4096 < l.length))) ∧ w' = w := by
  have hs : (⟨l.toArray⟩ : ByteArray).size = l.length := str_size l
  by_cases h : 4096 < l.length
  · have h1 : decide ((4096 : Int) < (l.length : Int)) = true := decide_eq_true (by omega)
    have h2 : decide (4096 < l.length) = true := decide_eq_true h
    go_enter Tryd.func11, Tryd.ntmps11
    go_wp2
    go_ret
    exact ⟨by simp [h], rfl⟩
  · have h1 : decide ((4096 : Int) < (l.length : Int)) = false := decide_eq_false (by omega)
    have h2 : decide (4096 < l.length) = false := decide_eq_false h
    go_enter Tryd.func11, Tryd.ntmps11
    go_wp2
    go_ret
    exact ⟨by simp [h], rfl⟩
set_option maxRecDepth 100000 in
set_option maxHeartbeats 4000000 in
theorem matches_walk (p s : List UInt8) (fl : Int) (w : World) (hc : CN w) (hm : ML w) : Calls Tryd.prog 4 #[.string ⟨p.toArray⟩, .string ⟨s.toArray⟩, .int .i64 fl] w fun e w' => e = .returned (.bool true) ∧ Below w.heap.size w w' := by
  have HL := hidA (fun W (b : Below w.heap.size w W) => lives12 W (hc.grow b (Nat.le_refl _)) (hm.grow b (Nat.le_refl _)))
  have HF1 := hidA (fun W => gFarM p W)
  have HF2 := hidA (fun W => gFarM s W)
  by_cases h1 : 4096 < p.length
  · rw [decide_eq_true h1] at HF1
    clear hc hm h1 HF2
    go_enter Tryd.func4, Tryd.ntmps4
    go_wp2_with (first | (go_at_call 11; refine (HF1.out _).mono ?_; rintro e w1 ⟨rfl, hw'⟩; rw [hw']; clear hw' w1) | (go_at_call 10; refine (HL.out _ (Below.refl _ _)).mono ?_; rintro e w2 ⟨rfl, b2⟩))
    go_ret
    exact ⟨rfl, b2⟩
  rw [decide_eq_false h1] at HF1
  by_cases h2 : 4096 < s.length
  · rw [decide_eq_true h2] at HF2
    clear hc hm h1 h2
    go_enter Tryd.func4, Tryd.ntmps4
    go_wp2_with (first | (go_at_call 11; first | (with_reducible refine Calls.mono (HF1.out _) ?_; rintro e w1 ⟨rfl, hw'⟩; rw [hw']; clear hw' w1 HF1) | (with_reducible refine Calls.mono (HF2.out _) ?_; rintro e w1 ⟨rfl, hw'⟩; rw [hw']; clear hw' w1)) | (go_at_call 10; refine (HL.out _ (Below.refl _ _)).mono ?_; rintro e w2 ⟨rfl, b2⟩))
    go_ret
    exact ⟨rfl, b2⟩
  rw [decide_eq_false h2] at HF2
  have HM1 := hidA (gMatchB p s fl (by omega) (by omega) w hc)
  have HM2 := hidA (fun W => rMatch p s fl (by omega) (by omega) W)
  have HG1 := hidA (fun W => gMagic p (by omega) W)
  have HG2 := hidA (fun W => rMagic p (by omega) W)
  have HQ1 := hidA (fun W => gQuote s (by omega) W)
  have HQ2 := hidA (fun W => rQuote s (by omega) W)
  clear hc hm h1 h2
  have hmm : (Gl.mgc p == Gl.mgc p) = true := by simp
  have hqq : (Gl.qt s == Gl.qt s) = true := by simp
  generalize Gl.mgc p = mg at *
  generalize Gl.qt s = qs at *
  generalize Gl.Mt (Gl.flOf fl) s (Gl.pcs (Gl.flOf fl) p) 0 = MT at *
  go_enter Tryd.func4, Tryd.ntmps4
  go_wp2_with (first
    | (go_at_call 11; first | (with_reducible refine Calls.mono (HF1.out _) ?_; rintro e w1 ⟨rfl, hw'⟩; rw [hw']; clear hw' w1 HF1) | (with_reducible refine Calls.mono (HF2.out _) ?_; rintro e w1 ⟨rfl, hw'⟩; rw [hw']; clear hw' w1))
    | (go_at_call 12; refine HM1.out.mono ?_; rintro e w2 ⟨b, rfl, hb, b2⟩; (have Hb := hidA hb); (have B2 := hidA b2); clear hb b2)
    | (go_at_call 13; refine (HM2.out _).mono ?_; rintro e w3 ⟨b', rfl, hb', b3⟩; (obtain rfl : b' = b := by rw [Bool.eq_iff_iff, hb', Hb.out]); (have hbb : (b' == b') = true := by simp); (have B3 := hidA (bl2 B2.out b3)); clear hb' b3)
    | (go_at_call 14; refine (HG1.out _).mono ?_; rintro e w1 ⟨rfl, hw'⟩; rw [hw']; clear hw' w1)
    | (go_at_call 15; refine (HG2.out _).mono ?_; rintro e w1 ⟨rfl, hw'⟩; rw [hw']; clear hw' w1)
    | (go_at_call 16; refine (HQ1.out _).mono ?_; rintro e w4 ⟨rfl, b4⟩; (have B4 := hidA (bl2 B3.out b4)); clear b4)
    | (go_at_call 17; refine (HQ2.out _).mono ?_; rintro e w5 ⟨rfl, b5⟩; (have B5 := hidA (bl2 B4.out b5)); clear b5)
    | (go_at_call 10; refine (HL.out _ B5.out).mono ?_; rintro e w6 ⟨rfl, b6⟩))
  go_ret
  exact ⟨rfl, bl2 B5.out b6⟩
end Go.Proofs.YtncnmeidciailaaDoor
