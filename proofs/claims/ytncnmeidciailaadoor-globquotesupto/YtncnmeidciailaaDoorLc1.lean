/- The walk of GlobQuotes. Conditions: texts that fit; the table of names; a number where a library's variable lies. -/
import Derived.Test.YtncnmeidciailaaDoorLc0
namespace Go.Proofs.YtncnmeidciailaaDoor
open Go.RowKit
attribute [local go_sem] ext_eq app_eq get_eq
theorem quoteMatch (s t : List UInt8) (hs : s.length ≤ 2 ^ 38) (ht : t.length ≤ 2 ^ 47) (w : World) : Calls Tryd.prog 12 #[.string ⟨(Gl.qt s).toArray⟩, .string ⟨t.toArray⟩, .int .i64 0] w fun e w' => e = .returned (.bool (decide (t = s))) ∧ Below w.heap.size w w' := by
  have hq := Gl.qt_len s
  refine (gMatchN (Gl.qt s) t 0 (by omega) ht w (fun k hk hr => Gl.reach_qt_no rfl rfl s k hk hr)).mono ?_
  rintro e w' ⟨b, rfl, hb, h2⟩
  rw [Gl.pcs_qt rfl rfl, Gl.mt_this rfl s 0 (Nat.zero_le _), List.drop_zero] at hb
  refine ⟨ret_bool ?_, h2⟩
  rw [Bool.eq_iff_iff, hb, decide_eq_true_eq]
theorem starMatch (s : List UInt8) (hs : s.length ≤ 2 ^ 47) (w : World) : Calls Tryd.prog 12 #[.string ⟨#[42]⟩, .string ⟨s.toArray⟩, .int .i64 0] w fun e w' => e = .returned (.bool true) ∧ Below w.heap.size w w' := by
  refine (gMatchN [42] s 0 (by decide) hs w (fun k hk _ => ?_)).mono ?_
  · have hk' : k < 1 := hk
    obtain rfl : k = 0 := by omega
    simp
  · rintro e w' ⟨b, rfl, hb, h2⟩
    rw [show Gl.pcs (Gl.flOf 0) [42] = [.star] by kernel_rfl] at hb
    rw [hb.2 (Gl.mt_all rfl rfl)]
    exact ⟨rfl, h2⟩
set_option maxRecDepth 100000 in
set_option maxHeartbeats 1000000 in
theorem quotes_walk (s t : List UInt8) (hs : s.length ≤ 2 ^ 38) (ht : t.length ≤ 2 ^ 47) (w : World) (hc : CN w) (hm : ML w) : Calls Tryd.prog 8 #[.string ⟨s.toArray⟩, .string ⟨t.toArray⟩] w fun e w' => e = .returned (.bool true) ∧ Below w.heap.size w w' := by
  have HQ := hidA (gQuote s (by omega) w)
  have H1 := hidA (fun W => quoteMatch s s hs (by omega) W)
  have H2 := hidA (fun W => quoteMatch s t hs ht W)
  have H3 := hidA (fun W => starMatch s (by omega) W)
  have hq := Gl.qt_len s
  have HG := hidA (fun W => gMagic (Gl.qt s) (by omega) W)
  have HL := hidA (fun W (b : Below w.heap.size w W) => lives12 W (hc.grow b (Nat.le_refl _)) (hm.grow b (Nat.le_refl _)))
  rw [decide_eq_true rfl] at H1
  rw [Gl.mgc_qt] at HG
  clear hc hm hq
  generalize Gl.qt s = q at *
  by_cases hst : s = t
  · have hst' : (s == t) = true := by simpa using hst
    clear H2 hst
    go_enter Tryd.func8, Tryd.ntmps8
    go_wp2_with (first | (go_at_call 16; refine HQ.out.mono ?_; rintro e w1 ⟨rfl, b1⟩) | (go_at_call 12; first | (with_reducible refine Calls.mono (H3.out _) ?_; rintro e w4 ⟨rfl, b4⟩; have B4 := hidA (bl2 B3.out b4); clear b4) | (with_reducible refine Calls.mono (H1.out _) ?_; rintro e w2 ⟨rfl, b2⟩; have B2 := hidA (bl2 b1 b2); clear b1 b2)) | (go_at_call 14; refine (HG.out _).mono ?_; rintro e w3 ⟨rfl, hw3⟩; (have B3 := B2); rw [hw3]; clear hw3 w3) | (go_at_call 10; refine (HL.out _ B4.out).mono ?_; rintro e w5 ⟨rfl, b5⟩))
    go_ret
    exact ⟨rfl, bl2 B4.out b5⟩
  · have hst' : (s == t) = false := by simpa using hst
    rw [decide_eq_false (fun h => hst h.symm)] at H2
    clear hst
    go_enter Tryd.func8, Tryd.ntmps8
    go_wp2_with (first | (go_at_call 16; refine HQ.out.mono ?_; rintro e w1 ⟨rfl, b1⟩) | (go_at_call 12; first | (with_reducible refine Calls.mono (H3.out _) ?_; rintro e w4 ⟨rfl, b4⟩; have B4 := hidA (bl2 B3.out b4); clear b4) | (with_reducible refine Calls.mono (H1.out _) ?_; rintro e w2 ⟨rfl, b2⟩; have B2 := hidA (bl2 b1 b2); clear b1 b2) | (with_reducible refine Calls.mono (H2.out _) ?_; rintro e w6 ⟨rfl, b6⟩; have B6 := hidA (bl2 B2.out b6); clear b6)) | (go_at_call 14; refine (HG.out _).mono ?_; rintro e w3 ⟨rfl, hw3⟩; (have B3 := B6); rw [hw3]; clear hw3 w3) | (go_at_call 10; refine (HL.out _ B4.out).mono ?_; rintro e w5 ⟨rfl, b5⟩))
    go_ret
    exact ⟨rfl, bl2 B4.out b5⟩
end Go.Proofs.YtncnmeidciailaaDoor
