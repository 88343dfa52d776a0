/- The document's examples live: the walk. Conditions: the table of names; a number where a library's variable lies. -/
import Derived.Test.YtncnmeidciailaaDoorLb9
import Derived.Test.YtncnmeidciailaaDoorLa9
namespace Go.Proofs.YtncnmeidciailaaDoor
open Go.RowKit
attribute [local go_sem] ext_eq app_eq get_eq
namespace Gl
theorem live_p1 : pcs (flOf 0) [97, 42, 98, 63] = [.this 97, .star, .this 98, .any] := by kernel_rfl
theorem live_p2 : pcs (flOf 1) [42] = [.star] := by kernel_rfl
theorem live_m1 : Mt (flOf 0) [97, 120, 120, 98, 99] [.this 97, .star, .this 98, .any] 0 := by
  refine .one rfl (by decide) (by decide) ?_
  refine mt_star_iff.2 ⟨3, by decide, fun x _ _ => guard_none rfl rfl, ?_⟩
  exact .one rfl (by decide) (by decide) (.one rfl (by decide) (by decide) .nil)
theorem live_m2 : ¬ Mt (flOf 1) [97, 47, 98] [.star] 0 := by
  intro h
  obtain ⟨t, _, h2, h3⟩ := mt_star_iff.1 h
  rw [mt_nil] at h3
  subst h3
  have := h2 1 (by decide) (by decide)
  exact absurd this (by decide)
abbrev liveT : List UInt8 := [97, 45, 99, 91, 58, 100, 105, 103, 105, 116, 58, 93]
abbrev liveO : List UInt8 := [97, 98, 99, 48, 49, 50, 51, 52, 53, 54, 55, 56, 57]
theorem live_s : sR (-1) ⟨[], none⟩ liveT = some ⟨liveO, none⟩ := by kernel_rfl
theorem live_c : cls (liveT.drop 3) = some nDigit := by kernel_rfl
end Gl
theorem gNum (e : Int) (w : World) : Calls Tryd.prog 9 #[.int .i64 e] w fun x w' => x = .returned (.int .i64 e) ∧ w' = w := by
  go_enter Tryd.func9, Tryd.ntmps9
  go_wp2
  go_ret
  exact ⟨rfl, rfl⟩
theorem liveSet (w : World) (hc : CN w) (hm : ML w) : Calls Tryd.prog 20 #[.string ⟨Gl.liveT.toArray⟩, .int .i64 (-1)] w fun e w' => ∃ v, e = .returned (.tuple #[v, .int .i64 0]) ∧ By w.heap.size w' v Gl.liveO ∧ Below w.heap.size w w' := by
  refine gSet0 Gl.liveT (-1) (by decide) w hc hm ⟨Gl.liveO, none⟩ Gl.live_s rfl (by decide) (by decide) ?_
  intro B W rb v s k h hB hc hm hk
  by_cases hk3 : k = 3
  · subst hk3
    exact gItemC h hB 3 hk (by decide) Gl.nDigit Gl.live_c hc hm
  · refine gItemN h hB k hk (by decide) ?_
    have hk' : k < 12 := hk
    obtain rfl | rfl | rfl | rfl | rfl | rfl | rfl | rfl | rfl | rfl | rfl : k = 0 ∨ k = 1 ∨ k = 2 ∨ k = 4 ∨ k = 5 ∨ k = 6 ∨ k = 7 ∨ k = 8 ∨ k = 9 ∨ k = 10 ∨ k = 11 := by omega
    all_goals simp [Gl.liveT]
theorem liveM1 (w : World) : Calls Tryd.prog 12 #[.string ⟨#[97, 42, 98, 63]⟩, .string ⟨#[97, 120, 120, 98, 99]⟩, .int .i64 0] w fun e w' => e = .returned (.bool true) ∧ Below w.heap.size w w' := by
  refine (gMatchN [97, 42, 98, 63] [97, 120, 120, 98, 99] 0 (by decide) (by decide) w (fun k hk _ => ?_)).mono ?_
  · have hk' : k < 4 := hk
    obtain rfl | rfl | rfl | rfl : k = 0 ∨ k = 1 ∨ k = 2 ∨ k = 3 := by omega
    all_goals simp
  · rintro e w' ⟨b, rfl, hb, h2⟩
    rw [Gl.live_p1] at hb
    rw [hb.2 Gl.live_m1]
    exact ⟨rfl, h2⟩
theorem liveM2 (w : World) : Calls Tryd.prog 12 #[.string ⟨#[42]⟩, .string ⟨#[97, 47, 98]⟩, .int .i64 1] w fun e w' => e = .returned (.bool false) ∧ Below w.heap.size w w' := by
  refine (gMatchN [42] [97, 47, 98] 1 (by decide) (by decide) w (fun k hk _ => ?_)).mono ?_
  · have hk' : k < 1 := hk
    obtain rfl : k = 0 := by omega
    simp
  · rintro e w' ⟨b, rfl, hb, h2⟩
    rw [Gl.live_p2] at hb
    cases b with
    | false => exact ⟨rfl, h2⟩
    | true => exact absurd (hb.1 rfl) Gl.live_m2
set_option maxRecDepth 100000 in
set_option maxHeartbeats 1000000 in
theorem lives12 (w : World) (hc : CN w) (hm : ML w) : Calls Tryd.prog 10 #[] w fun e w' => e = .returned (.bool true) ∧ Below w.heap.size w w' := by
  have HS := hidA (liveSet w hc hm)
  have H1 := hidA (fun W => liveM1 W)
  have H2 := hidA (fun W => liveM2 W)
  have HN := hidA (fun e W => gNum e W)
  clear hc hm
  go_enter Tryd.func10, Tryd.ntmps10
  go_wp2_with (first | (go_at_call 20; refine HS.out.mono ?_; rintro e w1 ⟨v, rfl, hy, b1⟩; (have HY := hidA hy); (obtain ⟨ya, yc, hv⟩ : ∃ a c, v = .slice a 13 c := hy.slice); subst hv; (have B1 := hidA b1); clear hy b1) | (go_at_call 12; first | (with_reducible refine Calls.mono (H1.out _) ?_; rintro e w2 ⟨rfl, b2⟩; (have B2 := hidA (bl2 B1.out b2)); (have HY2 := hidA (HY.out.grow b2)); clear b2) | (with_reducible refine Calls.mono (H2.out _) ?_; rintro e w3 ⟨rfl, b3⟩; (have hcv3 : (convert 32 9 (.slice ya 13 yc)).run Tryd.prog w3 = .ok (.string ⟨#[97, 98, 99, 48, 49, 50, 51, 52, 53, 54, 55, 56, 57]⟩) w3 := (HY2.out.grow b3).text); (have B3 := hidA (bl2 B2.out b3)); clear b3)) | (go_at_call 9; refine (HN.out _ _).mono ?_; rintro e w4 ⟨rfl, hw'⟩; rw [hw']; clear hw' w4))
  go_ret
  exact ⟨rfl, B3.out⟩
end Go.Proofs.YtncnmeidciailaaDoor
