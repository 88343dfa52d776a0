/- The plain answer's Parse, of ten bytes. No condition. -/
import Derived.Test.YtmminmdmhefefaaPn5
namespace Go.Proofs.Ytmminmdmhefefaa
open Go.RowKit
attribute [local go_sem] get_eq ext_eq
set_option maxRecDepth 100000 in
set_option maxHeartbeats 2000000 in
theorem rParse_ten (l : List UInt8) (w : World) (h10 : l.length = 10) : Calls Try.prog 8 #[.string ⟨l.toArray⟩] w fun e w' => e = .returned (.tuple #[.int .i64 (Pm.parR l), .int .i64 (Pm.parE l)]) ∧ Below w.heap.size w w' := by
  have hp : 0 < l.length := by omega
  have H10 : Hid (l.length = 10) := h10
  have hi0 : ∀ w, (Instr.index 48 (.agg #[.int .i64 16384, .int .i64 40960, .int .i64 4096, .int .i64 32768]) (.int .i64 0)).run Try.prog w = .ok (.int .i64 16384) w := fun _ => by kernel_rfl
  have hi1 : ∀ w, (Instr.index 48 (.agg #[.int .i64 16384, .int .i64 40960, .int .i64 4096, .int .i64 32768]) (.int .i64 1)).run Try.prog w = .ok (.int .i64 40960) w := fun _ => by kernel_rfl
  have hi2 : ∀ w, (Instr.index 48 (.agg #[.int .i64 16384, .int .i64 40960, .int .i64 4096, .int .i64 32768]) (.int .i64 2)).run Try.prog w = .ok (.int .i64 4096) w := fun _ => by kernel_rfl
  have hi3 : ∀ w, (Instr.index 48 (.agg #[.int .i64 16384, .int .i64 40960, .int .i64 4096, .int .i64 32768]) (.int .i64 3)).run Try.prog w = .ok (.int .i64 32768) w := fun _ => by kernel_rfl
  go_enter Try.func8, Try.ntmps8
  go_wp2_with fail
  go_loopw [11] (fun t w' => ∃ k : Nat, k ≤ 4 ∧ t = .int .i64 k ∧ Dr w w' ∧ Hid (1 ≤ k → l[0].toNat ≠ 100) ∧ Hid (2 ≤ k → l[0].toNat ≠ 108) ∧ Hid (3 ≤ k → l[0].toNat ≠ 112) ∧ Hid (4 ≤ k → l[0].toNat ≠ 45)) (fun t _ => 4 - (intOf t).toNat)
  case atStart => exact ⟨0, by omega, rfl, Dr.refl w, fun h => absurd h (by omega), fun h => absurd h (by omega), fun h => absurd h (by omega), fun h => absurd h (by omega)⟩
  case round =>
    obtain ⟨k, hk, rfl, hD, H1, H2, H3, H4⟩ := hrel
    have HD : Hid (Dr w wr) := hD
    clear hD
    obtain rfl | rfl | rfl | rfl | rfl : k = 0 ∨ k = 1 ∨ k = 2 ∨ k = 3 ∨ k = 4 := by omega
    · by_cases hc : l[0].toNat = 100
      · have HC : Hid (l[0].toNat = 100) := hc
        have hq : ((100 : Int) == (l[0].toNat : Int)) = true := by simp; omega
        have HD2 : Hid (Dr w wr.drew) := HD.out.trans (Dr.drew _)
        clear hc
        go_wp2_with fail
        first | (go_region_held (fun _ => True) (trivial) (first | (go_at_call 10; refine (rText 16384 _).mono ?_; rintro e w' ⟨rfl, rfl⟩; rw [show Pm.txt 16384 = [100, 45, 45, 45, 45, 45, 45, 45, 45, 45] by kernel_rfl]))) | fail
        all_goals
          go_wp2_with fail
          go_loop [6, 7] (fun t s => (s = .int .i64 0 ∧ t = .int .i64 16384) ∨ (s = .int .i64 1 ∧ ∃ a, t = .int .i64 (bits .or .i64 16384 a) ∧ Hid (Pm.G0 l a)) ∨ (s = .int .i64 2 ∧ ∃ a b, t = .int .i64 (bits .or .i64 (bits .or .i64 16384 a) b) ∧ Hid (Pm.G0 l a) ∧ Hid (Pm.G1 l b)) ∨ (s = .int .i64 3 ∧ ∃ a b c, t = .int .i64 (Pm.all4 16384 a b c) ∧ Hid (Pm.G0 l a) ∧ Hid (Pm.G1 l b) ∧ Hid (Pm.G2 l c))) (fun _ s => 3 - (intOf s).toNat)
          case atStart => exact .inl ⟨rfl, rfl⟩
          case round =>
            rcases hrel with ⟨rfl, rfl⟩ | ⟨rfl, a, rfl, GA⟩ | ⟨rfl, a, b, rfl, GA, GB⟩ | ⟨rfl, a, b, c, rfl, GA, GB, GC⟩
            · go_wp2_with fail
              refine (rClass0 _ _).mono ?_
              rintro e w' ⟨⟨v, x, hv, hx, hF, rfl⟩ | ⟨hn, rfl⟩, hw⟩
              · have GN : Hid (Pm.G0 l (bits .or .i64 (v * 64) x)) := ⟨v, x, hv, hx, by simpa using hF, rfl⟩
                rw [hw]; clear hw w' hF
                go_wp2_with fail
                exact ⟨.inr (.inl ⟨rfl, _, rfl, GN⟩), by decide⟩
              · have HK : Hid (Pm.parR l = 0 ∧ Pm.parE l = 22) := Pm.not_ok l (Pm.no0 l (by simpa using hn))
                rw [hw]; clear hw w' hn
                go_wp2_with fail
                go_ret2
                exact ⟨ret_i2 HK.out.1 HK.out.2, HD2.out.below _⟩
            · go_wp2_with fail
              refine (rClass1 _ _).mono ?_
              rintro e w' ⟨⟨v, x, hv, hx, hF, rfl⟩ | ⟨hn, rfl⟩, hw⟩
              · have GN : Hid (Pm.G1 l (bits .or .i64 (v * 8) x)) := ⟨v, x, hv, hx, by simpa using hF, rfl⟩
                rw [hw]; clear hw w' hF
                go_wp2_with fail
                exact ⟨.inr (.inr (.inl ⟨rfl, _, _, rfl, GA, GN⟩)), by decide⟩
              · have HK : Hid (Pm.parR l = 0 ∧ Pm.parE l = 22) := Pm.not_ok l (Pm.no1 l (by simpa using hn))
                rw [hw]; clear hw w' hn
                go_wp2_with fail
                go_ret2
                exact ⟨ret_i2 HK.out.1 HK.out.2, HD2.out.below _⟩
            · have ht : l.take 10 = l := List.take_of_length_le (by omega)
              go_wp2_with fail
              refine (rClass2 _ _).mono ?_
              rintro e w' ⟨⟨v, x, hv, hx, hF, rfl⟩ | ⟨hn, rfl⟩, hw⟩
              · have GN : Hid (Pm.G2 l (bits .or .i64 (v * 1) x)) := ⟨v, x, hv, hx, by first | simpa using hF | (rw [ht]; simpa using hF), rfl⟩
                rw [hw]; clear hw w' hF
                go_wp2_with fail
                exact ⟨.inr (.inr (.inr ⟨rfl, _, _, _, by unfold Pm.all4; simp, GA, GB, GN⟩)), by decide⟩
              · have HK : Hid (Pm.parR l = 0 ∧ Pm.parE l = 22) := Pm.not_ok l (Pm.no2 l (by first | simpa using hn | (rw [ht]; simpa using hn)))
                rw [hw]; clear hw w' hn
                go_wp2_with fail
                go_ret2
                exact ⟨ret_i2 HK.out.1 HK.out.2, HD2.out.below _⟩
            · have HK : Hid (Pm.parR l = Pm.all4 16384 a b c ∧ Pm.parE l = 0) := Pm.par_ok l H10.out 16384 (by simp) (by rw [HC.out]; kernel_rfl) a b c GA.out GB.out GC.out
              go_wp2_with fail
              go_ret2
              exact ⟨ret_i2 HK.out.1 HK.out.2, HD2.out.below _⟩
      · have HC : Hid (l[0].toNat ≠ 100) := hc
        have hq : ((100 : Int) == (l[0].toNat : Int)) = false := by simp; omega
        clear hc
        go_wp2_with fail
        first | (go_region_held (fun _ => True) (trivial) (first | (go_at_call 10; refine (rText 16384 _).mono ?_; rintro e w' ⟨rfl, rfl⟩; rw [show Pm.txt 16384 = [100, 45, 45, 45, 45, 45, 45, 45, 45, 45] by kernel_rfl]))) | fail
        all_goals go_wp2_with fail
        all_goals exact ⟨⟨1, by omega, rfl, HD.out.trans (Dr.drew _), fun _ => HC, fun h => absurd h (by omega), fun h => absurd h (by omega), fun h => absurd h (by omega)⟩, by decide⟩
    · by_cases hc : l[0].toNat = 108
      · have HC : Hid (l[0].toNat = 108) := hc
        have hq : ((108 : Int) == (l[0].toNat : Int)) = true := by simp; omega
        have HD2 : Hid (Dr w wr.drew) := HD.out.trans (Dr.drew _)
        clear hc
        go_wp2_with fail
        first | (go_region_held (fun _ => True) (trivial) (first | (go_at_call 10; refine (rText 40960 _).mono ?_; rintro e w' ⟨rfl, rfl⟩; rw [show Pm.txt 40960 = [108, 45, 45, 45, 45, 45, 45, 45, 45, 45] by kernel_rfl]))) | fail
        all_goals
          go_wp2_with fail
          go_loop [6, 7] (fun t s => (s = .int .i64 0 ∧ t = .int .i64 40960) ∨ (s = .int .i64 1 ∧ ∃ a, t = .int .i64 (bits .or .i64 40960 a) ∧ Hid (Pm.G0 l a)) ∨ (s = .int .i64 2 ∧ ∃ a b, t = .int .i64 (bits .or .i64 (bits .or .i64 40960 a) b) ∧ Hid (Pm.G0 l a) ∧ Hid (Pm.G1 l b)) ∨ (s = .int .i64 3 ∧ ∃ a b c, t = .int .i64 (Pm.all4 40960 a b c) ∧ Hid (Pm.G0 l a) ∧ Hid (Pm.G1 l b) ∧ Hid (Pm.G2 l c))) (fun _ s => 3 - (intOf s).toNat)
          case atStart => exact .inl ⟨rfl, rfl⟩
          case round =>
            rcases hrel with ⟨rfl, rfl⟩ | ⟨rfl, a, rfl, GA⟩ | ⟨rfl, a, b, rfl, GA, GB⟩ | ⟨rfl, a, b, c, rfl, GA, GB, GC⟩
            · go_wp2_with fail
              refine (rClass0 _ _).mono ?_
              rintro e w' ⟨⟨v, x, hv, hx, hF, rfl⟩ | ⟨hn, rfl⟩, hw⟩
              · have GN : Hid (Pm.G0 l (bits .or .i64 (v * 64) x)) := ⟨v, x, hv, hx, by simpa using hF, rfl⟩
                rw [hw]; clear hw w' hF
                go_wp2_with fail
                exact ⟨.inr (.inl ⟨rfl, _, rfl, GN⟩), by decide⟩
              · have HK : Hid (Pm.parR l = 0 ∧ Pm.parE l = 22) := Pm.not_ok l (Pm.no0 l (by simpa using hn))
                rw [hw]; clear hw w' hn
                go_wp2_with fail
                go_ret2
                exact ⟨ret_i2 HK.out.1 HK.out.2, HD2.out.below _⟩
            · go_wp2_with fail
              refine (rClass1 _ _).mono ?_
              rintro e w' ⟨⟨v, x, hv, hx, hF, rfl⟩ | ⟨hn, rfl⟩, hw⟩
              · have GN : Hid (Pm.G1 l (bits .or .i64 (v * 8) x)) := ⟨v, x, hv, hx, by simpa using hF, rfl⟩
                rw [hw]; clear hw w' hF
                go_wp2_with fail
                exact ⟨.inr (.inr (.inl ⟨rfl, _, _, rfl, GA, GN⟩)), by decide⟩
              · have HK : Hid (Pm.parR l = 0 ∧ Pm.parE l = 22) := Pm.not_ok l (Pm.no1 l (by simpa using hn))
                rw [hw]; clear hw w' hn
                go_wp2_with fail
                go_ret2
                exact ⟨ret_i2 HK.out.1 HK.out.2, HD2.out.below _⟩
            · have ht : l.take 10 = l := List.take_of_length_le (by omega)
              go_wp2_with fail
              refine (rClass2 _ _).mono ?_
              rintro e w' ⟨⟨v, x, hv, hx, hF, rfl⟩ | ⟨hn, rfl⟩, hw⟩
              · have GN : Hid (Pm.G2 l (bits .or .i64 (v * 1) x)) := ⟨v, x, hv, hx, by first | simpa using hF | (rw [ht]; simpa using hF), rfl⟩
                rw [hw]; clear hw w' hF
                go_wp2_with fail
                exact ⟨.inr (.inr (.inr ⟨rfl, _, _, _, by unfold Pm.all4; simp, GA, GB, GN⟩)), by decide⟩
              · have HK : Hid (Pm.parR l = 0 ∧ Pm.parE l = 22) := Pm.not_ok l (Pm.no2 l (by first | simpa using hn | (rw [ht]; simpa using hn)))
                rw [hw]; clear hw w' hn
                go_wp2_with fail
                go_ret2
                exact ⟨ret_i2 HK.out.1 HK.out.2, HD2.out.below _⟩
            · have HK : Hid (Pm.parR l = Pm.all4 40960 a b c ∧ Pm.parE l = 0) := Pm.par_ok l H10.out 40960 (by simp) (by rw [HC.out]; kernel_rfl) a b c GA.out GB.out GC.out
              go_wp2_with fail
              go_ret2
              exact ⟨ret_i2 HK.out.1 HK.out.2, HD2.out.below _⟩
      · have HC : Hid (l[0].toNat ≠ 108) := hc
        have hq : ((108 : Int) == (l[0].toNat : Int)) = false := by simp; omega
        clear hc
        go_wp2_with fail
        first | (go_region_held (fun _ => True) (trivial) (first | (go_at_call 10; refine (rText 40960 _).mono ?_; rintro e w' ⟨rfl, rfl⟩; rw [show Pm.txt 40960 = [108, 45, 45, 45, 45, 45, 45, 45, 45, 45] by kernel_rfl]))) | fail
        all_goals go_wp2_with fail
        all_goals exact ⟨⟨2, by omega, rfl, HD.out.trans (Dr.drew _), fun _ => H1.out (by omega), fun _ => HC, fun h => absurd h (by omega), fun h => absurd h (by omega)⟩, by decide⟩
    · by_cases hc : l[0].toNat = 112
      · have HC : Hid (l[0].toNat = 112) := hc
        have hq : ((112 : Int) == (l[0].toNat : Int)) = true := by simp; omega
        have HD2 : Hid (Dr w wr.drew) := HD.out.trans (Dr.drew _)
        clear hc
        go_wp2_with fail
        first | (go_region_held (fun _ => True) (trivial) (first | (go_at_call 10; refine (rText 4096 _).mono ?_; rintro e w' ⟨rfl, rfl⟩; rw [show Pm.txt 4096 = [112, 45, 45, 45, 45, 45, 45, 45, 45, 45] by kernel_rfl]))) | fail
        all_goals
          go_wp2_with fail
          go_loop [6, 7] (fun t s => (s = .int .i64 0 ∧ t = .int .i64 4096) ∨ (s = .int .i64 1 ∧ ∃ a, t = .int .i64 (bits .or .i64 4096 a) ∧ Hid (Pm.G0 l a)) ∨ (s = .int .i64 2 ∧ ∃ a b, t = .int .i64 (bits .or .i64 (bits .or .i64 4096 a) b) ∧ Hid (Pm.G0 l a) ∧ Hid (Pm.G1 l b)) ∨ (s = .int .i64 3 ∧ ∃ a b c, t = .int .i64 (Pm.all4 4096 a b c) ∧ Hid (Pm.G0 l a) ∧ Hid (Pm.G1 l b) ∧ Hid (Pm.G2 l c))) (fun _ s => 3 - (intOf s).toNat)
          case atStart => exact .inl ⟨rfl, rfl⟩
          case round =>
            rcases hrel with ⟨rfl, rfl⟩ | ⟨rfl, a, rfl, GA⟩ | ⟨rfl, a, b, rfl, GA, GB⟩ | ⟨rfl, a, b, c, rfl, GA, GB, GC⟩
            · go_wp2_with fail
              refine (rClass0 _ _).mono ?_
              rintro e w' ⟨⟨v, x, hv, hx, hF, rfl⟩ | ⟨hn, rfl⟩, hw⟩
              · have GN : Hid (Pm.G0 l (bits .or .i64 (v * 64) x)) := ⟨v, x, hv, hx, by simpa using hF, rfl⟩
                rw [hw]; clear hw w' hF
                go_wp2_with fail
                exact ⟨.inr (.inl ⟨rfl, _, rfl, GN⟩), by decide⟩
              · have HK : Hid (Pm.parR l = 0 ∧ Pm.parE l = 22) := Pm.not_ok l (Pm.no0 l (by simpa using hn))
                rw [hw]; clear hw w' hn
                go_wp2_with fail
                go_ret2
                exact ⟨ret_i2 HK.out.1 HK.out.2, HD2.out.below _⟩
            · go_wp2_with fail
              refine (rClass1 _ _).mono ?_
              rintro e w' ⟨⟨v, x, hv, hx, hF, rfl⟩ | ⟨hn, rfl⟩, hw⟩
              · have GN : Hid (Pm.G1 l (bits .or .i64 (v * 8) x)) := ⟨v, x, hv, hx, by simpa using hF, rfl⟩
                rw [hw]; clear hw w' hF
                go_wp2_with fail
                exact ⟨.inr (.inr (.inl ⟨rfl, _, _, rfl, GA, GN⟩)), by decide⟩
              · have HK : Hid (Pm.parR l = 0 ∧ Pm.parE l = 22) := Pm.not_ok l (Pm.no1 l (by simpa using hn))
                rw [hw]; clear hw w' hn
                go_wp2_with fail
                go_ret2
                exact ⟨ret_i2 HK.out.1 HK.out.2, HD2.out.below _⟩
            · have ht : l.take 10 = l := List.take_of_length_le (by omega)
              go_wp2_with fail
              refine (rClass2 _ _).mono ?_
              rintro e w' ⟨⟨v, x, hv, hx, hF, rfl⟩ | ⟨hn, rfl⟩, hw⟩
              · have GN : Hid (Pm.G2 l (bits .or .i64 (v * 1) x)) := ⟨v, x, hv, hx, by first | simpa using hF | (rw [ht]; simpa using hF), rfl⟩
                rw [hw]; clear hw w' hF
                go_wp2_with fail
                exact ⟨.inr (.inr (.inr ⟨rfl, _, _, _, by unfold Pm.all4; simp, GA, GB, GN⟩)), by decide⟩
              · have HK : Hid (Pm.parR l = 0 ∧ Pm.parE l = 22) := Pm.not_ok l (Pm.no2 l (by first | simpa using hn | (rw [ht]; simpa using hn)))
                rw [hw]; clear hw w' hn
                go_wp2_with fail
                go_ret2
                exact ⟨ret_i2 HK.out.1 HK.out.2, HD2.out.below _⟩
            · have HK : Hid (Pm.parR l = Pm.all4 4096 a b c ∧ Pm.parE l = 0) := Pm.par_ok l H10.out 4096 (by simp) (by rw [HC.out]; kernel_rfl) a b c GA.out GB.out GC.out
              go_wp2_with fail
              go_ret2
              exact ⟨ret_i2 HK.out.1 HK.out.2, HD2.out.below _⟩
      · have HC : Hid (l[0].toNat ≠ 112) := hc
        have hq : ((112 : Int) == (l[0].toNat : Int)) = false := by simp; omega
        clear hc
        go_wp2_with fail
        first | (go_region_held (fun _ => True) (trivial) (first | (go_at_call 10; refine (rText 4096 _).mono ?_; rintro e w' ⟨rfl, rfl⟩; rw [show Pm.txt 4096 = [112, 45, 45, 45, 45, 45, 45, 45, 45, 45] by kernel_rfl]))) | fail
        all_goals go_wp2_with fail
        all_goals exact ⟨⟨3, by omega, rfl, HD.out.trans (Dr.drew _), fun _ => H1.out (by omega), fun _ => H2.out (by omega), fun _ => HC, fun h => absurd h (by omega)⟩, by decide⟩
    · by_cases hc : l[0].toNat = 45
      · have HC : Hid (l[0].toNat = 45) := hc
        have hq : ((45 : Int) == (l[0].toNat : Int)) = true := by simp; omega
        have HD2 : Hid (Dr w wr.drew) := HD.out.trans (Dr.drew _)
        clear hc
        go_wp2_with fail
        first | (go_region_held (fun _ => True) (trivial) (first | (go_at_call 10; refine (rText 32768 _).mono ?_; rintro e w' ⟨rfl, rfl⟩; rw [show Pm.txt 32768 = [45, 45, 45, 45, 45, 45, 45, 45, 45, 45] by kernel_rfl]))) | fail
        all_goals
          go_wp2_with fail
          go_loop [6, 7] (fun t s => (s = .int .i64 0 ∧ t = .int .i64 32768) ∨ (s = .int .i64 1 ∧ ∃ a, t = .int .i64 (bits .or .i64 32768 a) ∧ Hid (Pm.G0 l a)) ∨ (s = .int .i64 2 ∧ ∃ a b, t = .int .i64 (bits .or .i64 (bits .or .i64 32768 a) b) ∧ Hid (Pm.G0 l a) ∧ Hid (Pm.G1 l b)) ∨ (s = .int .i64 3 ∧ ∃ a b c, t = .int .i64 (Pm.all4 32768 a b c) ∧ Hid (Pm.G0 l a) ∧ Hid (Pm.G1 l b) ∧ Hid (Pm.G2 l c))) (fun _ s => 3 - (intOf s).toNat)
          case atStart => exact .inl ⟨rfl, rfl⟩
          case round =>
            rcases hrel with ⟨rfl, rfl⟩ | ⟨rfl, a, rfl, GA⟩ | ⟨rfl, a, b, rfl, GA, GB⟩ | ⟨rfl, a, b, c, rfl, GA, GB, GC⟩
            · go_wp2_with fail
              refine (rClass0 _ _).mono ?_
              rintro e w' ⟨⟨v, x, hv, hx, hF, rfl⟩ | ⟨hn, rfl⟩, hw⟩
              · have GN : Hid (Pm.G0 l (bits .or .i64 (v * 64) x)) := ⟨v, x, hv, hx, by simpa using hF, rfl⟩
                rw [hw]; clear hw w' hF
                go_wp2_with fail
                exact ⟨.inr (.inl ⟨rfl, _, rfl, GN⟩), by decide⟩
              · have HK : Hid (Pm.parR l = 0 ∧ Pm.parE l = 22) := Pm.not_ok l (Pm.no0 l (by simpa using hn))
                rw [hw]; clear hw w' hn
                go_wp2_with fail
                go_ret2
                exact ⟨ret_i2 HK.out.1 HK.out.2, HD2.out.below _⟩
            · go_wp2_with fail
              refine (rClass1 _ _).mono ?_
              rintro e w' ⟨⟨v, x, hv, hx, hF, rfl⟩ | ⟨hn, rfl⟩, hw⟩
              · have GN : Hid (Pm.G1 l (bits .or .i64 (v * 8) x)) := ⟨v, x, hv, hx, by simpa using hF, rfl⟩
                rw [hw]; clear hw w' hF
                go_wp2_with fail
                exact ⟨.inr (.inr (.inl ⟨rfl, _, _, rfl, GA, GN⟩)), by decide⟩
              · have HK : Hid (Pm.parR l = 0 ∧ Pm.parE l = 22) := Pm.not_ok l (Pm.no1 l (by simpa using hn))
                rw [hw]; clear hw w' hn
                go_wp2_with fail
                go_ret2
                exact ⟨ret_i2 HK.out.1 HK.out.2, HD2.out.below _⟩
            · have ht : l.take 10 = l := List.take_of_length_le (by omega)
              go_wp2_with fail
              refine (rClass2 _ _).mono ?_
              rintro e w' ⟨⟨v, x, hv, hx, hF, rfl⟩ | ⟨hn, rfl⟩, hw⟩
              · have GN : Hid (Pm.G2 l (bits .or .i64 (v * 1) x)) := ⟨v, x, hv, hx, by first | simpa using hF | (rw [ht]; simpa using hF), rfl⟩
                rw [hw]; clear hw w' hF
                go_wp2_with fail
                exact ⟨.inr (.inr (.inr ⟨rfl, _, _, _, by unfold Pm.all4; simp, GA, GB, GN⟩)), by decide⟩
              · have HK : Hid (Pm.parR l = 0 ∧ Pm.parE l = 22) := Pm.not_ok l (Pm.no2 l (by first | simpa using hn | (rw [ht]; simpa using hn)))
                rw [hw]; clear hw w' hn
                go_wp2_with fail
                go_ret2
                exact ⟨ret_i2 HK.out.1 HK.out.2, HD2.out.below _⟩
            · have HK : Hid (Pm.parR l = Pm.all4 32768 a b c ∧ Pm.parE l = 0) := Pm.par_ok l H10.out 32768 (by simp) (by rw [HC.out]; kernel_rfl) a b c GA.out GB.out GC.out
              go_wp2_with fail
              go_ret2
              exact ⟨ret_i2 HK.out.1 HK.out.2, HD2.out.below _⟩
      · have HC : Hid (l[0].toNat ≠ 45) := hc
        have hq : ((45 : Int) == (l[0].toNat : Int)) = false := by simp; omega
        clear hc
        go_wp2_with fail
        first | (go_region_held (fun _ => True) (trivial) (first | (go_at_call 10; refine (rText 32768 _).mono ?_; rintro e w' ⟨rfl, rfl⟩; rw [show Pm.txt 32768 = [45, 45, 45, 45, 45, 45, 45, 45, 45, 45] by kernel_rfl]))) | fail
        all_goals go_wp2_with fail
        all_goals exact ⟨⟨4, by omega, rfl, HD.out.trans (Dr.drew _), fun _ => H1.out (by omega), fun _ => H2.out (by omega), fun _ => H3.out (by omega), fun _ => HC⟩, by decide⟩
    · have HK : Hid (Pm.parR l = 0 ∧ Pm.parE l = 22) := Pm.not_ok l (Pm.nok l hp (H1.out (by omega)) (H2.out (by omega)) (H3.out (by omega)) (H4.out (by omega)))
      go_wp2_with fail
      go_ret2
      exact ⟨ret_i2 HK.out.1 HK.out.2, HD.out.below _⟩
theorem rParse (l : List UInt8) (w : World) : Calls Try.prog 8 #[.string ⟨l.toArray⟩] w fun e w' => e = .returned (.tuple #[.int .i64 (Pm.parR l), .int .i64 (Pm.parE l)]) ∧ Below w.heap.size w w' := by
  by_cases h : l.length = 10
  · exact rParse_ten l w h
  · exact rParse_no l w h
end Go.Proofs.Ytmminmdmhefefaa
