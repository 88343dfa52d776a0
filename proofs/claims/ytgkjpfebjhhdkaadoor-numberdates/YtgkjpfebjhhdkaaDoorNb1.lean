/- The walks of the plain answer's digits, value, Int, Octal, unit, Size. Conditions: lengths that fit. -/
import Derived.Test.YtgkjpfebjhhdkaaDoorNa1
namespace Go.Proofs.YtgkjpfebjhhdkaaDoor
open Go.RowKit
attribute [local go_sem] ext_eq app_eq get_eq
set_option maxRecDepth 100000 in
set_option maxHeartbeats 2000000 in
theorem rDigits (b : Int) (hb : 2 ≤ b ∧ b ≤ 10) (l : List UInt8) (w : World) (hl : l.length ≤ 2 ^ 47) : Calls Tryd.prog 37 #[.string ⟨l.toArray⟩, .int .u8 b] w fun e w' => e = .returned (.bool (Na.pl b l)) ∧ w' = w := by
  obtain ⟨hb1, hb2⟩ := hb
  have hw2 : IntKind.u8.wrap (48 + b) = 48 + b := by rw [IntKind.wrap_u8]; omega
  go_enter Tryd.func37, Tryd.ntmps37
  go_wp2_with fail
  go_loop [5] (fun i => ∃ pos : Nat, i = .int .i64 pos ∧ pos ≤ l.length ∧ Hid ((l.take pos).all (Na.dig b) = true)) (fun i => l.length - (intOf i).toNat)
  case atStart => exact ⟨0, rfl, Nat.zero_le _, rfl⟩
  case round =>
    obtain ⟨pos, rfl, hle, HN⟩ := hrel
    by_cases hp : pos < l.length
    · by_cases h1 : (l[pos].toNat : Int) < 48
      · have HE : Hid (Na.pl b l = false) := pl_of b l pos hp (by unfold Na.dig; rw [decide_eq_false (by omega)]; rfl)
        clear HN
        go_wp2
        go_ret
        exact ⟨by rw [HE.out]; rfl, rfl⟩
      · by_cases h2 : 48 + b ≤ (l[pos].toNat : Int)
        · have HE : Hid (Na.pl b l = false) := pl_of b l pos hp (by unfold Na.dig; rw [decide_eq_false (show ¬ (l[pos].toNat : Int) < 48 + b by omega)]; simp)
          clear HN
          go_wp2
          go_ret
          exact ⟨by rw [HE.out]; rfl, rfl⟩
        · have HE : Hid ((l.take (pos + 1)).all (Na.dig b) = true) := all_succ _ l pos hp HN.out (by rw [Na.dig_iff]; omega)
          clear HN
          go_wp2
          exact ⟨⟨pos + 1, by go_num, hp, HE⟩, by simp [intOf]; omega⟩
    · obtain rfl : pos = l.length := by omega
      have HE : Hid (Na.pl b l = !l.isEmpty) := pl_end b l HN.out
      clear HN
      go_wp2
      go_ret
      exact ⟨by rw [HE.out]; rfl, rfl⟩
set_option maxRecDepth 100000 in
set_option maxHeartbeats 2000000 in
theorem rValue (b t : Int) (hb : 2 ≤ b ∧ b ≤ 10) (ht : 9 ≤ t ∧ t ≤ 999999999999999999) (l : List UInt8) (hd : l.all (Na.dig b) = true) (w : World) (hl : l.length ≤ 2 ^ 47) : Calls Tryd.prog 38 #[.string ⟨l.toArray⟩, .int .i64 b, .int .i64 t] w fun e w' => e = .returned (.tuple #[.int .i64 ((Na.vl b t 0 l).getD 0), .bool (Na.vl b t 0 l).isSome]) ∧ w' = w := by
  obtain ⟨hb1, hb2⟩ := hb
  obtain ⟨ht1, ht2⟩ := ht
  go_enter Tryd.func38, Tryd.ntmps38
  go_wp2_with fail
  go_loop [8, 9] (fun s i => ∃ (pos : Nat) (n : Int), s = .int .i64 n ∧ i = .int .i64 pos ∧ pos ≤ l.length ∧ 0 ≤ n ∧ n ≤ t ∧ Hid (Na.vl b t n (l.drop pos) = Na.vl b t 0 l)) (fun _ i => l.length - (intOf i).toNat)
  case atStart => exact ⟨0, 0, rfl, rfl, Nat.zero_le _, by omega, by omega, rfl⟩
  case round =>
    obtain ⟨pos, n, rfl, rfl, hle, hn0, hnt, HN⟩ := hrel
    by_cases hp : pos < l.length
    · have hdr : l.drop pos = l[pos] :: l.drop (pos + 1) := List.drop_eq_getElem_cons hp
      have HN2 := HN.out
      rw [hdr, Na.vl] at HN2
      clear hdr HN
      obtain ⟨hd1, hd2⟩ := Na.dig_iff.1 (List.all_eq_true.1 hd _ (List.getElem_mem hp))
      have hq := Na.div_lt_iff (t := t) (d := ((l[pos].toNat : Int) - 48)) (b := b) (n := n) (by omega)
      have hqn : 0 ≤ (t - ((l[pos].toNat : Int) - 48)) / b := Int.ediv_nonneg (by omega) (by omega)
      have hqt : (t - ((l[pos].toNat : Int) - 48)) / b ≤ t := Int.le_trans (Int.ediv_le_self _ (by omega)) (by omega)
      have hqd : (t - ((l[pos].toNat : Int) - 48)).tdiv b = (t - ((l[pos].toNat : Int) - 48)) / b := Int.tdiv_eq_ediv_of_nonneg (by omega)
      have hmn : 0 ≤ n * b := Int.mul_nonneg hn0 (by omega)
      have hwu : IntKind.u8.wrap ((l[pos].toNat : Int) - 48) = (l[pos].toNat : Int) - 48 := by rw [IntKind.wrap_u8]; omega
      generalize (t - ((l[pos].toNat : Int) - 48)) / b = q at *
      by_cases h1 : q < n
      · rw [if_pos h1] at HN2
        have HE : Hid (Na.vl b t 0 l = none) := HN2.symm
        clear HN2 hq
        go_wp2
        go_ret2
        exact ⟨by rw [HE.out]; rfl, rfl⟩
      · rw [if_neg h1] at HN2
        have hs : n * b + ((l[pos].toNat : Int) - 48) ≤ t := by omega
        have HE : Hid (Na.vl b t (n * b + ((l[pos].toNat : Int) - 48)) (l.drop (pos + 1)) = Na.vl b t 0 l) := HN2
        clear HN2 hq
        go_wp2
        exact ⟨⟨pos + 1, _, rfl, by go_num, hp, by omega, by omega, HE⟩, by simp [intOf]; omega⟩
    · have HN2 := HN.out
      rw [List.drop_eq_nil_of_le (by omega)] at HN2
      have HE : Hid (Na.vl b t 0 l = some n) := HN2.symm
      clear HN HN2
      go_wp2
      go_ret2
      exact ⟨by rw [HE.out]; rfl, rfl⟩
theorem pl_all {b : Int} {l : List UInt8} (h : Na.pl b l = true) : l.all (Na.dig b) = true := by unfold Na.pl at h; rw [Bool.and_eq_true] at h; exact h.1
set_option maxRecDepth 100000 in
set_option maxHeartbeats 1000000 in
theorem rOctal (l : List UInt8) (w : World) (hl : l.length ≤ 2 ^ 47) : Calls Tryd.prog 14 #[.string ⟨l.toArray⟩] w fun e w' => e = .returned (.tuple #[.int .i64 (Na.octP l).1, .int .i64 (Na.octP l).2]) ∧ w' = w := by
  have HP := hidA (rDigits 8 (by decide) l w hl)
  cases hp : Na.pl 8 l with
  | false =>
    have HE : Hid (Na.octP l = (0, 22)) := by show _ = _; unfold Na.octP Na.rd; rw [hp]; rfl
    rw [hp] at HP
    clear hp
    go_enter Tryd.func14, Tryd.ntmps14
    go_wp2_with (go_at_call 37; refine HP.out.mono ?_; rintro e w1 ⟨rfl, rfl⟩)
    go_ret2
    exact ⟨by rw [HE.out]; rfl, rfl⟩
  | true =>
    have HV := hidA (rValue 8 Na.mx (by decide) (by decide) l (pl_all hp) w hl)
    have HE0 : Hid (Na.octP l = match Na.vl 8 Na.mx 0 l with | some n => (n, 0) | none => (0, 34)) := by show _ = _; unfold Na.octP Na.rd; rw [hp]; rfl
    rw [hp] at HP
    clear hp
    cases hv : Na.vl 8 Na.mx 0 l with
    | none =>
      have HE : Hid (Na.octP l = (0, 34)) := by show _ = _; rw [HE0.out, hv]
      simp only [hv, Option.getD_none, Option.isSome_none] at HV
      clear hv HE0
      go_enter Tryd.func14, Tryd.ntmps14
      go_wp2_with (first | (go_at_call 37; refine HP.out.mono ?_; rintro e w1 ⟨rfl, rfl⟩) | (go_at_call 38; refine HV.out.mono ?_; rintro e w2 ⟨rfl, rfl⟩))
      go_ret2
      exact ⟨by rw [HE.out]; rfl, rfl⟩
    | some n =>
      have HE : Hid (Na.octP l = (n, 0)) := by show _ = _; rw [HE0.out, hv]
      simp only [hv, Option.getD_some, Option.isSome_some] at HV
      clear hv HE0
      go_enter Tryd.func14, Tryd.ntmps14
      go_wp2_with (first | (go_at_call 37; refine HP.out.mono ?_; rintro e w1 ⟨rfl, rfl⟩) | (go_at_call 38; refine HV.out.mono ?_; rintro e w2 ⟨rfl, rfl⟩))
      go_ret2
      exact ⟨by rw [HE.out]; rfl, rfl⟩
set_option maxRecDepth 100000 in
set_option maxHeartbeats 1000000 in
/-- Int behind its sign: m the digits. -/
theorem rInt (l : List UInt8) (w : World) (hl : l.length ≤ 2 ^ 47) : Calls Tryd.prog 12 #[.string ⟨l.toArray⟩] w fun e w' => e = .returned (.tuple #[.int .i64 (Na.intP l).1, .int .i64 (Na.intP l).2]) ∧ w' = w := by
  cases l with
  | nil =>
    have HP := hidA (rDigits 10 (by decide) [] w hl)
    have hp : Na.pl 10 [] = false := rfl
    rw [hp] at HP
    clear hp
    go_enter Tryd.func12, Tryd.ntmps12
    go_wp2_with (go_at_call 37; refine HP.out.mono ?_; rintro e w1 ⟨rfl, rfl⟩)
    go_ret2
    exact ⟨rfl, rfl⟩
  | cons c r =>
    have hdr : List.drop 1 (c :: r) = r := rfl
    have htk : List.take (r.length + 1) (c :: r) = c :: r := by simp
    by_cases hc : c = 45
    · have hc' := byte_yes c 45 45 rfl hc
      have HE0 : Hid (Na.intP (c :: r) = (-(Na.rd 10 Na.mx r).1, (Na.rd 10 Na.mx r).2)) := by show _ = _; unfold Na.intP; rw [if_pos (by simp [hc])]; rfl
      have HP := hidA (rDigits 10 (by decide) r w (by simp at hl; omega))
      clear hc
      cases hp : Na.pl 10 r with
      | false =>
        have HE : Hid (Na.intP (c :: r) = (0, 22)) := by show _ = _; rw [HE0.out]; unfold Na.rd; rw [hp]; rfl
        rw [hp] at HP
        clear hp HE0
        go_enter Tryd.func12, Tryd.ntmps12
        go_wp2_with (go_at_call 37; refine HP.out.mono ?_; rintro e w1 ⟨rfl, rfl⟩)
        go_ret2
        exact ⟨by rw [HE.out]; rfl, rfl⟩
      | true =>
        have HV := hidA (rValue 10 Na.mx (by decide) (by decide) r (pl_all hp) w (by simp at hl; omega))
        have hrng := fun n => Na.vl_rng (b := 10) (t := Na.mx) (by decide) r 0 n (by decide) (by decide) (pl_all hp)
        have HE1 : Hid (Na.rd 10 Na.mx r = match Na.vl 10 Na.mx 0 r with | some n => (n, 0) | none => (0, 34)) := by show _ = _; unfold Na.rd; rw [hp]; rfl
        rw [hp] at HP
        clear hp
        cases hv : Na.vl 10 Na.mx 0 r with
        | none =>
          have HE : Hid (Na.intP (c :: r) = (0, 34)) := by show _ = _; rw [HE0.out, HE1.out, hv]; rfl
          simp only [hv, Option.getD_none, Option.isSome_none] at HV
          clear hv HE0 HE1 hrng
          go_enter Tryd.func12, Tryd.ntmps12
          go_wp2_with (first | (go_at_call 37; refine HP.out.mono ?_; rintro e w1 ⟨rfl, rfl⟩) | (go_at_call 38; refine HV.out.mono ?_; rintro e w2 ⟨rfl, rfl⟩))
          go_ret2
          exact ⟨by rw [HE.out]; rfl, rfl⟩
        | some n =>
          have HE : Hid (Na.intP (c :: r) = (-n, 0)) := by show _ = _; rw [HE0.out, HE1.out, hv]
          obtain ⟨hn0, hn1⟩ := hrng n hv
          have hn2 : n ≤ 999999999999999999 := hn1
          have hng : IntKind.i64.wrap (-n) = -n := by rw [IntKind.wrap_i64]; omega
          simp only [hv, Option.getD_some, Option.isSome_some] at HV
          clear hv HE0 HE1 hrng hn1
          go_enter Tryd.func12, Tryd.ntmps12
          go_wp2_with (first | (go_at_call 37; refine HP.out.mono ?_; rintro e w1 ⟨rfl, rfl⟩) | (go_at_call 38; refine HV.out.mono ?_; rintro e w2 ⟨rfl, rfl⟩))
          go_ret2
          exact ⟨by rw [HE.out]; rfl, rfl⟩
    · have hc' := byte_no c 45 45 rfl hc
      have HE0 : Hid (Na.intP (c :: r) = Na.rd 10 Na.mx (c :: r)) := by show _ = _; unfold Na.intP; rw [if_neg (by simpa using hc)]
      have HP := hidA (rDigits 10 (by decide) (c :: r) w hl)
      clear hc
      cases hp : Na.pl 10 (c :: r) with
      | false =>
        have HE : Hid (Na.intP (c :: r) = (0, 22)) := by show _ = _; rw [HE0.out]; unfold Na.rd; rw [hp]; rfl
        rw [hp] at HP
        clear hp HE0
        go_enter Tryd.func12, Tryd.ntmps12
        go_wp2_with (go_at_call 37; refine HP.out.mono ?_; rintro e w1 ⟨rfl, rfl⟩)
        go_ret2
        exact ⟨by rw [HE.out]; rfl, rfl⟩
      | true =>
        have HV := hidA (rValue 10 Na.mx (by decide) (by decide) (c :: r) (pl_all hp) w hl)
        have HE1 : Hid (Na.rd 10 Na.mx (c :: r) = match Na.vl 10 Na.mx 0 (c :: r) with | some n => (n, 0) | none => (0, 34)) := by show _ = _; unfold Na.rd; rw [hp]; rfl
        rw [hp] at HP
        clear hp
        cases hv : Na.vl 10 Na.mx 0 (c :: r) with
        | none =>
          have HE : Hid (Na.intP (c :: r) = (0, 34)) := by show _ = _; rw [HE0.out, HE1.out, hv]
          simp only [hv, Option.getD_none, Option.isSome_none] at HV
          clear hv HE0 HE1
          go_enter Tryd.func12, Tryd.ntmps12
          go_wp2_with (first | (go_at_call 37; refine HP.out.mono ?_; rintro e w1 ⟨rfl, rfl⟩) | (go_at_call 38; refine HV.out.mono ?_; rintro e w2 ⟨rfl, rfl⟩))
          go_ret2
          exact ⟨by rw [HE.out]; rfl, rfl⟩
        | some n =>
          have HE : Hid (Na.intP (c :: r) = (n, 0)) := by show _ = _; rw [HE0.out, HE1.out, hv]
          simp only [hv, Option.getD_some, Option.isSome_some] at HV
          clear hv HE0 HE1
          go_enter Tryd.func12, Tryd.ntmps12
          go_wp2_with (first | (go_at_call 37; refine HP.out.mono ?_; rintro e w1 ⟨rfl, rfl⟩) | (go_at_call 38; refine HV.out.mono ?_; rintro e w2 ⟨rfl, rfl⟩))
          go_ret2
          exact ⟨by rw [HE.out]; rfl, rfl⟩
end Go.Proofs.YtgkjpfebjhhdkaaDoor
