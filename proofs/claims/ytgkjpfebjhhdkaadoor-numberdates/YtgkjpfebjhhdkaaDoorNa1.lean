/- The walks of the program's plain, value, read. Conditions: lengths that fit. -/
import Derived.Test.YtgkjpfebjhhdkaaDoorNa0
namespace Go.Proofs.YtgkjpfebjhhdkaaDoor
open Go.RowKit
attribute [local go_sem] ext_eq app_eq get_eq
theorem pl_of (b : Int) (l : List UInt8) (pos : Nat) (hp : pos < l.length) (hd : Na.dig b l[pos] = false) : Na.pl b l = false := by
  unfold Na.pl
  rw [Bool.and_eq_false_iff]; left
  cases h : l.all (Na.dig b) with
  | false => rfl
  | true => rw [← hd]; exact (List.all_eq_true.1 h _ (List.getElem_mem hp)).symm
theorem pl_end (b : Int) (l : List UInt8) (h : (l.take l.length).all (Na.dig b) = true) : Na.pl b l = !l.isEmpty := by
  rw [List.take_length] at h
  unfold Na.pl
  rw [h, Bool.true_and]
theorem all_succ (p : UInt8 → Bool) (l : List UInt8) (pos : Nat) (hp : pos < l.length) (h : (l.take pos).all p = true) (hd : p l[pos] = true) : (l.take (pos + 1)).all p = true := by
  rw [List.take_succ_eq_append_getElem hp, List.all_append, h]; simp [hd]
set_option maxRecDepth 100000 in
set_option maxHeartbeats 2000000 in
theorem nPlain (b : Int) (hb : 2 ≤ b ∧ b ≤ 10) (l : List UInt8) (w : World) : Calls Tryd.prog 51 #[.string ⟨l.toArray⟩, .int .i64 b] w fun e w' => e = .returned (.bool (Na.pl b l)) ∧ Below w.heap.size w w' := by
  have HB : Hid (∀ p, Below w.heap.size w (w.iter ⟨l.toArray⟩ p)) := fun p => below_iter w _ p
  obtain ⟨hb1, hb2⟩ := hb
  have hw1 : IntKind.i32.wrap b = b := by rw [IntKind.wrap_i32]; omega
  have hw2 : IntKind.i32.wrap (48 + b) = 48 + b := by rw [IntKind.wrap_i32]; omega
  generalize hbk : w.heap.size = bk at *
  go_enter Tryd.func51, Tryd.ntmps51
  go_wp2_with fail
  go_loopw [6] (fun _ w' => ∃ (pos : Nat), w' = w.iter ⟨l.toArray⟩ pos ∧ pos ≤ l.length ∧ Hid ((l.take pos).all (Na.dig b) = true)) (fun _ w' => l.length - w'.iterPos bk)
  case atStart => exact ⟨0, rfl, Nat.zero_le _, rfl⟩
  case round =>
    obtain ⟨pos, rfl, hle, HN⟩ := hrel
    by_cases hp : pos < l.length
    · by_cases hc : l[pos].toNat < 128
      · have hnx : ∀ ty, (Instr.next (.pointer (some ⟨bk, 0, none⟩)) true ty).run Tryd.prog (w.iter ⟨l.toArray⟩ pos) = .ok (.tuple #[.bool true, .int .i64 pos, .int .i32 l[pos].toNat]) (w.iter ⟨l.toArray⟩ (pos + 1)) := fun ty => nit_low w bk hbk l pos hp hc ty
        by_cases h1 : (l[pos].toNat : Int) < 48
        · have HE : Hid (Na.pl b l = false) := pl_of b l pos hp (by unfold Na.dig; rw [decide_eq_false (by omega)]; rfl)
          clear HN
          go_wp2_with fail
          go_ret
          exact ⟨by rw [HE.out]; rfl, HB.out _⟩
        · by_cases h2 : 48 + b ≤ (l[pos].toNat : Int)
          · have HE : Hid (Na.pl b l = false) := pl_of b l pos hp (by unfold Na.dig; rw [decide_eq_false (show ¬ (l[pos].toNat : Int) < 48 + b by omega)]; simp)
            clear HN
            go_wp2_with fail
            go_ret
            exact ⟨by rw [HE.out]; rfl, HB.out _⟩
          · have HE : Hid ((l.take (pos + 1)).all (Na.dig b) = true) := all_succ _ l pos hp HN.out (by rw [Na.dig_iff]; omega)
            clear HN
            go_wp2_with fail
            exact ⟨⟨pos + 1, rfl, hp, HE⟩, by rw [nit_pos w bk hbk, nit_pos w bk hbk]; omega⟩
      · obtain ⟨hh1, -⟩ := dec_high l pos hp (by omega)
        have hnx : ∀ ty, (Instr.next (.pointer (some ⟨bk, 0, none⟩)) true ty).run Tryd.prog (w.iter ⟨l.toArray⟩ pos) = _ := fun ty => nit_any w bk hbk l pos hp ty
        have HE : Hid (Na.pl b l = false) := pl_of b l pos hp (by unfold Na.dig; rw [decide_eq_false (show ¬ (l[pos].toNat : Int) < 48 + b by omega)]; simp)
        generalize Utf8.decode ⟨l.toArray⟩ pos = D at hnx hh1
        have h1 : ¬ (D.1 : Int) < 48 := by omega
        have h2 : 48 + b ≤ (D.1 : Int) := by omega
        clear HN hh1
        go_wp2_with fail
        go_ret
        exact ⟨by rw [HE.out]; rfl, HB.out _⟩
    · have hnx : ∀ ty, (Instr.next (.pointer (some ⟨bk, 0, none⟩)) true ty).run Tryd.prog (w.iter ⟨l.toArray⟩ pos) = _ := fun ty => nit_fin w bk hbk l pos hp ty
      obtain rfl : pos = l.length := by omega
      have HE : Hid (Na.pl b l = !l.isEmpty) := pl_end b l HN.out
      clear HN
      go_wp2_with fail
      go_ret
      exact ⟨by rw [HE.out]; rfl, HB.out _⟩
set_option maxRecDepth 100000 in
set_option maxHeartbeats 2000000 in
theorem nValue (b t : Int) (hb : 2 ≤ b ∧ b ≤ 10) (ht : 9 ≤ t ∧ t ≤ 999999999999999999) (l : List UInt8) (hd : l.all (Na.dig b) = true) (w : World) : Calls Tryd.prog 62 #[.string ⟨l.toArray⟩, .int .i64 b, .int .i64 t] w fun e w' => e = .returned (.tuple #[.int .i64 ((Na.vl b t 0 l).getD 0), .bool (Na.vl b t 0 l).isSome]) ∧ Below w.heap.size w w' := by
  have HB : Hid (∀ p, Below w.heap.size w (w.iter ⟨l.toArray⟩ p)) := fun p => below_iter w _ p
  obtain ⟨hb1, hb2⟩ := hb
  obtain ⟨ht1, ht2⟩ := ht
  generalize hbk : w.heap.size = bk at *
  go_enter Tryd.func62, Tryd.ntmps62
  go_wp2_with fail
  go_loopw [8] (fun s w' => ∃ (pos : Nat) (n : Int), s = .int .i64 n ∧ w' = w.iter ⟨l.toArray⟩ pos ∧ pos ≤ l.length ∧ 0 ≤ n ∧ n ≤ t ∧ Hid (Na.vl b t n (l.drop pos) = Na.vl b t 0 l)) (fun _ w' => l.length - w'.iterPos bk)
  case atStart => exact ⟨0, 0, rfl, rfl, Nat.zero_le _, by omega, by omega, rfl⟩
  case round =>
    obtain ⟨pos, n, rfl, rfl, hle, hn0, hnt, HN⟩ := hrel
    by_cases hp : pos < l.length
    · have hdr : l.drop pos = l[pos] :: l.drop (pos + 1) := List.drop_eq_getElem_cons hp
      have HN2 := HN.out
      rw [hdr, Na.vl] at HN2
      clear hdr HN
      obtain ⟨hd1, hd2⟩ := Na.dig_iff.1 (List.all_eq_true.1 hd _ (List.getElem_mem hp))
      have hc : l[pos].toNat < 128 := by omega
      have hnx : ∀ ty, (Instr.next (.pointer (some ⟨bk, 0, none⟩)) true ty).run Tryd.prog (w.iter ⟨l.toArray⟩ pos) = .ok (.tuple #[.bool true, .int .i64 pos, .int .i32 l[pos].toNat]) (w.iter ⟨l.toArray⟩ (pos + 1)) := fun ty => nit_low w bk hbk l pos hp hc ty
      have hq := Na.div_lt_iff (t := t) (d := ((l[pos].toNat : Int) - 48)) (b := b) (n := n) (by omega)
      have hqn : 0 ≤ (t - ((l[pos].toNat : Int) - 48)) / b := Int.ediv_nonneg (by omega) (by omega)
      have hqt : (t - ((l[pos].toNat : Int) - 48)) / b ≤ t := Int.le_trans (Int.ediv_le_self _ (by omega)) (by omega)
      have hqd : (t - ((l[pos].toNat : Int) - 48)).tdiv b = (t - ((l[pos].toNat : Int) - 48)) / b := Int.tdiv_eq_ediv_of_nonneg (by omega)
      have hmn : 0 ≤ n * b := Int.mul_nonneg hn0 (by omega)
      generalize (t - ((l[pos].toNat : Int) - 48)) / b = q at *
      by_cases h1 : q < n
      · rw [if_pos h1] at HN2
        have HE : Hid (Na.vl b t 0 l = none) := HN2.symm
        clear HN2 hq
        go_wp2_with fail
        go_ret2
        exact ⟨by rw [HE.out]; rfl, HB.out _⟩
      · rw [if_neg h1] at HN2
        have hs : n * b + ((l[pos].toNat : Int) - 48) ≤ t := by omega
        have HE : Hid (Na.vl b t (n * b + ((l[pos].toNat : Int) - 48)) (l.drop (pos + 1)) = Na.vl b t 0 l) := HN2
        clear HN2 hq
        go_wp2_with fail
        exact ⟨⟨pos + 1, _, rfl, rfl, hp, by omega, by omega, HE⟩, by rw [nit_pos w bk hbk, nit_pos w bk hbk]; omega⟩
    · have hnx : ∀ ty, (Instr.next (.pointer (some ⟨bk, 0, none⟩)) true ty).run Tryd.prog (w.iter ⟨l.toArray⟩ pos) = _ := fun ty => nit_fin w bk hbk l pos hp ty
      have HN2 := HN.out
      rw [List.drop_eq_nil_of_le (by omega)] at HN2
      have HE : Hid (Na.vl b t 0 l = some n) := HN2.symm
      clear HN HN2
      go_wp2_with fail
      go_ret2
      exact ⟨by rw [HE.out]; rfl, HB.out _⟩
set_option maxRecDepth 100000 in
set_option maxHeartbeats 2000000 in
theorem nRead (b t : Int) (hb : 2 ≤ b ∧ b ≤ 10) (ht : 9 ≤ t ∧ t ≤ 999999999999999999) (l : List UInt8) (w : World) : Calls Tryd.prog 32 #[.string ⟨l.toArray⟩, .int .i64 b, .int .i64 t] w fun e w' => e = .returned (.tuple #[.int .i64 (Na.rd b t l).1, .int .i64 (Na.rd b t l).2]) ∧ Below w.heap.size w w' := by
  have HP := hidA (nPlain b hb l w)
  cases hp : Na.pl b l with
  | false =>
    have HE : Hid (Na.rd b t l = (0, 22)) := by show _ = _; unfold Na.rd; rw [hp]; rfl
    rw [hp] at HP
    clear hp
    go_enter Tryd.func32, Tryd.ntmps32
    go_wp2_with (go_at_call 51; refine HP.out.mono ?_; rintro e w1 ⟨rfl, b1⟩)
    go_ret2
    exact ⟨by rw [HE.out]; rfl, b1⟩
  | true =>
    have hd : l.all (Na.dig b) = true := by unfold Na.pl at hp; rw [Bool.and_eq_true] at hp; exact hp.1
    have HV := hidA (fun w1 => nValue b t hb ht l hd w1)
    have HE : Hid (Na.rd b t l = match Na.vl b t 0 l with | some n => (n, 0) | none => (0, 34)) := by show _ = _; unfold Na.rd; rw [hp]; rfl
    rw [hp] at HP
    clear hp
    cases hv : Na.vl b t 0 l with
    | none =>
      rw [hv] at HE
      simp only [hv, Option.getD_none, Option.isSome_none] at HV
      clear hv
      go_enter Tryd.func32, Tryd.ntmps32
      go_wp2_with (first | (go_at_call 51; refine HP.out.mono ?_; rintro e w1 ⟨rfl, b1⟩) | (go_at_call 62; refine (HV.out _).mono ?_; rintro e w2 ⟨rfl, b2⟩))
      go_ret2
      exact ⟨by rw [HE.out]; rfl, b1.trans (b2.mono b1.size)⟩
    | some n =>
      rw [hv] at HE
      simp only [hv, Option.getD_some, Option.isSome_some] at HV
      clear hv
      go_enter Tryd.func32, Tryd.ntmps32
      go_wp2_with (first | (go_at_call 51; refine HP.out.mono ?_; rintro e w1 ⟨rfl, b1⟩) | (go_at_call 62; refine (HV.out _).mono ?_; rintro e w2 ⟨rfl, b2⟩))
      go_ret2
      exact ⟨by rw [HE.out]; rfl, b1.trans (b2.mono b1.size)⟩
end Go.Proofs.YtgkjpfebjhhdkaaDoor
