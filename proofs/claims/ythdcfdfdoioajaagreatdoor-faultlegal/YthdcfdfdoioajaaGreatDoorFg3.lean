/- The walks of the plain answer's among, Call and Legal, and of FaultLegal itself: for whatever call, error and number it answers true and changes nothing. Conditions: the tables; a text that fits. Seat of FaultLegal. -/
import Derived.Test.YthdcfdfdoioajaaGreatDoorFg1
namespace Go.Proofs.YthdcfdfdoioajaaGreatDoor
open Go.RowKit
open Ev (StrS)
attribute [local go_sem] ext_eq app_eq get_eq
set_option maxRecDepth 100000 in
set_option maxHeartbeats 2000000 in
theorem gAmg (s l : List UInt8) (hs : s.length ≤ 2 ^ 60) (hl : l.length ≤ 2 ^ 60) (w : World) : Calls Tryz.prog 11 #[.string ⟨s.toArray⟩, .string ⟨l.toArray⟩] w fun r w' => r = .returned (.bool (Fg.amg s l)) ∧ w' = w := by
  obtain ⟨Lp, HLp⟩ : ∃ x : List UInt8, Hid (x = ([32] ++ l) ++ [32]) := ⟨([32] ++ l) ++ [32], hidA rfl⟩
  obtain ⟨Wp, HWp⟩ : ∃ x : List UInt8, Hid (x = ([32] ++ s) ++ [32]) := ⟨([32] ++ s) ++ [32], hidA rfl⟩
  have hA : Fg.amg s l = (List.range (Lp.length + 1 - Wp.length)).any (Fg.at_ Wp Lp) := by unfold Fg.amg; rw [HLp.out, HWp.out]
  have hL : Lp.length ≤ 2 ^ 61 := by rw [HLp.out]; simp; omega
  have hW : Wp.length ≤ 2 ^ 61 := by rw [HWp.out]; simp; omega
  have E1 : [32] ++ l ++ [32] = Lp := HLp.out.symm
  have E2 : [32] ++ s ++ [32] = Wp := HWp.out.symm
  have E3 : 32 :: (l ++ [32]) = Lp := by rw [HLp.out]; simp
  have E4 : 32 :: (s ++ [32]) = Wp := by rw [HWp.out]; simp
  rw [hA]
  clear hA
  go_enter Tryz.func11, Tryz.ntmps11
  go_wp2
  clear E1 E2 E3 E4
  go_loop [5] (fun t => ∃ k : Nat, k ≤ Lp.length + 1 ∧ t = .int .i64 k ∧ Hid (∀ j, j < k → Fg.at_ Wp Lp j = false)) (fun t => Lp.length + 1 - (intOf t).toNat)
  case atStart => exact ⟨0, by omega, rfl, fun j hj => absurd hj (Nat.not_lt_zero _)⟩
  case round =>
    obtain ⟨k, hk, rfl, hb⟩ := hrel
    obtain ⟨q, HQ⟩ : ∃ q, Hid (q = k + Wp.length) := ⟨_, rfl⟩
    have hw1 : IntKind.i64.wrap ((k : Int) + 1) = ((k + 1 : Nat) : Int) := by rw [IntKind.wrap_i64]; omega
    have hw2 : IntKind.i64.wrap ((k : Int) + (Wp.length : Int)) = (q : Int) := by have := HQ.out; rw [IntKind.wrap_i64]; omega
    have hkq : k ≤ q := by have := HQ.out; omega
    by_cases hlt : q ≤ Lp.length
    · by_cases he : (Lp.take q).drop k = Wp
      · have he' : (((Lp.take q).drop k) == Wp) = true := by simpa using he
        have HM : Hid ((List.range (Lp.length + 1 - Wp.length)).any (Fg.at_ Wp Lp) = true) := by
          show _ = true
          rw [List.any_eq_true]
          exact ⟨k, by rw [List.mem_range]; have := HQ.out; omega, by unfold Fg.at_; rw [← HQ.out]; simpa using he⟩
        clear he hb
        go_wp2
        go_ret
        exact ⟨ret_bool HM.out.symm, rfl⟩
      · have he' : (((Lp.take q).drop k) == Wp) = false := by simpa using he
        have HN : Hid (∀ j, j < k + 1 → Fg.at_ Wp Lp j = false) := fun j hj => by
          by_cases e : j = k
          · subst e
            unfold Fg.at_
            rw [← HQ.out]
            simpa using he
          · exact hb.out j (by omega)
        have hk1 : k + 1 ≤ Lp.length + 1 := by omega
        have hm : Lp.length + 1 - (k + 1) < Lp.length + 1 - k := by omega
        clear he hb
        go_wp2
        exact ⟨⟨k + 1, hk1, by first | rfl | go_num, HN⟩, by simp [intOf]; omega⟩
    · have HM : Hid ((List.range (Lp.length + 1 - Wp.length)).any (Fg.at_ Wp Lp) = false) := by
        show _ = false
        rw [List.any_eq_false]
        intro j hj
        rw [List.mem_range] at hj
        rw [hb.out j (by have := HQ.out; omega)]
        simp
      clear hb
      go_wp2
      go_ret
      exact ⟨ret_bool HM.out.symm, rfl⟩
theorem names_len : Fg.names.length ≤ 2 ^ 60 := by decide +kernel
set_option maxRecDepth 100000 in
set_option maxHeartbeats 2000000 in
theorem gCall (s : List UInt8) (w : World) (h : Tb0 w) : Calls Tryz.prog 10 #[.string ⟨s.toArray⟩] w fun r w' => r = .returned (.bool (decide (s ∈ Fg.names))) ∧ Below w.heap.size w w' := by
  have HN := hidA (names_of w h)
  have hn := names_len
  clear h
  generalize Fg.names = xs at *
  go_enter Tryz.func10, Tryz.ntmps10
  go_wp2_with (go_at_call 4; refine HN.out.mono ?_; rintro e w1 ⟨a, c, rfl, h1, b1⟩; (have HI := hidA h1); (have B1 := hidA b1); clear h1 b1)
  clear HN
  go_loop [7] (fun t => ∃ k : Nat, k ≤ xs.length ∧ t = .int .i64 k ∧ Hid (s ∉ xs.take k)) (fun t => xs.length - (intOf t).toNat)
  case atStart => exact ⟨0, by omega, rfl, by show s ∉ _; simp⟩
  case round =>
    obtain ⟨k, hk, rfl, hb⟩ := hrel
    by_cases hlt : k < xs.length
    · have hw1 : IntKind.i64.wrap ((k : Int) + 1) = ((k + 1 : Nat) : Int) := by rw [IntKind.wrap_i64]; omega
      obtain ⟨bk, o, rfl, -, hc⟩ := HI.out k hlt
      by_cases he : s = xs[k]
      · have he' : (xs[k] == s) = true := by rw [he]; simp
        have HM : Hid (decide (s ∈ xs) = true) := decide_eq_true (by rw [he]; exact List.getElem_mem hlt)
        clear he HI hb
        generalize xs[k] = x at *
        go_wp2
        go_ret
        exact ⟨ret_bool HM.out.symm, B1.out⟩
      · have he' : (xs[k] == s) = false := by simpa using fun h => he h.symm
        have HN : Hid (s ∉ xs.take (k + 1)) := take_noS xs k s hlt hb.out he
        clear he HI hb
        generalize xs[k] = x at *
        go_wp2
        exact ⟨⟨k + 1, by omega, by first | rfl | go_num, HN⟩, by simp [intOf]; omega⟩
    · have HM : Hid (decide (s ∈ xs) = false) := by
        have := hb.out
        rw [List.take_of_length_le (by omega)] at this
        exact decide_eq_false this
      clear HI hb
      go_wp2
      go_ret
      exact ⟨ret_bool HM.out.symm, B1.out⟩
theorem rl_at (w : List UInt8) (e : Int) : Fg.rl w e = if w ∈ Fg.names then (if e = 5 then true else if e = 4 then Fg.amg w Fg.r4 else if e = 28 then Fg.amg w Fg.r28 else if e = 24 then Fg.amg w Fg.r24 else if e = 30 then Fg.amg w Fg.r30 else if e = 13 then Fg.amg w Fg.r13 else if e = 1 then Fg.amg w Fg.r1 else if e = 16 then Fg.amg w Fg.r16 else if e = 27 then Fg.amg w Fg.r27 else if e = 31 then Fg.amg w Fg.r31 else false) else false := rfl
set_option maxRecDepth 100000 in
set_option maxHeartbeats 4000000 in
theorem gRLegal (s : List UInt8) (e : Int) (hs : s.length ≤ 2 ^ 60) (w : World) (h : Tb0 w) : Calls Tryz.prog 6 #[.string ⟨s.toArray⟩, .int .i64 e] w fun r w' => r = .returned (.bool (Fg.rl s e)) ∧ Below w.heap.size w w' := by
  have HC0 := gCall s w h
  clear h
  by_cases hw : s ∈ Fg.names
  · rw [decide_eq_true hw] at HC0
    have HC := hidA HC0
    clear HC0
    by_cases h5 : e = 5
    · subst h5
      have HR : Hid (Fg.rl s 5 = true) := by show _ = _; rw [rl_at, if_pos hw]; rfl
      clear hw
      go_enter Tryz.func6, Tryz.ntmps6
      go_wp2_with (go_at_call 10; refine HC.out.mono ?_; rintro e w1 ⟨rfl, b1⟩)
      go_ret
      exact ⟨ret_bool HR.out.symm, b1⟩
    have e5 : (e == 5) = false := by simpa using h5
    by_cases h4 : e = 4
    · subst h4
      have HR : Hid (Fg.rl s 4 = Fg.amg s Fg.r4) := by show _ = _; rw [rl_at, if_pos hw]; rfl
      have HA := hidA (fun W => gAmg s Fg.r4 hs (by decide +kernel) W)
      clear hw
      go_enter Tryz.func6, Tryz.ntmps6
      go_wp2_with (first | (go_at_call 10; refine HC.out.mono ?_; rintro e w1 ⟨rfl, b1⟩) | (go_at_call 11; refine (HA.out _).mono ?_; rintro e w2 ⟨rfl, hw2⟩; rw [hw2]; clear hw2 w2))
      go_ret
      exact ⟨ret_bool HR.out.symm, b1⟩
    have e4 : (e == 4) = false := by simpa using h4
    by_cases h28 : e = 28
    · subst h28
      have HR : Hid (Fg.rl s 28 = Fg.amg s Fg.r28) := by show _ = _; rw [rl_at, if_pos hw]; rfl
      have HA := hidA (fun W => gAmg s Fg.r28 hs (by decide +kernel) W)
      clear hw
      go_enter Tryz.func6, Tryz.ntmps6
      go_wp2_with (first | (go_at_call 10; refine HC.out.mono ?_; rintro e w1 ⟨rfl, b1⟩) | (go_at_call 11; refine (HA.out _).mono ?_; rintro e w2 ⟨rfl, hw2⟩; rw [hw2]; clear hw2 w2))
      go_ret
      exact ⟨ret_bool HR.out.symm, b1⟩
    have e28 : (e == 28) = false := by simpa using h28
    by_cases h24 : e = 24
    · subst h24
      have HR : Hid (Fg.rl s 24 = Fg.amg s Fg.r24) := by show _ = _; rw [rl_at, if_pos hw]; rfl
      have HA := hidA (fun W => gAmg s Fg.r24 hs (by decide +kernel) W)
      clear hw
      go_enter Tryz.func6, Tryz.ntmps6
      go_wp2_with (first | (go_at_call 10; refine HC.out.mono ?_; rintro e w1 ⟨rfl, b1⟩) | (go_at_call 11; refine (HA.out _).mono ?_; rintro e w2 ⟨rfl, hw2⟩; rw [hw2]; clear hw2 w2))
      go_ret
      exact ⟨ret_bool HR.out.symm, b1⟩
    have e24 : (e == 24) = false := by simpa using h24
    by_cases h30 : e = 30
    · subst h30
      have HR : Hid (Fg.rl s 30 = Fg.amg s Fg.r30) := by show _ = _; rw [rl_at, if_pos hw]; rfl
      have HA := hidA (fun W => gAmg s Fg.r30 hs (by decide +kernel) W)
      clear hw
      go_enter Tryz.func6, Tryz.ntmps6
      go_wp2_with (first | (go_at_call 10; refine HC.out.mono ?_; rintro e w1 ⟨rfl, b1⟩) | (go_at_call 11; refine (HA.out _).mono ?_; rintro e w2 ⟨rfl, hw2⟩; rw [hw2]; clear hw2 w2))
      go_ret
      exact ⟨ret_bool HR.out.symm, b1⟩
    have e30 : (e == 30) = false := by simpa using h30
    by_cases h13 : e = 13
    · subst h13
      have HR : Hid (Fg.rl s 13 = Fg.amg s Fg.r13) := by show _ = _; rw [rl_at, if_pos hw]; rfl
      have HA := hidA (fun W => gAmg s Fg.r13 hs (by decide +kernel) W)
      clear hw
      go_enter Tryz.func6, Tryz.ntmps6
      go_wp2_with (first | (go_at_call 10; refine HC.out.mono ?_; rintro e w1 ⟨rfl, b1⟩) | (go_at_call 11; refine (HA.out _).mono ?_; rintro e w2 ⟨rfl, hw2⟩; rw [hw2]; clear hw2 w2))
      go_ret
      exact ⟨ret_bool HR.out.symm, b1⟩
    have e13 : (e == 13) = false := by simpa using h13
    by_cases h1 : e = 1
    · subst h1
      have HR : Hid (Fg.rl s 1 = Fg.amg s Fg.r1) := by show _ = _; rw [rl_at, if_pos hw]; rfl
      have HA := hidA (fun W => gAmg s Fg.r1 hs (by decide +kernel) W)
      clear hw
      go_enter Tryz.func6, Tryz.ntmps6
      go_wp2_with (first | (go_at_call 10; refine HC.out.mono ?_; rintro e w1 ⟨rfl, b1⟩) | (go_at_call 11; refine (HA.out _).mono ?_; rintro e w2 ⟨rfl, hw2⟩; rw [hw2]; clear hw2 w2))
      go_ret
      exact ⟨ret_bool HR.out.symm, b1⟩
    have e1 : (e == 1) = false := by simpa using h1
    by_cases h16 : e = 16
    · subst h16
      have HR : Hid (Fg.rl s 16 = Fg.amg s Fg.r16) := by show _ = _; rw [rl_at, if_pos hw]; rfl
      have HA := hidA (fun W => gAmg s Fg.r16 hs (by decide +kernel) W)
      clear hw
      go_enter Tryz.func6, Tryz.ntmps6
      go_wp2_with (first | (go_at_call 10; refine HC.out.mono ?_; rintro e w1 ⟨rfl, b1⟩) | (go_at_call 11; refine (HA.out _).mono ?_; rintro e w2 ⟨rfl, hw2⟩; rw [hw2]; clear hw2 w2))
      go_ret
      exact ⟨ret_bool HR.out.symm, b1⟩
    have e16 : (e == 16) = false := by simpa using h16
    by_cases h27 : e = 27
    · subst h27
      have HR : Hid (Fg.rl s 27 = Fg.amg s Fg.r27) := by show _ = _; rw [rl_at, if_pos hw]; rfl
      have HA := hidA (fun W => gAmg s Fg.r27 hs (by decide +kernel) W)
      clear hw
      go_enter Tryz.func6, Tryz.ntmps6
      go_wp2_with (first | (go_at_call 10; refine HC.out.mono ?_; rintro e w1 ⟨rfl, b1⟩) | (go_at_call 11; refine (HA.out _).mono ?_; rintro e w2 ⟨rfl, hw2⟩; rw [hw2]; clear hw2 w2))
      go_ret
      exact ⟨ret_bool HR.out.symm, b1⟩
    have e27 : (e == 27) = false := by simpa using h27
    by_cases h31 : e = 31
    · subst h31
      have HR : Hid (Fg.rl s 31 = Fg.amg s Fg.r31) := by show _ = _; rw [rl_at, if_pos hw]; rfl
      have HA := hidA (fun W => gAmg s Fg.r31 hs (by decide +kernel) W)
      clear hw
      go_enter Tryz.func6, Tryz.ntmps6
      go_wp2_with (first | (go_at_call 10; refine HC.out.mono ?_; rintro e w1 ⟨rfl, b1⟩) | (go_at_call 11; refine (HA.out _).mono ?_; rintro e w2 ⟨rfl, hw2⟩; rw [hw2]; clear hw2 w2))
      go_ret
      exact ⟨ret_bool HR.out.symm, b1⟩
    have e31 : (e == 31) = false := by simpa using h31
    have HR : Hid (Fg.rl s e = false) := by show _ = _; rw [rl_at, if_pos hw, if_neg h5, if_neg h4, if_neg h28, if_neg h24, if_neg h30, if_neg h13, if_neg h1, if_neg h16, if_neg h27, if_neg h31]
    clear hw h5 h4 h28 h24 h30 h13 h1 h16 h27 h31
    go_enter Tryz.func6, Tryz.ntmps6
    go_wp2_with (go_at_call 10; refine HC.out.mono ?_; rintro e w1 ⟨rfl, b1⟩)
    go_ret
    exact ⟨ret_bool HR.out.symm, b1⟩
  · rw [decide_eq_false hw] at HC0
    have HC := hidA HC0
    have HR : Hid (Fg.rl s e = false) := by show _ = _; rw [rl_at, if_neg hw]
    clear HC0 hw
    go_enter Tryz.func6, Tryz.ntmps6
    go_wp2_with (go_at_call 10; refine HC.out.mono ?_; rintro e w1 ⟨rfl, b1⟩)
    go_ret
    exact ⟨ret_bool HR.out.symm, b1⟩
set_option maxRecDepth 100000 in
set_option maxHeartbeats 4000000 in
theorem legal_walk (s : List UInt8) (e : Int) (n : Nat) (hs : s.length ≤ 2 ^ 60) (hn : n < 256) (w : World) (h : Tb0 w) : Calls Tryz.prog 3 #[.string ⟨s.toArray⟩, .int .i64 e, .int .u8 n] w fun r w' => r = .returned (.bool true) ∧ Below w.heap.size w w' := by
  have HN := hidA (names_of w h)
  have HT := hidA h
  obtain ⟨k, HK⟩ : ∃ k, Hid (k = n % 27) := ⟨_, rfl⟩
  have hk : k < Fg.names.length := by have := HK.out; show k < 27; omega
  have hl27 : Fg.names.length = 27 := rfl
  have hx : (Fg.names[k]).length ≤ 2 ^ 60 := by
    have : (Fg.names.all fun x => decide (x.length ≤ 2 ^ 60)) = true := by decide +kernel
    simpa using List.all_eq_true.1 this _ (List.getElem_mem hk)
  have hrem : IntKind.i64.wrap (Int.tmod (n : Int) (27 : Int)) = (k : Int) := by
    have := HK.out
    rw [IntKind.wrap_i64]
    have h2 : Int.tmod (n : Int) 27 = ((n % 27 : Nat) : Int) := by rw [Int.tmod_eq_emod_of_nonneg (by omega)]; omega
    rw [h2]; omega
  have hrem2 : Int.tmod (n : Int) (27 : Int) = (k : Int) := by
    have := HK.out
    rw [Int.tmod_eq_emod_of_nonneg (by omega)]; omega
  have hwn : IntKind.i64.wrap (n : Int) = (n : Int) := by rw [IntKind.wrap_i64]; omega
  obtain ⟨x, Hx⟩ : ∃ x : List UInt8, Hid (x = Fg.names[k]) := ⟨_, hidA rfl⟩
  have hxl : x.length ≤ 2 ^ 60 := by rw [Hx.out]; exact hx
  obtain ⟨r1, Hr1⟩ : ∃ r : Bool, Hid (r = Fg.rl s e) := ⟨_, hidA rfl⟩
  obtain ⟨r2, Hr2⟩ : ∃ r : Bool, Hid (r = Fg.rl x e) := ⟨_, hidA rfl⟩
  have q1 : (r1 == r1) = true := by simp
  have q2 : (r2 == r2) = true := by simp
  have HP1 : Hid (∀ W, Tb0 W → Calls Tryz.prog 5 #[.string ⟨s.toArray⟩, .int .i64 e] W fun r w' => r = .returned (.bool r1) ∧ Below W.heap.size W w') := fun W h => (gLegal s e W h).mono fun r w' ⟨h1, h2⟩ => ⟨by rw [h1, ← Fg.rl_fl, Hr1.out], h2⟩
  have HP2 : Hid (∀ W, Tb0 W → Calls Tryz.prog 5 #[.string ⟨x.toArray⟩, .int .i64 e] W fun r w' => r = .returned (.bool r2) ∧ Below W.heap.size W w') := fun W h => (gLegal x e W h).mono fun r w' ⟨h1, h2⟩ => ⟨by rw [h1, ← Fg.rl_fl, Hr2.out], h2⟩
  have HR1 : Hid (∀ W, Tb0 W → Calls Tryz.prog 6 #[.string ⟨s.toArray⟩, .int .i64 e] W fun r w' => r = .returned (.bool r1) ∧ Below W.heap.size W w') := fun W h => (gRLegal s e hs W h).mono fun r w' ⟨h1, h2⟩ => ⟨by rw [h1, Hr1.out], h2⟩
  have HR2 : Hid (∀ W, Tb0 W → Calls Tryz.prog 6 #[.string ⟨x.toArray⟩, .int .i64 e] W fun r w' => r = .returned (.bool r2) ∧ Below W.heap.size W w') := fun W h => (gRLegal x e hxl W h).mono fun r w' ⟨h1, h2⟩ => ⟨by rw [h1, Hr2.out], h2⟩
  have HW := hidA (fun W h => awake_of W h)
  have HX : Hid (∀ (W : World) (a : Option Addr), StrS W a Fg.names → ∃ g o, a = some ⟨g, o, none⟩ ∧ W.cell? ⟨g, o + k, none⟩ = some (.string ⟨x.toArray⟩)) := fun W a hS => by
    obtain ⟨g, o, h1, _, h2⟩ := hS k hk
    exact ⟨g, o, h1, by rw [h2, Hx.out]⟩
  have hk27 : k < 27 := hk
  clear h hx hk Hx
  rw [hl27] at HN
  generalize Fg.names = xs at *
  go_enter Tryz.func3, Tryz.ntmps3
  go_wp2_with (first
    | (go_at_call 4; refine HN.out.mono ?_; rintro r w1 ⟨a, c, rfl, h1, b1⟩; obtain ⟨bk, o, rfl, hc⟩ := HX.out _ _ h1; (have B1 := hidA b1); (have T1 := hidA (HT.out.grow b1)); clear h1 b1)
    | (go_at_call 5; refine (HP2.out _ T3.out).mono ?_; rintro r w4 ⟨rfl, b4⟩; (have B4 := hidA (B3.out.trans (b4.mono B3.out.size))); (have T4 := hidA (T3.out.grow b4)); clear b4)
    | (go_at_call 5; refine (HP1.out _ T1.out).mono ?_; rintro r w2 ⟨rfl, b2⟩; (have B2 := hidA (B1.out.trans (b2.mono B1.out.size))); (have T2 := hidA (T1.out.grow b2)); clear b2)
    | (go_at_call 6; refine (HR2.out _ T4.out).mono ?_; rintro r w5 ⟨rfl, b5⟩; (have B5 := hidA (B4.out.trans (b5.mono B4.out.size))); (have T5 := hidA (T4.out.grow b5)); clear b5)
    | (go_at_call 6; refine (HR1.out _ T2.out).mono ?_; rintro r w3 ⟨rfl, b3⟩; (have B3 := hidA (B2.out.trans (b3.mono B2.out.size))); (have T3 := hidA (T2.out.grow b3)); clear b3)
    | (go_at_call 7; refine (HW.out _ T5.out).mono ?_; rintro r w6 ⟨rfl, b6⟩))
  go_ret
  exact ⟨by first | rfl | simp, B5.out.trans (b6.mono B5.out.size)⟩
end Go.Proofs.YthdcfdfdoioajaaGreatDoor
