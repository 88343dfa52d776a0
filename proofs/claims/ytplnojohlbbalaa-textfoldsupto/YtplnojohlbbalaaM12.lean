/- Several texts of this claim, one behind the other, in their order. -/
import Derived.Test.YtplnojohlbbalaaM11
import Derived.Lib.Overlaps
import Derived.Lib.AppendZerosOnto
import Derived.Laws.Externs
import Derived.Laws.IdiomCopy
/- Folding: the program's behind, width and place; the plain answer's column and ends. Condition: lengths that fit. -/
namespace Go.Proofs.Ytplnojohlbbalaa
open Go.RowKit
attribute [local go_sem] ext_eq app_eq get_eq
set_option maxRecDepth 100000 in
theorem oBehind (n : Nat) (c : UInt8) (hn : n ≤ 2 ^ 50) (w : World) : Calls Try.prog 46 #[.int .i64 n, .int .u8 c.toNat] w fun e w' => e = .returned (.int .i64 (Fl.col n c : Nat)) ∧ w' = w := by
  by_cases h9 : c = 9
  · have hc : ((Fl.col n c : Nat) : Int) = (n : Int) - (n : Int) % 8 + 8 := by unfold Fl.col; rw [if_pos h9]; omega
    have e1 := byte_yes _ 9 9 rfl h9
    have hm : (n : Int).tmod 8 = (n : Int) % 8 := Int.tmod_eq_emod_of_nonneg (by omega)
    have w1 : IntKind.i64.wrap ((n : Int) - (n : Int) % 8) = (n : Int) - (n : Int) % 8 := by rw [IntKind.wrap_i64]; omega
    have w2 : IntKind.i64.wrap ((n : Int) - (n : Int) % 8 + 8) = (n : Int) - (n : Int) % 8 + 8 := by rw [IntKind.wrap_i64]; omega
    rw [hc]
    go_enter Try.func46, Try.ntmps46
    go_wp2_with fail
    go_ret
    exact ⟨rfl, rfl⟩
  · have e1 := byte_no _ 9 9 rfl h9
    by_cases h8 : c = 8
    · have hc : ((Fl.col n c : Nat) : Int) = max ((n : Int) - 1) 0 := by unfold Fl.col; rw [if_neg h9, if_pos h8]; omega
      have e2 := byte_yes _ 8 8 rfl h8
      have w1 : IntKind.i64.wrap ((n : Int) - 1) = (n : Int) - 1 := by rw [IntKind.wrap_i64]; omega
      rw [hc]
      go_enter Try.func46, Try.ntmps46
      go_wp2_with fail
      go_ret
      exact ⟨rfl, rfl⟩
    · have e2 := byte_no _ 8 8 rfl h8
      by_cases h13 : c = 13
      · have hc : ((Fl.col n c : Nat) : Int) = 0 := by unfold Fl.col; rw [if_neg h9, if_neg h8, if_pos h13]; rfl
        have e3 := byte_yes _ 13 13 rfl h13
        rw [hc]
        go_enter Try.func46, Try.ntmps46
        go_wp2_with fail
        go_ret
        exact ⟨rfl, rfl⟩
      · have hc : ((Fl.col n c : Nat) : Int) = (n : Int) + 1 := by unfold Fl.col; rw [if_neg h9, if_neg h8, if_neg h13]; omega
        have e3 := byte_no _ 13 13 rfl h13
        have w1 : IntKind.i64.wrap ((n : Int) + 1) = (n : Int) + 1 := by rw [IntKind.wrap_i64]; omega
        rw [hc]
        go_enter Try.func46, Try.ntmps46
        go_wp2_with fail
        go_ret
        exact ⟨rfl, rfl⟩
set_option maxRecDepth 100000 in
theorem rColumn (n : Nat) (c : UInt8) (hn : n ≤ 2 ^ 50) (w : World) : Calls Try.prog 34 #[.int .i64 n, .int .u8 c.toNat] w fun e w' => e = .returned (.int .i64 (Fl.col n c : Nat)) ∧ w' = w := by
  by_cases h9 : c = 9
  · have hc : ((Fl.col n c : Nat) : Int) = (n : Int) / 8 * 8 + 8 := by unfold Fl.col; rw [if_pos h9]; omega
    have e1 := byte_yes _ 9 9 rfl h9
    have hm : (n : Int).tdiv 8 = (n : Int) / 8 := Int.tdiv_eq_ediv_of_nonneg (by omega)
    have w0 : IntKind.i64.wrap ((n : Int) / 8) = (n : Int) / 8 := by rw [IntKind.wrap_i64]; omega
    have w1 : IntKind.i64.wrap ((n : Int) / 8 * 8) = (n : Int) / 8 * 8 := by rw [IntKind.wrap_i64]; omega
    have w2 : IntKind.i64.wrap ((n : Int) / 8 * 8 + 8) = (n : Int) / 8 * 8 + 8 := by rw [IntKind.wrap_i64]; omega
    rw [hc]
    go_enter Try.func34, Try.ntmps34
    go_wp2_with fail
    go_ret
    exact ⟨rfl, rfl⟩
  · have e1 := byte_no _ 9 9 rfl h9
    by_cases h8 : c = 8
    · have e2 := byte_yes _ 8 8 rfl h8
      by_cases hp : 0 < n
      · have hc : ((Fl.col n c : Nat) : Int) = (n : Int) - 1 := by unfold Fl.col; rw [if_neg h9, if_pos h8]; omega
        have hpI : (0 : Int) < (n : Int) := by omega
        have w1 : IntKind.i64.wrap ((n : Int) - 1) = (n : Int) - 1 := by rw [IntKind.wrap_i64]; omega
        rw [hc]
        go_enter Try.func34, Try.ntmps34
        go_wp2_with fail
        go_ret
        exact ⟨rfl, rfl⟩
      · have hc : ((Fl.col n c : Nat) : Int) = 0 := by unfold Fl.col; rw [if_neg h9, if_pos h8]; omega
        have hpI : ¬ (0 : Int) < (n : Int) := by omega
        rw [hc]
        go_enter Try.func34, Try.ntmps34
        go_wp2_with fail
        go_ret
        exact ⟨rfl, rfl⟩
    · have e2 := byte_no _ 8 8 rfl h8
      by_cases h13 : c = 13
      · have hc : ((Fl.col n c : Nat) : Int) = 0 := by unfold Fl.col; rw [if_neg h9, if_neg h8, if_pos h13]; rfl
        have e3 := byte_yes _ 13 13 rfl h13
        rw [hc]
        go_enter Try.func34, Try.ntmps34
        go_wp2_with fail
        go_ret
        exact ⟨rfl, rfl⟩
      · have hc : ((Fl.col n c : Nat) : Int) = (n : Int) + 1 := by unfold Fl.col; rw [if_neg h9, if_neg h8, if_neg h13]; omega
        have e3 := byte_no _ 13 13 rfl h13
        have w1 : IntKind.i64.wrap ((n : Int) + 1) = (n : Int) + 1 := by rw [IntKind.wrap_i64]; omega
        rw [hc]
        go_enter Try.func34, Try.ntmps34
        go_wp2_with fail
        go_ret
        exact ⟨rfl, rfl⟩
end Go.Proofs.Ytplnojohlbbalaa
/- Folding: the program's width and place; the plain answer's ends. Condition: lengths that fit. -/
namespace Go.Proofs.Ytplnojohlbbalaa
open Go.RowKit
attribute [local go_sem] ext_eq app_eq get_eq
set_option maxRecDepth 100000 in
theorem oWidth (x : List UInt8) (a : Option Addr) (c : Nat) (hx : x.length ≤ 2 ^ 46) (w : World) (hS : Src w a x) : Calls Try.prog 49 #[.slice a x.length c] w fun e w' => e = .returned (.int .i64 (Fl.ce x : Nat)) ∧ w' = w := by
  have HS := hidA hS
  clear hS
  go_enter Try.func49, Try.ntmps49
  go_upto_region 3 with fail
  go_loopw [3, 8] (fun s3 s8 W => ∃ k : Nat, s8 = .int .i64 k ∧ s3 = .int .i64 (Fl.ce (x.take k) : Nat) ∧ k ≤ x.length ∧ W = w) (fun _ s8 _ => x.length - (intOf s8).toNat)
  case atStart => exact ⟨0, rfl, rfl, Nat.zero_le _, rfl⟩
  case round =>
    obtain ⟨k, rfl, rfl, hk, rfl⟩ := hrel
    by_cases hlt : k < x.length
    · obtain ⟨g, o, rfl, hg, hc⟩ := HS.out k hlt
      have hle := Fl.ce_le (x.take k)
      have htl : (x.take k).length ≤ k := by rw [List.length_take]; omega
      have HB := hidA (fun W => oBehind (Fl.ce (x.take k)) x[k] (by omega) W)
      rw [← Fl.ce_take hlt] at HB
      have hwk : IntKind.i64.wrap ((k : Int) + 1) = ((k + 1 : Nat) : Int) := by rw [IntKind.wrap_i64]; omega
      clear hle htl HS
      obtain ⟨m, hm⟩ : ∃ m, m = Fl.ce (x.take (k + 1)) := ⟨_, rfl⟩
      rw [← hm] at HB
      have HM := hidA hm
      clear hm
      generalize Fl.ce (x.take k) = n at *
      generalize x[k] = z at *
      go_wp2_with (go_at_call 46; with_reducible refine (HB.out _).mono ?_; rintro e w1 ⟨rfl, hw1⟩; rw [hw1]; clear hw1 w1)
      exact ⟨⟨k + 1, by first | rfl | go_num, by rw [← HM.out], hlt, trivial⟩, by simp [intOf]; omega⟩
    · obtain rfl : k = x.length := by omega
      rw [List.take_length]
      go_wp2_with fail
      go_ret
      exact ⟨rfl, rfl⟩
set_option maxRecDepth 100000 in
theorem rEnds (x : List UInt8) (a : Option Addr) (c : Nat) (hx : x.length ≤ 2 ^ 46) (w : World) (hS : Src w a x) : Calls Try.prog 33 #[.slice a x.length c] w fun e w' => e = .returned (.int .i64 (Fl.ce x : Nat)) ∧ w' = w := by
  have HS := hidA hS
  clear hS
  go_enter Try.func33, Try.ntmps33
  go_upto_region 3 with fail
  go_loopw [3, 8] (fun s3 s8 W => ∃ k : Nat, s8 = .int .i64 k ∧ s3 = .int .i64 (Fl.ce (x.take k) : Nat) ∧ k ≤ x.length ∧ W = w) (fun _ s8 _ => x.length - (intOf s8).toNat)
  case atStart => exact ⟨0, rfl, rfl, Nat.zero_le _, rfl⟩
  case round =>
    obtain ⟨k, rfl, rfl, hk, rfl⟩ := hrel
    by_cases hlt : k < x.length
    · obtain ⟨g, o, rfl, hg, hc⟩ := HS.out k hlt
      have hle := Fl.ce_le (x.take k)
      have htl : (x.take k).length ≤ k := by rw [List.length_take]; omega
      have HB := hidA (fun W => rColumn (Fl.ce (x.take k)) x[k] (by omega) W)
      rw [← Fl.ce_take hlt] at HB
      have hwk : IntKind.i64.wrap ((k : Int) + 1) = ((k + 1 : Nat) : Int) := by rw [IntKind.wrap_i64]; omega
      clear hle htl HS
      obtain ⟨m, hm⟩ : ∃ m, m = Fl.ce (x.take (k + 1)) := ⟨_, rfl⟩
      rw [← hm] at HB
      have HM := hidA hm
      clear hm
      generalize Fl.ce (x.take k) = n at *
      generalize x[k] = z at *
      go_wp2_with (go_at_call 34; with_reducible refine (HB.out _).mono ?_; rintro e w1 ⟨rfl, hw1⟩; rw [hw1]; clear hw1 w1)
      exact ⟨⟨k + 1, by first | rfl | go_num, by rw [← HM.out], hlt, trivial⟩, by simp [intOf]; omega⟩
    · obtain rfl : k = x.length := by omega
      rw [List.take_length]
      go_wp2_with fail
      go_ret
      exact ⟨rfl, rfl⟩
set_option maxRecDepth 100000 in
theorem oIsBl (c : UInt8) (w : World) : Calls Try.prog 55 #[.int .u8 c.toNat] w fun e w' => e = .returned (.bool (Fl.bl c)) ∧ w' = w := by
  by_cases h : c = 32
  · have e1 := byte_yes _ 32 32 rfl h
    have hb : Fl.bl c = true := decide_eq_true (.inl h)
    rw [hb]
    go_enter Try.func55, Try.ntmps55
    go_wp2_with fail
    go_ret
    exact ⟨rfl, rfl⟩
  · have e1 := byte_no c 32 32 rfl h
    have e2 : (((c.toNat : Int) == 9)) = decide (c = 9) := byte_eq c 9
    go_enter Try.func55, Try.ntmps55
    go_wp2
    go_ret
    exact ⟨ret_bool (by simp [Fl.bl, h]), rfl⟩
set_option maxRecDepth 100000 in
set_option maxHeartbeats 1000000 in
theorem oPlace (wd : Int) (ws : Bool) (D P : List UInt8) (a : Option Addr) (c : Nat) (hx : (D ++ P).length ≤ 2 ^ 46) (w : World) (hS : Src w a (D ++ P)) : Calls Try.prog 47 #[.agg #[.int .i64 wd, .bool ws], .slice a (D ++ P).length c, .int .i64 D.length] w fun e w' => e = .returned (.int .i64 ((D.length + Fl.cut ws P : Nat) : Int)) ∧ Below w.heap.size w w' := by
  obtain ⟨X, hX⟩ : ∃ X, X = D ++ P := ⟨_, rfl⟩
  have hlen : X.length = D.length + P.length := by rw [hX, List.length_append]
  have HXj : Hid (∀ j (h : D.length + j < X.length) (h2 : j < P.length), X[D.length + j] = P[j]) := fun j h h2 => by
    subst hX
    rw [List.getElem_append_right (by omega)]; congr 1; omega
  rw [← hX] at hx hS ⊢
  clear hX
  have hb0 := (Below.refl w.heap.size w).alloc (Nat.le_refl _) (.cells #[.int .i64 wd, .bool ws] 53)
  have HS := hidA (hS.grow hb0 (Nat.le_refl _))
  have HB := hidA hb0
  have r1 : (w.alloc (.cells #[.int .i64 wd, .bool ws] 53)).cell? ⟨w.heap.size, 1, none⟩ = some (.bool ws) := World.cell?_alloc_at _ _ _ _ rfl
  have HLen := hidA hlen
  clear hS hb0 hlen
  go_enter Try.func47, Try.ntmps47
  go_upto_region 1 with fail
  generalize w.alloc (.cells #[.int .i64 wd, .bool ws] 53) = w1 at *
  go_upto_region 2 with fail
  go_loopw [7] (fun s7 W => ∃ i : Nat, s7 = .int .i64 ((D.length + i : Nat) : Int) ∧ i ≤ P.length ∧ Fl.cs ws P i = Fl.cut ws P ∧ W = w1) (fun s7 _ => (intOf s7).toNat - D.length)
  case atStart => exact ⟨P.length, congrArg (Value.int IntKind.i64) (by have := HLen.out; omega), Nat.le_refl _, rfl, rfl⟩
  case round =>
    obtain ⟨i, rfl, hi, hcs, rfl⟩ := hrel
    cases ws with
    | false =>
      have hc : D.length + Fl.cut false P = X.length := by rw [HLen.out]; unfold Fl.cut; rw [Fl.cs_false]
      clear hcs
      go_wp2_with fail
      go_ret
      exact ⟨ret_int (by omega), HB.out⟩
    | true =>
      cases i with
      | zero =>
        have hc : D.length + Fl.cut true P = X.length := by rw [HLen.out, ← hcs]; rfl
        have hlt : ¬ ((D.length : Nat) : Int) < ((D.length + 0 : Nat) : Int) := by omega
        clear hcs
        go_wp2_with fail
        go_ret
        exact ⟨ret_int (by omega), HB.out⟩
      | succ j =>
        have hj : D.length + j < X.length := by have := HLen.out; omega
        obtain ⟨g, o, rfl, hg, hc0⟩ := HS.out (D.length + j) hj
        have hPj := HXj.out j hj hi
        have hlt : ((D.length : Nat) : Int) < ((D.length + (j + 1) : Nat) : Int) := by omega
        have hw1 : IntKind.i64.wrap (((D.length + (j + 1) : Nat) : Int) - 1) = ((D.length + j : Nat) : Int) := by rw [IntKind.wrap_i64]; omega
        have HIb := hidA (fun W => oIsBl P[j] W)
        have hgd : P.getD j 0 = P[j] := by rw [List.getD_eq_getElem?_getD, List.getElem?_eq_getElem]; rfl
        have hstep : Fl.cs true P (j + 1) = if Fl.bl P[j] = true then j + 1 else Fl.cs true P j := by
          show (if (true && Fl.bl (P.getD j 0)) = true then j + 1 else Fl.cs true P j) = _
          rw [hgd, Bool.true_and]
        rw [hPj] at hc0
        rw [hcs] at hstep
        clear HS hcs hgd HXj
        generalize P[j] = z at *
        cases hz : Fl.bl z with
        | true =>
          rw [hz, if_pos rfl] at hstep
          rw [hz] at HIb
          have HSt := hidA hstep
          clear hstep
          go_wp2_with (go_at_call 55; with_reducible refine (HIb.out _).mono ?_; rintro e w2 ⟨rfl, hw2⟩; rw [hw2]; clear hw2 w2)
          go_ret
          exact ⟨ret_int (by rw [HSt.out]; omega), HB.out⟩
        | false =>
          rw [hz, if_neg (by simp)] at hstep
          rw [hz] at HIb
          go_wp2_with (go_at_call 55; with_reducible refine (HIb.out _).mono ?_; rintro e w2 ⟨rfl, hw2⟩; rw [hw2]; clear hw2 w2)
          exact ⟨⟨j, by first | rfl | go_num, by omega, hstep.symm, by first | rfl | trivial⟩, by simp [intOf]; omega⟩
end Go.Proofs.Ytplnojohlbbalaa
/- slices.Insert of one byte. Condition: a length that fits. -/
namespace Go.Proofs.Ytplnojohlbbalaa
open Go.RowKit
attribute [local go_sem] ext_eq app_eq get_eq
/-- A row written over from a place on. -/
def ov : List Value → Nat → List Value → List Value
  | xs, _, [] => xs
  | xs, o, u :: r => ov (xs.set o u) (o + 1) r
theorem ov_mid : ∀ (us A M C : List Value), M.length = us.length → ov (A ++ M ++ C) A.length us = A ++ us ++ C
  | [], A, M, C, h => by
    obtain rfl : M = [] := List.length_eq_zero_iff.1 (by simpa using h)
    rfl
  | u :: r, A, M, C, h => by
    cases M with
    | nil => simp at h
    | cons m M =>
      have ih := ov_mid r (A ++ [u]) M C (by simpa using h)
      have e : (A ++ (m :: M) ++ C).set A.length u = A ++ [u] ++ M ++ C := by
        rw [List.append_assoc, List.set_append_right _ _ (Nat.le_refl _), Nat.sub_self, List.cons_append, List.set_cons_zero]
        simp
      unfold ov
      rw [e]
      simpa using ih
theorem own_setCells {B g n cap : Nat} : ∀ (us : List Value) (xs : List Value) (o : Nat) (w : World), w.ownsRow B 5 1 (.slice (some ⟨g, 0, none⟩) n cap) n xs → (w.setCells g o us).ownsRow B 5 1 (.slice (some ⟨g, 0, none⟩) n cap) n (ov xs o us) ∧ w.grownBy (w.setCells g o us) (some g)
  | [], _, _, _, h => ⟨h, rfl, rfl, rfl, Nat.le_refl _, fun _ _ _ => rfl⟩
  | u :: r, xs, o, w, h => by
    have h1 := h.stored o u
    have h2 := own_setCells r (xs.set o u) (o + 1) _ h1.1
    exact ⟨h2.1, h1.2.trans h2.2⟩
/-- A row with a spare cell, one cell longer. -/
theorem own_more {B g n cap : Nat} {xs : List Value} {w : World} (h : w.ownsRow B 5 1 (.slice (some ⟨g, 0, none⟩) n cap) n xs) (hc : n + 1 ≤ cap) : ∃ u, w.ownsRow B 5 1 (.slice (some ⟨g, 0, none⟩) (n + 1) cap) (n + 1) (xs ++ [u]) := by
  obtain ⟨h1, h2⟩ := h
  rcases h2 with ⟨e, _⟩ | ⟨g', cap', cur, e, hb, hg, hnc, hcm, hsz, ht⟩
  · cases e
  · injection e with e1 e2 e3
    injection e1 with e1
    injection e1 with e1
    subst e1 e3
    have hlt : n < cur.toList.length := by rw [Array.length_toList, hsz]; omega
    refine ⟨cur.toList[n], by simp [h1], .inr ⟨g, cap, cur, rfl, hb, hg, hc, hcm, hsz, ?_⟩⟩
    rw [Nat.mul_one] at ht ⊢
    rw [List.take_succ_eq_append_getElem hlt, ht]
theorem own_room {B g n cap : Nat} {xs : List Value} {w : World} (h : w.ownsRow B 5 1 (.slice (some ⟨g, 0, none⟩) n cap) n xs) : B ≤ g ∧ g < w.heap.size ∧ n ≤ cap ∧ cap ≤ maxLen ∧ ∃ k, w.shape? g = some (5, k) ∧ k = cap := by
  obtain ⟨h1, h2⟩ := h
  rcases h2 with ⟨e, _⟩ | ⟨g', cap', cur, e, hb, hg, hnc, hcm, hsz, ht⟩
  · cases e
  · injection e with e1 e2 e3
    injection e1 with e1
    injection e1 with e1
    subst e1 e3
    refine ⟨hb, heap_lt hg, hnc, hcm, cur.size, ?_, by omega⟩
    simp only [World.shape?, hg]
theorem copy_own {B g n cap : Nat} {xs : List Value} {W : World} (h : W.ownsRow B 5 1 (.slice (some ⟨g, 0, none⟩) n cap) n xs) (ty : TypeId) (o dLen dCap : Nat) (a : Addr) (sLen sCap : Nat) (us : List Value) (hn : us.length = Nat.min sLen dLen) (hsrc : ∀ j u, us[j]? = some u → W.cell? (a.add j) = some u) (hb : o + us.length ≤ n) (h1 : ∀ v ∈ us, v.oneCell' = true) : (Builtin.copy_ #[22, 22] ty #[.slice (some ⟨g, o, none⟩) dLen dCap, .slice (some a) sLen sCap]).run Try.prog W = .ok (goInt us.length) (W.setCells g o us) := by
  obtain ⟨iB, hiB, hb0, hb1, hb2⟩ := infoB
  have hxl := h.1
  exact run_copy_cells W _ _ ty 5 g o dLen dCap a sLen sCap us Try.underlying22 (by rw [hiB]; simp [hb1]) hn hsrc (fun j hj => by
    have := h.cells (g := g) rfl (o + j) (xs[o + j]'(by omega)) (by simp)
    rw [add0] at this
    rw [this]; rfl) (fun j hj => h.frozenAt _) h1
theorem wpList_cp {w w' : World} {ops : Array Oper} {rest : List Oper} {o : Oper} {a : Act} {Q : Exit → Act → World → Prop} (hgd : o.guard = none) (d s : Operand)
    (ho : o.op = .call { callee := .builtin .copy, args := #[d, s], argTypes := #[22, 22] }) (v u : Value) (hd : a.eval d = v) (hs : a.eval s = u) {v' : Value}
    (hr : (Builtin.copy_ #[22, 22] o.type #[v, u]).run Try.prog w = .ok v' w') (h : wpList Try.prog ops Q rest (a.put o.dst v') w') : wpList Try.prog ops Q (o :: rest) a w := by
  refine wpList_plain hgd fun K hK => ?_
  unfold Oper.wp execOp
  simp only [ho, resolve, invoke, builtin, Sem.run_bind, Sem.run_pure, Result.andThen_ok, List.map_toArray, List.map_cons, List.map_nil, hd, hs, hr]
  exact hK _ _ h
theorem stepCp {ops : Array Oper} {o : Oper} {a : Act} {w w' : World} {K : Act → World → Prop} {Q : Exit → Act → World → Prop} {E : Prop}
    (hg : o.guard = none) (d x : Operand) (hop : o.op = Op.call { callee := Callee.builtin Builtin.copy, args := #[d, x], argTypes := #[22, 22] })
    (v u : Value) (hd : a.eval d = v) (hx : a.eval x = u) {v' : Value} (hr : (Builtin.copy_ #[22, 22] o.type #[v, u]).run Try.prog w = .ok v' w') (hK : K (a.put o.dst v') w') :
    if Region.wanted o (yielded ops a.tmps) = true then Oper.wp Try.prog o a w K Q else E := by
  have hw : Region.wanted o (yielded ops a.tmps) = true := by simp [Region.wanted, hg]
  rw [if_pos hw]
  unfold Oper.wp
  simp [execOp, hop, resolve, invoke, builtin, hd, hx, hr, Result.andThen]
  exact hK
/-- The bytes p with a line feed put in ahead of the i-th. -/
def put10 (p : List UInt8) (i : Nat) : List UInt8 := p.take i ++ [10] ++ p.drop i
theorem put10_len {p : List UInt8} {i : Nat} (h : i ≤ p.length) : (put10 p i).length = p.length + 1 := by
  unfold put10
  simp only [List.length_append, List.length_take, List.length_drop, List.length_cons, List.length_nil]
  omega
theorem bCs_app (a b : List UInt8) : bCs (a ++ b) = bCs a ++ bCs b := by simp [bCs]
theorem bCs_put (p : List UInt8) (i : Nat) : bCs (put10 p i) = bCs (p.take i) ++ [Value.int .u8 10] ++ bCs (p.drop i) := by
  unfold put10
  rw [bCs_app, bCs_app]; rfl
theorem ov_room (p : List UInt8) (i : Nat) (hi : i < p.length) (u : Value) : ov (ov (bCs p ++ [u]) (i + 1) (bCs (p.drop i))) i [.int .u8 10] = bCs (put10 p i) := by
  have e1 : bCs p ++ [u] = bCs (p.take (i + 1)) ++ (bCs (p.drop (i + 1)) ++ [u]) ++ [] := by
    rw [List.append_nil, ← List.append_assoc, ← bCs_app, List.take_append_drop]
  have l1 : (bCs (p.take (i + 1))).length = i + 1 := by rw [bCs_len, List.length_take]; omega
  have h1 := ov_mid (bCs (p.drop i)) (bCs (p.take (i + 1))) (bCs (p.drop (i + 1)) ++ [u]) [] (by rw [List.length_append, bCs_len, bCs_len, List.length_drop, List.length_drop]; simp; omega)
  rw [← e1, l1] at h1
  rw [h1, List.append_nil]
  have e2 : bCs (p.take (i + 1)) = bCs (p.take i) ++ bCs [p[i]] := by rw [List.take_succ_eq_append_getElem hi, bCs_app]
  have l2 : (bCs (p.take i)).length = i := by rw [bCs_len, List.length_take]; omega
  have h2 := ov_mid [Value.int .u8 10] (bCs (p.take i)) (bCs [p[i]]) (bCs (p.drop i)) rfl
  rw [l2] at h2
  rw [e2, h2, bCs_put]
theorem ov_grow (p : List UInt8) (i : Nat) (hi : i < p.length) (Z : List Value) (hZ : Z.length = p.length + 1 - i) : ov (ov (bCs (p.take i) ++ Z) i [.int .u8 10]) (i + 1) (bCs (p.drop i)) = bCs (put10 p i) := by
  cases Z with
  | nil => simp at hZ; omega
  | cons z Z =>
    have l2 : (bCs (p.take i)).length = i := by rw [bCs_len, List.length_take]; omega
    have h2 := ov_mid [Value.int .u8 10] (bCs (p.take i)) [z] Z rfl
    rw [l2] at h2
    have e : bCs (p.take i) ++ (z :: Z) = bCs (p.take i) ++ [z] ++ Z := by simp
    rw [e, h2]
    have h1 := ov_mid (bCs (p.drop i)) (bCs (p.take i) ++ [Value.int .u8 10]) Z [] (by rw [bCs_len, List.length_drop]; simp at hZ; omega)
    have l3 : (bCs (p.take i) ++ [Value.int .u8 10]).length = i + 1 := by rw [List.length_append, l2]; rfl
    rw [l3, List.append_nil] at h1
    rw [h1, List.append_nil, bCs_put]
end Go.Proofs.Ytplnojohlbbalaa
