/- HeadBytes and TailBytes of both sides. Condition: lengths that fit. -/
import Derived.Test.YteponlikhaadkaaUb5
namespace Go.Proofs.Yteponlikhaadkaa
open Go.RowKit
attribute [local go_sem] ext_eq app_eq get_eq
set_option maxRecDepth 100000 in
set_option maxHeartbeats 1000000 in
theorem oHeadBytes (l : List UInt8) (a : Option Addr) (c : Nat) (n : Int) (hn : -(2 ^ 63) ≤ n ∧ n < 2 ^ 63) (hl : l.length ≤ 2 ^ 40) (w : World) (hS : Sr w a c l) : Calls Try.prog 8 #[.slice a l.length c, .int .i64 n] w fun e w' => ∃ v, e = .returned v ∧ By w.heap.size w' v (l.take (Tl.fst n l.length)) ∧ Below w.heap.size w w' := by
  have hk := Tl.fst_le n l.length
  have HA := hidA (fun W => oFirst n l.length hn (by omega) W)
  generalize Tl.fst n l.length = i at *
  obtain ⟨hs1, hr1⟩ := sl_to hS i hk
  have HS := hidA (fun W (b : Below w.heap.size w W) => oClone (l.take i) a c (by rw [List.length_take]; omega) W (hr1.grow b))
  have HB0 := hidA (Below.refl w.heap.size w)
  clear hr1 hS
  generalize l.take i = p at *
  go_enter Try.func8, Try.ntmps8
  go_wp2_with (first
    | (go_at_call 25; with_reducible refine (HA.out _).mono ?_; rintro e w1 ⟨rfl, hw1⟩; rw [hw1]; clear hw1 w1)
    | (go_at_call 24; with_reducible refine (HS.out _ HB0.out).mono ?_; rintro e w1 ⟨v, rfl, h1, h2⟩; have H1 := hidA h1; have H2 := hidA h2; clear h1 h2))
  go_ret
  exact ⟨_, rfl, H1.out, H2.out⟩
set_option maxRecDepth 100000 in
set_option maxHeartbeats 1000000 in
theorem oTailBytes (l : List UInt8) (a : Option Addr) (c : Nat) (n : Int) (fr : Bool) (hn : -(2 ^ 63) ≤ n ∧ n < 2 ^ 63) (hl : l.length ≤ 2 ^ 40) (w : World) (hS : Sr w a c l) : Calls Try.prog 12 #[.slice a l.length c, .int .i64 n, .bool fr] w fun e w' => ∃ v, e = .returned v ∧ By w.heap.size w' v (l.drop (Tl.ahd n l.length fr)) ∧ Below w.heap.size w w' := by
  have hk := Tl.ahd_le n l.length fr
  have HA := hidA (fun W => oAhead n l.length fr hn (by omega) W)
  generalize Tl.ahd n l.length fr = i at *
  obtain ⟨a2, c2, hs1, hr1⟩ := sl_from hS i hk
  have HS := hidA (fun W (b : Below w.heap.size w W) => oClone (l.drop i) a2 c2 (by rw [List.length_drop]; omega) W (hr1.grow b))
  have HB0 := hidA (Below.refl w.heap.size w)
  clear hr1 hS
  generalize l.drop i = p at *
  go_enter Try.func12, Try.ntmps12
  go_wp2_with (first
    | (go_at_call 29; with_reducible refine (HA.out _).mono ?_; rintro e w1 ⟨rfl, hw1⟩; rw [hw1]; clear hw1 w1)
    | (go_at_call 24; with_reducible refine (HS.out _ HB0.out).mono ?_; rintro e w1 ⟨v, rfl, h1, h2⟩; have H1 := hidA h1; have H2 := hidA h2; clear h1 h2))
  go_ret
  exact ⟨_, rfl, H1.out, H2.out⟩
set_option maxRecDepth 100000 in
set_option maxHeartbeats 1000000 in
theorem rHeadBytes (l : List UInt8) (a : Option Addr) (c : Nat) (n : Int) (hn : -(2 ^ 63) ≤ n ∧ n < 2 ^ 63) (hl : l.length ≤ 2 ^ 40) (w : World) (hS : Sr w a c l) : Calls Try.prog 9 #[.slice a l.length c, .int .i64 n] w fun e w' => ∃ v, e = .returned v ∧ By w.heap.size w' v (l.take (Tl.fst n l.length)) ∧ Below w.heap.size w w' := by
  obtain ⟨iB, hiB, hb0, hb1, hb2⟩ := infoB
  have hk := Tl.fst_le n l.length
  have HA := hidA (fun W => rFirst n l.length hn (by omega) W)
  generalize Tl.fst n l.length = i at *
  obtain ⟨hs1, hr1⟩ := sl_to hS i hk
  have hpl : (l.take i).length ≤ 2 ^ 40 := by rw [List.length_take]; omega
  have hpc := hr1.le
  have HS := hidA (fun W (b : Below w.heap.size w W) => hr1.grow b)
  have HN := hidA hr1.nil
  have HB0 := hidA ((Below.refl w.heap.size w).alloc (Nat.le_refl _) (.cells #[] 5))
  have HO0 := hidA (By.fresh w w.heap.size (Nat.le_refl _)).own
  clear hr1 hS
  generalize l.take i = p at *
  cases a with
  | none =>
    have hx0 : p = [] := List.length_eq_zero_iff.1 (by have h1 := HN.out rfl; omega)
    have hc0 := HN.out rfl
    subst hx0 hc0
    have HB1 := hidA (By.fresh w w.heap.size (Nat.le_refl _))
    clear HO0 HS HN
    go_enter Try.func9, Try.ntmps9
    go_wp2_with (first
      | (go_at_call 28; with_reducible refine (HA.out _).mono ?_; rintro e w1 ⟨rfl, hw1⟩; rw [hw1]; clear hw1 w1))
    go_ret
    exact ⟨_, rfl, HB1.out, HB0.out⟩
  | some ad =>
    have hsz0 : w.heap.size ≤ (w.alloc (.cells #[] 5)).heap.size := HB0.out.size
    have HS1 := hidA (HS.out _ HB0.out)
    go_enter Try.func9, Try.ntmps9
    go_wp2_with (first
      | (go_at_call 28; with_reducible refine (HA.out _).mono ?_; rintro e w1 ⟨rfl, hw1⟩; rw [hw1]; clear hw1 w1)
      | (at_builtin; go_loud (refine wpList_append_own_at _ rfl _ _ 22 rfl w.heap.size 5 iB (.int .u8 0) 1 1 Try.underlying22 hiB hb0 hb1 hb2 rfl (by decide) _ _ _ rfl HO0.out ad p.length c (bCs p) rfl (by rw [bCs_len, Nat.mul_one]) (fun j u hj => HS1.out.src.cells_at j u hj) (bCs_one p) (by unfold maxLen; simp only [List.length_nil]; omega) (by simp only [List.length_nil]; omega) hsz0 ?_; intro v' w2 hown hg2 _ hat; have HO2 := hidA (By.of_app hown); have HB2 : Hid (Below w.heap.size w w2) := HB0.out.grown hg2 hsz0 (fun k hk => (HO0.out.lt k hk).1); clear hown hg2 hat)))
    go_ret
    exact ⟨_, rfl, by have := HO2.out; simpa using this, HB2.out⟩
set_option maxRecDepth 100000 in
set_option maxHeartbeats 1000000 in
theorem rTailBytes (l : List UInt8) (a : Option Addr) (c : Nat) (n : Int) (fr : Bool) (hn : -(2 ^ 63) ≤ n ∧ n < 2 ^ 63) (hl : l.length ≤ 2 ^ 40) (w : World) (hS : Sr w a c l) : Calls Try.prog 13 #[.slice a l.length c, .int .i64 n, .bool fr] w fun e w' => ∃ v, e = .returned v ∧ By w.heap.size w' v (l.drop (Tl.ahd n l.length fr)) ∧ Below w.heap.size w w' := by
  obtain ⟨iB, hiB, hb0, hb1, hb2⟩ := infoB
  have hk := Tl.ahd_le n l.length fr
  have HA := hidA (fun W => rBehind n l.length fr hn (by omega) W)
  generalize Tl.ahd n l.length fr = i at *
  obtain ⟨a2, c2, hs1, hr1⟩ := sl_from hS i hk
  have hpl : (l.drop i).length ≤ 2 ^ 40 := by rw [List.length_drop]; omega
  have hpc := hr1.le
  have HS := hidA (fun W (b : Below w.heap.size w W) => hr1.grow b)
  have HN := hidA hr1.nil
  have HB0 := hidA ((Below.refl w.heap.size w).alloc (Nat.le_refl _) (.cells #[] 5))
  have HO0 := hidA (By.fresh w w.heap.size (Nat.le_refl _)).own
  clear hr1 hS
  generalize l.drop i = p at *
  cases a2 with
  | none =>
    have hx0 : p = [] := List.length_eq_zero_iff.1 (by have h1 := HN.out rfl; omega)
    have hc0 := HN.out rfl
    subst hx0 hc0
    have HB1 := hidA (By.fresh w w.heap.size (Nat.le_refl _))
    clear HO0 HS HN
    go_enter Try.func13, Try.ntmps13
    go_wp2_with (first
      | (go_at_call 30; with_reducible refine (HA.out _).mono ?_; rintro e w1 ⟨rfl, hw1⟩; rw [hw1]; clear hw1 w1))
    go_ret
    exact ⟨_, rfl, HB1.out, HB0.out⟩
  | some ad =>
    have hsz0 : w.heap.size ≤ (w.alloc (.cells #[] 5)).heap.size := HB0.out.size
    have HS1 := hidA (HS.out _ HB0.out)
    go_enter Try.func13, Try.ntmps13
    go_wp2_with (first
      | (go_at_call 30; with_reducible refine (HA.out _).mono ?_; rintro e w1 ⟨rfl, hw1⟩; rw [hw1]; clear hw1 w1)
      | (at_builtin; go_loud (refine wpList_append_own_at _ rfl _ _ 22 rfl w.heap.size 5 iB (.int .u8 0) 1 1 Try.underlying22 hiB hb0 hb1 hb2 rfl (by decide) _ _ _ rfl HO0.out ad p.length c2 (bCs p) rfl (by rw [bCs_len, Nat.mul_one]) (fun j u hj => HS1.out.src.cells_at j u hj) (bCs_one p) (by unfold maxLen; simp only [List.length_nil]; omega) (by simp only [List.length_nil]; omega) hsz0 ?_; intro v' w2 hown hg2 _ hat; have HO2 := hidA (By.of_app hown); have HB2 : Hid (Below w.heap.size w w2) := HB0.out.grown hg2 hsz0 (fun k hk => (HO0.out.lt k hk).1); clear hown hg2 hat)))
    go_ret
    exact ⟨_, rfl, by have := HO2.out; simpa using this, HB2.out⟩
end Go.Proofs.Yteponlikhaadkaa
