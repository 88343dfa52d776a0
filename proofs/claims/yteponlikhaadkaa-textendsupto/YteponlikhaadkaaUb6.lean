/- HeadBytes and TailBytes of both sides. Condition: lengths that fit. -/
import Derived.Test.YteponlikhaadkaaUb5
namespace Go.Proofs.Yteponlikhaadkaa
open Go.RowKit
attribute [local go_sem] ext_eq app_eq get_eq
set_option maxRecDepth 100000 in
set_option maxHeartbeats 1000000 in
theorem oHeadBytes (l : List UInt8) (a : Option Addr) (c : Nat) (n : Int) (hn : -(2 ^ 63) ≤ n ∧ n < 2 ^ 63) (hl : l.length ≤ 2 ^ 40) (w : World) (hS : Sr w a c l) : Calls Try.prog 8 #[.slice a l.length c, .int .i64 n] w fun e w' => ∃ v, e = .returned v ∧ By w.heap.size w' v (l.take (Tl.fst n l.length)) ∧ Below w.heap.size w w' := by
  have hk := Tl.fst_le n l.length
  have HA := hidA (fun W => oFirst n l.length hn (by omega) W)
  generalize Tl.fst n l.length = i at *
  obtain ⟨hs1, hr1⟩ := sl_to hS i hk
  have HS := hidA (fun W (b : Below w.heap.size w W) => oClone (l.take i) a c (by rw [List.length_take]; omega) W (hr1.grow b))
  have HB0 := hidA (Below.refl w.heap.size w)
  clear hr1 hS
  generalize l.take i = p at *
  go_enter Try.func8, Try.ntmps8
  go_wp2_with (first
    | (go_at_call 25; with_reducible refine (HA.out _).mono ?_; rintro e w1 ⟨rfl, hw1⟩; rw [hw1]; clear hw1 w1)
    | (go_at_call 24; with_reducible refine (HS.out _ HB0.out).mono ?_; rintro e w1 ⟨v, rfl, h1, h2⟩; have H1 := hidA h1; have H2 := hidA h2; clear h1 h2))
  go_ret
  exact ⟨_, rfl, H1.out, H2.out⟩
set_option maxRecDepth 100000 in
set_option maxHeartbeats 1000000 in
theorem oTailBytes (l : List UInt8) (a : Option Addr) (c : Nat) (n : Int) (fr : Bool) (hn : -(2 ^ 63) ≤ n ∧ n < 2 ^ 63) (hl : l.length ≤ 2 ^ 40) (w : World) (hS : Sr w a c l) : Calls Try.prog 12 #[.slice a l.length c, .int .i64 n, .bool fr] w fun e w' => ∃ v, e = .returned v ∧ By w.heap.size w' v (l.drop (Tl.ahd n l.length fr)) ∧ Below w.heap.size w w' := by
  have hk := Tl.ahd_le n l.length fr
  have HA := hidA (fun W => oAhead n l.length fr hn (by omega) W)
  generalize Tl.ahd n l.length fr = i at *
  obtain ⟨a2, c2, hs1, hr1⟩ := sl_from hS i hk
  have HS := hidA (fun W (b : Below w.heap.size w W) => oClone (l.drop i) a2 c2 (by rw [List.length_drop]; omega) W (hr1.grow b))
  have HB0 := hidA (Below.refl w.heap.size w)
  clear hr1 hS
  generalize l.drop i = p at *
  go_enter Try.func12, Try.ntmps12
  go_wp2_with (first
    | (go_at_call 29; with_reducible refine (HA.out _).mono ?_; rintro e w1 ⟨rfl, hw1⟩; rw [hw1]; clear hw1 w1)
    | (go_at_call 24; with_reducible refine (HS.out _ HB0.out).mono ?_; rintro e w1 ⟨v, rfl, h1, h2⟩; have H1 := hidA h1; have H2 := hidA h2; clear h1 h2))
  go_ret
  exact ⟨_, rfl, H1.out, H2.out⟩
end Go.Proofs.Yteponlikhaadkaa
