/- Same; TextEnds' own function: it answers true. Condition: a length that fits. -/
import Derived.Test.YteponlikhaadkaaUc4
import Derived.Test.YteponlikhaadkaaUc5
namespace Go.Proofs.Yteponlikhaadkaa
open Go.RowKit
attribute [local go_sem] ext_eq app_eq get_eq
set_option maxRecDepth 100000 in
theorem rSame1 {B1 B2 : Nat} {W : World} {v1 v2 : Value} {l : List UInt8} (h1 : By B1 W v1 l) (h2 : By B2 W v2 l) : Calls Try.prog 22 #[v1, v2] W fun e w' => e = .returned (.bool true) ∧ w' = W := by
  have t1 := h1.text
  have t2 := h2.text
  clear h1 h2
  go_enter Try.func22, Try.ntmps22
  go_wp2_with fail
  go_ret
  exact ⟨by simp, rfl⟩
set_option maxRecDepth 100000 in
theorem rSame {B1 B2 : Nat} {W : World} {v1 v2 : Value} {l : List UInt8} (h1 : By B1 W v1 l) (h2 : By B2 W v2 l) : Calls Try.prog 5 #[v1, v2] W fun e w' => e = .returned (.bool true) ∧ w' = W := by
  have HS := hidA (rSame1 h1 h2)
  clear h1 h2
  go_enter Try.func5, Try.ntmps5
  go_wp2_with (go_at_call 22; with_reducible refine HS.out.mono ?_; rintro e w1 ⟨rfl, hw1⟩; rw [hw1]; clear hw1 w1)
  go_ret
  exact ⟨rfl, rfl⟩
theorem Tl.ps_prs (l : List UInt8) : (Tl.ps l).length = (Tl.prs l).length := by simp [Tl.ps]
set_option maxRecDepth 100000 in
set_option maxHeartbeats 4000000 in
theorem ends_walk (l : List UInt8) (a : Option Addr) (c : Nat) (n : Int) (fr : Bool) (hn : -(2 ^ 63) ≤ n ∧ n < 2 ^ 63) (hl : l.length ≤ 1048577) (w : World) (hS : Sr w a c l) : Calls Try.prog 3 #[.slice a l.length c, .int .i64 n, .bool fr] w fun e w' => e = .returned (.bool true) ∧ Below w.heap.size w w' := by
  have e1 : ((Tl.ps l).take (Tl.fst n (Tl.ps l).length)).flatten = l.take (Tl.en l (Tl.fst n (Tl.prs l).length)) := by rw [Tl.ps_prs]; exact Tl.en_take l _
  have e2 : ((Tl.ps l).drop (Tl.ahd n (Tl.ps l).length fr)).flatten = l.drop (Tl.en l (Tl.ahd n (Tl.prs l).length fr)) := by rw [Tl.ps_prs]; exact Tl.en_drop l _
  have HA1 := hidA (fun W (b : Below w.heap.size w W) => oHead l a c n hn hl W (hS.grow b))
  have HB1 := hidA (fun W (b : Below w.heap.size w W) => by have h := rHead l a c n hn hl W (hS.grow b).src; rw [e1] at h; exact h)
  have HA2 := hidA (fun W (b : Below w.heap.size w W) => oHeadBytes l a c n hn (by omega) W (hS.grow b))
  have HB2 := hidA (fun W (b : Below w.heap.size w W) => rHeadBytes l a c n hn (by omega) W (hS.grow b))
  have HA3 := hidA (fun W (b : Below w.heap.size w W) => oTail l a c n fr hn hl W (hS.grow b))
  have HB3 := hidA (fun W (b : Below w.heap.size w W) => by have h := rTail l a c n fr hn hl W (hS.grow b).src; rw [e2] at h; exact h)
  have HA4 := hidA (fun W (b : Below w.heap.size w W) => oTailBytes l a c n fr hn (by omega) W (hS.grow b))
  have HB4 := hidA (fun W (b : Below w.heap.size w W) => rTailBytes l a c n fr hn (by omega) W (hS.grow b))
  have HAw := hidA awakes
  have HW := hidA (Below.refl w.heap.size w)
  clear hS e1 e2
  generalize l.take (Tl.en l (Tl.fst n (Tl.prs l).length)) = X1 at *
  generalize l.drop (Tl.en l (Tl.ahd n (Tl.prs l).length fr)) = X3 at *
  generalize l.take (Tl.fst n l.length) = X2 at *
  generalize l.drop (Tl.ahd n l.length fr) = X4 at *
  go_enter Try.func3, Try.ntmps3
  go_wp2_with (first
    | (go_at_call 6; with_reducible refine (HA1.out _ HW.out).mono ?_; rintro e w1 ⟨v1, rfl, h1, b1⟩; have V1 := hidA h1; have HW := hidA (HW.out.trans (b1.mono HW.out.size)); clear h1 b1)
    | (go_at_call 7; with_reducible refine (HB1.out _ HW.out).mono ?_; rintro e w2 ⟨v2, rfl, h1, b1⟩; have V1 := hidA (V1.out.grow b1); have V2 := hidA h1; have HW := hidA (HW.out.trans (b1.mono HW.out.size)); clear h1 b1)
    | (go_at_call 8; with_reducible refine (HA2.out _ HW.out).mono ?_; rintro e w1 ⟨v1, rfl, h1, b1⟩; have V1 := hidA h1; have HW := hidA (HW.out.trans (b1.mono HW.out.size)); clear h1 b1)
    | (go_at_call 9; with_reducible refine (HB2.out _ HW.out).mono ?_; rintro e w2 ⟨v2, rfl, h1, b1⟩; have V1 := hidA (V1.out.grow b1); have V2 := hidA h1; have HW := hidA (HW.out.trans (b1.mono HW.out.size)); clear h1 b1)
    | (go_at_call 10; with_reducible refine (HA3.out _ HW.out).mono ?_; rintro e w1 ⟨v1, rfl, h1, b1⟩; have V1 := hidA h1; have HW := hidA (HW.out.trans (b1.mono HW.out.size)); clear h1 b1)
    | (go_at_call 11; with_reducible refine (HB3.out _ HW.out).mono ?_; rintro e w2 ⟨v2, rfl, h1, b1⟩; have V1 := hidA (V1.out.grow b1); have V2 := hidA h1; have HW := hidA (HW.out.trans (b1.mono HW.out.size)); clear h1 b1)
    | (go_at_call 12; with_reducible refine (HA4.out _ HW.out).mono ?_; rintro e w1 ⟨v1, rfl, h1, b1⟩; have V1 := hidA h1; have HW := hidA (HW.out.trans (b1.mono HW.out.size)); clear h1 b1)
    | (go_at_call 13; with_reducible refine (HB4.out _ HW.out).mono ?_; rintro e w2 ⟨v2, rfl, h1, b1⟩; have V1 := hidA (V1.out.grow b1); have V2 := hidA h1; have HW := hidA (HW.out.trans (b1.mono HW.out.size)); clear h1 b1)
    | (go_at_call 5; with_reducible refine (rSame V1.out V2.out).mono ?_; rintro e w3 ⟨rfl, hw3⟩; rw [hw3]; clear hw3 w3)
    | (go_at_call 14; with_reducible refine (HAw.out _).mono ?_; rintro e w4 ⟨rfl, b1⟩; have HW := hidA (HW.out.trans (b1.mono HW.out.size)); clear b1))
  go_ret
  exact ⟨rfl, HW.out⟩
end Go.Proofs.Yteponlikhaadkaa
