/- Head and Tail of the program. Condition: a length that fits. -/
import Derived.Test.YteponlikhaadkaaUc3
namespace Go.Proofs.Yteponlikhaadkaa
open Go.RowKit
attribute [local go_sem] ext_eq app_eq get_eq
theorem Tl.Es_at {B : Nat} {W : World} {v : Value} {l : List UInt8} (h : Ir B W v (Tl.Es l (Tl.prs l).length)) {i : Nat} (hi : i ≤ (Tl.prs l).length) : ∃ g cap, v = .slice (some ⟨g, 0, none⟩) ((Tl.prs l).length + 1) cap ∧ g < W.heap.size ∧ W.cell? ⟨g, i, none⟩ = some (.int .i64 (Tl.en l i)) := by
  obtain ⟨g, cap, hv, hg, hcg⟩ := h.at (j := i) (by rw [Tl.Es_len]; omega)
  rw [Tl.Es_len] at hv
  rw [Tl.Es_get] at hcg
  exact ⟨g, cap, hv, hg, hcg⟩
set_option maxRecDepth 100000 in
set_option maxHeartbeats 1000000 in
theorem oHead (l : List UInt8) (a : Option Addr) (c : Nat) (n : Int) (hn : -(2 ^ 63) ≤ n ∧ n < 2 ^ 63) (hl : l.length ≤ 1048577) (w : World) (hS : Sr w a c l) : Calls Try.prog 6 #[.slice a l.length c, .int .i64 n] w fun e w' => ∃ v, e = .returned v ∧ By w.heap.size w' v (l.take (Tl.en l (Tl.fst n (Tl.prs l).length))) ∧ Below w.heap.size w w' := by
  have hpl := Tl.prs_len l.length l (Nat.le_refl _)
  have HE := hidA (oEnds l a c hl w hS)
  have hk := Tl.fst_le n (Tl.prs l).length
  have HA := hidA (fun W => oFirst n (Tl.prs l).length hn (by omega) W)
  generalize Tl.fst n (Tl.prs l).length = i at *
  have hel : Tl.en l i ≤ l.length := Tl.en_le l i
  obtain ⟨hs1, hr1⟩ := sl_to hS (Tl.en l i) hel
  have HS := hidA (fun W (b : Below w.heap.size w W) => oClone (l.take (Tl.en l i)) a c (by rw [List.length_take]; omega) W (hr1.grow b))
  have hw1 : IntKind.i64.wrap (((Tl.prs l).length : Int) + 1 - 1) = ((Tl.prs l).length : Int) := by rw [IntKind.wrap_i64]; omega
  have hw2 : IntKind.i64.wrap ((Tl.prs l).length : Int) = ((Tl.prs l).length : Int) := by rw [IntKind.wrap_i64]; omega
  have hi1 : (0 : Int) ≤ (i : Int) := by omega
  have hi2 : (i : Int) < ((Tl.prs l).length : Int) + 1 := by omega
  clear hr1 hS
  generalize l.take (Tl.en l i) = p at *
  have HI := hidA (fun (W : World) (v : Value) (h : Ir w.heap.size W v (Tl.Es l (Tl.prs l).length)) => Tl.Es_at h (i := i) hk)
  generalize Tl.en l i = E at *
  generalize (Tl.Es l (Tl.prs l).length) = R at *
  generalize (Tl.prs l).length = N at *
  go_enter Try.func6, Try.ntmps6
  go_wp2_with (first
    | (go_at_call 23; with_reducible refine HE.out.mono ?_; rintro e w1 ⟨v, rfl, h1, h2⟩; obtain ⟨g, cap, hv, hg, hcg⟩ := HI.out _ _ h1; subst hv; have HB1 := hidA h2; clear h1 h2)
    | (go_at_call 25; with_reducible refine (HA.out _).mono ?_; rintro e w2 ⟨rfl, hw2⟩; rw [hw2]; clear hw2 w2)
    | (go_at_call 24; with_reducible refine (HS.out _ HB1.out).mono ?_; rintro e w3 ⟨v, rfl, h1, h2⟩; have H1 := hidA (By.mono h1 HB1.out.size); have H2 := hidA (HB1.out.trans (h2.mono HB1.out.size)); clear h1 h2))
  go_ret
  exact ⟨_, rfl, H1.out, H2.out⟩
set_option maxRecDepth 100000 in
set_option maxHeartbeats 1000000 in
theorem oTail (l : List UInt8) (a : Option Addr) (c : Nat) (n : Int) (fr : Bool) (hn : -(2 ^ 63) ≤ n ∧ n < 2 ^ 63) (hl : l.length ≤ 1048577) (w : World) (hS : Sr w a c l) : Calls Try.prog 10 #[.slice a l.length c, .int .i64 n, .bool fr] w fun e w' => ∃ v, e = .returned v ∧ By w.heap.size w' v (l.drop (Tl.en l (Tl.ahd n (Tl.prs l).length fr))) ∧ Below w.heap.size w w' := by
  have hpl := Tl.prs_len l.length l (Nat.le_refl _)
  have HE := hidA (oEnds l a c hl w hS)
  have hk := Tl.ahd_le n (Tl.prs l).length fr
  have HA := hidA (fun W => oAhead n (Tl.prs l).length fr hn (by omega) W)
  generalize Tl.ahd n (Tl.prs l).length fr = i at *
  have hel : Tl.en l i ≤ l.length := Tl.en_le l i
  obtain ⟨a2, c2, hs1, hr1⟩ := sl_from hS (Tl.en l i) hel
  have HS := hidA (fun W (b : Below w.heap.size w W) => oClone (l.drop (Tl.en l i)) a2 c2 (by rw [List.length_drop]; omega) W (hr1.grow b))
  have hw1 : IntKind.i64.wrap (((Tl.prs l).length : Int) + 1 - 1) = ((Tl.prs l).length : Int) := by rw [IntKind.wrap_i64]; omega
  have hw2 : IntKind.i64.wrap ((Tl.prs l).length : Int) = ((Tl.prs l).length : Int) := by rw [IntKind.wrap_i64]; omega
  have hi1 : (0 : Int) ≤ (i : Int) := by omega
  have hi2 : (i : Int) < ((Tl.prs l).length : Int) + 1 := by omega
  clear hr1 hS
  generalize l.drop (Tl.en l i) = p at *
  have HI := hidA (fun (W : World) (v : Value) (h : Ir w.heap.size W v (Tl.Es l (Tl.prs l).length)) => Tl.Es_at h (i := i) hk)
  generalize Tl.en l i = E at *
  generalize (Tl.Es l (Tl.prs l).length) = R at *
  generalize (Tl.prs l).length = N at *
  go_enter Try.func10, Try.ntmps10
  go_wp2_with (first
    | (go_at_call 23; with_reducible refine HE.out.mono ?_; rintro e w1 ⟨v, rfl, h1, h2⟩; obtain ⟨g, cap, hv, hg, hcg⟩ := HI.out _ _ h1; subst hv; have HB1 := hidA h2; clear h1 h2)
    | (go_at_call 29; with_reducible refine (HA.out _).mono ?_; rintro e w2 ⟨rfl, hw2⟩; rw [hw2]; clear hw2 w2)
    | (go_at_call 24; with_reducible refine (HS.out _ HB1.out).mono ?_; rintro e w3 ⟨v, rfl, h1, h2⟩; have H1 := hidA (By.mono h1 HB1.out.size); have H2 := hidA (HB1.out.trans (h2.mono HB1.out.size)); clear h1 h2))
  go_ret
  exact ⟨_, rfl, H1.out, H2.out⟩
end Go.Proofs.Yteponlikhaadkaa
