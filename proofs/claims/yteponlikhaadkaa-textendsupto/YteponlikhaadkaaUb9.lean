/- Head and Tail of the plain answer. Condition: a length that fits. -/
import Derived.Test.YteponlikhaadkaaUb8
namespace Go.Proofs.Yteponlikhaadkaa
open Go.RowKit
attribute [local go_sem] ext_eq app_eq get_eq
theorem htRR : Try.prog.underlying 28 = some (.slice (Try.prog.elem 28)) := by kernel_rfl
theorem szRR (W : World) : (sizeOf (Try.prog.elem 28)).run Try.prog W = .ok 1 W := by
  have e : Try.prog.elem 28 = 22 := by kernel_rfl
  rw [e]
  simp [sizeOf, go_sem]
  rfl
theorem rr_to (a : Option Addr) {n c k : Nat} (hk : k ≤ n) (hc : n ≤ c) (W : World) : (Instr.slice 28 (.slice a n c) none (some (.int .i64 k)) none).run Try.prog W = .ok (.slice a k c) W := by
  rw [run_slice_h (P := Try.prog) (w := W) 28 a n c htRR .i64 k (by omega) (by omega), szRR]
  cases a <;> simp [Result.andThen, sliced, Addr.add]
theorem rr_from (a : Option Addr) {n c i : Nat} (hi : i ≤ n) (_ : n ≤ c) (W : World) : (Instr.slice 28 (.slice a n c) (some (.int .i64 i)) none none).run Try.prog W = .ok (.slice (if c = i then a else a.map (·.add (i * 1))) (n - i) (c - i)) W := by
  rw [run_slice_l (P := Try.prog) (w := W) 28 a n c htRR .i64 i (by omega) (by omega), szRR]
  simp [Result.andThen, sliced]
theorem Tl.ps_flat (l : List UInt8) : (Tl.ps l).flatten = l := Tl.flat_all l
set_option maxRecDepth 100000 in
set_option maxHeartbeats 1000000 in
theorem rHead (l : List UInt8) (a : Option Addr) (c : Nat) (n : Int) (hn : -(2 ^ 63) ≤ n ∧ n < 2 ^ 63) (hl : l.length ≤ 1048577) (w : World) (hS : Src w a l) : Calls Try.prog 7 #[.slice a l.length c, .int .i64 n] w fun e w' => ∃ v, e = .returned v ∧ By w.heap.size w' v ((Tl.ps l).take (Tl.fst n (Tl.ps l).length)).flatten ∧ Below w.heap.size w w' := by
  have HPc := hidA (rPieces l a c hl w hS)
  have hfl : (Tl.ps l).flatten.length ≤ 2097155 := by rw [Tl.ps_flat]; omega
  have hpl : (Tl.ps l).length ≤ 1048577 := by have := Tl.ps_len l; have := Tl.ls_le l; omega
  have HB0 := hidA (Below.refl w.heap.size w)
  clear hS
  generalize Tl.ps l = P at *
  have hk := Tl.fst_le n P.length
  have HA := hidA (fun W => rFirst n P.length hn (by omega) W)
  generalize Tl.fst n P.length = i at *
  have HJ := hidA (fun a' c' W (h : Rd W a' P) => rJoined (P.take i) a' c' (by rw [List.length_take]; omega) (flat_le hfl i) W (h.pre i))
  rw [show (P.take i).length = i by rw [List.length_take]; omega] at HJ
  generalize (P.take i).flatten = q at *
  go_enter Try.func7, Try.ntmps7
  go_wp2_with (first
    | (go_at_call 26; with_reducible refine HPc.out.mono ?_; rintro e w1 ⟨a', c', rfl, h1, h2, h3, h4⟩; have HR1 := hidA h1; have HB1 := hidA h4; have hs := rr_to a' hk h2; clear h1 h3 h4)
    | (go_at_call 28; with_reducible refine (HA.out _).mono ?_; rintro e w2 ⟨rfl, hw2⟩; rw [hw2]; clear hw2 w2)
    | (go_at_call 27; with_reducible refine (HJ.out _ _ _ HR1.out).mono ?_; rintro e w3 ⟨v, rfl, h1, h2⟩; have HO := hidA (By.mono h1 HB1.out.size); have HB2 := hidA (HB1.out.trans (h2.mono HB1.out.size)); clear h1 h2))
  go_ret
  exact ⟨_, rfl, HO.out, HB2.out⟩
set_option maxRecDepth 100000 in
set_option maxHeartbeats 1000000 in
theorem rTail (l : List UInt8) (a : Option Addr) (c : Nat) (n : Int) (fr : Bool) (hn : -(2 ^ 63) ≤ n ∧ n < 2 ^ 63) (hl : l.length ≤ 1048577) (w : World) (hS : Src w a l) : Calls Try.prog 11 #[.slice a l.length c, .int .i64 n, .bool fr] w fun e w' => ∃ v, e = .returned v ∧ By w.heap.size w' v ((Tl.ps l).drop (Tl.ahd n (Tl.ps l).length fr)).flatten ∧ Below w.heap.size w w' := by
  have HPc := hidA (rPieces l a c hl w hS)
  have hfl : (Tl.ps l).flatten.length ≤ 2097155 := by rw [Tl.ps_flat]; omega
  have hpl : (Tl.ps l).length ≤ 1048577 := by have := Tl.ps_len l; have := Tl.ls_le l; omega
  clear hS
  generalize Tl.ps l = P at *
  have hk := Tl.ahd_le n P.length fr
  have HA := hidA (fun W => rBehind n P.length fr hn (by omega) W)
  generalize Tl.ahd n P.length fr = i at *
  have hfd : (P.drop i).flatten.length ≤ 2097155 := by
    have e : P.flatten = (P.take i).flatten ++ (P.drop i).flatten := by rw [← List.flatten_append, List.take_append_drop]
    rw [e, List.length_append] at hfl; omega
  have HJ := hidA (fun a' c' d W (h : Rd W a' P) (hc : P.length ≤ c') => rJoined (P.drop i) (if c' = i then a' else a'.map (·.add (i * 1))) d (by rw [List.length_drop]; omega) hfd W (h.suf hc i))
  rw [show (P.drop i).length = P.length - i by rw [List.length_drop]] at HJ
  generalize (P.drop i).flatten = q at *
  go_enter Try.func11, Try.ntmps11
  go_wp2_with (first
    | (go_at_call 26; with_reducible refine HPc.out.mono ?_; rintro e w1 ⟨a', c', rfl, h1, h2, h3, h4⟩; have HR1 := hidA h1; have HB1 := hidA h4; have Hc1 := hidA h2; have HJ1 := hidA (fun d W => HJ.out a' c' d W); have hs := rr_from a' hk h2; generalize (if c' = i then a' else a'.map (·.add (i * 1))) = b' at *; clear h1 h3 h4)
    | (go_at_call 30; with_reducible refine (HA.out _).mono ?_; rintro e w2 ⟨rfl, hw2⟩; rw [hw2]; clear hw2 w2)
    | (go_at_call 27; with_reducible refine (HJ1.out _ _ HR1.out Hc1.out).mono ?_; rintro e w3 ⟨v, rfl, h1, h2⟩; have HO := hidA (By.mono h1 HB1.out.size); have HB2 := hidA (HB1.out.trans (h2.mono HB1.out.size)); clear h1 h2))
  go_ret
  exact ⟨_, rfl, HO.out, HB2.out⟩
end Go.Proofs.Yteponlikhaadkaa
