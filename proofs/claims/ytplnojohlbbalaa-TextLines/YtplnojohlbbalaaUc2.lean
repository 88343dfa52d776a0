/- The ends of the lines, one after another; the program's Cut again, told of every world. Condition: a length that fits. -/
import Derived.Test.YtplnojohlbbalaaUc0
import Derived.Deep.DeepCutAuto
namespace Go.Proofs.Ytplnojohlbbalaa
open Go.RowKit
attribute [local go_sem] ext_eq app_eq get_eq
namespace Tl
theorem en_zero (l : List UInt8) : en l 0 = 0 := by simp [en]
theorem en_succ (l : List UInt8) (k : Nat) (h : k < (prs l).length) : en l (k + 1) = en l k + (pc (prs l)[k]).length := by
  unfold en
  rw [List.take_succ_eq_append_getElem (by simpa using h), List.flatten_append]
  simp
theorem pc_hd {r : List UInt8} (_ : r ≠ []) : (pc (hd r, yes r)).length = (hd r).length + (if yes r then 1 else 0) := by
  unfold pc; cases yes r <;> simp
theorem tl_drop {r : List UInt8} (h : r ≠ []) : tl r = r.drop (pc (hd r, yes r)).length := by
  rw [pc_hd h]
  by_cases hf : fx r < r.length
  · have e : yes r = true := decide_eq_true hf
    rw [e, if_pos rfl]
    unfold hd tl
    rw [List.length_take, Nat.min_eq_left (Nat.le_of_lt hf)]
  · rw [tl_no hf, hd_no hf]
    exact (List.drop_eq_nil_of_le (by omega)).symm
theorem prs_ne {r : List UInt8} (h : prs r ≠ []) : r ≠ [] := fun e => h (by rw [e]; rfl)
theorem prs_drop (l : List UInt8) : ∀ k, k ≤ (prs l).length → prs (l.drop (en l k)) = (prs l).drop k
  | 0, _ => by rw [en_zero]; simp
  | k + 1, h => by
    have ih := prs_drop l k (by omega)
    have hc : (prs l).drop k = (prs l)[k] :: (prs l).drop (k + 1) := List.drop_eq_getElem_cons (by omega)
    have hr : l.drop (en l k) ≠ [] := prs_ne (by rw [ih, hc]; exact List.cons_ne_nil _ _)
    have hs := prs_step hr
    rw [ih, hc] at hs
    injection hs with h1 h2
    have hk : k < (prs l).length := h
    rw [en_succ l k hk, h1, ← List.drop_drop, ← tl_drop hr, ← h2]
/-- What the program's loop has behind k lines: what is left, and the ends. -/
def Es (l : List UInt8) (k : Nat) : List Nat := (List.range (k + 1)).map (en l)
theorem Es_len (l : List UInt8) (k : Nat) : (Es l k).length = k + 1 := by simp [Es]
theorem Es_last (l : List UInt8) (k : Nat) (h : k < (Es l k).length) : (Es l k)[k] = en l k := by simp [Es]
theorem Es_get (l : List UInt8) (n k : Nat) (h : k < (Es l n).length) : (Es l n)[k] = en l k := by simp [Es]
theorem Es_succ (l : List UInt8) (k : Nat) : Es l (k + 1) = Es l k ++ [en l (k + 1)] := by
  unfold Es; rw [List.range_succ, List.map_append]; simp
theorem at_more {l : List UInt8} {k : Nat} (hk : k ≤ (prs l).length) (hr : l.drop (en l k) ≠ []) : k + 1 ≤ (prs l).length ∧ tl (l.drop (en l k)) = l.drop (en l (k + 1)) ∧ en l (k + 1) = en l k + ((hd (l.drop (en l k))).length + if yes (l.drop (en l k)) then 1 else 0) := by
  have ih := prs_drop l k hk
  have hs := prs_step hr
  rw [ih] at hs
  have hlt : k < (prs l).length := by
    rcases Nat.lt_or_ge k (prs l).length with h | h
    · exact h
    · rw [List.drop_eq_nil_of_le h] at hs; cases hs
  have hc : (prs l).drop k = (prs l)[k] :: (prs l).drop (k + 1) := List.drop_eq_getElem_cons hlt
  rw [hc] at hs
  injection hs with h1 h2
  have e := en_succ l k hlt
  rw [h1] at e
  refine ⟨hlt, ?_, by rw [e, pc_hd hr]⟩
  rw [tl_drop hr, List.drop_drop, e]
theorem at_done {l : List UInt8} {k : Nat} (hk : k ≤ (prs l).length) (hr : l.drop (en l k) = []) : k = (prs l).length := by
  have ih := prs_drop l k hk
  rw [hr] at ih
  have := congrArg List.length ih
  rw [prs_nil, List.length_drop] at this
  simp at this; omega
end Tl
theorem sl_from2 {w : World} {a : Option Addr} {l : List UInt8} {c : Nat} (h : Sr w a c l) (i : Nat) (hi : i ≤ l.length) : ∃ a' c', (∀ W : World, (Instr.slice 22 (.slice a l.length c) (some (.int .i64 i)) none none).run Try.prog W = .ok (.slice a' (l.drop i).length c') W) ∧ ∀ W, Sr W a c l → Sr W a' c' (l.drop i) := by
  have hc := h.le
  refine ⟨(if c = i then a else a.map (·.add (i * 1))), c - i, fun W => ?_, fun W h => ⟨?_, by rw [List.length_drop]; omega, fun e => ?_⟩⟩
  · rw [run_slice_l (P := Try.prog) (w := W) 22 a l.length c htB .i64 i (by omega) (by omega), List.length_drop, szB]
    simp [Result.andThen, sliced]
  · have := h.src.sub i l.length c (Nat.le_refl _) hc
    rw [List.take_length] at this
    exact this
  · have : a = none := by
      split at e
      · exact e
      · simpa using e
    have := h.nil this; omega
set_option maxRecDepth 100000 in
set_option maxHeartbeats 2000000 in
theorem oCutG (l : List UInt8) (a : Option Addr) (c g : Nat) (hl : l.length ≤ 2 ^ 60) (w : World) (hS : Sr w a c l) (hg : w.cell? ⟨g, 0, none⟩ = some (.int .u8 10)) : Calls Try.prog 50 #[.slice a l.length c, .slice (some ⟨g, 0, none⟩) 1 1] w fun e w' => ∃ a1 c1 a2 c2, e = .returned (.tuple #[.slice a1 (Tl.hd l).length c1, .slice a2 (Tl.tl l).length c2, .bool (Tl.yes l)]) ∧ (∀ W, Sr W a c l → Sr W a1 c1 (Tl.hd l) ∧ Sr W a2 c2 (Tl.tl l)) ∧ Below w.heap.size w w' := by
  have HA := hidA (oIndexF l a c g w hS hg)
  rw [Tl.index_fx] at HA
  by_cases hf : Tl.fx l < l.length
  · rw [if_pos hf] at HA
    obtain ⟨hs1, hr1⟩ := sl_to hS (Tl.fx l) (Nat.le_of_lt hf)
    obtain ⟨a2, c2, hs2, hr2⟩ := sl_from2 hS (Tl.fx l + 1) hf
    have hy : Tl.yes l = true := decide_eq_true hf
    rw [hy]
    have H1 := hidA (fun W (h : Sr W a c l) => (sl_to h (Tl.fx l) (Nat.le_of_lt hf)).2)
    have H2 := hidA hr2
    rw [show l.take (Tl.fx l) = Tl.hd l from rfl] at hs1 H1
    rw [show l.drop (Tl.fx l + 1) = Tl.tl l from rfl] at hs2 H2
    have hadd : IntKind.i64.wrap ((Tl.fx l : Int) + 1) = ((Tl.fx l + 1 : Nat) : Int) := by rw [IntKind.wrap_i64]; omega
    have hge : (0 : Int) ≤ (Tl.fx l : Int) := by omega
    have hs2' : ∀ W : World, (Instr.slice 22 (.slice a l.length c) (some (.int .i64 ((Tl.fx l : Int) + 1))) none none).run Try.prog W = .ok (.slice a2 (Tl.tl l).length c2) W := hs2
    generalize Tl.hd l = p at *
    generalize Tl.tl l = q at *
    generalize Tl.fx l = i at *
    clear hS hr1 hr2 hy hs2
    go_enter Try.func50, Try.ntmps50
    go_upto_region 3 with (go_at_call 58; with_reducible refine HA.out.mono ?_; rintro e w1 ⟨rfl, hw1⟩; rw [hw1]; clear hw1 w1)
    go_wp2_with (go_region)
    go_ret3
    exact ⟨_, _, _, _, rfl, fun W h => ⟨H1.out W h, H2.out W h⟩, bl_drew w 1⟩
  · rw [if_neg hf] at HA
    have hy : Tl.yes l = false := decide_eq_false hf
    rw [hy, Tl.hd_no hf, Tl.tl_no hf]
    clear hS hy
    go_enter Try.func50, Try.ntmps50
    go_wp2_with (go_at_call 58; with_reducible refine HA.out.mono ?_; rintro e w1 ⟨rfl, hw1⟩; rw [hw1]; clear hw1 w1)
    go_ret3
    exact ⟨a, c, none, 0, rfl, fun W h => ⟨h, Sr.empty W⟩, Below.refl _ _⟩
end Go.Proofs.Ytplnojohlbbalaa
