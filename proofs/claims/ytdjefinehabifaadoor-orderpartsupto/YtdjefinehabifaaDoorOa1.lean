/- Slices of bytes that are read; the program's isBlank, isWord, isDigit, leading. Condition: lengths that fit. -/
import Derived.Test.YtdjefinehabifaaDoorOa0
import Derived.Test.YtdjefinehabifaaDoorXa1
import Derived.Laws.Small
namespace Go.Proofs.YtdjefinehabifaaDoor
open Go.RowKit
attribute [local go_sem] ext_eq app_eq get_eq
theorem Src.sub {W : World} {a : Option Addr} {l : List UInt8} (h : Src W a l) (i k c : Nat) (hk : k ≤ l.length) (hc : l.length ≤ c) : Src W (if c = i then a else a.map (·.add (i * 1))) ((l.take k).drop i) := fun j hj => by
  have hl : ((l.take k).drop i).length = k - i := by simp [hk]
  obtain ⟨g, o, e, hg, hcell⟩ := h (i + j) (by omega)
  rw [if_neg (by omega)]
  refine ⟨g, o + i, by rw [e]; simp [Addr.add], hg, ?_⟩
  rw [show o + i + j = o + (i + j) by omega, hcell]
  congr 3
  simp
theorem htB : Tryd.prog.underlying 22 = some (.slice (Tryd.prog.elem 22)) := by kernel_rfl
theorem szB (W : World) : (sizeOf (Tryd.prog.elem 22)).run Tryd.prog W = .ok 1 W := by
  have e : Tryd.prog.elem 22 = 5 := by kernel_rfl
  rw [e]
  simp [sizeOf, go_sem]
  rfl
/-- A slice of bytes that is read, with its capacity. -/
structure Sr (W : World) (a : Option Addr) (c : Nat) (l : List UInt8) : Prop where
  src : Src W a l
  le : l.length ≤ c
  nil : a = none → c = 0
theorem Sr.grow {W W' : World} {a : Option Addr} {c : Nat} {l : List UInt8} (h : Sr W a c l) (b : Below W.heap.size W W') : Sr W' a c l := ⟨h.src.grow b (Nat.le_refl _), h.le, h.nil⟩
theorem sl_from {w : World} {a : Option Addr} {l : List UInt8} {c : Nat} (h : Sr w a c l) (i : Nat) (hi : i ≤ l.length) : ∃ a' c', (∀ W : World, (Instr.slice 22 (.slice a l.length c) (some (.int .i64 i)) none none).run Tryd.prog W = .ok (.slice a' (l.drop i).length c') W) ∧ Sr w a' c' (l.drop i) := by
  have hc := h.le
  refine ⟨(if c = i then a else a.map (·.add (i * 1))), c - i, fun W => ?_, ?_, by rw [List.length_drop]; omega, fun e => ?_⟩
  · rw [run_slice_l (P := Tryd.prog) (w := W) 22 a l.length c htB .i64 i (by omega) (by omega), List.length_drop, szB]
    simp [Result.andThen, sliced]
  · have := h.src.sub i l.length c (Nat.le_refl _) hc
    rw [List.take_length] at this
    exact this
  · have : a = none := by
      split at e
      · exact e
      · simpa using e
    have := h.nil this; omega
theorem sl_to {w : World} {a : Option Addr} {l : List UInt8} {c : Nat} (h : Sr w a c l) (k : Nat) (hk : k ≤ l.length) : (∀ W : World, (Instr.slice 22 (.slice a l.length c) none (some (.int .i64 k)) none).run Tryd.prog W = .ok (.slice a (l.take k).length c) W) ∧ Sr w a c (l.take k) := by
  have hc := h.le
  refine ⟨fun W => ?_, fun j hj => ?_, by rw [List.length_take]; omega, h.nil⟩
  · rw [run_slice_h (P := Tryd.prog) (w := W) 22 a l.length c htB .i64 k (by omega) (by omega), List.length_take, Nat.min_eq_left hk, szB]
    cases a <;> simp [Result.andThen, sliced, Addr.add]
  · rw [List.length_take] at hj
    obtain ⟨g, o, e, hg, hcell⟩ := h.src j (by omega)
    exact ⟨g, o, e, hg, by rw [hcell]; simp⟩
theorem sl_mid {w : World} {a : Option Addr} {l : List UInt8} {c : Nat} (h : Sr w a c l) (i k : Nat) (hik : i ≤ k) (hk : k ≤ l.length) : ∃ a' c', (∀ W : World, (Instr.slice 22 (.slice a l.length c) (some (.int .i64 i)) (some (.int .i64 k)) none).run Tryd.prog W = .ok (.slice a' ((l.take k).drop i).length c') W) ∧ Sr w a' c' ((l.take k).drop i) := by
  have hc := h.le
  have hm : ((l.take k).drop i).length = k - i := by simp [hk]
  refine ⟨(if c = i then a else a.map (·.add (i * 1))), c - i, fun W => ?_, h.src.sub i k c hk hc, by omega, fun e => ?_⟩
  · rw [run_slice_lh (P := Tryd.prog) (w := W) 22 a l.length c htB .i64 .i64 i k (by omega) (by omega) (by omega), szB, hm]
    simp [Result.andThen, sliced]
  · have : a = none := by
      split at e
      · exact e
      · simpa using e
    have := h.nil this; omega
set_option maxHeartbeats 1000000 in
theorem oIsBlank (c : UInt8) (w : World) : Calls Tryd.prog 56 #[.int .u8 c.toNat] w fun e w' => e = .returned (.bool (Od.bl c)) ∧ w' = w := by
  by_cases h1 : c = 32
  · subst h1
    go_enter Tryd.func56, Tryd.ntmps56
    go_wp2
    go_ret
    exact ⟨rfl, rfl⟩
  · have e1 := byte_no c 32 32 rfl h1
    have e2 : (((c.toNat : Int) == 9)) = decide (c = 9) := byte_eq c 9
    go_enter Tryd.func56, Tryd.ntmps56
    go_wp2
    go_ret
    exact ⟨ret_bool (by simp [Od.bl, h1]), rfl⟩
set_option maxHeartbeats 1000000 in
theorem oIsWord (c : UInt8) (w : World) : Calls Tryd.prog 100 #[.int .u8 c.toNat] w fun e w' => e = .returned (.bool (Od.nb c)) ∧ w' = w := by
  go_enter Tryd.func100, Tryd.ntmps100
  go_wp2_with fail
  refine (oIsBlank _ _).mono ?_
  rintro e w1 ⟨rfl, rfl⟩
  go_wp2
  go_ret
  exact ⟨rfl, rfl⟩
set_option maxHeartbeats 1000000 in
theorem oIsDigit (c : UInt8) (w : World) : Calls Tryd.prog 57 #[.int .u8 c.toNat] w fun e w' => e = .returned (.bool (Od.dg c)) ∧ w' = w := by
  by_cases h1 : 48 ≤ c.toNat
  all_goals
    go_enter Tryd.func57, Tryd.ntmps57
    go_wp2
    go_ret
    exact ⟨ret_bool (by rw [Bool.eq_iff_iff]; simp only [Od.dg, Bool.and_eq_true, decide_eq_true_eq, Bool.false_eq_true, false_iff]; omega), rfl⟩
set_option maxRecDepth 100000 in
set_option maxHeartbeats 2000000 in
theorem oLeadBlank (l : List UInt8) (a : Option Addr) (c : Nat) (hl : l.length ≤ 2 ^ 60) (w : World) (hS : Src w a l) : Calls Tryd.prog 55 #[.slice a l.length c, .func (.func 56) #[] #[]] w fun e w' => e = .returned (.int .i64 (Od.lead Od.bl l)) ∧ w' = w := by
  have HS := hidA hS
  clear hS
  go_enter Tryd.func55, Tryd.ntmps55
  go_wp2
  go_loop [5] (fun s5 => ∃ k : Nat, s5 = .int .i64 k ∧ k ≤ l.length ∧ Hid (k ≤ Od.lead Od.bl l)) (fun s5 => l.length - (intOf s5).toNat)
  case atStart => exact ⟨0, rfl, Nat.zero_le _, hidA (Nat.zero_le _)⟩
  case round =>
    obtain ⟨k, rfl, hk, HC⟩ := hrel
    by_cases hlt : k < l.length
    · obtain ⟨g, o, rfl, hg, hc⟩ := HS.out k hlt
      have HD := hidA (oIsBlank l[k] w)
      have hw1 : IntKind.i64.wrap ((k : Int) + 1) = ((k + 1 : Nat) : Int) := by rw [IntKind.wrap_i64]; omega
      cases hd : Od.bl l[k] with
      | false =>
        rw [hd] at HD
        have HR := hidA (Od.lead_stop HC.out hlt hd)
        clear HC HS hd
        generalize l[k] = x at *
        go_wp2_with (go_at_call 56; refine HD.out.mono ?_; rintro e w1 ⟨rfl, hw1⟩; rw [hw1]; clear hw1 w1)
        go_ret
        exact ⟨by rw [HR.out]; rfl, rfl⟩
      | true =>
        rw [hd] at HD
        have HC2 := hidA (Od.lead_yes HC.out hlt hd)
        clear HC HS hd
        generalize l[k] = x at *
        go_wp2_with (go_at_call 56; refine HD.out.mono ?_; rintro e w1 ⟨rfl, hw1⟩; rw [hw1]; clear hw1 w1)
        exact ⟨⟨k + 1, by first | rfl | go_num, hlt, HC2⟩, by simp [intOf]; omega⟩
    · have HR := hidA (Od.lead_end HC.out hlt)
      clear HC HS
      go_wp2_with (go_quiet (fail))
      go_ret
      exact ⟨by rw [HR.out]; rfl, rfl⟩
set_option maxRecDepth 100000 in
set_option maxHeartbeats 2000000 in
theorem oLeadWord (l : List UInt8) (a : Option Addr) (c : Nat) (hl : l.length ≤ 2 ^ 60) (w : World) (hS : Src w a l) : Calls Tryd.prog 55 #[.slice a l.length c, .func (.func 100) #[] #[]] w fun e w' => e = .returned (.int .i64 (Od.lead Od.nb l)) ∧ w' = w := by
  have HS := hidA hS
  clear hS
  go_enter Tryd.func55, Tryd.ntmps55
  go_wp2
  go_loop [5] (fun s5 => ∃ k : Nat, s5 = .int .i64 k ∧ k ≤ l.length ∧ Hid (k ≤ Od.lead Od.nb l)) (fun s5 => l.length - (intOf s5).toNat)
  case atStart => exact ⟨0, rfl, Nat.zero_le _, hidA (Nat.zero_le _)⟩
  case round =>
    obtain ⟨k, rfl, hk, HC⟩ := hrel
    by_cases hlt : k < l.length
    · obtain ⟨g, o, rfl, hg, hc⟩ := HS.out k hlt
      have HD := hidA (oIsWord l[k] w)
      have hw1 : IntKind.i64.wrap ((k : Int) + 1) = ((k + 1 : Nat) : Int) := by rw [IntKind.wrap_i64]; omega
      cases hd : Od.nb l[k] with
      | false =>
        rw [hd] at HD
        have HR := hidA (Od.lead_stop HC.out hlt hd)
        clear HC HS hd
        generalize l[k] = x at *
        go_wp2_with (go_at_call 100; refine HD.out.mono ?_; rintro e w1 ⟨rfl, hw1⟩; rw [hw1]; clear hw1 w1)
        go_ret
        exact ⟨by rw [HR.out]; rfl, rfl⟩
      | true =>
        rw [hd] at HD
        have HC2 := hidA (Od.lead_yes HC.out hlt hd)
        clear HC HS hd
        generalize l[k] = x at *
        go_wp2_with (go_at_call 100; refine HD.out.mono ?_; rintro e w1 ⟨rfl, hw1⟩; rw [hw1]; clear hw1 w1)
        exact ⟨⟨k + 1, by first | rfl | go_num, hlt, HC2⟩, by simp [intOf]; omega⟩
    · have HR := hidA (Od.lead_end HC.out hlt)
      clear HC HS
      go_wp2_with (go_quiet (fail))
      go_ret
      exact ⟨by rw [HR.out]; rfl, rfl⟩
set_option maxRecDepth 100000 in
set_option maxHeartbeats 2000000 in
theorem oLeadDigit (l : List UInt8) (a : Option Addr) (c : Nat) (hl : l.length ≤ 2 ^ 60) (w : World) (hS : Src w a l) : Calls Tryd.prog 55 #[.slice a l.length c, .func (.func 57) #[] #[]] w fun e w' => e = .returned (.int .i64 (Od.lead Od.dg l)) ∧ w' = w := by
  have HS := hidA hS
  clear hS
  go_enter Tryd.func55, Tryd.ntmps55
  go_wp2
  go_loop [5] (fun s5 => ∃ k : Nat, s5 = .int .i64 k ∧ k ≤ l.length ∧ Hid (k ≤ Od.lead Od.dg l)) (fun s5 => l.length - (intOf s5).toNat)
  case atStart => exact ⟨0, rfl, Nat.zero_le _, hidA (Nat.zero_le _)⟩
  case round =>
    obtain ⟨k, rfl, hk, HC⟩ := hrel
    by_cases hlt : k < l.length
    · obtain ⟨g, o, rfl, hg, hc⟩ := HS.out k hlt
      have HD := hidA (oIsDigit l[k] w)
      have hw1 : IntKind.i64.wrap ((k : Int) + 1) = ((k + 1 : Nat) : Int) := by rw [IntKind.wrap_i64]; omega
      cases hd : Od.dg l[k] with
      | false =>
        rw [hd] at HD
        have HR := hidA (Od.lead_stop HC.out hlt hd)
        clear HC HS hd
        generalize l[k] = x at *
        go_wp2_with (go_at_call 57; refine HD.out.mono ?_; rintro e w1 ⟨rfl, hw1⟩; rw [hw1]; clear hw1 w1)
        go_ret
        exact ⟨by rw [HR.out]; rfl, rfl⟩
      | true =>
        rw [hd] at HD
        have HC2 := hidA (Od.lead_yes HC.out hlt hd)
        clear HC HS hd
        generalize l[k] = x at *
        go_wp2_with (go_at_call 57; refine HD.out.mono ?_; rintro e w1 ⟨rfl, hw1⟩; rw [hw1]; clear hw1 w1)
        exact ⟨⟨k + 1, by first | rfl | go_num, hlt, HC2⟩, by simp [intOf]; omega⟩
    · have HR := hidA (Od.lead_end HC.out hlt)
      clear HC HS
      go_wp2_with (go_quiet (fail))
      go_ret
      exact ⟨by rw [HR.out]; rfl, rfl⟩
end Go.Proofs.YtdjefinehabifaaDoor
