/- The plain answer's blank, digit, Fields. Condition: lengths that fit. -/
import Derived.Test.YtdjefinehabifaaDoorOa5
namespace Go.Proofs.YtdjefinehabifaaDoor
open Go.RowKit
attribute [local go_sem] ext_eq app_eq get_eq
theorem own_grow {W W' : World} {B k n : Nat} {T : TypeId} {v : Value} {xs : List Value} (h : W.ownsRow B T k v n xs) (hB : Below W.heap.size W W') : W'.ownsRow B T k v n xs :=
  h.kept (row := none) ⟨hB.os, hB.tape, hB.output, hB.size, fun k hk _ => hB.block k hk⟩ (by cases v.ownBlock <;> simp)
theorem two_int (x y : Int) : ∀ u ∈ [Value.int .i64 x, Value.int .i64 y], u.oneCell' = true := by intro u hu; simp at hu; rcases hu with rfl | rfl <;> rfl
theorem cell_two_new (w : World) (x y : Value) (t : TypeId) : ∀ j u, [x, y][j]? = some u → (w.alloc (.cells #[x, y] t)).cell? ((⟨w.heap.size, 0, none⟩ : Addr).add j) = some u := by
  intro j u hj
  match j, hj with
  | 0, hj => simp at hj; subst hj; simp [Addr.add]
  | 1, hj => simp at hj; subst hj; simp [Addr.add]
namespace Od
def sC (F : List (Nat × Nat)) : List Value := F.flatMap fun q => [.int .i64 q.1, .int .i64 q.2]
theorem sC_snoc (F : List (Nat × Nat)) (x : Nat × Nat) : sC (F ++ [x]) = sC F ++ [.int .i64 x.1, .int .i64 x.2] := by simp [sC]
theorem sC_get : ∀ (l : List (Nat × Nat)) (j : Nat) (h : j < l.length), (sC l)[j * 2]? = some (.int .i64 l[j].1) ∧ (sC l)[j * 2 + 1]? = some (.int .i64 l[j].2)
  | [], j, h => by simp at h
  | x :: l, 0, _ => ⟨rfl, rfl⟩
  | x :: l, j + 1, h => by
    have hh := sC_get l j (by simpa using h)
    have e : sC (x :: l) = [.int .i64 x.1, .int .i64 x.2] ++ sC l := rfl
    rw [e]
    constructor
    · rw [List.getElem?_append_right (by simp; omega), List.getElem_cons_succ, show (j + 1) * 2 - [Value.int .i64 (x.1 : Int), .int .i64 x.2].length = j * 2 by simp; omega]; exact hh.1
    · rw [List.getElem?_append_right (by simp; omega), List.getElem_cons_succ, show (j + 1) * 2 + 1 - [Value.int .i64 (x.1 : Int), .int .i64 x.2].length = j * 2 + 1 by simp; omega]; exact hh.2
/-- A row of spans of one's own. -/
def Sp (B : Nat) (W : World) (v : Value) (F : List (Nat × Nat)) : Prop := W.ownsRow B 89 2 v F.length (sC F)
theorem Sp.own {B : Nat} {W : World} {v : Value} {F : List (Nat × Nat)} (h : Sp B W v F) : W.ownsRow B 89 2 v F.length (sC F) := h
theorem Sp.snoc {B : Nat} {W : World} {v : Value} {F : List (Nat × Nat)} {x y : Nat} (h : W.ownsRow B 89 2 v (F.length + 1) (sC F ++ [.int .i64 x, .int .i64 y])) : Sp B W v (F ++ [(x, y)]) := by
  unfold Sp
  rw [sC_snoc, List.length_append]; exact h
/-- What is left of the fields at the place k. -/
def Lf (sep : UInt8) (l : List UInt8) (acc : List (Nat × Nat)) (k fr : Nat) : Prop := fs sep l = acc ++ ends sep (if k = 0 then none else l[k - 1]?) k fr (l.drop k)
theorem Lf.zero (sep : UInt8) (l : List UInt8) : Lf sep l [] 0 0 := rfl
theorem Lf.yes {sep : UInt8} {l : List UInt8} {acc : List (Nat × Nat)} {k fr : Nat} (h : Lf sep l acc k fr) (hk : k < l.length) (hc : cut sep (if k = 0 then none else l[k - 1]?) l[k] = true) : Lf sep l (acc ++ [(fr, k)]) (k + 1) (if sep = 0 then k else k + 1) := by
  unfold Lf at *
  rw [h, List.drop_eq_getElem_cons hk]
  have e : (if k + 1 = 0 then none else l[k + 1 - 1]?) = some l[k] := by rw [if_neg (by omega), Nat.add_sub_cancel, List.getElem?_eq_getElem hk]
  rw [e]
  simp only [ends, hc, if_true]
  rw [List.append_assoc]; rfl
theorem Lf.no {sep : UInt8} {l : List UInt8} {acc : List (Nat × Nat)} {k fr : Nat} (h : Lf sep l acc k fr) (hk : k < l.length) (hc : cut sep (if k = 0 then none else l[k - 1]?) l[k] = false) : Lf sep l acc (k + 1) fr := by
  unfold Lf at *
  rw [h, List.drop_eq_getElem_cons hk]
  have e : (if k + 1 = 0 then none else l[k + 1 - 1]?) = some l[k] := by rw [if_neg (by omega), Nat.add_sub_cancel, List.getElem?_eq_getElem hk]
  rw [e]
  simp only [ends, hc, Bool.false_eq_true, if_false]
theorem Lf.last {sep : UInt8} {l : List UInt8} {acc : List (Nat × Nat)} {k fr : Nat} (h : Lf sep l acc k fr) (hk : ¬ k < l.length) (hkl : k ≤ l.length) : fs sep l = acc ++ [(fr, l.length)] := by
  unfold Lf at h
  rw [h, List.drop_eq_nil_of_le (by omega)]
  have : k = l.length := by omega
  subst this; rfl
theorem cut_sep {sep : UInt8} (hs : sep ≠ 0) (p : Option UInt8) (c : UInt8) : cut sep p c = decide (c = sep) := if_neg hs
theorem cut0_first (c : UInt8) : cut 0 none c = false := rfl
theorem cut0 (p c : UInt8) : cut 0 (some p) c = (bl c && nb p) := rfl
end Od
theorem infoSp : ∃ i, Tryd.prog.info? 89 = some i ∧ i.zero = some (.agg #[.int .i64 0, .int .i64 0]) ∧ i.size = 2 ∧ i.bytes = 16 := info_of (by kernel_rfl)
set_option maxHeartbeats 1000000 in
theorem rBlank (c : UInt8) (w : World) : Calls Tryd.prog 33 #[.int .u8 c.toNat] w fun e w' => e = .returned (.bool (Od.bl c)) ∧ w' = w := by
  by_cases h1 : c = 32
  · subst h1
    go_enter Tryd.func33, Tryd.ntmps33
    go_wp2
    go_ret
    exact ⟨rfl, rfl⟩
  · have e1 := byte_no c 32 32 rfl h1
    have e2 : (((c.toNat : Int) == 9)) = decide (c = 9) := byte_eq c 9
    go_enter Tryd.func33, Tryd.ntmps33
    go_wp2
    go_ret
    exact ⟨ret_bool (by simp [Od.bl, h1]), rfl⟩
set_option maxHeartbeats 1000000 in
theorem rDigit (c : UInt8) (w : World) : Calls Tryd.prog 34 #[.int .u8 c.toNat] w fun e w' => e = .returned (.bool (Od.dg c)) ∧ w' = w := by
  by_cases h1 : 48 ≤ c.toNat
  all_goals
    go_enter Tryd.func34, Tryd.ntmps34
    go_wp2
    go_ret
    exact ⟨ret_bool (by rw [Bool.eq_iff_iff]; simp only [Od.dg, Bool.and_eq_true, decide_eq_true_eq, Bool.false_eq_true, false_iff]; omega), rfl⟩
set_option maxRecDepth 100000 in
set_option maxHeartbeats 4000000 in
theorem rFieldsS (l : List UInt8) (a : Option Addr) (c : Nat) (sep : UInt8) (hs0 : sep ≠ 0) (hl : l.length ≤ 1048577) (w : World) (hS : Src w a l) : Calls Tryd.prog 60 #[.slice a l.length c, .int .u8 sep.toNat] w fun e w' => ∃ v, e = .returned v ∧ Od.Sp w.heap.size w' v (Od.fs sep l) ∧ Below w.heap.size w w' := by
  obtain ⟨i0, hi, hz0, hz1, hz2⟩ := infoSp
  have HS := hidA hS
  have e0 := byte_no sep 0 0 rfl hs0
  have e00 : ¬ ((sep.toNat : Int) = 0) := by simpa using e0
  clear hS
  go_enter Tryd.func60, Tryd.ntmps60
  go_wp2
  go_loopw [5, 6, 10] (fun s5 s6 s10 W => ∃ (k fr : Nat) (acc : List (Nat × Nat)), s10 = .int .i64 k ∧ s6 = .int .i64 fr ∧ k ≤ l.length ∧ fr ≤ k ∧ acc.length ≤ k ∧ Hid (Od.Sp w.heap.size W s5 acc) ∧ Hid (Od.Lf sep l acc k fr) ∧ Hid (Below w.heap.size w W)) (fun _ _ s10 _ => l.length - (intOf s10).toNat)
  case atStart => exact ⟨0, 0, [], rfl, rfl, Nat.zero_le _, Nat.le_refl _, by simp, World.ownsRow_nil _ _ _ _, hidA (Od.Lf.zero sep l), hidA (Below.refl _ _)⟩
  case round =>
    obtain ⟨k, fr, acc, rfl, rfl, hk, hfr, hac, HO, HF, HB⟩ := hrel
    obtain ⟨ax, cx, hv⟩ := own_slice HO.out
    subst hv
    have hO := hidA HO.out.own
    by_cases hlt : k < l.length
    · obtain ⟨g, o, rfl, hg, hc0⟩ := HS.out k hlt
      have hc : wr.cell? ⟨g, o + k, none⟩ = some (.int .u8 l[k].toNat) := (HB.out.cell (p := ⟨g, o + k, none⟩) hg).trans hc0
      have hw1 : IntKind.i64.wrap ((k : Int) + 1) = ((k + 1 : Nat) : Int) := by rw [IntKind.wrap_i64]; omega
      have hgw : g < wr.heap.size := Nat.lt_of_lt_of_le hg HB.out.size
      have hcut := hidA (Od.cut_sep hs0 (if k = 0 then none else l[k - 1]?) l[k])
      have hwsz := HB.out.size
      by_cases hx : l[k] = sep
      · have hee : (((l[k]).toNat : Int) == (sep.toNat : Int)) = true := by rw [byte_eq]; simpa using hx
        have HF2 := hidA (HF.out.yes hlt (by rw [hcut.out]; simpa using hx))
        rw [if_neg hs0] at HF2
        clear HF hcut HS hc0
        generalize l[k] = x at *
        have hacl : (acc ++ [(fr, k)]).length ≤ k + 1 := by simp; omega
        go_wp2_with (at_builtin; refine wpList_append_own_at _ rfl _ _ 86 rfl w.heap.size 89 i0 (.agg #[.int .i64 0, .int .i64 0]) 2 16 Tryd.underlying86 hi hz0 hz1 hz2 rfl (by decide) _ _ _ rfl (hO.out.alloc _) ⟨wr.heap.size, 0, none⟩ 1 1 [.int .i64 fr, .int .i64 k] rfl rfl (cell_two_new _ _ _ _) (two_int _ _) (by unfold maxLen; omega) (by omega) (by simp; omega) ?_; intro v' w2 hown hg2 _ hat; have HO2 := hidA (Od.Sp.snoc hown); have HB2 : Hid (Below w.heap.size w w2) := (HB.out.alloc hwsz _).grown hg2 (by simp; omega) (fun k hk => (hO.out.lt k hk).1); clear hown hg2 hat)
        exact ⟨⟨k + 1, k + 1, acc ++ [(fr, k)], by first | rfl | go_num, by first | rfl | go_num, hlt, Nat.le_refl _, hacl, HO2, HF2, HB2⟩, by simp [intOf]; omega⟩
      · have hee : (((l[k]).toNat : Int) == (sep.toNat : Int)) = false := by rw [byte_eq]; simpa using hx
        have HF2 := hidA (HF.out.no hlt (by rw [hcut.out]; simpa using hx))
        clear HF hcut HS hc0
        generalize l[k] = x at *
        go_wp2_with fail
        exact ⟨⟨k + 1, fr, acc, by first | rfl | go_num, rfl, hlt, by omega, by omega, HO, HF2, HB⟩, by simp [intOf]; omega⟩
    · have HF2 := hidA (HF.out.last hlt hk)
      have hwsz := HB.out.size
      clear HF HS
      go_wp2_with (at_builtin; refine wpList_append_own_at _ rfl _ _ 86 rfl w.heap.size 89 i0 (.agg #[.int .i64 0, .int .i64 0]) 2 16 Tryd.underlying86 hi hz0 hz1 hz2 rfl (by decide) _ _ _ rfl (hO.out.alloc _) ⟨wr.heap.size, 0, none⟩ 1 1 [.int .i64 fr, .int .i64 l.length] rfl rfl (cell_two_new _ _ _ _) (two_int _ _) (by unfold maxLen; omega) (by omega) (by simp; omega) ?_; intro v' w2 hown hg2 _ hat; have HO2 := hidA (Od.Sp.snoc hown); have HB2 : Hid (Below w.heap.size w w2) := (HB.out.alloc hwsz _).grown hg2 (by simp; omega) (fun k hk => (hO.out.lt k hk).1); clear hown hg2 hat)
      go_ret
      exact ⟨v', rfl, by rw [HF2.out]; exact HO2.out, HB2.out⟩
set_option maxRecDepth 100000 in
set_option maxHeartbeats 4000000 in
theorem rFields0 (l : List UInt8) (a : Option Addr) (c : Nat) (hl : l.length ≤ 1048577) (w : World) (hS : Src w a l) : Calls Tryd.prog 60 #[.slice a l.length c, .int .u8 0] w fun e w' => ∃ v, e = .returned v ∧ Od.Sp w.heap.size w' v (Od.fs 0 l) ∧ Below w.heap.size w w' := by
  obtain ⟨i0, hi, hz0, hz1, hz2⟩ := infoSp
  have HS := hidA hS
  clear hS
  go_enter Tryd.func60, Tryd.ntmps60
  go_wp2
  go_loopw [5, 6, 10] (fun s5 s6 s10 W => ∃ (k fr : Nat) (acc : List (Nat × Nat)), s10 = .int .i64 k ∧ s6 = .int .i64 fr ∧ k ≤ l.length ∧ fr ≤ k ∧ acc.length ≤ k ∧ Hid (Od.Sp w.heap.size W s5 acc) ∧ Hid (Od.Lf 0 l acc k fr) ∧ Hid (Below w.heap.size w W)) (fun _ _ s10 _ => l.length - (intOf s10).toNat)
  case atStart => exact ⟨0, 0, [], rfl, rfl, Nat.zero_le _, Nat.le_refl _, by simp, World.ownsRow_nil _ _ _ _, hidA (Od.Lf.zero 0 l), hidA (Below.refl _ _)⟩
  case round =>
    obtain ⟨k, fr, acc, rfl, rfl, hk, hfr, hac, HO, HF, HB⟩ := hrel
    obtain ⟨ax, cx, hv⟩ := own_slice HO.out
    subst hv
    have hO := hidA HO.out.own
    by_cases hlt : k < l.length
    · obtain ⟨g, o, rfl, hg, hc0⟩ := HS.out k hlt
      have hc : wr.cell? ⟨g, o + k, none⟩ = some (.int .u8 l[k].toNat) := (HB.out.cell (p := ⟨g, o + k, none⟩) hg).trans hc0
      have hw1 : IntKind.i64.wrap ((k : Int) + 1) = ((k + 1 : Nat) : Int) := by rw [IntKind.wrap_i64]; omega
      have hgw : g < wr.heap.size := Nat.lt_of_lt_of_le hg HB.out.size
      have hwsz := HB.out.size
      have HX := hidA (rBlank l[k] wr)
      by_cases hk0 : k = 0
      · have HF2 := hidA (HF.out.no hlt (by rw [if_pos hk0]; rfl))
        have hkn : ¬ ((0 : Int) < (k : Int)) := by omega
        clear HF HS hc0 hk0
        generalize l[k] = x at *
        cases hb : Od.bl x
        all_goals
          rw [hb] at HX
          go_wp2_with (go_at_call 33; with_reducible refine HX.out.mono ?_; rintro e w1 ⟨rfl, hw1⟩; rw [hw1]; clear hw1 w1)
          exact ⟨⟨k + 1, fr, acc, by first | rfl | go_num, rfl, hlt, by omega, by omega, HO, HF2, HB⟩, by simp [intOf]; omega⟩
      · obtain ⟨m, Hm⟩ : ∃ m, Hid (m = k - 1) := ⟨_, hidA rfl⟩
        have hml : m < l.length := by have := Hm.out; omega
        obtain ⟨g', o', he', hg', hc1⟩ := HS.out m hml
        cases he'
        have hcm : wr.cell? ⟨g, o + m, none⟩ = some (.int .u8 (l[m]'hml).toNat) := (HB.out.cell (p := ⟨g, o + m, none⟩) hg).trans hc1
        have hws : IntKind.i64.wrap ((k : Int) - 1) = (m : Int) := by have := Hm.out; rw [IntKind.wrap_i64]; omega
        have hws2 : (k : Int) - 1 = (m : Int) := by have := Hm.out; omega
        have hkp : (0 : Int) < (k : Int) := by omega
        have HY := hidA (rBlank (l[m]'hml) wr)
        have hcut : Od.cut 0 (if k = 0 then none else l[k - 1]?) l[k] = (Od.bl l[k] && Od.nb (l[m]'hml)) := by
          rw [if_neg hk0, ← Hm.out, List.getElem?_eq_getElem hml]; rfl
        have HCC := hidA hcut
        have hyes := fun h => HF.out.yes hlt h
        have hno := fun h => HF.out.no hlt h
        rw [hcut, if_pos rfl] at hyes
        rw [hcut] at hno
        have HYs := hidA hyes
        have HNo := hidA hno
        clear hyes hno hcut HCC HF HS hc0 hc1 Hm
        generalize l[k] = x at *
        generalize l[m]'hml = y at *
        cases hb : Od.bl x with
        | false =>
          rw [hb] at HX
          have HF2 := hidA (HNo.out (by rw [hb]; rfl))
          clear HNo HYs HY hcm
          go_wp2_with (go_at_call 33; with_reducible refine HX.out.mono ?_; rintro e w1 ⟨rfl, hw1⟩; rw [hw1]; clear hw1 w1)
          exact ⟨⟨k + 1, fr, acc, by first | rfl | go_num, rfl, hlt, by omega, by omega, HO, HF2, HB⟩, by simp [intOf]; omega⟩
        | true =>
          rw [hb] at HX
          cases hy : Od.bl y with
          | true =>
            rw [hy] at HY
            have HF2 := hidA (HNo.out (by rw [hb]; simp [Od.nb, hy]))
            clear HNo HYs
            go_wp2_with (first | (go_at_call 33; with_reducible refine HX.out.mono ?_; rintro e w1 ⟨rfl, hw1⟩; rw [hw1]; clear hw1 w1) | (go_at_call 33; with_reducible refine HY.out.mono ?_; rintro e w1 ⟨rfl, hw1⟩; rw [hw1]; clear hw1 w1))
            exact ⟨⟨k + 1, fr, acc, by first | rfl | go_num, rfl, hlt, by omega, by omega, HO, HF2, HB⟩, by simp [intOf]; omega⟩
          | false =>
            rw [hy] at HY
            have HF2 := hidA (HYs.out (by rw [hb]; simp [Od.nb, hy]))
            clear HNo HYs
            have hacl : (acc ++ [(fr, k)]).length ≤ k + 1 := by simp; omega
            go_wp2_with (first | (go_at_call 33; with_reducible refine HX.out.mono ?_; rintro e w1 ⟨rfl, hw1⟩; rw [hw1]; clear hw1 w1) | (go_at_call 33; with_reducible refine HY.out.mono ?_; rintro e w1 ⟨rfl, hw1⟩; rw [hw1]; clear hw1 w1) | (at_builtin; refine wpList_append_own_at _ rfl _ _ 86 rfl w.heap.size 89 i0 (.agg #[.int .i64 0, .int .i64 0]) 2 16 Tryd.underlying86 hi hz0 hz1 hz2 rfl (by decide) _ _ _ rfl (hO.out.alloc _) ⟨wr.heap.size, 0, none⟩ 1 1 [.int .i64 fr, .int .i64 k] rfl rfl (cell_two_new _ _ _ _) (two_int _ _) (by unfold maxLen; omega) (by omega) (by simp; omega) ?_; intro v' w2 hown hg2 _ hat; have HO2 := hidA (Od.Sp.snoc hown); have HB2 : Hid (Below w.heap.size w w2) := (HB.out.alloc hwsz _).grown hg2 (by simp; omega) (fun k hk => (hO.out.lt k hk).1); clear hown hg2 hat))
            exact ⟨⟨k + 1, k, acc ++ [(fr, k)], by first | rfl | go_num, rfl, hlt, by omega, hacl, HO2, HF2, HB2⟩, by simp [intOf]; omega⟩
    · have HF2 := hidA (HF.out.last hlt hk)
      have hwsz := HB.out.size
      clear HF HS
      go_wp2_with (at_builtin; refine wpList_append_own_at _ rfl _ _ 86 rfl w.heap.size 89 i0 (.agg #[.int .i64 0, .int .i64 0]) 2 16 Tryd.underlying86 hi hz0 hz1 hz2 rfl (by decide) _ _ _ rfl (hO.out.alloc _) ⟨wr.heap.size, 0, none⟩ 1 1 [.int .i64 fr, .int .i64 l.length] rfl rfl (cell_two_new _ _ _ _) (two_int _ _) (by unfold maxLen; omega) (by omega) (by simp; omega) ?_; intro v' w2 hown hg2 _ hat; have HO2 := hidA (Od.Sp.snoc hown); have HB2 : Hid (Below w.heap.size w w2) := (HB.out.alloc hwsz _).grown hg2 (by simp; omega) (fun k hk => (hO.out.lt k hk).1); clear hown hg2 hat)
      go_ret
      exact ⟨v', rfl, by rw [HF2.out]; exact HO2.out, HB2.out⟩
theorem rFields (l : List UInt8) (a : Option Addr) (c : Nat) (sep : UInt8) (hl : l.length ≤ 1048577) (w : World) (hS : Src w a l) : Calls Tryd.prog 60 #[.slice a l.length c, .int .u8 sep.toNat] w fun e w' => ∃ v, e = .returned v ∧ Od.Sp w.heap.size w' v (Od.fs sep l) ∧ Below w.heap.size w w' := by
  by_cases h0 : sep = 0
  · subst h0; exact rFields0 l a c hl w hS
  · exact rFieldsS l a c sep h0 hl w hS
end Go.Proofs.YtdjefinehabifaaDoor
