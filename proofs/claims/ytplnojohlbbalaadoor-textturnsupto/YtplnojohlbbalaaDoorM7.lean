/- Several texts of this claim, one behind the other, in their order. -/
import Derived.Test.YtplnojohlbbalaaDoorM6
import Derived.Deep.RegionHeld3
/- The program's each over ints, with the closure of ends; ends, Head, Tail. Condition: a length that fits. -/
namespace Go.Proofs.YtplnojohlbbalaaDoor
open Go.RowKit
attribute [local go_sem] ext_eq app_eq get_eq
def slLen : Value → Nat
  | .slice _ n _ => n
  | _ => 0
theorem Tl.tl_lt {r : List UInt8} (h : r ≠ []) : (Tl.tl r).length < r.length := by
  have : 0 < r.length := List.length_pos_iff.2 h
  unfold Tl.tl; rw [List.length_drop]; omega
theorem Tl.hd_le (r : List UInt8) : (Tl.hd r).length ≤ r.length := by unfold Tl.hd; rw [List.length_take]; omega
set_option maxRecDepth 100000 in
set_option maxHeartbeats 4000000 in
theorem oEach (l : List UInt8) (a : Option Addr) (c B : Nat) (v0 : Value) (hl : l.length ≤ 1048577) (w0 w : World) (hS : Sr w0 a c l) (h0 : Below w0.heap.size w0 w) (hI : Ir B w v0 [0]) (hB : w0.heap.size ≤ B) (hB2 : B ≤ w.heap.size) : Calls Tryd.prog 51 #[.slice a l.length c, v0, .func (.func 52) #[] #[]] w fun e w' => ∃ v, e = .returned v ∧ Ir B w' v (Tl.Es l (Tl.prs l).length) ∧ Below B w w' := by
  have H0 := hidA h0
  have HI0 := hidA (show Ir B w v0 (Tl.Es l 0) by simpa [Tl.Es, Tl.en_zero] using hI)
  have HS0 := hidA (show Sr w0 a c (l.drop (Tl.en l 0)) by rw [Tl.en_zero]; exact hS)
  have hpl := Tl.prs_len l.length l (Nat.le_refl _)
  have Hb := hidA hB
  have Hb2 := hidA hB2
  clear h0 hI hS hB hB2
  go_enter Tryd.func51, Tryd.ntmps51
  go_wp2_with fail
  go_loopw [0, 1] (fun s0 s1 W => ∃ (k : Nat) (aR : Option Addr) (cR : Nat), s0 = .slice aR (l.drop (Tl.en l k)).length cR ∧ k ≤ (Tl.prs l).length ∧ Hid (Sr w0 aR cR (l.drop (Tl.en l k))) ∧ Hid (Ir B W s1 (Tl.Es l k)) ∧ Hid (Below B w W)) (fun s0 _ _ => slLen s0)
  case atStart => exact ⟨0, a, c, by rw [Tl.en_zero]; rfl, Nat.zero_le _, HS0, HI0, hidA (Below.refl _ _)⟩
  case round =>
    obtain ⟨k, aR, cR, rfl, hk, HS, HI, HB⟩ := hrel
    have hBb := hidA (H0.out.trans (HB.out.mono Hb.out))
    have hsz := hidA (Nat.le_trans Hb2.out HB.out.size)
    clear HI0 HS0
    have hrl : (l.drop (Tl.en l k)).length ≤ 1048577 := by rw [List.length_drop]; omega
    by_cases hr : l.drop (Tl.en l k) = []
    · have hkn := Tl.at_done hk hr
      rw [hr] at HS ⊢
      clear HS
      go_wp2_with fail
      go_ret
      exact ⟨_, rfl, by rw [← hkn]; exact HI.out, HB.out⟩
    · obtain ⟨hk1, e1, e2⟩ := Tl.at_more hk hr
      have HE1 := hidA e1
      have hlt := Tl.tl_lt hr
      have hhd := Tl.hd_le (l.drop (Tl.en l k))
      have hel : (Tl.Es l k).length = k + 1 := Tl.Es_len l k
      have hlast : (Tl.Es l k)[k]'(by omega) = Tl.en l k := Tl.Es_last l k _
      have hen : Tl.en l k ≤ 1048577 := Nat.le_trans (Tl.en_le l k) hl
      have HC := hidA (fun W g (h1 : Below w0.heap.size w0 W) (h2 : W.cell? ⟨g, 0, none⟩ = some (.int .u8 10)) => oCutG (l.drop (Tl.en l k)) aR cR g (by omega) W (HS.out.grow h1) h2)
      have HK : Hid (∀ (W : World) (v : Value) (a1 : Option Addr) (c1 : Nat), Ir B W v (Tl.Es l k) → B ≤ W.heap.size → Calls Tryd.prog 52 #[v, .agg #[.slice a1 (Tl.hd (l.drop (Tl.en l k))).length c1, .bool (Tl.yes (l.drop (Tl.en l k)))]] W fun x w' => ∃ v', x = .returned v' ∧ Ir B w' v' (Tl.Es l (k + 1)) ∧ Below B W w') := fun W v a1 c1 h1 h2 => by
        have h := oEnds1 B v (Tl.Es l k) k hel (by omega) a1 (Tl.hd (l.drop (Tl.en l k))).length c1 (Tl.yes (l.drop (Tl.en l k))) (by omega) (by omega) W h1 h2
        simp only [Tl.Es_last] at h
        rw [Tl.Es_succ, e2]; exact h
      have hpos : 0 < (l.drop (Tl.en l k)).length := List.length_pos_iff.2 hr
      have HW := hidA (hBb.out.alloc hBb.out.size (.cells #[.int .u8 10] 5))
      have HT : Hid (∀ W a2 c2, Sr W a2 c2 (Tl.tl (l.drop (Tl.en l k))) → Sr W a2 c2 (l.drop (Tl.en l (k + 1)))) := fun W a2 c2 h => by rw [← HE1.out]; exact h
      have HTl : Hid ((l.drop (Tl.en l (k + 1))).length = (Tl.tl (l.drop (Tl.en l k))).length) := by show _ = _; rw [HE1.out]
      clear HE1 e1 e2 hlast hel hen hr
      generalize Tl.Es l k = S0 at *
      generalize Tl.hd (l.drop (Tl.en l k)) = h at *
      generalize Tl.tl (l.drop (Tl.en l k)) = t at *
      generalize Tl.yes (l.drop (Tl.en l k)) = y at *
      generalize l.drop (Tl.en l k) = r at *
      go_wp2_with (first
        | (go_at_call 41; with_reducible refine (HC.out _ _ HW.out (World.cell?_alloc_at _ _ _ _ rfl)).mono ?_; rintro e w2 ⟨a1, c1, a2, c2, rfl, h1, h2⟩; have H1 := hidA h1; have HA := hidA ((Below.refl _ _).alloc (Nat.le_refl _) _ |>.trans (h2.mono (by simp))); clear h1 h2)
        | (go_at_call 52; with_reducible refine (HK.out _ _ _ _ (HI.out.grow HA.out) (Nat.le_trans hsz.out HA.out.size)).mono ?_; rintro e w3 ⟨v', rfl, h1, h2⟩; have HI2 := hidA h1; have HB3 := hidA (HB.out.trans ((HA.out.mono hsz.out).trans h2)); clear h1 h2))
      exact ⟨⟨k + 1, a2, c2, by rw [HTl.out], hk1, hidA (HT.out _ _ _ (H1.out _ HS.out).2), HI2, HB3⟩, by simp [slLen]; omega⟩
theorem Ir.one (W : World) (B : Nat) (hB : B ≤ W.heap.size) (x : Nat) : Ir B (W.alloc (.cells #[.int .i64 x] 3)) (.slice (some ⟨W.heap.size, 0, none⟩) 1 1) [x] := by
  refine ⟨?_, .inr ⟨W.heap.size, 1, #[.int .i64 x], rfl, hB, heap_new _ _, Nat.le_refl _, by unfold maxLen; omega, by simp, by simp [nC]⟩⟩
  simp [nC]
set_option maxRecDepth 100000 in
set_option maxHeartbeats 1000000 in
theorem oEnds (l : List UInt8) (a : Option Addr) (c : Nat) (hl : l.length ≤ 1048577) (w : World) (hS : Sr w a c l) : Calls Tryd.prog 36 #[.slice a l.length c] w fun e w' => ∃ v, e = .returned v ∧ Ir w.heap.size w' v (Tl.Es l (Tl.prs l).length) ∧ Below w.heap.size w w' := by
  have hb := (Below.refl w.heap.size w).alloc (Nat.le_refl _) (.cells #[.int .i64 0] 3)
  have HB := hidA hb
  have HE := hidA (oEach l a c w.heap.size _ hl w _ hS hb (Ir.one w w.heap.size (Nat.le_refl _) 0) (Nat.le_refl _) hb.size)
  clear hb hS
  go_enter Tryd.func36, Tryd.ntmps36
  go_wp2_with (go_at_call 51; with_reducible refine HE.out.mono ?_; rintro e w1 ⟨v, rfl, h1, h2⟩; have HI := hidA h1; have HB1 := hidA (HB.out.trans h2); clear h1 h2)
  go_ret
  exact ⟨_, rfl, HI.out, HB1.out⟩
theorem Tl.Es_at {B : Nat} {W : World} {v : Value} {l : List UInt8} (h : Ir B W v (Tl.Es l (Tl.prs l).length)) {i : Nat} (hi : i ≤ (Tl.prs l).length) : ∃ g cap, v = .slice (some ⟨g, 0, none⟩) ((Tl.prs l).length + 1) cap ∧ g < W.heap.size ∧ W.cell? ⟨g, i, none⟩ = some (.int .i64 (Tl.en l i)) := by
  obtain ⟨g, cap, hv, hg, hcg⟩ := h.at (j := i) (by rw [Tl.Es_len]; omega)
  rw [Tl.Es_len] at hv
  rw [Tl.Es_get] at hcg
  exact ⟨g, cap, hv, hg, hcg⟩
set_option maxRecDepth 100000 in
set_option maxHeartbeats 1000000 in
theorem oHead (l : List UInt8) (a : Option Addr) (c : Nat) (n : Int) (hn : -(2 ^ 63) ≤ n ∧ n < 2 ^ 63) (hl : l.length ≤ 1048577) (w : World) (hS : Sr w a c l) : Calls Tryd.prog 30 #[.slice a l.length c, .int .i64 n] w fun e w' => ∃ v, e = .returned v ∧ By w.heap.size w' v (l.take (Tl.en l (Tl.fst n (Tl.prs l).length))) ∧ Below w.heap.size w w' := by
  have hpl := Tl.prs_len l.length l (Nat.le_refl _)
  have HE := hidA (oEnds l a c hl w hS)
  have hk := Tl.fst_le n (Tl.prs l).length
  have HA := hidA (fun W => oFirst n (Tl.prs l).length hn (by omega) W)
  generalize Tl.fst n (Tl.prs l).length = i at *
  have hel : Tl.en l i ≤ l.length := Tl.en_le l i
  obtain ⟨hs1, hr1⟩ := sl_to hS (Tl.en l i) hel
  have HS := hidA (fun W (b : Below w.heap.size w W) => oClone (l.take (Tl.en l i)) a c (by rw [List.length_take]; omega) W (hr1.grow b))
  have hw1 : IntKind.i64.wrap (((Tl.prs l).length : Int) + 1 - 1) = ((Tl.prs l).length : Int) := by rw [IntKind.wrap_i64]; omega
  have hw2 : IntKind.i64.wrap ((Tl.prs l).length : Int) = ((Tl.prs l).length : Int) := by rw [IntKind.wrap_i64]; omega
  have hi1 : (0 : Int) ≤ (i : Int) := by omega
  have hi2 : (i : Int) < ((Tl.prs l).length : Int) + 1 := by omega
  clear hr1 hS
  generalize l.take (Tl.en l i) = p at *
  have HI := hidA (fun (W : World) (v : Value) (h : Ir w.heap.size W v (Tl.Es l (Tl.prs l).length)) => Tl.Es_at h (i := i) hk)
  generalize Tl.en l i = E at *
  generalize (Tl.Es l (Tl.prs l).length) = R at *
  generalize (Tl.prs l).length = N at *
  go_enter Tryd.func30, Tryd.ntmps30
  go_wp2_with (first
    | (go_at_call 36; with_reducible refine HE.out.mono ?_; rintro e w1 ⟨v, rfl, h1, h2⟩; obtain ⟨g, cap, hv, hg, hcg⟩ := HI.out _ _ h1; subst hv; have HB1 := hidA h2; clear h1 h2)
    | (go_at_call 46; with_reducible refine (HA.out _).mono ?_; rintro e w2 ⟨rfl, hw2⟩; rw [hw2]; clear hw2 w2)
    | (go_at_call 45; with_reducible refine (HS.out _ HB1.out).mono ?_; rintro e w3 ⟨v, rfl, h1, h2⟩; have H1 := hidA (By.mono h1 HB1.out.size); have H2 := hidA (HB1.out.trans (h2.mono HB1.out.size)); clear h1 h2))
  go_ret
  exact ⟨_, rfl, H1.out, H2.out⟩
end Go.Proofs.YtplnojohlbbalaaDoor
/- Tac of both sides. Condition: a length that fits. -/
namespace Go.Proofs.YtplnojohlbbalaaDoor
open Go.RowKit
attribute [local go_sem] ext_eq app_eq get_eq
namespace Tl
/-- The lines from the k-th on, the last one first. -/
def tc (l : List UInt8) (k : Nat) : List UInt8 := ((ps l).drop k).reverse.flatten
theorem tc_end (l : List UInt8) (k : Nat) (h : (ps l).length ≤ k) : tc l k = [] := by
  unfold tc; rw [List.drop_eq_nil_of_le h]; rfl
theorem tc_step {l : List UInt8} {k : Nat} (h : k < (ps l).length) : tc l k = tc l (k + 1) ++ (ps l)[k] := by
  unfold tc
  rw [List.drop_eq_getElem_cons h, List.reverse_cons, List.flatten_append]; simp
theorem tc_len (l : List UInt8) (k : Nat) : (tc l k).length ≤ l.length := by
  have h : (tc l k).length = ((ps l).drop k).flatten.length := by
    unfold tc
    rw [List.length_flatten, List.length_flatten, List.map_reverse, List.sum_reverse]
  have e : (ps l).flatten = ((ps l).take k).flatten ++ ((ps l).drop k).flatten := by rw [← List.flatten_append, List.take_append_drop]
  have h2 : (ps l).flatten = l := flat_all l
  rw [h]
  rw [h2] at e
  have := congrArg List.length e
  rw [List.length_append] at this
  omega
theorem ps_pos {l : List UInt8} {k : Nat} (h : k < (ps l).length) : 0 < (ps l)[k].length := by
  have hk : k < (prs l).length := by simpa [ps] using h
  have ih := prs_drop l k (Nat.le_of_lt hk)
  have hc : (prs l).drop k = (prs l)[k] :: (prs l).drop (k + 1) := List.drop_eq_getElem_cons hk
  have hr : l.drop (en l k) ≠ [] := prs_ne (by rw [ih, hc]; exact List.cons_ne_nil _ _)
  have hs := prs_step hr
  rw [ih, hc] at hs
  injection hs with h1 _
  have e : (ps l)[k] = pc (prs l)[k] := by simp [ps]
  rw [e, h1, pc_hd hr]
  by_cases hf : fx (l.drop (en l k)) < (l.drop (en l k)).length
  · have : yes (l.drop (en l k)) = true := decide_eq_true hf
    rw [this, if_pos rfl]; omega
  · rw [hd_no hf]
    have := List.length_pos_iff.2 hr
    omega
theorem ps_one {l : List UInt8} {k : Nat} (h : k < (ps l).length) : (l.take (en l (k + 1))).drop (en l k) = (ps l)[k] := by
  have h1 : ((ps l).take (k + 1)).flatten = l.take (en l (k + 1)) := en_take l (k + 1)
  rw [← h1, List.take_succ_eq_append_getElem h, List.flatten_append]
  have h2 : (((ps l).take k).flatten).length = en l k := rfl
  rw [← h2, List.drop_left]; simp
end Tl
theorem mk_cap (n : Nat) (hn : n ≤ 140737488355328) (w : World) : (Instr.makeSlice 22 (.int .i64 0) (.int .i64 n)).run Tryd.prog w = .ok (.slice (some ⟨w.heap.size, 0, none⟩) 0 n) (w.alloc (.cells (madeCells #[.int .u8 0] n) 5)) := by
  obtain ⟨i, hi, hz, hs, hb⟩ := infoB
  have h := run_make (P := Tryd.prog) w 22 5 i _ Tryd.underlying22 hi hz .i64 .i64 0 n (by omega) (by omega) (by rw [hb]; omega) (by omega)
  rw [hs] at h
  simpa [Value.cells] using h
theorem By.cap (W : World) (B n : Nat) (hB : B ≤ W.heap.size) (hn : n ≤ 140737488355328) : By B (W.alloc (.cells (madeCells #[.int .u8 0] n) 5)) (.slice (some ⟨W.heap.size, 0, none⟩) 0 n) [] := by
  refine ⟨by simp [bCs], .inr ⟨W.heap.size, n, _, rfl, hB, heap_new _ _, Nat.zero_le _, by unfold maxLen; omega, ?_, by simp [bCs]⟩⟩
  simpa using size_madeCells #[Value.int .u8 0] n
set_option maxRecDepth 100000 in
set_option maxHeartbeats 4000000 in
theorem rTac (l : List UInt8) (a : Option Addr) (c : Nat) (hl : l.length ≤ 1048577) (w : World) (hS : Src w a l) : Calls Tryd.prog 16 #[.slice a l.length c] w fun e w' => ∃ v B, e = .returned v ∧ By B w' v (Tl.tc l 0) ∧ Below w.heap.size w w' := by
  obtain ⟨iB, hiB, hb0, hb1, hb2⟩ := infoB
  have HPc := hidA (rPieces l a c hl w hS)
  have hpl := Tl.ps_len l
  have hpl2 := Tl.ls_le l
  have hPl : (Tl.ps l).length ≤ 1048577 := by omega
  have HTl := hidA (Tl.tc_len l)
  have HTs := hidA (fun k (h : k < (Tl.ps l).length) => Tl.tc_step h)
  have HTe := hidA (Tl.tc_end l (Tl.ps l).length (Nat.le_refl _))
  clear hS hpl hpl2
  generalize Tl.ps l = P at *
  have hsub : IntKind.i64.wrap ((P.length : Int) - 1) = (P.length : Int) - 1 := by rw [IntKind.wrap_i64]; omega
  go_enter Tryd.func16, Tryd.ntmps16
  go_upto_region 4 with (go_at_call 37; (with_reducible refine HPc.out.mono ?_); rintro e w1 ⟨aP, cP, rfl, h1, h2, h3, h4⟩; have HR := hidA h1; have HBw := hidA h4; clear h1 h2 h3 h4)
  go_loopw [3, 5] (fun s3 s5 W => ∃ (k : Nat), k ≤ P.length ∧ s5 = .int .i64 ((k : Int) - 1) ∧ Hid (By w1.heap.size W s3 (Tl.tc l k)) ∧ Hid (Below w1.heap.size w1 W)) (fun _ s5 _ => (intOf s5 + 1).toNat)
  case atStart => exact ⟨P.length, Nat.le_refl _, rfl, hidA (by show By _ _ _ _; rw [HTe.out]; exact By.nil _ _), hidA (Below.refl _ _)⟩
  case round =>
    obtain ⟨k, hk, rfl, HO, HB⟩ := hrel
    obtain ⟨a3, c3, hv3⟩ := HO.out.slice
    subst hv3
    have hpc := HO.out.sr.le
    have hwsz := hidA HB.out.size
    cases k with
    | zero =>
      go_wp2_with fail
      go_ret
      exact ⟨_, w1.heap.size, rfl, HO.out, HBw.out.trans (HB.out.mono HBw.out.size)⟩
    | succ j =>
      have hj : j < P.length := by omega
      have hjj : (((j + 1 : Nat) : Int) - 1) = (j : Int) := by omega
      rw [hjj]
      obtain ⟨g, o, a', c', rfl, hg, hc0, hs⟩ := HR.out j hj
      have hc : wr.cell? ⟨g, o + j, none⟩ = some (.slice a' P[j].length c') := (HB.out.cell (p := ⟨g, o + j, none⟩) hg).trans hc0
      have hw1 : IntKind.i64.wrap ((j : Int) - 1) = (j : Int) - 1 := by rw [IntKind.wrap_i64]; omega
      have HSx := hidA (hs.grow HB.out)
      have HO3 := hidA HO.out.own
      have HT := hidA (HTs.out j hj)
      have hl2 := HTl.out j
      rw [HT.out, List.length_append] at hl2
      clear hc0 hs HR
      generalize P[j] = x at *
      generalize Tl.tc l (j + 1) = p at *
      cases a' with
      | none =>
        have hx0 : x = [] := List.length_eq_zero_iff.1 (by have h1 := HSx.out.nil rfl; have h2 := HSx.out.le; omega)
        subst hx0
        have hc'0 := HSx.out.nil rfl
        subst hc'0
        have hc9 : wr.cell? ⟨g, o + j, none⟩ = some (.slice none 0 0) := hc
        rw [List.append_nil] at HT
        clear hc HSx
        cases a3
        all_goals
          go_wp2_with fail
          exact ⟨⟨j, by omega, rfl, by rw [HT.out]; exact HO, HB⟩, by first | (simp [intOf]; omega) | simp [intOf]⟩
      | some ad =>
        go_wp2_with (at_builtin; refine wpList_append_own_at _ rfl _ _ 22 rfl w1.heap.size 5 iB (.int .u8 0) 1 1 Tryd.underlying22 hiB hb0 hb1 hb2 rfl (by decide) _ _ _ rfl HO3.out ad x.length c' (bCs x) rfl (by rw [bCs_len, Nat.mul_one]) (fun j u hj => HSx.out.src.cells_at j u hj) (bCs_one x) (by unfold maxLen; omega) (by omega) hwsz.out ?_; intro v3 w3 hown hg2 _ hat; have HO5 := hidA (By.of_app hown); have HB5 : Hid (Below w1.heap.size w1 w3) := HB.out.grown hg2 hwsz.out (fun k hk => (HO3.out.lt k hk).1); clear hown hg2 hat)
        exact ⟨⟨j, by omega, rfl, by rw [HT.out]; exact HO5, HB5⟩, by first | (simp [intOf]; omega) | simp [intOf]⟩
set_option maxRecDepth 100000 in
set_option maxHeartbeats 8000000 in
theorem oTac (l : List UInt8) (a : Option Addr) (c : Nat) (hl : l.length ≤ 1048576) (w : World) (hS : Sr w a c l) : Calls Tryd.prog 15 #[.slice a l.length c] w fun e w' => ∃ v, e = .returned v ∧ By w.heap.size w' v (Tl.tc l 0) ∧ Below w.heap.size w w' := by
  obtain ⟨iB, hiB, hb0, hb1, hb2⟩ := infoB
  have hmk := mk_cap l.length (by omega) w
  have HO0 := hidA (By.cap w w.heap.size l.length (Nat.le_refl _) (by omega))
  have HB0 := hidA ((Below.refl w.heap.size w).alloc (Nat.le_refl _) (.cells (madeCells #[.int .u8 0] l.length) 5))
  have HE := hidA (fun W (b : Below w.heap.size w W) => oEnds l a c (by omega) W (hS.grow b))
  have HI := hidA (fun (B : Nat) (W : World) (v : Value) (h : Ir B W v (Tl.Es l (Tl.prs l).length)) => fun m (hm : m ≤ (Tl.prs l).length) => Tl.Es_at h (i := m) hm)
  have HS := hidA (fun W (b : Below w.heap.size w W) => hS.grow b)
  have hpp : (Tl.ps l).length = (Tl.prs l).length := by simp [Tl.ps]
  have HPP := hidA hpp
  have hpl := Tl.prs_len l.length l (Nat.le_refl _)
  have HTl := hidA (Tl.tc_len l)
  have HTs := hidA (fun k (h : k < (Tl.ps l).length) => Tl.tc_step h)
  have HTe := hidA (Tl.tc_end l (Tl.ps l).length (Nat.le_refl _))
  rw [hpp] at HTe
  have HP1 := hidA (fun k (h : k < (Tl.ps l).length) => Tl.ps_one h)
  have HSl := hidA (fun k (h : k < (Tl.ps l).length) => sl_mid hS (Tl.en l k) (Tl.en l (k + 1)) (by
    have h1 := Tl.en_succ l k (by rw [← hpp]; exact h)
    omega) (Tl.en_le l (k + 1)))
  have hsub : IntKind.i64.wrap (((Tl.prs l).length : Int) + 1 - 1) = ((Tl.prs l).length : Int) := by rw [IntKind.wrap_i64]; omega
  have hsub2 : ((Tl.prs l).length : Int) + 1 - 1 = ((Tl.prs l).length : Int) := by omega
  have hsub3 : IntKind.i64.wrap ((Tl.prs l).length : Int) = ((Tl.prs l).length : Int) := by rw [IntKind.wrap_i64]; omega
  clear hS hpp
  generalize (Tl.Es l (Tl.prs l).length) = R at *
  generalize (Tl.prs l).length = u at *
  go_enter Tryd.func15, Tryd.ntmps15
  go_upto_region 4 with (go_at_call 36; (with_reducible refine (HE.out _ HB0.out).mono ?_); rintro e w1 ⟨v, rfl, h1, b1⟩; have HIv := hidA (HI.out _ _ _ h1); have hki := own_kind h1; obtain ⟨ge, cap, hv, hge, _⟩ := HI.out _ _ _ h1 0 (Nat.zero_le _); subst hv; have HKi := hidA (hki ge rfl); have HO1 := hidA (HO0.out.grow b1); have HB1 := hidA (HB0.out.trans (b1.mono HB0.out.size)); clear h1 b1 hki)
  have HE1 : Hid (∀ m, m ≤ u → w1.cell? ⟨ge, m, none⟩ = some (.int .i64 (Tl.en l m))) := fun m hm => by
    obtain ⟨g2, cap2, e2, _, hc2⟩ := HIv.out m hm
    cases e2; exact hc2
  clear HIv HI HE hmk
  go_loopw [3, 5] (fun s3 s5 W => ∃ (k : Nat), k ≤ u ∧ s5 = .int .i64 k ∧ Hid (By w.heap.size W s3 (Tl.tc l k)) ∧ Hid (∀ m, m ≤ u → W.cell? ⟨ge, m, none⟩ = some (.int .i64 (Tl.en l m))) ∧ Hid (∃ c fz, W.heap[ge]? = some (.cells c 3 fz)) ∧ Hid (Below w.heap.size w W)) (fun _ s5 _ => (intOf s5).toNat)
  case atStart => exact ⟨u, Nat.le_refl _, rfl, hidA (by show By _ _ _ _; rw [HTe.out]; exact HO1.out), HE1, HKi, HB1⟩
  case round =>
    obtain ⟨k, hk, rfl, HO, HE2, HK2, HB⟩ := hrel
    clear HE1 HO1 HB1 HKi
    obtain ⟨a3, c3, hv3⟩ := HO.out.slice
    subst hv3
    by_cases h0 : k = 0
    · subst h0
      go_wp2_with fail
      go_ret
      exact ⟨_, rfl, HO.out, HB.out⟩
    · obtain ⟨j, hkj⟩ : ∃ j, k = j + 1 := ⟨k - 1, by omega⟩
      have hj : j < (Tl.ps l).length := by rw [HPP.out]; omega
      have hw1 : IntKind.i64.wrap ((k : Int) - 1) = (j : Int) := by rw [IntKind.wrap_i64]; omega
      have hw2 : (k : Int) - 1 = (j : Int) := by omega
      have hw3 : IntKind.i64.wrap (j : Int) = (j : Int) := by rw [IntKind.wrap_i64]; omega
      have hkI : (0 : Int) < (k : Int) := by omega
      obtain ⟨a', c', hsl, hsr⟩ := HSl.out j hj
      rw [HP1.out j hj] at hsl hsr
      rw [← hkj] at hsl
      have HT := hidA (HTs.out j hj)
      have hl2 := HTl.out j
      rw [HT.out, List.length_append, ← hkj] at hl2
      rw [← hkj] at HT
      have hc1 := HE2.out j (by omega)
      have hc2 := HE2.out k hk
      have HSx := hidA (fun W (b : Below w.heap.size w W) => hsr.grow b)
      have hxp := Tl.ps_pos hj
      obtain ⟨gs, os, ea⟩ : ∃ gs os, a' = some ⟨gs, os, none⟩ := by
        obtain ⟨g1, o1, e1, _⟩ := hsr.src 0 hxp
        exact ⟨g1, o1, e1⟩
      subst ea
      have HOo := hidA HO.out.own
      have HOw := hidA (own_grow HOo.out (bl_drew1 wr))
      have HBd := hidA (HB.out.trans ((bl_drew1 wr).mono HB.out.size))
      have HSd := hidA (hsr.grow HBd.out)
      have HNe : Hid (some ge ≠ (Value.slice a3 (Tl.tc l (j + 1)).length c3).ownBlock) := fun e => by
        obtain ⟨cc, fz, h9⟩ := HK2.out
        obtain ⟨c9, f9, h8⟩ := own_kind HO.out.own ge (by rw [← hkj] at e; exact e.symm)
        exact absurd rfl (heap_ne h9 h8 (by decide))
      rw [← hkj] at HNe
      have hwsz := hidA HB.out.size
      have hidx : ∀ (m : Nat), m ≤ u → ∀ W : World, (Instr.indexAt 67 (.slice (some ⟨ge, 0, none⟩) (u + 1) cap) (.int .i64 (m : Int))).run Tryd.prog W = .ok (.pointer (some ⟨ge, m, none⟩)) W := fun m hm W => by
        rw [run_indexAt_slice (P := Tryd.prog) (w := W) 67 ⟨ge, 0, none⟩ (u + 1) cap .i64 m htI, if_pos ⟨by omega, by omega⟩, szI]
        simp [Result.andThen, Addr.add]
        exact Eq.symm
      have hidx1 := hidx j (by omega)
      have hidx2 := hidx k hk
      have HKJ := hidA hkj
      have HK := hidA (fun W (b : Below wr.heap.size wr W) => (show W.cell? ⟨ge, j, none⟩ = some (.int .i64 (Tl.en l j)) ∧ W.cell? ⟨ge, k, none⟩ = some (.int .i64 (Tl.en l k)) from ⟨(b.cell (p := ⟨ge, j, none⟩) (block_lt_of_cell hc1)).trans hc1, (b.cell (p := ⟨ge, k, none⟩) (block_lt_of_cell hc2)).trans hc2⟩))
      have HE3 := HE2
      clear hsr HSl HP1 HTs hidx hkj hc1 hc2 HE2
      generalize (Tl.ps l)[j] = x at *
      clear hj
      generalize Tl.tc l k = p at *
      generalize hEe0 : Tl.en l j = E0 at *
      generalize hEe1 : Tl.en l k = E1 at *
      clear hEe0 hEe1
      have hx63 : p.length + x.length ≤ maxLen := by unfold maxLen; omega
      have hx8 : (p.length + x.length) * 1 ≤ 140737488355328 := by omega
      go_upto_region 6 with fail
      go_region_held3 (fun W' : World => W'.cell? ⟨ge, j, none⟩ = some (.int .i64 E0) ∧ W'.cell? ⟨ge, k, none⟩ = some (.int .i64 E1)) (first | with_reducible exact HK.out _ (Below.refl _ _) | with_reducible exact HK.out _ (bl_drew1 _) | with_reducible exact HK.out _ (bl_drew _ _) | with_reducible exact hS | go_keep)
        (first | ((refine stepAppendK ?_ (.tmp 18) (.tmp 29) 22 ?_ w.heap.size 5 iB (.int .u8 0) 1 1 Tryd.underlying22 hiB hb0 hb1 hb2 rfl (by decide) (.slice a3 p.length c3) p.length (bCs p) ?_ HOw.out ⟨gs, os, none⟩ x.length c' (bCs x) ?_ ?_ ?_ (bCs_one x) hx63 hx8 HBd.out.size ?_; exact rfl; exact rfl; exact rfl; exact rfl; exact (by rw [bCs_len, Nat.mul_one]); exact (fun i u hi => HSd.out.src.cells_at i u hi); intro v' w2 hown hg2 hkp; have hS1 := HK.out _ (bl_drew1 wr); have hS := And.intro (hg2.cell hS1.1 HNe.out) (hg2.cell hS1.2 HNe.out); have HO2 := hidA (By.of_app hown); have HB2 : Hid (Below w.heap.size w w2) := HBd.out.grown hg2 HBd.out.size (fun k hk => (HOw.out.lt k hk).1); have HG2 := hidA hg2; clear hown hg2 hkp hS1)))
      all_goals
        go_wp2_with fail
        have HKn : Hid (∃ c fz, w2.heap[ge]? = some (.cells c 3 fz)) := by
          obtain ⟨cc, fz, h9⟩ := HK2.out
          exact ⟨cc, fz, (HG2.out.block ge (heap_lt h9) HNe.out).trans h9⟩
        have hjk : j < k := by have := HKJ.out; omega
        exact ⟨⟨j, by omega, rfl, by rw [HT.out]; exact HO2, hidA (fun m hm => HG2.out.cell (((bl_drew1 wr).cell (p := ⟨ge, m, none⟩) (block_lt_of_cell (HE3.out m hm))).trans (HE3.out m hm)) HNe.out), HKn, HB2⟩, by simp [intOf]; omega⟩
end Go.Proofs.YtplnojohlbbalaaDoor
