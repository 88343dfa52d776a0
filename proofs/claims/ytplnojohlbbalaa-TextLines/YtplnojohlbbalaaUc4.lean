/- The program's each over ints, with the closure of ends; ends, Head, Tail. Condition: a length that fits. -/
import Derived.Test.YtplnojohlbbalaaUc2
namespace Go.Proofs.Ytplnojohlbbalaa
open Go.RowKit
attribute [local go_sem] ext_eq app_eq get_eq
def slLen : Value → Nat
  | .slice _ n _ => n
  | _ => 0
theorem Tl.tl_lt {r : List UInt8} (h : r ≠ []) : (Tl.tl r).length < r.length := by
  have : 0 < r.length := List.length_pos_iff.2 h
  unfold Tl.tl; rw [List.length_drop]; omega
theorem Tl.hd_le (r : List UInt8) : (Tl.hd r).length ≤ r.length := by unfold Tl.hd; rw [List.length_take]; omega
set_option maxRecDepth 100000 in
set_option maxHeartbeats 4000000 in
theorem oEach (l : List UInt8) (a : Option Addr) (c B : Nat) (v0 : Value) (hl : l.length ≤ 1048577) (w0 w : World) (hS : Sr w0 a c l) (h0 : Below w0.heap.size w0 w) (hI : Ir B w v0 [0]) (hB : w0.heap.size ≤ B) (hB2 : B ≤ w.heap.size) : Calls Try.prog 52 #[.slice a l.length c, v0, .func (.func 53) #[] #[]] w fun e w' => ∃ v, e = .returned v ∧ Ir B w' v (Tl.Es l (Tl.prs l).length) ∧ Below B w w' := by
  have H0 := hidA h0
  have HI0 := hidA (show Ir B w v0 (Tl.Es l 0) by simpa [Tl.Es, Tl.en_zero] using hI)
  have HS0 := hidA (show Sr w0 a c (l.drop (Tl.en l 0)) by rw [Tl.en_zero]; exact hS)
  have hpl := Tl.prs_len l.length l (Nat.le_refl _)
  have Hb := hidA hB
  have Hb2 := hidA hB2
  clear h0 hI hS hB hB2
  go_enter Try.func52, Try.ntmps52
  go_wp2_with fail
  go_loopw [0, 1] (fun s0 s1 W => ∃ (k : Nat) (aR : Option Addr) (cR : Nat), s0 = .slice aR (l.drop (Tl.en l k)).length cR ∧ k ≤ (Tl.prs l).length ∧ Hid (Sr w0 aR cR (l.drop (Tl.en l k))) ∧ Hid (Ir B W s1 (Tl.Es l k)) ∧ Hid (Below B w W)) (fun s0 _ _ => slLen s0)
  case atStart => exact ⟨0, a, c, by rw [Tl.en_zero]; rfl, Nat.zero_le _, HS0, HI0, hidA (Below.refl _ _)⟩
  case round =>
    obtain ⟨k, aR, cR, rfl, hk, HS, HI, HB⟩ := hrel
    have hBb := hidA (H0.out.trans (HB.out.mono Hb.out))
    have hsz := hidA (Nat.le_trans Hb2.out HB.out.size)
    clear HI0 HS0
    have hrl : (l.drop (Tl.en l k)).length ≤ 1048577 := by rw [List.length_drop]; omega
    by_cases hr : l.drop (Tl.en l k) = []
    · have hkn := Tl.at_done hk hr
      rw [hr] at HS ⊢
      clear HS
      go_wp2_with fail
      go_ret
      exact ⟨_, rfl, by rw [← hkn]; exact HI.out, HB.out⟩
    · obtain ⟨hk1, e1, e2⟩ := Tl.at_more hk hr
      have HE1 := hidA e1
      have hlt := Tl.tl_lt hr
      have hhd := Tl.hd_le (l.drop (Tl.en l k))
      have hel : (Tl.Es l k).length = k + 1 := Tl.Es_len l k
      have hlast : (Tl.Es l k)[k]'(by omega) = Tl.en l k := Tl.Es_last l k _
      have hen : Tl.en l k ≤ 1048577 := Nat.le_trans (Tl.en_le l k) hl
      have HC := hidA (fun W g (h1 : Below w0.heap.size w0 W) (h2 : W.cell? ⟨g, 0, none⟩ = some (.int .u8 10)) => oCutG (l.drop (Tl.en l k)) aR cR g (by omega) W (HS.out.grow h1) h2)
      have HK : Hid (∀ (W : World) (v : Value) (a1 : Option Addr) (c1 : Nat), Ir B W v (Tl.Es l k) → B ≤ W.heap.size → Calls Try.prog 53 #[v, .agg #[.slice a1 (Tl.hd (l.drop (Tl.en l k))).length c1, .bool (Tl.yes (l.drop (Tl.en l k)))]] W fun x w' => ∃ v', x = .returned v' ∧ Ir B w' v' (Tl.Es l (k + 1)) ∧ Below B W w') := fun W v a1 c1 h1 h2 => by
        have h := oEnds1 B v (Tl.Es l k) k hel (by omega) a1 (Tl.hd (l.drop (Tl.en l k))).length c1 (Tl.yes (l.drop (Tl.en l k))) (by omega) (by omega) W h1 h2
        simp only [Tl.Es_last] at h
        rw [Tl.Es_succ, e2]; exact h
      have hpos : 0 < (l.drop (Tl.en l k)).length := List.length_pos_iff.2 hr
      have HW := hidA (hBb.out.alloc hBb.out.size (.cells #[.int .u8 10] 5))
      have HT : Hid (∀ W a2 c2, Sr W a2 c2 (Tl.tl (l.drop (Tl.en l k))) → Sr W a2 c2 (l.drop (Tl.en l (k + 1)))) := fun W a2 c2 h => by rw [← HE1.out]; exact h
      have HTl : Hid ((l.drop (Tl.en l (k + 1))).length = (Tl.tl (l.drop (Tl.en l k))).length) := by show _ = _; rw [HE1.out]
      clear HE1 e1 e2 hlast hel hen hr
      generalize Tl.Es l k = S0 at *
      generalize Tl.hd (l.drop (Tl.en l k)) = h at *
      generalize Tl.tl (l.drop (Tl.en l k)) = t at *
      generalize Tl.yes (l.drop (Tl.en l k)) = y at *
      generalize l.drop (Tl.en l k) = r at *
      go_wp2_with (first
        | (go_at_call 50; with_reducible refine (HC.out _ _ HW.out (World.cell?_alloc_at _ _ _ _ rfl)).mono ?_; rintro e w2 ⟨a1, c1, a2, c2, rfl, h1, h2⟩; have H1 := hidA h1; have HA := hidA ((Below.refl _ _).alloc (Nat.le_refl _) _ |>.trans (h2.mono (by simp))); clear h1 h2)
        | (go_at_call 53; with_reducible refine (HK.out _ _ _ _ (HI.out.grow HA.out) (Nat.le_trans hsz.out HA.out.size)).mono ?_; rintro e w3 ⟨v', rfl, h1, h2⟩; have HI2 := hidA h1; have HB3 := hidA (HB.out.trans ((HA.out.mono hsz.out).trans h2)); clear h1 h2))
      exact ⟨⟨k + 1, a2, c2, by rw [HTl.out], hk1, hidA (HT.out _ _ _ (H1.out _ HS.out).2), HI2, HB3⟩, by simp [slLen]; omega⟩
theorem Ir.one (W : World) (B : Nat) (hB : B ≤ W.heap.size) (x : Nat) : Ir B (W.alloc (.cells #[.int .i64 x] 3)) (.slice (some ⟨W.heap.size, 0, none⟩) 1 1) [x] := by
  refine ⟨?_, .inr ⟨W.heap.size, 1, #[.int .i64 x], rfl, hB, heap_new _ _, Nat.le_refl _, by unfold maxLen; omega, by simp, by simp [nC]⟩⟩
  simp [nC]
set_option maxRecDepth 100000 in
set_option maxHeartbeats 1000000 in
theorem oEnds (l : List UInt8) (a : Option Addr) (c : Nat) (hl : l.length ≤ 1048577) (w : World) (hS : Sr w a c l) : Calls Try.prog 41 #[.slice a l.length c] w fun e w' => ∃ v, e = .returned v ∧ Ir w.heap.size w' v (Tl.Es l (Tl.prs l).length) ∧ Below w.heap.size w w' := by
  have hb := (Below.refl w.heap.size w).alloc (Nat.le_refl _) (.cells #[.int .i64 0] 3)
  have HB := hidA hb
  have HE := hidA (oEach l a c w.heap.size _ hl w _ hS hb (Ir.one w w.heap.size (Nat.le_refl _) 0) (Nat.le_refl _) hb.size)
  clear hb hS
  go_enter Try.func41, Try.ntmps41
  go_wp2_with (go_at_call 52; with_reducible refine HE.out.mono ?_; rintro e w1 ⟨v, rfl, h1, h2⟩; have HI := hidA h1; have HB1 := hidA (HB.out.trans h2); clear h1 h2)
  go_ret
  exact ⟨_, rfl, HI.out, HB1.out⟩
theorem Tl.Es_at {B : Nat} {W : World} {v : Value} {l : List UInt8} (h : Ir B W v (Tl.Es l (Tl.prs l).length)) {i : Nat} (hi : i ≤ (Tl.prs l).length) : ∃ g cap, v = .slice (some ⟨g, 0, none⟩) ((Tl.prs l).length + 1) cap ∧ g < W.heap.size ∧ W.cell? ⟨g, i, none⟩ = some (.int .i64 (Tl.en l i)) := by
  obtain ⟨g, cap, hv, hg, hcg⟩ := h.at (j := i) (by rw [Tl.Es_len]; omega)
  rw [Tl.Es_len] at hv
  rw [Tl.Es_get] at hcg
  exact ⟨g, cap, hv, hg, hcg⟩
set_option maxRecDepth 100000 in
set_option maxHeartbeats 1000000 in
theorem oHead (l : List UInt8) (a : Option Addr) (c : Nat) (n : Int) (hn : -(2 ^ 63) ≤ n ∧ n < 2 ^ 63) (hl : l.length ≤ 1048577) (w : World) (hS : Sr w a c l) : Calls Try.prog 26 #[.slice a l.length c, .int .i64 n] w fun e w' => ∃ v, e = .returned v ∧ By w.heap.size w' v (l.take (Tl.en l (Tl.fst n (Tl.prs l).length))) ∧ Below w.heap.size w w' := by
  have hpl := Tl.prs_len l.length l (Nat.le_refl _)
  have HE := hidA (oEnds l a c hl w hS)
  have hk := Tl.fst_le n (Tl.prs l).length
  have HA := hidA (fun W => oFirst n (Tl.prs l).length hn (by omega) W)
  generalize Tl.fst n (Tl.prs l).length = i at *
  have hel : Tl.en l i ≤ l.length := Tl.en_le l i
  obtain ⟨hs1, hr1⟩ := sl_to hS (Tl.en l i) hel
  have HS := hidA (fun W (b : Below w.heap.size w W) => oClone (l.take (Tl.en l i)) a c (by rw [List.length_take]; omega) W (hr1.grow b))
  have hw1 : IntKind.i64.wrap (((Tl.prs l).length : Int) + 1 - 1) = ((Tl.prs l).length : Int) := by rw [IntKind.wrap_i64]; omega
  have hw2 : IntKind.i64.wrap ((Tl.prs l).length : Int) = ((Tl.prs l).length : Int) := by rw [IntKind.wrap_i64]; omega
  have hi1 : (0 : Int) ≤ (i : Int) := by omega
  have hi2 : (i : Int) < ((Tl.prs l).length : Int) + 1 := by omega
  clear hr1 hS
  generalize l.take (Tl.en l i) = p at *
  have HI := hidA (fun (W : World) (v : Value) (h : Ir w.heap.size W v (Tl.Es l (Tl.prs l).length)) => Tl.Es_at h (i := i) hk)
  generalize Tl.en l i = E at *
  generalize (Tl.Es l (Tl.prs l).length) = R at *
  generalize (Tl.prs l).length = N at *
  go_enter Try.func26, Try.ntmps26
  go_wp2_with (first
    | (go_at_call 41; with_reducible refine HE.out.mono ?_; rintro e w1 ⟨v, rfl, h1, h2⟩; obtain ⟨g, cap, hv, hg, hcg⟩ := HI.out _ _ h1; subst hv; have HB1 := hidA h2; clear h1 h2)
    | (go_at_call 42; with_reducible refine (HA.out _).mono ?_; rintro e w2 ⟨rfl, hw2⟩; rw [hw2]; clear hw2 w2)
    | (go_at_call 22; with_reducible refine (HS.out _ HB1.out).mono ?_; rintro e w3 ⟨v, rfl, h1, h2⟩; have H1 := hidA (By.mono h1 HB1.out.size); have H2 := hidA (HB1.out.trans (h2.mono HB1.out.size)); clear h1 h2))
  go_ret
  exact ⟨_, rfl, H1.out, H2.out⟩
end Go.Proofs.Ytplnojohlbbalaa
