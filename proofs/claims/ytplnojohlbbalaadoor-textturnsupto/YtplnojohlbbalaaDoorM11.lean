/- Several texts of this claim, one behind the other, in their order. -/
import Derived.Test.YtplnojohlbbalaaDoorM10
import Derived.RangeFuncNested
import Derived.RangeFuncBound
import Derived.RangeFuncCalls
import Derived.RangeFuncLeaves
import Derived.RangeFuncBox
import Derived.Shelf.Abstract
import Derived.Shelf.RegionOpen
import Derived.WalkKit
import Derived.OwnWalkIn
import Derived.TacticsInMore
import Derived.LoopNIn
import Derived.LoopIn
import Derived.Maps.OwnIn
/- Rewriting a text line by line, by any teller: all the lines. Condition: lengths that fit. -/
namespace Go.Proofs.YtplnojohlbbalaaDoor
open Go.RowKit
attribute [local go_sem] ext_eq app_eq get_eq
theorem Tl.prs_at {l : List UInt8} {k : Nat} (h : k < (Tl.prs l).length) : (Tl.prs l)[k] = (Tl.hd (l.drop (Tl.en l k)), Tl.yes (l.drop (Tl.en l k))) := by
  have ih := Tl.prs_drop l k (Nat.le_of_lt h)
  have hc : (Tl.prs l).drop k = (Tl.prs l)[k] :: (Tl.prs l).drop (k + 1) := List.drop_eq_getElem_cons h
  have hr : l.drop (Tl.en l k) ≠ [] := Tl.prs_ne (by rw [ih, hc]; exact List.cons_ne_nil _ _)
  have hs := Tl.prs_step hr
  rw [ih, hc] at hs
  injection hs with h1 _
/-- What is told behind each of the lines, and what the world is then. -/
structure Telling (w0 : World) (F : FuncId) (pre post : Array Value) (B0 B : Nat) (m : Option Nat) (P : List (List UInt8 × Bool)) (I : Nat → World → Prop) (o q : Nat → List UInt8) : Prop where
  enter : ∀ args w, (callFunc F args).run Tryd.prog w = .ok (.enter F args) w
  tells : ∀ k (h : k < P.length), Tells w0 F pre post B0 B m (I k) (I (k + 1)) (o k) P[k].1 (q k)
  ends : ∀ k (h : k < P.length), o (k + 1) = q k ++ nl P[k].2
  firm : ∀ k, Firm B (I k)
  fits : ∀ k, k < P.length → (q k).length ≤ 2 ^ 46
set_option maxRecDepth 100000 in
set_option maxHeartbeats 4000000 in
theorem oEachB (F : FuncId) (pre post : Array Value) (B0 B gt : Nat) (m : Option Nat) (I : Nat → World → Prop) (o q : Nat → List UInt8) (l : List UInt8) (w0 w : World) (hTg : Telling w0 F pre post B0 B m (Tl.prs l) I o q) (a : Option Addr) (c : Nat) (v0 : Value) (hl : l.length ≤ 1048577) (hS : Sr w0 a c l) (h0 : Below w0.heap.size w0 w) (hO : By B w v0 (o 0)) (hI : I 0 w) (hw0 : w0.heap.size ≤ B0) (hB0 : B0 ≤ B) (hB : B ≤ w.heap.size) (hgt : w.cell? ⟨gt, 0, none⟩ = some (.func (.func F) pre post)) (hgB : gt < B) (hgm : some gt ≠ m) (hm : ∀ k, m = some k → k < w.heap.size) : Calls Tryd.prog 25 #[.slice a l.length c, v0, .func (.func 49) #[] #[.pointer (some ⟨gt, 0, none⟩)]] w fun e w' => ∃ v, e = .returned v ∧ By B w' v (o (Tl.prs l).length) ∧ I (Tl.prs l).length w' ∧ Below B0 w w' := by
  have H0 := hidA h0
  have HO0 := hidA hO
  have HI0 := hidA hI
  have HG0 := hidA hgt
  have HT := hidA hTg
  have HS0 := hidA (show Sr w0 a c (l.drop (Tl.en l 0)) by rw [Tl.en_zero]; exact hS)
  have hpl := Tl.prs_len l.length l (Nat.le_refl _)
  have Hb := hidA hw0
  have Hb0 := hidA hB0
  have Hb2 := hidA hB
  have Hgm := hidA hgm
  have HgB := hidA hgB
  have Hm := hidA hm
  clear h0 hI hS hB hB0 hO hgt hTg hw0 hgm hgB hm
  go_enter Tryd.func25, Tryd.ntmps25
  go_wp2_with fail
  go_loopw [0, 1] (fun s0 s1 W => ∃ (k : Nat) (aR : Option Addr) (cR : Nat), s0 = .slice aR (l.drop (Tl.en l k)).length cR ∧ k ≤ (Tl.prs l).length ∧ Hid (Sr w0 aR cR (l.drop (Tl.en l k))) ∧ Hid (By B W s1 (o k)) ∧ Hid (I k W) ∧ Hid (W.cell? ⟨gt, 0, none⟩ = some (.func (.func F) pre post)) ∧ Hid (Below B0 w W)) (fun s0 _ _ => slLen s0)
  case atStart => exact ⟨0, a, c, by rw [Tl.en_zero]; rfl, Nat.zero_le _, HS0, HO0, HI0, HG0, hidA (Below.refl _ _)⟩
  case round =>
    obtain ⟨k, aR, cR, rfl, hk, HS, HO, HI, HG, HB⟩ := hrel
    have hBb := hidA (H0.out.trans (HB.out.mono Hb.out))
    have hsz := hidA (Nat.le_trans Hb2.out HB.out.size)
    clear HI0 HS0 HO0 HG0
    have hrl : (l.drop (Tl.en l k)).length ≤ 1048577 := by rw [List.length_drop]; omega
    by_cases hr : l.drop (Tl.en l k) = []
    · have hkn := Tl.at_done hk hr
      rw [hr] at HS ⊢
      clear HS
      go_wp2_with fail
      go_ret
      exact ⟨_, rfl, by rw [← hkn]; exact HO.out, by rw [← hkn]; exact HI.out, HB.out⟩
    · obtain ⟨hk1, e1, e2⟩ := Tl.at_more hk hr
      have HE1 := hidA e1
      have hkl : k < (Tl.prs l).length := hk1
      have hpa := Tl.prs_at hkl
      have hlt := Tl.tl_lt hr
      have HC := hidA (fun W g (h1 : Below w0.heap.size w0 W) (h2 : W.cell? ⟨g, 0, none⟩ = some (.int .u8 10)) => oCutG (l.drop (Tl.en l k)) aR cR g (by omega) W (HS.out.grow h1) h2)
      have HK : Hid (∀ (W : World) (a1 : Option Addr) (c1 : Nat) (v : Value), By B W v (o k) → I k W → Sr w0 a1 c1 (Tl.hd (l.drop (Tl.en l k))) → Below w0.heap.size w0 W → wr.heap.size ≤ W.heap.size → W.cell? ⟨gt, 0, none⟩ = some (.func (.func F) pre post) → Calls Tryd.prog 49 #[v, .agg #[.slice a1 (Tl.hd (l.drop (Tl.en l k))).length c1, .bool (Tl.yes (l.drop (Tl.en l k)))], .pointer (some ⟨gt, 0, none⟩)] W fun y w' => ∃ v', y = .returned v' ∧ By B w' v' (o (k + 1)) ∧ I (k + 1) w' ∧ Below B0 W w' ∧ Km m W v w' v') := fun W a1 c1 v g1 g2 g3 g6 g4 g5 => by
        have ht := HT.out.tells k hkl
        have he := HT.out.ends k hkl
        rw [hpa] at ht he
        rw [he]
        exact oRewrite1 w0 F pre post B0 B gt m (I k) (I (k + 1)) (o k) _ (q k) HT.out.enter ht (HT.out.fits k hkl) (HT.out.firm k) (HT.out.firm (k + 1)) W v a1 c1 _ g2 g1 g3 g6 (Nat.le_trans hsz.out g4) Hb0.out (fun j hj => Nat.lt_of_lt_of_le (Hm.out j hj) (Nat.le_trans HB.out.size g4)) g5
      have hpos : 0 < (l.drop (Tl.en l k)).length := List.length_pos_iff.2 hr
      have HW := hidA (hBb.out.alloc hBb.out.size (.cells #[.int .u8 10] 5))
      have HTt : Hid (∀ W a2 c2, Sr W a2 c2 (Tl.tl (l.drop (Tl.en l k))) → Sr W a2 c2 (l.drop (Tl.en l (k + 1)))) := fun W a2 c2 h => by rw [← HE1.out]; exact h
      have HTl : Hid ((l.drop (Tl.en l (k + 1))).length = (Tl.tl (l.drop (Tl.en l k))).length) := by show _ = _; rw [HE1.out]
      clear HE1 e1 e2 hr hpa
      generalize Tl.hd (l.drop (Tl.en l k)) = h at *
      generalize Tl.tl (l.drop (Tl.en l k)) = t at *
      generalize Tl.yes (l.drop (Tl.en l k)) = y at *
      generalize l.drop (Tl.en l k) = r at *
      go_wp2_with (first
        | (go_at_call 41; (with_reducible refine (HC.out _ _ HW.out (World.cell?_alloc_at _ _ _ _ rfl)).mono ?_); rintro e w2 ⟨a1, c1, a2, c2, rfl, h1, h2⟩; have H1 := hidA h1; have HA := hidA ((Below.refl _ _).alloc (Nat.le_refl _) _ |>.trans (h2.mono (by simp))); clear h1 h2)
        | (go_at_call 49; (with_reducible refine (HK.out _ _ _ _ (HO.out.grow HA.out) ((HT.out.firm k).grow _ _ HI.out HA.out) (H1.out _ HS.out).1 (hBb.out.trans (HA.out.mono hBb.out.size)) HA.out.size ((HA.out.cell (p := ⟨gt, 0, none⟩) (block_lt_of_cell HG.out)).trans HG.out)).mono ?_); rintro e w3 ⟨v', rfl, h1, h2, h3, h4⟩; have HO2 := hidA h1; have HI2 := hidA h2; have HB3 := hidA (HB.out.trans ((HA.out.mono (Nat.le_trans Hb0.out hsz.out)).trans h3)); have HG3 : Hid (w3.cell? ⟨gt, 0, none⟩ = some (.func (.func F) pre post)) := h4.cell ((HA.out.cell (p := ⟨gt, 0, none⟩) (block_lt_of_cell HG.out)).trans HG.out) (fun e9 => by have := (by_at HO.out e9.symm).1; have := HgB.out; omega) Hgm.out; clear h1 h2 h3 h4))
      exact ⟨⟨k + 1, a2, c2, by rw [HTl.out], hk1, hidA (HTt.out _ _ _ (H1.out _ HS.out).2), HO2, HI2, HG3, HB3⟩, by simp [slLen]; omega⟩
end Go.Proofs.YtplnojohlbbalaaDoor
/- The program's rewrite, by any teller. Condition: lengths that fit. -/
namespace Go.Proofs.YtplnojohlbbalaaDoor
open Go.RowKit
attribute [local go_sem] ext_eq app_eq get_eq
set_option maxRecDepth 100000 in
set_option maxHeartbeats 2000000 in
theorem oRewrite (F : FuncId) (pre post : Array Value) (B0 : Nat) (m : Option Nat) (I : Nat → World → Prop) (o q : Nat → List UInt8) (l : List UInt8) (a : Option Addr) (c : Nat) (hl : l.length ≤ 1048577) (w0 w : World) (hTg : Telling w0 F pre post B0 (w.heap.size + 1) m (Tl.prs l) I o q) (h00 : o 0 = []) (hS : Sr w0 a c l) (h0 : Below w0.heap.size w0 w) (hI : I 0 w) (hw0 : w0.heap.size ≤ B0) (hB0 : B0 ≤ w.heap.size) (hm : ∀ k, m = some k → k < w.heap.size) : Calls Tryd.prog 33 #[.slice a l.length c, .func (.func F) pre post] w fun e w' => ∃ v, e = .returned v ∧ By w.heap.size w' v (o (Tl.prs l).length) ∧ I (Tl.prs l).length w' ∧ Below B0 w w' := by
  have hbW := (Below.refl w.heap.size w).alloc (Nat.le_refl _) (.cells #[.func (.func F) pre post] 66)
  have HE := hidA (oEachB F pre post B0 (w.heap.size + 1) w.heap.size m I o q l w0 (w.alloc (.cells #[.func (.func F) pre post] 66)) hTg a c (.slice none 0 0) hl hS (h0.trans (hbW.mono h0.size)) (by rw [h00]; exact By.nil _ _) ((hTg.firm 0).grow _ _ hI hbW) hw0 (by omega) (by simp) (World.cell?_alloc_at _ _ _ _ rfl) (by omega) (fun e => by have := hm _ e.symm; omega) (fun k hk => by have := hm k hk; simp; omega))
  have HBW := hidA ((Below.refl B0 w).alloc hB0 (.cells #[.func (.func F) pre post] 66))
  clear hTg hS h0 hI hw0 hB0 hm hbW
  go_enter Tryd.func33, Tryd.ntmps33
  go_wp2_with (go_at_call 25; (with_reducible refine HE.out.mono ?_); rintro e w1 ⟨v, rfl, h1, h2, h3⟩; have HO := hidA h1; have HI := hidA h2; have HB := hidA (HBW.out.trans h3); clear h1 h2 h3)
  go_ret
  exact ⟨_, rfl, HO.out.mono (Nat.le_succ _), HI.out, HB.out⟩
end Go.Proofs.YtplnojohlbbalaaDoor
/- slices.Backward of bytes: its contract for a loop that writes blocks of its own. Condition: a length that fits. -/
namespace Go.Proofs.YtplnojohlbbalaaDoor
open Go.RowKit Go.Shelf
attribute [local go_sem] ext_eq app_eq get_eq Oper.semAt_some
/-- What a round keeps: the box b, and what lies below n₀. -/
structure Kb (b n₀ : Nat) (W W' : World) : Prop where
  box : ∀ v, W.cell? ⟨b, 0, none⟩ = some v → W'.cell? ⟨b, 0, none⟩ = some v
  low : Below n₀ W W'
theorem kb_refl (b n₀ : Nat) (W : World) : Kb b n₀ W W := ⟨fun _ h => h, Below.refl _ _⟩
theorem kb_t {b n₀ : Nat} {A B C : World} (h : Kb b n₀ A B) (k : Kb b n₀ B C) : Kb b n₀ A C := ⟨fun v e => k.box v (h.box v e), h.low.trans k.low⟩
theorem kb_b {b n₀ : Nat} {w : World} (hb : b < w.heap.size) (hn : n₀ ≤ w.heap.size) (W : World) (l : Nat) (o o' : Obj) (hl : w.heap.size ≤ l) (h : W.heap[l]? = some o) (h1 : o.isCells = false) (h2 : o.isWalk = false) : Kb b n₀ W (W.putObj l o') := by
  refine ⟨fun v e => ?_, belowK_b hn W l o o' hl h h1 h2⟩
  rw [← e]
  simp only [World.cell?, World.putObj_heap_other (show b ≠ l by omega)]
namespace Tl
/-- The first k of the bytes from behind, each with its place. -/
def bk (x : List UInt8) (k : Nat) : List (Nat × UInt8) := (List.range k).map fun j => (x.length - 1 - j, x.getD (x.length - 1 - j) 0)
theorem bk_succ (x : List UInt8) (k : Nat) : bk x (k + 1) = bk x k ++ [(x.length - 1 - k, x.getD (x.length - 1 - k) 0)] := by
  simp [bk, List.range_succ]
theorem bk_len (x : List UInt8) (k : Nat) : (bk x k).length = k := by simp [bk]
theorem bk_rev (x : List UInt8) : ∀ k, k ≤ x.length → (bk x k).map (·.2) = (x.drop (x.length - k)).reverse
  | 0, _ => by simp [bk]
  | k + 1, h => by
    have hj : x.length - (k + 1) < x.length := by omega
    rw [bk_succ, List.map_append, bk_rev x k (by omega), rev_drop hj]
    have e1 : x.length - (k + 1) + 1 = x.length - k := by omega
    have e2 : x.length - 1 - k = x.length - (k + 1) := by omega
    rw [e1]
    simp only [List.map_cons, List.map_nil, e2, List.getD_eq_getElem?_getD, List.getElem?_eq_getElem hj, Option.getD_some]
end Tl
set_option maxRecDepth 100000 in
set_option maxHeartbeats 2000000 in
theorem back_in (F : Fence) (n : Nat) (hf : F.fn 50) (hro : F.round = none) (hn : 1 ≤ n) (l Bs n₀ : Nat) (a : Option Addr) (c : Nat) (x : List UInt8) (hx : x.length ≤ 2 ^ 46) (J Jx : List (Nat × UInt8) → World → Prop)
    (hY : ∀ pre y W, J pre W → pre.length < x.length → YieldAt F (n - 1) Tryd.prog l #[.int .i64 (y.1 : Nat), .int .u8 (y.2.toNat : Nat)] W fun e W' =>
      (e = .returned (.bool true) ∧ J (pre ++ [y]) W' ∧ Kb Bs n₀ W W') ∨ (e = .returned (.bool false) ∧ Jx (pre ++ [y]) W'))
    (W : World) (hBs : W.cell? ⟨Bs, 0, none⟩ = some (.slice a x.length c)) (hc : ∀ j (h : j < x.length), ∃ g o, a = some ⟨g, o, none⟩ ∧ g < n₀ ∧ W.cell? ⟨g, o + j, none⟩ = some (.int .u8 x[j].toNat)) (h0 : J [] W) :
    CallsIn F n Tryd.prog 50 #[.func (.yield l) #[] #[], .pointer (some ⟨Bs, 0, none⟩)] W fun e W' => (∃ v, e = .returned v) ∧
      ((∃ ys, ys = Tl.bk x x.length ∧ J ys W') ∨ (∃ pre, (∃ k, k ≤ x.length ∧ pre = Tl.bk x k) ∧ Jx pre W')) := by
  have hsub : IntKind.i64.wrap ((x.length : Int) - 1) = (x.length : Int) - 1 := by rw [IntKind.wrap_i64]; omega
  refine callsIn_of_wp Tryd.func50 rfl hf ?_ hro
  simp only [Tryd.ntmps50, List.size_toArray, List.length_cons, List.length_nil, Nat.reduceAdd, Nat.reduceSub, Array.replicate_succ, Array.replicate_zero, List.push_toArray, List.append_toArray, List.nil_append, List.cons_append]
  gi_wp2
  gi_loopw [3] (fun i wr => ∃ k : Nat, k ≤ x.length ∧ i = .int .i64 ((x.length : Int) - k - 1) ∧ J (Tl.bk x k) wr ∧ Kb Bs n₀ W wr)
    (fun i _ => (intOf i + 1).toNat)
  case atStart => exact ⟨0, Nat.zero_le _, by simp, h0, kb_refl _ _ _⟩
  case round =>
    obtain ⟨k, hk, rfl, hJs, hkb⟩ := hrel
    have hbx := hkb.box _ hBs
    by_cases hlt : k < x.length
    · have hj : x.length - 1 - k < x.length := by omega
      obtain ⟨g, o, rfl, hg, hcj⟩ := hc _ hj
      have hcx : wr.cell? ⟨g, o + (x.length - 1 - k), none⟩ = some (.int .u8 (x.getD (x.length - 1 - k) 0).toNat) := by
        rw [List.getD_eq_getElem?_getD, List.getElem?_eq_getElem hj]
        exact (hkb.low.cell (p := ⟨g, o + (x.length - 1 - k), none⟩) hg).trans hcj
      have hij : (x.length : Int) - k - 1 = ((x.length - 1 - k : Nat) : Int) := by omega
      have hge : (0 : Int) ≤ ((x.length - 1 - k : Nat) : Int) := by omega
      have hdec : IntKind.i64.wrap (((x.length - 1 - k : Nat) : Int) - 1) = (x.length : Int) - (k + 1 : Nat) - 1 := by rw [IntKind.wrap_i64]; omega
      rw [hij]
      obtain ⟨fn, tmps, assign, body, hy, hR⟩ := hY _ (x.length - 1 - k, x.getD (x.length - 1 - k) 0) wr hJs (by rw [Tl.bk_len]; exact hlt)
      dsimp only at hy
      have hbs := Tl.bk_succ x k
      generalize hjj : x.length - 1 - k = j at *
      generalize x.getD j 0 = z at *
      gi_wp2
      refine hR.mono ?_
      rintro e W3 (⟨rfl, hJ3, hk3⟩ | ⟨rfl, hJx3⟩)
      · have hbx3 := hk3.box _ hbx
        gi_wp2
        go_roundw
        case rel => exact ⟨k + 1, by omega, by first | rfl | go_num, by rw [hbs]; exact hJ3, kb_t hkb hk3⟩
        case measure => simp [intOf]; omega
      · gi_wp2
        refine bodyPost_ret (results_none rfl _ _ _) rfl ?_
        exact ⟨⟨_, rfl⟩, .inr ⟨_, ⟨k + 1, by omega, hbs.symm⟩, hJx3⟩⟩
    · obtain rfl : k = x.length := by omega
      gi_wp2
      go_end0
      exact ⟨⟨_, rfl⟩, .inl ⟨_, rfl, hJs⟩⟩
theorem back_stops (F : Fence) (n : Nat) (hf : F.fn 50) (hro : F.round = none) (hn : 1 ≤ n) (Bs n₀ : Nat) (a : Option Addr) (c : Nat) (x : List UInt8) (hx : x.length ≤ 2 ^ 46) (w : World) (hB : Bs < w.heap.size) (hn₀ : n₀ ≤ w.heap.size)
    (hBs : w.cell? ⟨Bs, 0, none⟩ = some (.slice a x.length c)) (hc : ∀ j (h : j < x.length), ∃ g o, a = some ⟨g, o, none⟩ ∧ g < n₀ ∧ w.cell? ⟨g, o + j, none⟩ = some (.int .u8 x[j].toNat)) :
    SeqStopsK F n Tryd.prog 50 #[.pointer (some ⟨Bs, 0, none⟩)] (fun y : Nat × UInt8 => #[Value.int .i64 (y.1 : Nat), Value.int .u8 (y.2.toNat : Nat)]) (Kb Bs n₀) (fun ys => ys = Tl.bk x x.length)
      (fun pre => ∃ k, k ≤ x.length ∧ pre = Tl.bk x k) x.length w := fun l J Jx W hW _ _ hY h0 =>
  back_in F n hf hro hn l Bs n₀ a c x hx J Jx hY W ((hW.cell (p := ⟨Bs, 0, none⟩) hB).trans hBs)
    (fun j h => by obtain ⟨g, o, e, hg, hcj⟩ := hc j h; exact ⟨g, o, e, hg, (hW.cell (p := ⟨g, o + j, none⟩) (Nat.lt_of_lt_of_le hg hn₀)).trans hcj⟩) h0
set_option maxRecDepth 100000 in
set_option maxHeartbeats 1000000 in
theorem backward_in (F : Fence) (n : Nat) (hf : F.fn 35) (hro : F.round = none) (a : Option Addr) (len cap : Nat) (w : World) :
    CallsIn F n Tryd.prog 35 #[.slice a len cap] w fun e w' => e = .returned (.func (.func 50) #[] #[.pointer (some ⟨w.heap.size, 0, none⟩)]) ∧ w' = w.alloc (.cells #[.slice a len cap] 22) := by
  refine callsIn_of_wp Tryd.func35 rfl hf ?_ hro
  simp only [Tryd.ntmps35, List.size_toArray, List.length_cons, List.length_nil, Nat.reduceAdd, Nat.reduceSub, Array.replicate_succ, Array.replicate_zero, List.push_toArray, List.append_toArray, List.nil_append, List.cons_append]
  gi_wp2
  go_ret
  exact ⟨rfl, rfl⟩
end Go.Proofs.YtplnojohlbbalaaDoor
