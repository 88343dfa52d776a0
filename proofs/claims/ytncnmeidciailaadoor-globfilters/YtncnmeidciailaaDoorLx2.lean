/- The walk of GlobFilters. Conditions: the names' cells are as said; lengths that fit; the table of names; a number where a library's variable lies. -/
import Derived.Test.YtncnmeidciailaaDoorLx1
import Derived.Test.YtncnmeidciailaaDoorLv9
import Derived.Test.YtncnmeidciailaaDoorLc0
import Derived.Laws.AppendOwnNone
import Derived.Deep.DeepCutAuto
namespace Go.Proofs.YtncnmeidciailaaDoor
open Go.RowKit
attribute [local go_sem] ext_eq app_eq get_eq
theorem gFarF (l : List UInt8) (w : World) : Calls Tryd.prog 11 #[.string ⟨l.toArray⟩] w fun e w' => e = .returned (.bool (decide (4096 < l.length))) ∧ w' = w := by
  have hs : (⟨l.toArray⟩ : ByteArray).size = l.length := str_size l
  by_cases h : 4096 < l.length
  · have h1 : decide ((4096 : Int) < (l.length : Int)) = true := decide_eq_true (by omega)
    have h2 : decide (4096 < l.length) = true := decide_eq_true h
    go_enter Tryd.func11, Tryd.ntmps11
    go_wp2
    go_ret
    exact ⟨by simp [h], rfl⟩
  · have h1 : decide ((4096 : Int) < (l.length : Int)) = false := decide_eq_false (by omega)
    have h2 : decide (4096 < l.length) = false := decide_eq_false h
    go_enter Tryd.func11, Tryd.ntmps11
    go_wp2
    go_ret
    exact ⟨by simp [h], rfl⟩
set_option maxRecDepth 100000 in
set_option maxHeartbeats 8000000 in
theorem filters_walk (p : List UInt8) (fl : Int) (xs : List (List UInt8)) (a : Option Addr) (c : Nat) (hxs : xs.length ≤ 2 ^ 43) (hx : ∀ x ∈ xs, x.length ≤ 2 ^ 47) (ha : a = none → c = 0 ∧ xs = []) (w : World) (hS : StrS w a xs) (hc : CN w) (hm : ML w) :
    Calls Tryd.prog 5 #[.string ⟨p.toArray⟩, .int .i64 fl, .slice a xs.length c] w fun e w' => e = .returned (.bool true) ∧ Below w.heap.size w w' := by
  obtain ⟨iS, hiS, hz0, hz1, hz2⟩ := infoStr
  have HL := hidA (fun W (b : Below w.heap.size w W) => lives12 W (hc.grow b (Nat.le_refl _)) (hm.grow b (Nat.le_refl _)))
  have HF1 := hidA (fun W => gFarF p W)
  have HF2 := hidA (fun x W => gFarF x W)
  by_cases h1 : 4096 < p.length
  · rw [decide_eq_true h1] at HF1
    clear hc hm h1 HF2 hx ha hS
    go_enter Tryd.func5, Tryd.ntmps5
    go_wp2_with (first | (go_at_call 11; refine (HF1.out _).mono ?_; rintro e w1 ⟨rfl, hw'⟩; rw [hw']; clear hw' w1) | (go_at_call 10; refine (HL.out _ (Below.refl _ _)).mono ?_; rintro e w2 ⟨rfl, b2⟩))
    go_ret
    exact ⟨rfl, b2⟩
  rw [decide_eq_false h1] at HF1
  obtain ⟨mB, hmB⟩ : ∃ mB : List UInt8 → Bool, ∀ s, (mB s = true ↔ Gl.Mt (Gl.flOf fl) s (Gl.pcs (Gl.flOf fl) p) 0) := ⟨fun s => @decide _ (Classical.propDecidable (Gl.Mt (Gl.flOf fl) s (Gl.pcs (Gl.flOf fl) p) 0)), fun s => by simp⟩
  have HM : Hid (∀ s : List UInt8, s.length ≤ 4096 → ∀ W, Calls Tryd.prog 13 #[.string ⟨p.toArray⟩, .string ⟨s.toArray⟩, .int .i64 fl] W fun e w' => e = .returned (.bool (mB s)) ∧ Below W.heap.size W w') := fun s hs W => by
    refine (rMatch p s fl (by omega) (by omega) W).mono ?_
    rintro e w' ⟨b, rfl, hb, h⟩
    exact ⟨ret_bool (by rw [Bool.eq_iff_iff, hb, hmB]), h⟩
  have HFi := hidA (fun a c W (hB : Below w.heap.size w W) (hs : StrS W a xs) => gFilter p fl xs a c (by omega) (by omega) hx W (hc.grow hB (Nat.le_refl _)) hs mB hmB)
  have HS := hidA hS
  clear hc hm h1 hx hmB hS
  go_enter Tryd.func5, Tryd.ntmps5
  go_upto_region 3 with (go_at_call 11; refine (HF1.out _).mono ?_; rintro e w1 ⟨rfl, hw'⟩; rw [hw']; clear hw' w1)
  go_cut [7] (fun v wc => ∃ ga gc, v = .slice ga xs.length gc ∧ Hid (StrS wc ga xs) ∧ Hid (Below w.heap.size w wc))
  case first =>
    clear HL HF1 HF2 HM HFi
    cases a with
    | none =>
      obtain ⟨rfl, rfl⟩ := ha rfl
      go_wp2_with fail
      go_meet
      exact ⟨_, _, rfl, StrS.nil _ _, (Below.refl _ _).alloc (Nat.le_refl _) _⟩
    | some ad =>
      have HR0 : Hid (SRow w.heap.size (w.alloc (.cells #[] 9)) (.slice (some ⟨w.heap.size, 0, none⟩) 0 0) []) := ⟨rfl, .inr ⟨w.heap.size, 0, #[], rfl, Nat.le_refl _, heap_new _ _, Nat.le_refl _, Nat.zero_le _, rfl, rfl⟩⟩
      have HNw : Hid (∀ j u, (xs.map strV)[j]? = some u → (w.alloc (.cells #[] 9)).cell? (ad.add j) = some u) := fun j u hj => by
        rw [List.getElem?_map] at hj
        obtain ⟨x, h1, rfl⟩ := Option.map_eq_some_iff.1 hj
        obtain ⟨hjl, rfl⟩ := List.getElem?_eq_some_iff.1 h1
        obtain ⟨g, o, e, hg, hcc⟩ := (HS.out.grow ((Below.refl w.heap.size w).alloc (Nat.le_refl _) (.cells #[] 9)) (Nat.le_refl _)) j hjl
        cases e
        rw [show (⟨g, o, none⟩ : Addr).add j = ⟨g, o + j, none⟩ by simp [Addr.add]]; exact hcc
      have HOne : Hid (∀ u ∈ xs.map strV, u.oneCell' = true) := fun u hu => by
        obtain ⟨x, _, rfl⟩ := List.mem_map.1 hu; rfl
      have hlm : (xs.map strV).length = xs.length * 1 := by simp
      have Hlm := hidA hlm
      clear hlm
      go_wp2_with (at_builtin; refine wpList_append_own_at _ rfl _ _ 28 rfl w.heap.size 9 iS (.string ⟨#[]⟩) 1 16 Tryd.underlying28 hiS hz0 hz1 hz2 rfl (by decide) _ _ _ rfl HR0.out ad xs.length c (xs.map strV) rfl Hlm.out HNw.out HOne.out (by unfold maxLen; simp; omega) (by simp; omega) (by simp) ?_; intro v2 w2 hown hg2 _ hat; (have Ho := hidA hown); (have Hg := hidA hg2); (obtain ⟨va, vc, hv2⟩ := own_slice hown); subst hv2; clear hown hg2 hat)
      go_meet
      have hR : SRow w.heap.size w2 (.slice va xs.length vc) xs := by
        have h := Ho.out
        simp only [List.length_nil, Nat.zero_add, List.map_nil, List.nil_append] at h
        exact h
      obtain ⟨a', c', e', hs'⟩ := hR.src
      cases e'
      refine ⟨va, vc, by simp, hs', ((Below.refl w.heap.size w).alloc (Nat.le_refl _) _).grown Hg.out (by simp) (fun k hk => ?_)⟩
      have hk' : (Value.slice (some ⟨w.heap.size, 0, none⟩) 0 0).ownBlock = some k := hk
      simp [Value.ownBlock] at hk'
      omega
  case rest =>
  obtain ⟨ga, gc, rfl, HG, HB⟩ := hcut
  rename World => w3
  have HF3 := hidA (HFi.out ga gc w3 HB.out HG.out)
  have hfl : (xs.filter mB).length ≤ xs.length := List.length_filter_le _ _
  clear HFi ha
  go_wp2_with (go_at_call 18; refine HF3.out.mono ?_; rintro e w4 ⟨v, rfl, hy, b4⟩; (obtain ⟨fa, fc, hv, hs4⟩ := hy.src); subst hv; (have HSf := hidA hs4); (have B4 := hidA b4); clear hy b4 hs4)
  have HG4 := hidA (HG.out.grow B4.out (Nat.le_refl _))
  have HB4 := hidA (bl2 HB.out B4.out)
  have HS4 := hidA (HS.out.grow HB4.out (Nat.le_refl _))
  clear HG HB B4 HF3 HF1
  go_loopw [9, 24] (fun v s24 W => ∃ (k : Nat), s24 = .int .i64 k ∧ k ≤ xs.length ∧ Hid (SRow w4.heap.size W v ((xs.take k).filter mB)) ∧ Hid (Below w4.heap.size w4 W)) (fun _ s24 _ => xs.length - (intOf s24).toNat)
  case atStart => exact ⟨0, rfl, Nat.zero_le _, SRow.nil _ _, Below.refl _ _⟩
  case round =>
    obtain ⟨k, rfl, hk, HY, HBk⟩ := hrel
    have hsz : w4.heap.size ≤ wr.heap.size := HBk.out.size
    have HBw := hidA (HB4.out.trans (HBk.out.mono HB4.out.size))
    by_cases hlt : k < xs.length
    · have hw1 : IntKind.i64.wrap ((k : Int) + 1) = ((k + 1 : Nat) : Int) := by rw [IntKind.wrap_i64]; omega
      obtain ⟨g, o, rfl, hg, hcc⟩ := (HS4.out.grow HBk.out (Nat.le_refl _)) k hlt
      have HFk := hidA (fun W => HF2.out xs[k] W)
      have HMk := hidA (fun (h : xs[k].length ≤ 4096) => HM.out xs[k] h wr)
      have HE : Hid ((xs.take (k + 1)).filter mB = (xs.take k).filter mB ++ (if mB xs[k] then [xs[k]] else [])) := by
        show _ = _
        rw [List.take_succ_eq_append_getElem hlt, List.filter_append]
        cases h : mB xs[k] <;> simp [h]
      have hll : ((xs.take k).filter mB).length ≤ k := Nat.le_trans (List.length_filter_le _ _) (by rw [List.length_take]; omega)
      generalize (xs.take k).filter mB = PK at *
      clear HS4 HF2 HM HG4 HSf
      by_cases hfar : 4096 < xs[k].length
      · rw [decide_eq_true hfar] at HFk
        clear hfar HMk
        generalize xs[k] = x at *
        go_wp2_with (first | (go_at_call 11; refine (HFk.out _).mono ?_; rintro e w1 ⟨rfl, hw'⟩; rw [hw']; clear hw' w1) | (go_at_call 10; refine (HL.out _ HBw.out).mono ?_; rintro e w5 ⟨rfl, b5⟩))
        go_ret
        exact ⟨rfl, bl2 HBw.out b5⟩
      · rw [decide_eq_false hfar] at HFk
        have HMk2 := hidA (HMk.out (by omega))
        clear hfar HMk
        cases hmx : mB xs[k] with
        | false =>
          rw [hmx] at HMk2 HE
          clear hmx
          generalize xs[k] = x at *
          go_wp2_with (first | (go_at_call 11; refine (HFk.out _).mono ?_; rintro e w1 ⟨rfl, hw'⟩; rw [hw']; clear hw' w1) | (go_at_call 13; refine HMk2.out.mono ?_; rintro e w5 ⟨rfl, b5⟩; (have HY2 : Hid (SRow w4.heap.size w5 _ PK) := own_on HY.out (fun g _ hg => b5.block g (heap_lt hg))); (have HB2 := hidA (HBk.out.trans (b5.mono hsz))); clear b5))
          exact ⟨⟨k + 1, by first | rfl | go_num, hlt, hidA (by rw [HE.out]; simpa using HY2.out), HB2⟩, by simp [intOf]; omega⟩
        | true =>
          rw [hmx] at HMk2 HE
          clear hmx
          generalize xs[k] = x at *
          go_wp2_with (first | (go_at_call 11; refine (HFk.out _).mono ?_; rintro e w1 ⟨rfl, hw'⟩; rw [hw']; clear hw' w1) | (go_at_call 13; refine HMk2.out.mono ?_; rintro e w5 ⟨rfl, b5⟩; (have HY2 : Hid (SRow w4.heap.size w5 _ PK) := own_on HY.out (fun g _ hg => b5.block g (heap_lt hg))); (have HB2 := hidA (HBk.out.trans (b5.mono hsz))); (have hsz2 : w4.heap.size ≤ w5.heap.size := HB2.out.size); clear b5) | (at_builtin; refine wpList_append_own_at _ rfl _ _ 28 rfl w4.heap.size 9 iS (.string ⟨#[]⟩) 1 16 Tryd.underlying28 hiS hz0 hz1 hz2 rfl (by decide) _ _ _ rfl (HY2.out.alloc _) ⟨w5.heap.size, 0, none⟩ 1 1 [.string ⟨x.toArray⟩] rfl rfl (cell_one_new _ _ _) (one_str _) (by unfold maxLen; omega) (by omega) (by simp; omega) ?_; intro v6 w6 hown hg6 _ hat; obtain ⟨y6, b6⟩ := HY2.out.add (x := x) HB2.out hsz2 _ hown hg6; have Y6 := hidA y6; have B6 := hidA b6; clear hown hg6 hat y6 b6))
          exact ⟨⟨k + 1, by first | rfl | go_num, hlt, hidA (by rw [HE.out]; simpa using Y6.out), B6⟩, by simp [intOf]; omega⟩
    · have hY := HY.out
      rw [List.take_of_length_le (by omega)] at hY
      obtain ⟨wa, wcp, hv, hsw⟩ := hY.src
      subst hv
      have HT1 := hidA (gTexts (xs.filter mB) fa wa fc wcp (by omega) wr (HSf.out.grow HBk.out (Nat.le_refl _)) hsw)
      have HT2 := hidA (fun W (b : Below wr.heap.size wr W) => gTexts xs ga a gc c (by omega) W ((HG4.out.grow HBk.out (Nat.le_refl _)).grow b (Nat.le_refl _)) ((HS4.out.grow HBk.out (Nat.le_refl _)).grow b (Nat.le_refl _)))
      clear hY HY HS4 HF2 HM HG4 HSf hsw HS
      generalize (xs.filter mB).length = fn at *
      go_wp2_with (first | (go_at_call 19; first | (with_reducible refine Calls.mono HT1.out ?_; rintro e w5 ⟨rfl, b5⟩; (have B5 := hidA b5); clear b5) | (with_reducible refine Calls.mono (HT2.out _ B5.out) ?_; rintro e w6 ⟨rfl, b6⟩; (have B6 := hidA (HBw.out.trans ((bl2 B5.out b6).mono HBw.out.size))); clear b6)) | (go_at_call 10; refine (HL.out _ B6.out).mono ?_; rintro e w7 ⟨rfl, b7⟩))
      go_ret
      exact ⟨rfl, bl2 B6.out b7⟩
end Go.Proofs.YtncnmeidciailaaDoor
