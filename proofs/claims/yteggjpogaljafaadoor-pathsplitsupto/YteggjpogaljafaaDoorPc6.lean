/- The walk of PathSplits. Conditions: the list's cells are as said; lengths that fit. -/
import Derived.Test.YteggjpogaljafaaDoorPc5
import Derived.Test.YteggjpogaljafaaDoorPc3
import Derived.Test.YteggjpogaljafaaDoorPc1
import Derived.Deep.RegionHeld
namespace Go.Proofs.YteggjpogaljafaaDoor
open Go.RowKit
attribute [local go_sem] ext_eq app_eq get_eq toL_eq
theorem own_below {w w' : World} {B e size n : Nat} {v : Value} {xs : List Value} (h : w.ownsRow B e size v n xs) (hb : Below w.heap.size w w') : w'.ownsRow B e size v n xs := by
  refine ⟨h.1, ?_⟩
  rcases h.2 with hn | ⟨g, cap, cur, rfl, hg, hgg, rest⟩
  · exact .inl hn
  · exact .inr ⟨g, cap, cur, rfl, hg, by rw [hb.block g (Array.getElem?_eq_some_iff.1 hgg).1]; exact hgg, rest⟩
theorem Hid.introS {p : Prop} (h : p) : Hid p := h
theorem grown_trans {a b c : World} {row : Option Nat} (h : a.grownBy b row) (k : b.grownBy c row) : a.grownBy c row :=
  ⟨k.os.trans h.os, k.tape.trans h.tape, k.output.trans h.output, Nat.le_trans h.size k.size, fun j hj hne => (k.block j (Nat.lt_of_lt_of_le hj h.size) hne).trans (h.block j hj hne)⟩
theorem below_dr {w0 w W : World} {n : Nat} (h0 : Below n w0 w) (hn : n ≤ w.heap.size) (h : Below w.drew.heap.size w.drew W) : Below n w0 W :=
  (below_drewN h0 1).trans (h.mono (show n ≤ w.drew.heap.size from hn))
set_option maxRecDepth 100000 in
set_option maxHeartbeats 1000000 in
theorem splits_walk (l : List UInt8) (a s : Bool) (xs : List (List UInt8)) (ad : Option Addr) (c : Nat) (w : World) (hl : l.length ≤ 2 ^ 40) (hS : Strs w ad xs) (hn : xs.length ≤ 2 ^ 40) (hc : xs.length ≤ c) (hz : ad = none → c = 0) (hj : (Pa.jn xs).length ≤ 2 ^ 40) :
    Calls Tryd.prog 3 #[.string ⟨l.toArray⟩, .agg #[.bool a, .slice ad xs.length c, .bool s]] w fun e w' => e = .returned (.bool true) ∧ Below w.heap.size w w' := by
  obtain ⟨i0, hi, hz0, hz1, hz2⟩ := info_parts info9
  have HS : Hid (Strs w ad xs) := hS
  have HJ : Hid ((Pa.jn xs).length ≤ 2 ^ 40) := hj
  have HZ : Hid (ad = none → c = 0) := hz
  have HC : Hid (xs.length ≤ c) := hc
  clear hS hj hz hc
  go_enter Tryd.func3, Tryd.ntmps3
  go_wp2_with fail
  refine (pSplit l _ hl).mono ?_
  rintro e w1 ⟨v1, rfl, hv1, HB1⟩
  have HV1 : Hid (w1.ownsRow (w.heap.size + 1) 9 1 v1 (Pa.splN l).length ((Pa.splN l).map sv)) := by rw [World.size_alloc] at hv1; exact hv1
  obtain ⟨-, a1, c1, rfl, hc1, HS1, hb1⟩ := own_strs hv1
  have HP1 : Hid (Box3 w1 w.heap.size 24 (.bool a) (.slice ad xs.length c) (.bool s)) := (HB1.block w.heap.size (by simp)).trans (World.alloc_heap_new w _)
  have HW1 : Hid (Below w.heap.size w w1) := ((Below.refl w.heap.size w).alloc (Nat.le_refl _) _).trans (HB1.mono (by simp))
  have HV1b : Hid (∀ b, (Value.slice a1 (Pa.splN l).length c1).ownBlock = some b → w.heap.size < b ∧ b < w1.heap.size) := fun b hb => ⟨(HV1.out.lt b hb).1, (HV1.out.lt b hb).2⟩
  clear hv1 HB1
  go_wp2_with fail
  refine (rSplit l _ hl).mono ?_
  rintro e w2 ⟨v2, rfl, hv2, HB2⟩
  obtain ⟨-, a2, c2, rfl, hc2, HS2, hb2⟩ := own_strs hv2
  have HP2 : Hid (Box3 w2 w.heap.size 24 (.bool a) (.slice ad xs.length c) (.bool s)) := (HB2.block w.heap.size (by simp; have := HW1.out.size; have := (Array.getElem?_eq_some_iff.1 HP1.out).1; omega)).trans (((Below.refl w1.heap.size w1).alloc (Nat.le_refl _) (.cells #[.bool (Pa.splA l), .slice a1 (Pa.splN l).length c1, .bool (Pa.splS l)] 24)).block w.heap.size (Array.getElem?_eq_some_iff.1 HP1.out).1 |>.trans HP1.out)
  have HG2 : Hid (Box3 w2 w1.heap.size 24 (.bool (Pa.splA l)) (.slice a1 (Pa.splN l).length c1) (.bool (Pa.splS l))) := (HB2.block w1.heap.size (by simp)).trans (World.alloc_heap_new w1 _)
  have HBB : Hid (Below w1.heap.size w1 w2) := ((Below.refl w1.heap.size w1).alloc (Nat.le_refl _) _).trans (HB2.mono (by simp))
  have HS12 : Hid (Strs w2 a1 (Pa.splN l)) := HS1.grow HBB.out
  have HB2g : Hid (∀ b, a2.map (·.block) = some b → w1.heap.size + 1 ≤ b) := fun b hb => by have := (hb2 b hb).1; simpa using this
  clear hv2 HB2 HS1 hb1 hb2
  obtain ⟨g0, g1, g2⟩ := HG2.out.c0
  have l12 : w1.heap.size < w2.heap.size := (Array.getElem?_eq_some_iff.1 HG2.out).1
  have HLN : Hid ((Pa.splN l).length ≤ 2 ^ 40) := by
    show _ ≤ _; rw [Pa.splN]; split
    · exact Nat.le_trans (Pa.nms_length l) hl
    · simp
  go_wp2_with fail
  refine (rSame (Pa.splA l) (Pa.splS l) (Pa.splN l) a1 a2 c1 c2 _ (HS12.out.grow ((Below.refl _ w2).alloc (Nat.le_refl _) _)) (HS2.grow ((Below.refl _ w2).alloc (Nat.le_refl _) _)) HLN.out).mono ?_
  rintro e w3 ⟨rfl, HB3⟩
  have HW3 : Hid (Below w2.heap.size w2 w3) := ((Below.refl w2.heap.size w2).alloc (Nat.le_refl _) _).trans (HB3.mono (by simp))
  have HN3 : Hid (Box3 w3 w2.heap.size 24 (.bool (Pa.splA l)) (.slice a2 (Pa.splN l).length c2) (.bool (Pa.splS l))) := (HB3.block w2.heap.size (by simp)).trans (World.alloc_heap_new w2 _)
  have HP3 : Hid (Box3 w3 w.heap.size 24 (.bool a) (.slice ad xs.length c) (.bool s)) := (HW3.out.block w.heap.size (Array.getElem?_eq_some_iff.1 HP2.out).1).trans HP2.out
  have HG3 : Hid (Box3 w3 w1.heap.size 24 (.bool (Pa.splA l)) (.slice a1 (Pa.splN l).length c1) (.bool (Pa.splS l))) := (HW3.out.block w1.heap.size l12).trans HG2.out
  have HV3 : Hid (w3.ownsRow (w.heap.size + 1) 9 1 (.slice a1 (Pa.splN l).length c1) (Pa.splN l).length ((Pa.splN l).map sv)) := own_below (own_below HV1.out HBB.out) HW3.out
  have HS23 : Hid (Strs w3 a2 (Pa.splN l)) := HS2.grow HW3.out
  have HW : Hid (Below w.heap.size w w3) := (HW1.out.trans (HBB.out.mono HW1.out.size)).trans (HW3.out.mono (by have := HW1.out.size; have := HBB.out.size; omega))
  have HSp : Hid (Strs w3 ad xs) := HS.out.grow HW.out
  clear g0 g1 g2 HB3 HV1 HP1 HW1 HP2 HG2 HBB HS12 HS2
  have l3 : w.heap.size < w3.heap.size := (Array.getElem?_eq_some_iff.1 HP3.out).1
  obtain ⟨p0, p1, p2⟩ := HP3.out.c0
  have L3 : Hid (w.heap.size < w3.heap.size) := l3
  have L13 : Hid (w1.heap.size < w3.heap.size) := (Array.getElem?_eq_some_iff.1 HG3.out).1
  have HKp : Hid (∀ W, Below w3.heap.size w3 W → W.cell? ⟨w.heap.size, 0, none⟩ = some (.bool a) ∧ W.cell? ⟨w.heap.size, 1, none⟩ = some (.slice ad xs.length c) ∧ W.cell? ⟨w.heap.size, 2, none⟩ = some (.bool s)) := fun W hW =>
    Box3.c0 ((hW.block w.heap.size L3.out).trans HP3.out)
  have HKg : Hid (∀ W, Below w3.heap.size w3 W → W.cell? ⟨w1.heap.size, 1, none⟩ = some (.slice a1 (Pa.splN l).length c1)) := fun W hW =>
    (Box3.c0 ((hW.block w1.heap.size L13.out).trans HG3.out)).2.1
  have HLR : Hid (∀ b, (Value.slice a1 (Pa.splN l).length c1).ownBlock = some b → w.heap.size < b ∧ b < w1.heap.size) := HV1b
  cases ad with
  | none =>
    obtain rfl : c = 0 := HZ.out rfl
    obtain rfl : xs = [] := nil_of_none HSp.out
    go_wp2_with fail
    clear p0 p1 p2
    have hS0 := HKp.out ((w3.alloc (.cells #[] 9)).drewN 1) (below_drewN ((Below.refl w3.heap.size w3).alloc (Nat.le_refl _) _) 1)
    go_region_held (fun W' => W'.cell? ⟨w.heap.size, 0, none⟩ = some (.bool a) ∧ W'.cell? ⟨w.heap.size, 1, none⟩ = some (.slice none 0 0) ∧ W'.cell? ⟨w.heap.size, 2, none⟩ = some (.bool s)) (first | exact hS5 | exact hS4 | exact hS0) (first
      | (go_at_call 11; refine (pString a s [] none 0 _ (Strs.nil _ _) (by first | simp | exact hn) (Nat.le_refl _) HJ.out).mono ?_; rintro e w4 ⟨rfl, HB4⟩; have hB4 : Below w3.heap.size w3 w4 := below_dr ((Below.refl w3.heap.size w3).alloc (Nat.le_refl _) _) (by simp) HB4; have hC4 : Below (w3.alloc (.cells #[] 9)).heap.size (w3.alloc (.cells #[] 9)) w4 := below_dr (Below.refl _ _) (Nat.le_refl _) HB4; have hS4 := HKp.out w4 hB4; clear HB4)
      | (go_at_call 12; refine (rString a s [] none 0 _ (Strs.nil _ _) (by first | simp | exact hn) HJ.out).mono ?_; rintro e w5 ⟨rfl, HB5⟩; have hB5 : Below w3.heap.size w3 w5 := hB4.trans (HB5.mono hB4.size); have hC5 : Below (w3.alloc (.cells #[] 9)).heap.size (w3.alloc (.cells #[] 9)) w5 := hC4.trans (HB5.mono hC4.size); have hS5 := HKp.out w5 hB5; clear HB5)
      | (go_at_call 13; refine (rTexts [] _ _ _ _ _ (Strs.nil _ _) (Strs.nil _ _) (by first | simp | exact hn)).mono ?_; rintro e w6 ⟨rfl, n6, rfl⟩))
    have hG5 := HKg.out w5 hB5
    have hV5 : Hid ((w5.drewN n6).ownsRow (w.heap.size + 1) 9 1 (.slice a1 (Pa.splN l).length c1) (Pa.splN l).length ((Pa.splN l).map sv)) := own_below (own_below HV3.out hB5) (below_drewN (Below.refl _ _) _)
    have HB5' : Hid (Below w3.heap.size w3 (w5.drewN n6)) := below_drewN hB5 _
    clear hB5 hB4 hS4 hS5 hC4 hC5
    go_wp2
    go_loopw [51] (fun i W => ∃ k : Nat, k ≤ (Pa.splN l).length ∧ i = .int .i64 k ∧ ∃ ys, Hid (W.ownsRow (w.heap.size + 1) 9 1 (.slice a1 (Pa.splN l).length c1) (Pa.splN l).length ys) ∧ Hid ((w5.drewN n6).grownBy W (Value.slice a1 (Pa.splN l).length c1).ownBlock)) (fun i _ => (Pa.splN l).length - (intOf i).toNat)
    case atStart => exact ⟨0, Nat.zero_le _, rfl, _, hV5.out, ⟨rfl, rfl, rfl, Nat.le_refl _, fun _ _ _ => rfl⟩⟩
    case round =>
      obtain ⟨k, hk, rfl, ys, HY, HGW⟩ := hrel
      have hg1 : wr.cell? ⟨w1.heap.size, 1, none⟩ = some (.slice a1 (Pa.splN l).length c1) := HGW.out.cell (by exact hG5) (fun e => by have := HLR.out _ e.symm; simp at this)
      by_cases hlt : k < (Pa.splN l).length
      · obtain ⟨g, rfl⟩ : ∃ g, a1 = some ⟨g, 0, none⟩ := by
          rcases HY.out.2 with ⟨h', _⟩ | ⟨g, cap, cur, h', _⟩
          · simp only [Value.slice.injEq] at h'; omega
          · simp only [Value.slice.injEq] at h'; exact ⟨g, h'.1⟩
        have hfz := HY.out.frozenAt k
        have hcl := HY.out.cellAt k (by omega)
        have hyl : ys.length = (Pa.splN l).length := by have := HY.out.1; omega
        rw [List.getElem?_eq_getElem (by omega)] at hcl
        have HST := Hid.introS (HY.out.stored k (.string ⟨#[120]⟩))
        generalize ys[k] = yk at hcl
        have hln : (Pa.splN l).length ≤ 2 ^ 40 := HLN.out
        clear hyl
        go_wp2
        exact ⟨⟨k + 1, by omega, by go_num, _, HST.out.1, grown_trans HGW.out HST.out.2⟩, by simp [intOf]; omega⟩
      · have L2r : Hid (w2.heap.size < w3.heap.size) := (Array.getElem?_eq_some_iff.1 HN3.out).1
        have HNr : Hid (Box3 wr w2.heap.size 24 (.bool (Pa.splA l)) (.slice a2 (Pa.splN l).length c2) (.bool (Pa.splS l))) := (HGW.out.block w2.heap.size (Nat.lt_of_lt_of_le L2r.out HB5'.out.size) (fun e => by have := (HLR.out _ e.symm).2; omega)).trans ((HB5'.out.block w2.heap.size L2r.out).trans HN3.out)
        have HSr : Hid (Strs wr a2 (Pa.splN l)) := fun j x hx => by
          obtain ⟨bk, o, e, hb, hcell⟩ := (HS23.out.grow HB5'.out) j x hx
          have := HB2g.out bk (by rw [e]; rfl)
          exact ⟨bk, o, e, Nat.lt_of_lt_of_le hb HGW.out.size, HGW.out.cell hcell (fun e' => by have h1 : bk < w1.heap.size := (HLR.out _ e'.symm).2; omega)⟩
        have HWr : Hid (Below w.heap.size w wr) := (HW.out.trans (HB5'.out.mono HW.out.size)).grown HGW.out (Nat.le_trans HW.out.size HB5'.out.size) (fun j ej => Nat.le_of_lt (HLR.out j ej).1)
        clear hg1 hG5
        go_wp2_with fail
        refine (pSplit l _ hl).mono ?_
        rintro e w7 ⟨v7, rfl, hv7, HB7⟩
        obtain ⟨-, a7, c7, rfl, hc7, HS7, -⟩ := own_strs hv7
        have HN7 : Box3 w7 w2.heap.size 24 (.bool (Pa.splA l)) (.slice a2 (Pa.splN l).length c2) (.bool (Pa.splS l)) := (HB7.block w2.heap.size (Array.getElem?_eq_some_iff.1 HNr.out).1).trans HNr.out
        obtain ⟨n0, n1, n2⟩ := HN7.c0
        have l27 : w2.heap.size < w7.heap.size := (Array.getElem?_eq_some_iff.1 HN7).1
        have HS27 : Hid (Strs w7 a2 (Pa.splN l)) := HSr.out.grow HB7
        have HW7 : Hid (Below w.heap.size w w7) := HWr.out.trans (HB7.mono HWr.out.size)
        clear HN7 HB7 hv7
        go_wp2_with fail
        refine (rSame (Pa.splA l) (Pa.splS l) (Pa.splN l) a7 a2 c7 c2 _ (HS7.grow ((Below.refl _ w7).alloc (Nat.le_refl _) _)) (HS27.out.grow ((Below.refl _ w7).alloc (Nat.le_refl _) _)) HLN.out).mono ?_
        rintro e w8 ⟨rfl, HB8⟩
        have HW8 : Hid (Below w.heap.size w w8) := (HW7.out.alloc HW7.out.size _).trans (HB8.mono (by have := HW7.out.size; simp; omega))
        clear HB8
        go_wp2_with fail
        refine (lives_walk _).mono ?_
        rintro e w9 ⟨rfl, HB9⟩
        go_wp2
        go_ret
        exact ⟨rfl, HW8.out.trans (HB9.mono HW8.out.size)⟩
  | some pa =>
    have HRW : Hid ((w3.alloc (.cells #[] 9)).ownsRow w3.heap.size 9 1 (.slice (some ⟨w3.heap.size, 0, none⟩) 0 0) 0 []) := World.ownsRow_lit w3 #[] 0 (Nat.le_refl _) (by simp [maxLen]) rfl
    have HNW : Hid (∀ j u, (xs.map sv)[j]? = some u → (w3.alloc (.cells #[] 9)).cell? (pa.add j) = some u) := strs_news (HSp.out.grow ((Below.refl _ w3).alloc (Nat.le_refl _) _))
    go_wp2_with (at_builtin; refine wpList_append_own _ rfl _ _ 22 rfl w3.heap.size 9 i0 (.string ⟨#[]⟩) 1 16 Tryd.underlying22 hi hz0 hz1 hz2 rfl (by decide) _ _ _ rfl HRW.out pa xs.length c (xs.map sv) rfl (by simp) HNW.out (one_cells _) (by unfold maxLen; omega) (by omega) (by simp) ?_; intro v' w9 hown' hgrow _; have HB9 : Below w3.heap.size w3 w9 := ((Below.refl w3.heap.size w3).alloc (Nat.le_refl _) _).grown hgrow (by simp) (fun j ej => (HRW.out.lt j ej).1); have hown : w9.ownsRow w3.heap.size 9 1 v' xs.length (xs.map sv) := (by simpa using hown'); clear hown' hgrow; obtain ⟨-, a9, c9, rfl, hc9, HS9, -⟩ := own_strs hown; clear hown)
    clear p0 p1 p2
    have hS0 := HKp.out (w9.drewN 1) (below_drewN HB9 1)
    go_region_held (fun W' => W'.cell? ⟨w.heap.size, 0, none⟩ = some (.bool a) ∧ W'.cell? ⟨w.heap.size, 1, none⟩ = some (.slice (some pa) xs.length c) ∧ W'.cell? ⟨w.heap.size, 2, none⟩ = some (.bool s)) (first | exact hS5 | exact hS4 | exact hS0) (first
      | (go_at_call 11; refine (pString a s xs (some pa) c _ (HSp.out.grow (below_drewN HB9 1)) (by first | omega | exact hn) HC.out HJ.out).mono ?_; rintro e w4 ⟨rfl, HB4⟩; have hB4 : Below w3.heap.size w3 w4 := below_dr HB9 (by exact HB9.size) HB4; have hC4 : Below w9.heap.size w9 w4 := below_dr (Below.refl _ _) (Nat.le_refl _) HB4; have hS4 := HKp.out w4 hB4; clear HB4)
      | (go_at_call 12; refine (rString a s xs (some pa) c _ (HSp.out.grow hB4) (by first | omega | exact hn) HJ.out).mono ?_; rintro e w5 ⟨rfl, HB5⟩; have hB5 : Below w3.heap.size w3 w5 := hB4.trans (HB5.mono hB4.size); have hC5 : Below w9.heap.size w9 w5 := hC4.trans (HB5.mono hC4.size); have hS5 := HKp.out w5 hB5; clear HB5)
      | (go_at_call 13; refine (rTexts xs _ _ _ _ _ (HSp.out.grow hB5) (HS9.grow hC5) (by first | omega | exact hn)).mono ?_; rintro e w6 ⟨rfl, n6, rfl⟩))
    have hG5 := HKg.out w5 hB5
    have hV5 : Hid ((w5.drewN n6).ownsRow (w.heap.size + 1) 9 1 (.slice a1 (Pa.splN l).length c1) (Pa.splN l).length ((Pa.splN l).map sv)) := own_below (own_below HV3.out hB5) (below_drewN (Below.refl _ _) _)
    have HB5' : Hid (Below w3.heap.size w3 (w5.drewN n6)) := below_drewN hB5 _
    clear hB5 hB4 hS4 hS5 hC4 hC5
    go_wp2
    go_loopw [51] (fun i W => ∃ k : Nat, k ≤ (Pa.splN l).length ∧ i = .int .i64 k ∧ ∃ ys, Hid (W.ownsRow (w.heap.size + 1) 9 1 (.slice a1 (Pa.splN l).length c1) (Pa.splN l).length ys) ∧ Hid ((w5.drewN n6).grownBy W (Value.slice a1 (Pa.splN l).length c1).ownBlock)) (fun i _ => (Pa.splN l).length - (intOf i).toNat)
    case atStart => exact ⟨0, Nat.zero_le _, rfl, _, hV5.out, ⟨rfl, rfl, rfl, Nat.le_refl _, fun _ _ _ => rfl⟩⟩
    case round =>
      obtain ⟨k, hk, rfl, ys, HY, HGW⟩ := hrel
      have hg1 : wr.cell? ⟨w1.heap.size, 1, none⟩ = some (.slice a1 (Pa.splN l).length c1) := HGW.out.cell (by exact hG5) (fun e => by have := HLR.out _ e.symm; simp at this)
      by_cases hlt : k < (Pa.splN l).length
      · obtain ⟨g, rfl⟩ : ∃ g, a1 = some ⟨g, 0, none⟩ := by
          rcases HY.out.2 with ⟨h', _⟩ | ⟨g, cap, cur, h', _⟩
          · simp only [Value.slice.injEq] at h'; omega
          · simp only [Value.slice.injEq] at h'; exact ⟨g, h'.1⟩
        have hfz := HY.out.frozenAt k
        have hcl := HY.out.cellAt k (by omega)
        have hyl : ys.length = (Pa.splN l).length := by have := HY.out.1; omega
        rw [List.getElem?_eq_getElem (by omega)] at hcl
        have HST := Hid.introS (HY.out.stored k (.string ⟨#[120]⟩))
        generalize ys[k] = yk at hcl
        have hln : (Pa.splN l).length ≤ 2 ^ 40 := HLN.out
        clear hyl
        go_wp2
        exact ⟨⟨k + 1, by omega, by go_num, _, HST.out.1, grown_trans HGW.out HST.out.2⟩, by simp [intOf]; omega⟩
      · have L2r : Hid (w2.heap.size < w3.heap.size) := (Array.getElem?_eq_some_iff.1 HN3.out).1
        have HNr : Hid (Box3 wr w2.heap.size 24 (.bool (Pa.splA l)) (.slice a2 (Pa.splN l).length c2) (.bool (Pa.splS l))) := (HGW.out.block w2.heap.size (Nat.lt_of_lt_of_le L2r.out HB5'.out.size) (fun e => by have := (HLR.out _ e.symm).2; omega)).trans ((HB5'.out.block w2.heap.size L2r.out).trans HN3.out)
        have HSr : Hid (Strs wr a2 (Pa.splN l)) := fun j x hx => by
          obtain ⟨bk, o, e, hb, hcell⟩ := (HS23.out.grow HB5'.out) j x hx
          have := HB2g.out bk (by rw [e]; rfl)
          exact ⟨bk, o, e, Nat.lt_of_lt_of_le hb HGW.out.size, HGW.out.cell hcell (fun e' => by have h1 : bk < w1.heap.size := (HLR.out _ e'.symm).2; omega)⟩
        have HWr : Hid (Below w.heap.size w wr) := (HW.out.trans (HB5'.out.mono HW.out.size)).grown HGW.out (Nat.le_trans HW.out.size HB5'.out.size) (fun j ej => Nat.le_of_lt (HLR.out j ej).1)
        clear hg1 hG5
        go_wp2_with fail
        refine (pSplit l _ hl).mono ?_
        rintro e w7 ⟨v7, rfl, hv7, HB7⟩
        obtain ⟨-, a7, c7, rfl, hc7, HS7, -⟩ := own_strs hv7
        have HN7 : Box3 w7 w2.heap.size 24 (.bool (Pa.splA l)) (.slice a2 (Pa.splN l).length c2) (.bool (Pa.splS l)) := (HB7.block w2.heap.size (Array.getElem?_eq_some_iff.1 HNr.out).1).trans HNr.out
        obtain ⟨n0, n1, n2⟩ := HN7.c0
        have l27 : w2.heap.size < w7.heap.size := (Array.getElem?_eq_some_iff.1 HN7).1
        have HS27 : Hid (Strs w7 a2 (Pa.splN l)) := HSr.out.grow HB7
        have HW7 : Hid (Below w.heap.size w w7) := HWr.out.trans (HB7.mono HWr.out.size)
        clear HN7 HB7 hv7
        go_wp2_with fail
        refine (rSame (Pa.splA l) (Pa.splS l) (Pa.splN l) a7 a2 c7 c2 _ (HS7.grow ((Below.refl _ w7).alloc (Nat.le_refl _) _)) (HS27.out.grow ((Below.refl _ w7).alloc (Nat.le_refl _) _)) HLN.out).mono ?_
        rintro e w8 ⟨rfl, HB8⟩
        have HW8 : Hid (Below w.heap.size w w8) := (HW7.out.alloc HW7.out.size _).trans (HB8.mono (by have := HW7.out.size; simp; omega))
        clear HB8
        go_wp2_with fail
        refine (lives_walk _).mono ?_
        rintro e w9 ⟨rfl, HB9⟩
        go_wp2
        go_ret
        exact ⟨rfl, HW8.out.trans (HB9.mono HW8.out.size)⟩
end Go.Proofs.YteggjpogaljafaaDoor
