/- OrderParts' own function: it answers true. Conditions: lengths that fit; the example lives (a premise). -/
import Derived.Test.YtdjefinehabifaaDoorOb0
import Derived.Deep.RegionHeld3
import Derived.Deep.DeepCutAuto
namespace Go.Proofs.YtdjefinehabifaaDoor
open Go.RowKit
attribute [local go_sem] ext_eq app_eq get_eq
theorem bl_drew1 (w : World) : Below w.heap.size w w.drew := bl_drew w 1
theorem bl_dr1 {w w5 : World} (b : Below w.drew.heap.size w.drew w5) : Below w.heap.size w w5 := (bl_drew w 1).trans b
theorem bl_drN {w w5 : World} {m : Nat} (b : Below (w.drewN m).heap.size (w.drewN m) w5) : Below w.heap.size w w5 := (bl_drew w m).trans b
theorem Sp3.of {B : Nat} {W : World} {pa qa ra : Option Addr} {pc qc rc : Nat} {PP AA DD : List UInt8} (hP : By B W (.slice pa PP.length pc) PP) (hQ : By B W (.slice qa AA.length qc) AA) (hR : By B W (.slice ra DD.length rc) DD) : Sp3 B W.heap.size [(pa, PP.length, pc), (qa, AA.length, qc), (ra, DD.length, rc)] (W.alloc (.cells #[.slice pa PP.length pc, .slice qa AA.length qc, .slice ra DD.length rc] 22)) := by
  have one : ∀ {a : Option Addr} {n c : Nat} {X : List UInt8}, By B W (.slice a n c) X → ∀ j, j < n → ∃ b o, a = some ⟨b, o, none⟩ ∧ B ≤ b ∧ b < W.heap.size ∧ ((W.alloc (.cells #[.slice pa PP.length pc, .slice qa AA.length qc, .slice ra DD.length rc] 22)).cell? ⟨b, o + j, none⟩).isSome = true ∧ (W.alloc (.cells #[.slice pa PP.length pc, .slice qa AA.length qc, .slice ra DD.length rc] 22)).frozen? ⟨b, o + j, none⟩ = false := fun h j hj => by
    obtain ⟨b, o, e, hb, hs, hf⟩ := h.wr j hj
    obtain ⟨u, hu⟩ := Option.isSome_iff_exists.1 hs
    have hlt : b < W.heap.size := block_lt_of_cell hu
    have hB := (Below.refl W.heap.size W).alloc (Nat.le_refl _) (.cells #[.slice pa PP.length pc, .slice qa AA.length qc, .slice ra DD.length rc] 22)
    exact ⟨b, o, e, hb, hlt, by rw [hB.cell (p := ⟨b, o + j, none⟩) hlt]; exact hs, by rw [hB.frozen (p := ⟨b, o + j, none⟩) hlt]; exact hf⟩
  refine ⟨by simp, fun i hi => ?_, fun i hi j hj => ?_⟩
  · match i, hi with
    | 0, _ => exact World.cell?_alloc_at _ _ _ _ rfl
    | 1, _ => exact World.cell?_alloc_at _ _ _ _ rfl
    | 2, _ => exact World.cell?_alloc_at _ _ _ _ rfl
  · match i, hi, hj with
    | 0, _, hj => exact one hP j hj
    | 1, _, hj => exact one hQ j hj
    | 2, _, hj => exact one hR j hj
set_option maxRecDepth 100000 in
set_option maxHeartbeats 8000000 in
theorem parts_walk (hAw : ∀ W, Calls Tryd.prog 16 #[] W fun e w' => e = .returned (.bool true) ∧ Below W.heap.size W w') (l : List UInt8) (a : Option Addr) (c : Nat) (k : Od.K5) (sep : UInt8) (hl : l.length ≤ 1048576) (hk : Od.In k) (w : World) (hS : Sr w a c l) : Calls Tryd.prog 3 #[.slice a l.length c, .agg #[.int .i64 k.1, .int .i64 k.2.1, .int .i64 k.2.2.1, .int .i64 k.2.2.2.1, .int .i64 k.2.2.2.2], .int .u8 sep.toNat] w fun e w' => e = .returned (.bool true) ∧ Below w.heap.size w w' := by
  have HAw := hidA hAw
  have HS := hidA hS
  have HIn := hidA hk
  have HPa := hidA (fun a c (W : World) h => oPart l a c k sep (by omega) hk W h)
  have HRa := hidA (fun a c (W : World) h => rPart l a c k sep (by omega) hk W h)
  have HNa := hidA (fun a c (W : World) h => oNumber l a c (by omega) W h)
  have HMa := hidA (fun a c (W : World) h => rNumber l a c (by omega) W h)
  have HLe := hidA (gLend l a c (by omega) w hS.src)
  obtain ⟨kF, kC, kE, kD, kG⟩ := k
  dsimp only at HPa HRa
  clear hAw hS hk
  go_enter Tryd.func3, Tryd.ntmps3
  have HK := hidA (Od.Kf.made w (kF, kC, kE, kD, kG) 24)
  have HB := hidA ((Below.refl w.heap.size w).alloc (Nat.le_refl _) (.cells #[.int .i64 kF, .int .i64 kC, .int .i64 kE, .int .i64 kD, .int .i64 kG] 24))
  clear HLe
  go_upto_region 1 with fail
  have hLe := gLend l a c (by omega) _ (HS.out.grow HB.out).src
  generalize w.alloc (.cells #[.int .i64 kF, .int .i64 kC, .int .i64 kE, .int .i64 kD, .int .i64 kG] 24) = W0 at *
  have HLe := hidA hLe
  clear hLe
  obtain ⟨l2, Hl2⟩ : ∃ n, Hid (n = l.length + 2) := ⟨_, hidA rfl⟩
  obtain ⟨l1, Hl1⟩ : ∃ n, Hid (n = l.length + 1) := ⟨_, hidA rfl⟩
  rw [← Hl2.out, ← Hl1.out] at HLe
  go_upto_region 2 with (go_at_call 9; with_reducible refine HLe.out.mono ?_; rintro e w1 ⟨rfl, hL1, b1⟩)
  have hlt0 := HK.out.lt
  have HL1 := hidA hL1
  have HK1 := hidA (HK.out.grow b1)
  have HB1 := hidA (HB.out.trans (b1.mono HB.out.size))
  have Hw0 := hidA (show W0.heap.size < w1.heap.size from hL1.lt)
  have HS1 := hidA (HS.out.grow HB1.out)
  have Hgv := hidA (show Sr w1 (some ⟨W0.heap.size, 1, none⟩) l1 l from ⟨hL1.src, by have := Hl1.out; omega, fun e => by cases e⟩)
  have HS0 := HS
  have Hw1 := hidA HB1.out.size
  clear hL1 b1 HLe HB HK HS hlt0
  generalize W0.heap.size = gL at *
  have r0 := HK1.out.c0
  have r1 := HK1.out.c1
  have r2 := HK1.out.c2
  have r3 := HK1.out.c3
  have r4 := HK1.out.c4
  have hsz := HK1.out.lt
  dsimp only at r0 r1 r2 r3 r4
  go_upto_region 3 with (go_at_call 10; with_reducible refine (HPa.out _ _ _ Hgv.out).mono ?_; rintro e w2 ⟨v, rfl, hv, b2⟩)
  obtain ⟨pa, pc, rfl⟩ := hv.slice
  have HV := hidA hv
  have Hs2 := hidA b2.size
  have Hgv2 := hidA (Hgv.out.grow b2)
  have HL2 := hidA (HL1.out.grow b2 Hw0.out)
  have HK2 := hidA (HK1.out.grow b2)
  have HB2 := hidA (HB1.out.trans (b2.mono HB1.out.size))
  have HS2 := hidA (HS1.out.grow b2)
  clear hv b2 Hgv HL1 HK1 HB1 HS1 r0 r1 r2 r3 r4 hsz HPa
  go_upto_region 4 with (go_at_call 11; with_reducible refine (HNa.out _ _ _ Hgv2.out).mono ?_; rintro e w3 ⟨v1, v2, rfl, hv1, hv2, b3⟩)
  obtain ⟨qa, qc, rfl⟩ := hv1.slice
  obtain ⟨ra, rc, rfl⟩ := hv2.slice
  have HV1 := hidA (hv1.mono Hs2.out)
  have HV2 := hidA (hv2.mono Hs2.out)
  have HV3 := hidA (HV.out.grow b3)
  have Hs3 := hidA (Nat.le_trans Hs2.out b3.size)
  have HL3 := hidA (HL2.out.grow b3 (Nat.lt_of_lt_of_le Hw0.out Hs2.out))
  have HK3 := hidA (HK2.out.grow b3)
  have HB3 := hidA (HB2.out.trans (b3.mono HB2.out.size))
  have HS3 := hidA (HS2.out.grow b3)
  clear hv1 hv2 b3 HV Hgv2 HL2 HK2 HB2 HS2 HNa Hs2
  go_upto_region 5 with (go_at_call 12; with_reducible refine (HMa.out _ _ _ HS3.out).mono ?_; rintro e w4 ⟨xa, xc, ya, yc, rfl, hx, hy, b4⟩)
  have HX4 := hidA hx
  have HY4 := hidA hy
  have HP4 := hidA (HV3.out.grow b4)
  have HQ4 := hidA (HV1.out.grow b4)
  have HR4 := hidA (HV2.out.grow b4)
  have Hs4 := hidA (Nat.le_trans Hs3.out b4.size)
  have HL4 := hidA (HL3.out.grow b4 (Nat.lt_of_lt_of_le Hw0.out Hs3.out))
  have HK4 := hidA (HK3.out.grow b4)
  have HB4 := hidA (HB3.out.trans (b4.mono HB3.out.size))
  have HS4 := hidA (HS3.out.grow b4)
  clear hx hy b4 HV1 HV2 HV3 HL3 HK3 HB3 HS3 HMa Hs3
  have hPl : (Od.PT l (kF, kC, kE, kD, kG) sep).length ≤ 1048577 := by unfold Od.PT; simp; omega
  have hWl : (Od.nW l).length ≤ l.length := by
    have h1 := Od.cp_len 45 (l.drop (Od.lead Od.bl l))
    rw [List.length_drop] at h1
    show ((Od.n2 l).take _).length ≤ _
    rw [List.length_take]
    have : (Od.n2 l).length ≤ l.length - Od.lead Od.bl l := h1
    omega
  have hDl : (Od.nD l).length ≤ l.length := by
    have h1 := Od.cp_len 45 (l.drop (Od.lead Od.bl l))
    rw [List.length_drop] at h1
    have h2 : (Od.n2 l).length ≤ l.length - Od.lead Od.bl l := h1
    have h3 : (Od.n3 l).length ≤ (Od.n2 l).length := by show ((Od.n2 l).drop _).length ≤ _; rw [List.length_drop]; omega
    have h4 := Od.cp_len 46 (Od.n3 l)
    unfold Od.nD
    split
    · rw [List.length_take]; omega
    · simp
  have hAl : (Od.LZ (Od.nW l)).length ≤ 1048577 := by have := Od.LZ_len (Od.nW l); omega
  have hRl : (Od.RZ (Od.nD l)).length ≤ 1048577 := by have := Od.RZ_len (Od.nD l); omega
  clear hWl hDl
  generalize Od.PT l (kF, kC, kE, kD, kG) sep = PP at *
  generalize Od.LZ (Od.nW l) = AA at *
  generalize Od.RZ (Od.nD l) = DD at *
  generalize Od.nG l = GG at *
  have r0 := HK4.out.c0
  have r1 := HK4.out.c1
  have r2 := HK4.out.c2
  have r3 := HK4.out.c3
  have r4 := HK4.out.c4
  have hsz := HK4.out.lt
  dsimp only at r0 r1 r2 r3 r4
  have HSr := hidA (fun W (b : Below w4.heap.size w4 W) => HS4.out.grow b)
  have HC1 := hidA (fun W (b : Below w4.heap.size w4 W) => (HP4.out.grow b).text)
  have HC2 := hidA (fun W (b : Below w4.heap.size w4 W) => (HQ4.out.grow b).text)
  have HC3 := hidA (fun W (b : Below w4.heap.size w4 W) => (HR4.out.grow b).text)
  have HC4 := hidA (fun W (b : Below w4.heap.size w4 W) => (HX4.out.grow b).src.text xc)
  have HC5 := hidA (fun W (b : Below w4.heap.size w4 W) => (HY4.out.grow b).src.text yc)
  have HSof := hidA (fun (W : World) (b : Below w4.heap.size w4 W) => (show (fun W' : World => W'.cell? ⟨w.heap.size, 0, none⟩ = some (.int .i64 kF) ∧ W'.cell? ⟨w.heap.size, 1, none⟩ = some (.int .i64 kC) ∧ W'.cell? ⟨w.heap.size, 2, none⟩ = some (.int .i64 kE) ∧ W'.cell? ⟨w.heap.size, 3, none⟩ = some (.int .i64 kD) ∧ W'.cell? ⟨w.heap.size, 4, none⟩ = some (.int .i64 kG) ∧ (convert 22 9 (.slice pa PP.length pc)).run Tryd.prog W' = .ok (.string ⟨PP.toArray⟩) W' ∧ (convert 22 9 (.slice qa AA.length qc)).run Tryd.prog W' = .ok (.string ⟨AA.toArray⟩) W' ∧ (convert 22 9 (.slice ra DD.length rc)).run Tryd.prog W' = .ok (.string ⟨DD.toArray⟩) W' ∧ (convert 22 9 (.slice xa AA.length xc)).run Tryd.prog W' = .ok (.string ⟨AA.toArray⟩) W' ∧ (convert 22 9 (.slice ya DD.length yc)).run Tryd.prog W' = .ok (.string ⟨DD.toArray⟩) W') W from ⟨(HK4.out.grow b).c0, (HK4.out.grow b).c1, (HK4.out.grow b).c2, (HK4.out.grow b).c3, (HK4.out.grow b).c4, HC1.out W b, HC2.out W b, HC3.out W b, HC4.out W b, HC5.out W b⟩))
  go_upto_region 5 with fail
  go_cut [16] (fun v wc => v = .bool true ∧ Hid (Below w4.heap.size w4 wc))
  case first =>
    go_region_held (fun W' : World => W'.cell? ⟨w.heap.size, 0, none⟩ = some (.int .i64 kF) ∧ W'.cell? ⟨w.heap.size, 1, none⟩ = some (.int .i64 kC) ∧ W'.cell? ⟨w.heap.size, 2, none⟩ = some (.int .i64 kE) ∧ W'.cell? ⟨w.heap.size, 3, none⟩ = some (.int .i64 kD) ∧ W'.cell? ⟨w.heap.size, 4, none⟩ = some (.int .i64 kG) ∧ (convert 22 9 (.slice pa PP.length pc)).run Tryd.prog W' = .ok (.string ⟨PP.toArray⟩) W' ∧ (convert 22 9 (.slice qa AA.length qc)).run Tryd.prog W' = .ok (.string ⟨AA.toArray⟩) W' ∧ (convert 22 9 (.slice ra DD.length rc)).run Tryd.prog W' = .ok (.string ⟨DD.toArray⟩) W' ∧ (convert 22 9 (.slice xa AA.length xc)).run Tryd.prog W' = .ok (.string ⟨AA.toArray⟩) W' ∧ (convert 22 9 (.slice ya DD.length yc)).run Tryd.prog W' = .ok (.string ⟨DD.toArray⟩) W') (first | with_reducible exact HSof.out _ (Below.refl _ _) | with_reducible exact HSof.out _ (bl_drew1 _) | with_reducible exact HSof.out _ (bl_drew _ _) | with_reducible exact HSof.out _ HB5.out | with_reducible exact HSof.out _ (bl2 HB5.out (bl_drew1 _)) | with_reducible exact HSof.out _ (bl2 HB5.out (bl_drew _ _)) | go_keep)
      (first
        | (go_at_call 13; with_reducible refine Calls.mono (HRa.out _ _ _ (HSr.out _ (by first | exact Below.refl _ _ | exact bl_drew1 _ | exact bl_drew _ _))) ?_; rintro e w5 ⟨v5, rfl, hv5, b5⟩; obtain ⟨za, zc, rfl⟩ := hv5.slice; have HB5 : Hid (Below w4.heap.size w4 w5) := (by first | exact hidA b5 | exact hidA (bl_dr1 b5) | exact hidA (bl_drN b5)); have HC6 := hidA (fun W (b : Below w5.heap.size w5 W) => (hv5.grow b).text); clear hv5 b5; have hS := HSof.out w5 HB5.out; have d6a := HC6.out w5 (Below.refl _ _); have d6b := HC6.out w5.drew (bl_drew1 w5); have d6c := fun m => HC6.out (w5.drewN m) (bl_drew w5 m)))
    all_goals
      go_wp2_with fail
      go_meet
      exact ⟨rfl, HB5⟩
  case rest =>
  obtain ⟨rfl, HB6⟩ := hcut
  have Hs6 := hidA (Nat.le_trans Hs4.out HB6.out.size)
  have HSp := hidA (Sp3.of (hP := (HP4.out.grow HB6.out)) (hQ := (HQ4.out.grow HB6.out)) (hR := (HR4.out.grow HB6.out)))
  have HB7 := hidA (HB4.out.trans (HB6.out.mono HB4.out.size))
  have HL6 := hidA (HL4.out.grow (HB6.out.mono Hs4.out) Hw0.out)
  have HOs : Hid (Calls Tryd.prog 14 #[.slice (some ⟨wc.heap.size, 0, none⟩) 3 3] (wc.alloc (.cells #[.slice pa PP.length pc, .slice qa AA.length qc, .slice ra DD.length rc] 22)) fun e w' => e = .returned (.tuple #[]) ∧ Below w1.heap.size (wc.alloc (.cells #[.slice pa PP.length pc, .slice qa AA.length qc, .slice ra DD.length rc] 22)) w') := hidA (oSpoil w1.heap.size wc.heap.size 3 [(pa, PP.length, pc), (qa, AA.length, qc), (ra, DD.length, rc)] (by simp) (by intro x hx; simp at hx; rcases hx with rfl | rfl | rfl <;> (dsimp only; omega)) _ HSp.out)
  have HL7 := hidA (HL6.out.grow ((Below.refl wc.heap.size wc).alloc (Nat.le_refl _) (.cells #[.slice pa PP.length pc, .slice qa AA.length qc, .slice ra DD.length rc] 22)) (Nat.lt_of_lt_of_le Hw0.out Hs6.out))
  have HB8 := hidA (HB7.out.alloc HB7.out.size (.cells #[.slice pa PP.length pc, .slice qa AA.length qc, .slice ra DD.length rc] 22))
  clear HC1 HC2 HC3 HC4 HC5 HSof HSr HP4 HQ4 HR4 HX4 HY4 HL4 HK4 HB4 HS4 HL6 HB7 HSp HRa HIn r0 r1 r2 r3 r4 hsz
  go_upto_region 7 with (go_at_call 14; with_reducible refine HOs.out.mono ?_; rintro e w7 ⟨rfl, b7⟩)
  have HL8 := hidA (HL7.out.grow b7 Hw0.out)
  have HB9 := hidA (HB8.out.trans (b7.mono Hw1.out))
  have HS9 := hidA (HS0.out.src.grow HB9.out (Nat.le_refl _))
  have hKe := gKept l a c gL (by omega) w7 HL8.out HS9.out
  rw [← Hl2.out] at hKe
  have HKe := hidA hKe
  clear hKe HOs HL7 HB8 b7
  go_wp2_with (first | (go_at_call 15; with_reducible refine HKe.out.mono ?_; rintro e w8 ⟨rfl, b8⟩) | (go_at_call 16; with_reducible refine (HAw.out _).mono ?_; rintro e w9 ⟨rfl, b9⟩))
  go_ret
  exact ⟨rfl, HB9.out.trans ((bl2 b8 b9).mono HB9.out.size)⟩
end Go.Proofs.YtdjefinehabifaaDoor
