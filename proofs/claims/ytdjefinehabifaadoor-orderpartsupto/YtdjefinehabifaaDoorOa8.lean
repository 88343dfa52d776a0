/- The plain answer's Part. Condition: lengths that fit. -/
import Derived.Test.YtdjefinehabifaaDoorOa7
import Derived.Deep.Cut
import Derived.Deep.DeepCutAuto
namespace Go.Proofs.YtdjefinehabifaaDoor
open Go.RowKit
attribute [local go_sem] ext_eq app_eq get_eq
namespace Od
theorem Kf.setF {g : Nat} {k : K5} {W : World} (h : Kf g k W) (x : Int) : Kf g (x, k.2) (W.setCell ⟨g, 0, none⟩ (.int .i64 x)) where
  lt := by simpa using h.lt
  c0 := by rw [cset h.c0]; simp
  c1 := by rw [cset h.c1]; simp
  c2 := by rw [cset h.c2]; simp
  c3 := by rw [cset h.c3]; simp
  c4 := by rw [cset h.c4]; simp
theorem Kf.setC {g : Nat} {k : K5} {W : World} (h : Kf g k W) (x : Int) : Kf g (k.1, x, k.2.2) (W.setCell ⟨g, 1, none⟩ (.int .i64 x)) where
  lt := by simpa using h.lt
  c0 := by rw [cset h.c0]; simp
  c1 := by rw [cset h.c1]; simp
  c2 := by rw [cset h.c2]; simp
  c3 := by rw [cset h.c3]; simp
  c4 := by rw [cset h.c4]; simp
theorem fd_one (sep : UInt8) (l : List UInt8) {n : Int} (h : n < 1) : fd sep l n = fd sep l 1 := by
  unfold fd
  rw [show (n - 1).toNat = (1 - 1 : Int).toNat by omega]
end Od
theorem By.own {B : Nat} {W : World} {v : Value} {bs : List UInt8} (h : By B W v bs) : W.ownsRow B 5 1 v bs.length (bCs bs) := h
theorem By.fresh (W : World) (B : Nat) (hB : B ≤ W.heap.size) : By B (W.alloc (.cells #[] 5)) (.slice (some ⟨W.heap.size, 0, none⟩) 0 0) [] := by
  refine ⟨?_, .inr ⟨W.heap.size, 0, #[], rfl, hB, heap_new _ _, Nat.le_refl _, by unfold maxLen; omega, by simp, by simp [bCs]⟩⟩
  simp [bCs]
theorem By.of_app {B : Nat} {W : World} {v : Value} {bs cs : List UInt8} (h : W.ownsRow B 5 1 v (bs.length + cs.length) (bCs bs ++ bCs cs)) : By B W v (bs ++ cs) := by
  unfold By
  rw [bCs_append, List.length_append]; exact h
theorem bCs_one (l : List UInt8) : ∀ u ∈ bCs l, u.oneCell' = true := by
  intro u hu
  unfold bCs at hu
  obtain ⟨c, _, rfl⟩ := List.mem_map.1 hu
  rfl
theorem Src.cells_at {W : World} {ad : Addr} {l : List UInt8} (h : Src W (some ad) l) (j : Nat) (u : Value) (hj : (bCs l)[j]? = some u) : W.cell? (ad.add j) = some u := by
  have hlt : j < l.length := by
    have := (List.getElem?_eq_some_iff.1 hj).1
    rwa [bCs_len] at this
  obtain ⟨g, o, e, _, hc⟩ := h j hlt
  cases e
  unfold bCs at hj
  rw [List.getElem?_map, List.getElem?_eq_getElem hlt] at hj
  simp at hj
  subst hj
  rw [show (⟨g, o, none⟩ : Addr).add j = ⟨g, o + j, none⟩ by simp [Addr.add]]; exact hc
set_option maxRecDepth 100000 in
set_option maxHeartbeats 4000000 in
theorem rPart (l : List UInt8) (a : Option Addr) (c : Nat) (k : Od.K5) (sep : UInt8) (hl : l.length ≤ 1048577) (hk : Od.In k) (w : World) (hS : Sr w a c l) : Calls Tryd.prog 13 #[.slice a l.length c, .agg #[.int .i64 k.1, .int .i64 k.2.1, .int .i64 k.2.2.1, .int .i64 k.2.2.2.1, .int .i64 k.2.2.2.2], .int .u8 sep.toNat] w fun e w' => ∃ v, e = .returned v ∧ By w.heap.size w' v (Od.PT l k sep) ∧ Below w.heap.size w w' := by
  obtain ⟨kF, kC, kE, kD, kG⟩ := k
  obtain ⟨h1, h2, h3, h4⟩ := hk
  dsimp only at h1 h2 h3 h4 ⊢
  have HS := hidA hS
  have HP := hidA (fun (n : Int) (sk : Bool) h1 h2 (W : World) hW => rPlace l a c n sep sk hl h1 h2 W hW)
  have HK := hidA (Od.Kf.made w (kF, kC, kE, kD, kG) 24)
  have HB := hidA ((Below.refl w.heap.size w).alloc (Nat.le_refl _) (.cells #[.int .i64 kF, .int .i64 kC, .int .i64 kE, .int .i64 kD, .int .i64 kG] 24))
  clear hS
  go_enter Tryd.func13, Tryd.ntmps13
  have HZ := hidA (show ∀ o, (w.alloc (.cells #[.int .i64 kF, .int .i64 kC, .int .i64 kE, .int .i64 kD, .int .i64 kG] 24)).frozen? ⟨w.heap.size, o, none⟩ = false from fun o => World.frozen?_alloc_at _ _ _ _ rfl)
  go_upto_region 2 with fail
  generalize w.alloc (.cells #[.int .i64 kF, .int .i64 kC, .int .i64 kE, .int .i64 kD, .int .i64 kG] 24) = W0 at *
  have r0 := HK.out.c0
  have r1 := HK.out.c1
  have fr := HZ.out
  have hsz := HK.out.lt
  have hg := Nat.le_refl w.heap.size
  dsimp only at r0 r1
  obtain ⟨skb, hskb⟩ : ∃ b, b = (bits .and .i64 kG 8 != 0) := ⟨_, rfl⟩
  rw [← hskb]
  have hsk : skb = Od.sk (kF, kC, kE, kD, kG) := by
    rw [hskb]; unfold Od.sk; rw [Bool.eq_iff_iff]; simp
  clear hskb
  have Hsk := hidA hsk
  clear hsk
  have hHB := HB
  clear hHB
  have hin := fun n => Od.fd_in sep l n
  go_upto_if 19 with fail
  go_cut [20] (fun _ wc => ∃ F1 : Int, Hid (Od.Kf w.heap.size (F1, kC, kE, kD, kG) wc) ∧ Hid (∀ o, wc.frozen? ⟨w.heap.size, o, none⟩ = false) ∧ 1 ≤ F1 ∧ F1 < 2 ^ 63 ∧ Hid (Od.fd sep l F1 = Od.fd sep l kF) ∧ Hid (Below w.heap.size w wc))
  case first =>
    rcases Int.lt_or_le kF 1 with hF | hF
    · have HK2 := hidA (HK.out.setF 1)
      have HB2 := hidA (HB.out.setCell (p := ⟨w.heap.size, 0, none⟩) hg (.int .i64 1))
      have HF2 := hidA (Od.fd_one sep l hF).symm
      have HZ2 := hidA (show ∀ o, (W0.setCell ⟨w.heap.size, 0, none⟩ (.int .i64 1)).frozen? ⟨w.heap.size, o, none⟩ = false from fun o => by rw [World.frozen?_setCell]; exact HZ.out o)
      go_wp2_with fail
      go_meet
      exact ⟨1, HK2, HZ2, by omega, by omega, HF2, HB2⟩
    · have hF' : ¬ kF < 1 := by omega
      have h0 := h1.2
      go_wp2_with fail
      go_meet
      exact ⟨kF, HK, HZ, hF, h0, hidA rfl, HB⟩
  case rest =>
    obtain ⟨F1, HK1, HZ1, f1, f2, HF3, HB1⟩ := hcut
    clear HK HB HZ r0 fr hsz r1 h1
    have r1 := HK1.out.c1
    have fr := HZ1.out
    have hsz := HK1.out.lt
    dsimp only at r1
    go_upto_if 23 with fail
    go_cut [24] (fun _ wc => ∃ C1 : Int, Hid (Od.Kf w.heap.size (F1, C1, kE, kD, kG) wc) ∧ 1 ≤ C1 ∧ C1 < 2 ^ 63 ∧ Hid (C1 = max kC 1) ∧ Hid (Below w.heap.size w wc))
    case first =>
      rcases Int.lt_or_le kC 1 with hF | hF
      · have HK2 := hidA (HK1.out.setC 1)
        have HB2 := hidA (HB1.out.setCell (p := ⟨w.heap.size, 1, none⟩) hg (.int .i64 1))
        have hm := hidA (show (1 : Int) = max kC 1 by omega)
        go_wp2_with fail
        go_meet
        exact ⟨1, HK2, by omega, by omega, hm, HB2⟩
      · have hF' : ¬ kC < 1 := by omega
        have h0 := h2.2
        have hm := hidA (show kC = max kC 1 by omega)
        go_wp2_with fail
        go_meet
        exact ⟨kC, HK1, hF, h0, hm, HB1⟩
    case rest =>
      obtain ⟨C1, HK2, q1, q2, HC3, HB2⟩ := hcut
      clear HK1 HZ1 HB1 r1 fr hsz h2
      have r0 := HK2.out.c0
      have r1 := HK2.out.c1
      have r2 := HK2.out.c2
      have r3 := HK2.out.c3
      have hsz := HK2.out.lt
      dsimp only at r0 r1 r2 r3
      have HA := hidA (HP.out F1 skb f1 f2 wc (HS.out.src.grow HB2.out (Nat.le_refl _)))
      obtain ⟨T, hT⟩ : ∃ T : Nat, Hid (T = Od.hi l (kF, kC, kE, kD, kG) sep) := ⟨_, hidA rfl⟩
      obtain ⟨A, hA⟩ : ∃ A : Nat, Hid (A = Od.lo l (kF, kC, kE, kD, kG) sep) := ⟨_, hidA rfl⟩
      have hTl : T ≤ l.length := by rw [hT.out]; exact Od.hi_le _ _ _
      have hAl : A ≤ l.length := by rw [hA.out]; exact Od.lo_le _ _ _
      have hPT : Od.PT l (kF, kC, kE, kD, kG) sep = (l.take T).drop (min A T) := by rw [hT.out, hA.out]; rfl
      have HPT := hidA hPT
      clear hPT
      have hA1 := hA.out
      have hT1 := hT.out
      unfold Od.lo at hA1
      unfold Od.hi at hT1
      rw [← Hsk.out] at hA1 hT1
      dsimp only at hA1 hT1
      unfold Od.rc at hA1 hT1
      rw [HF3.out] at HA
      have hsk1 := Od.skip_le skb l (Od.fd sep l kF).1 (Od.fd sep l kF).2 (hin kF).1 (hin kF).2
      rw [← HC3.out] at hA1
      have hE3 := (hin kE).2
      have hsk2 := Od.skip_le skb l (Od.fd sep l kE).1 (Od.fd sep l kE).2 (hin kE).1 (hin kE).2
      have HPE := hidA (fun (h : 0 < kE) (W : World) hW => HP.out kE skb (by omega) h3.2 W hW)
      clear hin HF3 hA hT HC3 HP Hsk h3
      generalize ((Od.fd sep l kF).1 + if skb = true then Od.lead Od.bl ((l.take (Od.fd sep l kF).2).drop (Od.fd sep l kF).1) else 0) = L0 at *
      generalize (Od.fd sep l kF).2 = Y0 at *
      generalize ((Od.fd sep l kE).1 + if skb = true then Od.lead Od.bl ((l.take (Od.fd sep l kE).2).drop (Od.fd sep l kE).1) else 0) = L2 at *
      generalize (Od.fd sep l kE).2 = Y2 at *
      have HA1 := hidA hA1
      have HT1 := hidA hT1
      clear hA1 hT1
      go_upto_region 7 with (go_at_call 35; with_reducible refine HA.out.mono ?_; rintro e w3 ⟨rfl, b3⟩)
      have HK3 := hidA (HK2.out.grow b3)
      have HB3 := hidA (HB2.out.trans (b3.mono HB2.out.size))
      clear HK2 HB2 b3 HA r0 r1 r2 r3 hsz
      have r1 := HK3.out.c1
      have r2 := HK3.out.c2
      have r3 := HK3.out.c3
      have hsz := HK3.out.lt
      dsimp only at r1 r2 r3
      go_upto_if 41 with fail
      go_cut [8] (fun v wc' => w3 = wc' ∧ v = .int .i64 A)
      case first =>
        rcases Int.lt_or_le ((l.length : Int) - (L0 : Int)) (C1 - 1) with hb | hb
        · have hA2 := hidA (show A = l.length by have := HA1.out; omega)
          clear HA1 HT1
          go_wp2_with fail
          go_meet
          exact ⟨rfl, by rw [hA2.out]⟩
        · have hA2 := hidA (show (A : Int) = (L0 : Int) + (C1 - 1) by have := HA1.out; omega)
          have hb' : ¬ ((l.length : Int) - (L0 : Int) < C1 - 1) := by omega
          clear HA1 HT1
          go_wp2_with fail
          go_meet
          exact ⟨rfl, by rw [hA2.out]⟩
      case rest =>
        obtain ⟨rfl, rfl⟩ := hcut
        clear r1 HA1
        go_upto_if 53 with fail
        go_cut [10] (fun v wc' => v = .int .i64 T ∧ Hid (Below w.heap.size w wc'))
        case first =>
          rcases Int.lt_or_le 0 kE with hE | hE
          · have hT2 := HT1.out
            rw [if_pos hE] at hT2
            have HA := hidA (HPE.out hE w3 (HS.out.src.grow HB3.out (Nat.le_refl _)))
            have HT2 := hidA hT2
            clear HT1 hT2 HPE
            go_upto_region 13 with (go_at_call 35; with_reducible refine HA.out.mono ?_; rintro e w4 ⟨rfl, b4⟩)
            have HK4 := hidA (HK3.out.grow b4)
            have HB4 := hidA (HB3.out.trans (b4.mono HB3.out.size))
            clear HK3 HB3 b4 HA r2 r3 hsz
            have r3 := HK4.out.c3
            have hsz := HK4.out.lt
            dsimp only at r3
            rcases Int.lt_or_le 0 kD with hD | hD
            · have hT2 := HT2.out
              rw [if_pos hD] at hT2
              rcases Int.lt_or_le kD ((l.length : Int) - (L2 : Int)) with hb | hb
              · have hA2 := hidA (show (T : Int) = (L2 : Int) + kD by omega)
                clear HT2 hT2
                go_wp2_with fail
                go_meet
                exact ⟨by rw [hA2.out], HB4⟩
              · have hA2 := hidA (show T = l.length by omega)
                have hb' : ¬ (kD < (l.length : Int) - (L2 : Int)) := by omega
                clear HT2 hT2
                go_wp2_with fail
                go_meet
                exact ⟨by rw [hA2.out], HB4⟩
            · have hT2 := HT2.out
              rw [if_neg (by omega)] at hT2
              have hD' : ¬ (0 < kD) := by omega
              have hA2 := hidA hT2
              clear HT2 hT2
              go_wp2_with fail
              go_meet
              exact ⟨by rw [hA2.out], HB4⟩
          · have hT2 := HT1.out
            rw [if_neg (by omega)] at hT2
            have hE' : ¬ (0 < kE) := by omega
            subst hT2
            clear HT1 HPE
            go_wp2_with fail
            go_meet
            exact ⟨rfl, HB3⟩
        case rest =>
          obtain ⟨rfl, HB4⟩ := hcut
          clear r2 r3 hsz HK3 HB3 HPE HT1
          by_cases hTA : T < A
          · have hnil := HPT.out
            rw [List.drop_eq_nil_of_le (by simp; omega)] at hnil
            have HNil := hidA hnil
            have hTAI : (T : Int) < (A : Int) := by omega
            clear HPT hnil HS
            go_wp2_with fail
            go_ret
            exact ⟨_, rfl, by rw [HNil.out]; exact By.nil _ _, HB4.out⟩
          · obtain ⟨a2, c2, hs2, hr2⟩ := sl_mid HS.out A T (by omega) hTl
            have hTAI : ¬ ((T : Int) < (A : Int)) := by omega
            have hP := HPT.out
            rw [show min A T = A by omega] at hP
            have HP2 := hidA hP
            have hrl : ((l.take T).drop A).length ≤ 1048577 := by simp; omega
            clear HPT hP HS
            generalize (l.take T).drop A = r at *
            obtain ⟨iB, hiB, hz0, hz1, hz2⟩ := infoB
            cases a2 with
            | none =>
              have hr0 : r = [] := by
                cases r with
                | nil => rfl
                | cons u t => obtain ⟨_, _, e, _⟩ := hr2.src 0 (by simp); cases e
              subst hr0
              have hc0 := hr2.nil rfl
              subst hc0
              have hs3 : ∀ W : World, (Instr.slice 22 (.slice a l.length c) (some (.int .i64 A)) (some (.int .i64 T)) none).run Tryd.prog W = .ok (.slice none 0 0) W := hs2
              clear hs2
              go_wp2_with fail
              go_ret
              exact ⟨_, rfl, by rw [HP2.out]; exact By.fresh wc _ HB4.out.size, HB4.out.alloc HB4.out.size _⟩
            | some ad =>
              have HR := hidA (hr2.grow HB4.out)
              have HO := hidA (By.fresh wc w.heap.size HB4.out.size)
              have hsz := HB4.out.size
              go_wp2_with (at_builtin; refine wpList_append_own_at _ rfl _ _ 22 rfl w.heap.size 5 iB (.int .u8 0) 1 1 Tryd.underlying22 hiB hz0 hz1 hz2 rfl (by decide) _ _ _ rfl HO.out.own ad r.length c2 (bCs r) rfl (by rw [bCs_len, Nat.mul_one]) (fun j u hj => ((HR.out.grow ((Below.refl _ _).alloc (Nat.le_refl _) _)).src.cells_at j u hj)) (bCs_one r) (by unfold maxLen; simp; omega) (by simp; omega) (by simp; omega) ?_; intro v' w2 hown hg2 _ hat; have HO2 := hidA (By.of_app hown); have HB5 : Hid (Below w.heap.size w w2) := (HB4.out.alloc hsz _).grown hg2 (by simp; omega) (fun k hk => (HO.out.lt k hk).1); clear hown hg2 hat)
              go_ret
              exact ⟨v', rfl, by rw [HP2.out]; exact HO2.out, HB5.out⟩
end Go.Proofs.YtdjefinehabifaaDoor
