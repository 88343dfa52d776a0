/- The walk of InodeBytes. Condition: the library's table is as its initialiser lays it. -/
import Derived.Test.YtgplmgliockbcaaDoorBt1
import Derived.Deep.DeepCutAuto
import Derived.Deep.LoopGhost
namespace Go.Proofs.YtgplmgliockbcaaDoor
open Go.RowKit
theorem bs0 (W : World) : (Instr.buildSlice 37 0 #[]).run Tryd.prog W = .ok (.slice (some ⟨W.heap.size, 0, none⟩) 0 0) (W.alloc (.cells #[] 5)) := by kernel_rfl
theorem und8 : Tryd.prog.underlying 37 = some (.slice 5) := by kernel_rfl
theorem undI8 : Tryd.prog.underlying 3 = some (.int .i64) := by kernel_rfl
theorem hidB {p : Prop} (h : p) : Hid p := h
theorem own_form {W : World} {B : Nat} {v : Value} {L : List Nat} (h : Own8 W B v L) : ∃ pw cw, v = .slice pw L.length cw ∧ ((pw = none ∧ L = [] ∧ cw = 0) ∨ ∃ gw, pw = some ⟨gw, 0, none⟩ ∧ B ≤ gw ∧ L.length ≤ cw ∧ cw ≤ maxLen) := by
  rcases h.2 with ⟨h1, h2⟩ | ⟨g, c, cur, h1, h2, _, h3, h4, _⟩
  · exact ⟨none, 0, by rw [h1, h2], .inl ⟨rfl, List.eq_nil_of_length_eq_zero h2, rfl⟩⟩
  · exact ⟨_, c, h1, .inr ⟨g, rfl, h2, h3, h4⟩⟩
theorem own_some {W : World} {B e n : Nat} {v : Value} {xs : List Value} (h : W.ownsRow B e 1 v n xs) (hv : v ≠ .slice none 0 0) : ∃ g c, v = .slice (some ⟨g, 0, none⟩) n c ∧ B ≤ g := by
  rcases h.2 with ⟨h, _⟩ | ⟨g, c, cur, h1, h2, _⟩
  · exact absurd h hv
  · exact ⟨g, c, h1, h2⟩
theorem fit_600 : fitB 33152 = true := by decide +kernel
theorem one_b8 (L : List Nat) : ∀ u ∈ L.map byteV, u.oneCell' = true := fun u hu => by obtain ⟨x, _, rfl⟩ := List.mem_map.1 hu; rfl
set_option maxRecDepth 100000 in
set_option maxHeartbeats 8000000 in
theorem bytes_walk (a : Option Addr) (len cap : Nat) (w : World) (hT : TabIs w) (hlen : len ≤ maxLen) (hP : ∀ k, k < len → ∃ g o At p bs cp cut, a = some ⟨g, o, none⟩ ∧ PA w g o k At p bs cp cut) : Calls Tryd.prog 6 #[.slice a len cap] w fun e w' => e = .returned (.bool true) ∧ Below w.heap.size w w' := by
  have h0 : 0 < w.heap.size := block_lt_of_cell (hT 0 (by omega))
  have hlen' : len ≤ 9223372036854775807 := by simp only [maxLen] at hlen; omega
  have HT := hidB hT
  have HP := hidB hP
  obtain ⟨i0, hi0, hz0, hz1, hz2⟩ := inf5i
  have HI := hidB (show Tryd.prog.info? 5 = some i0 ∧ i0.zero = some (.int .u8 0) ∧ i0.size = 1 ∧ i0.bytes = 1 from ⟨hi0, hz0, hz1, hz2⟩)
  clear hT hP hi0 hz0 hz1 hz2
  go_enter Tryd.func6, Tryd.ntmps6
  go_wp2_with fail
  refine (tnew_ok 1000 1 w (by omega) (by omega) (by omega) (by omega) HT.out).mono ?_
  rintro e w1 ⟨t, q, b, c, rfl, T1, M1, ht, hq, hb, hc⟩
  have HT1 := hidB T1
  have HM1 := hidB M1
  have HA1 := hidB (show w.heap.size ≤ t ∧ w.heap.size ≤ q ∧ w.heap.size ≤ b ∧ w.heap.size ≤ c from ⟨ht, hq, hb, hc⟩)
  clear T1 M1 ht hq hb hc
  go_wp2_with (go_at_call 8; refine (num_any _ _).mono ?_; rintro e w' ⟨rfl, hw'⟩; rw [hw']; clear hw' w')
  refine (talloc_ok HT1.out 33152 0 0 0 fit_600 (by omega) (by omega) (by omega) rfl (fun j hj => by omega)).mono ?_
  rintro e w2 ⟨rfl, T2, M2⟩
  have HQ := hidB (show BQ w t q b c w2.heap.size from ⟨HA1.out.1, HA1.out.2.1, HA1.out.2.2.1, HA1.out.2.2.2, T2.lt_t, T2.lt_q, T2.S.lt_b, T2.S.lt_c, h0⟩)
  have HB0 := hidB (show BI w w2 t q b c w2.heap.size [] (.slice none 0 0) from ⟨ti_new (by omega) T2, World.ownsRow_nil _ _ _ _, Mod.new_of HM1.out M2 (fun k h => by rw [h]; exact HA1.out.2.1), Nat.le_refl _⟩)
  generalize w2.heap.size = B at *
  clear T2 M2 HT1 HM1 HA1
  go_wp2_with (go_at_call 8; refine (num_any _ _).mono ?_; rintro e w' ⟨rfl, hw'⟩; rw [hw']; clear hw' w')
  go_loopg [6, 37] len (fun gk v x wr => ∃ (k : Nat) (L : List Nat), k ≤ len ∧ gk = len - k ∧ x = .int .i64 k ∧ Hid (BI w wr t q b c B L v))
  case atStart => exact ⟨0, [], by omega, rfl, rfl, HB0⟩
  case round =>
    obtain ⟨k, L, hk, rfl, rfl, HB⟩ := hrel
    clear HB0
    obtain ⟨pw, cw, rfl, hpw⟩ := own_form HB.out.own
    have HPW := hidB hpw
    clear hpw
    by_cases hlt : k < len
    · obtain ⟨g, o, At, p, bs, cp, cut, rfl, hPA⟩ := HP.out k hlt
      have hPA1 := hPA.mod HB.out.md
      have d0 := hPA1.c0
      have d1 := hPA1.c1
      have d2 := hPA1.c2
      have hlt' : (k : Int) < (len : Int) := by omega
      have HPA0 := hidB hPA
      clear hPA
      by_cases hneg : At < 0
      · have HB1 := hidB (HB.out.grow ((Mod.refl _ wr).alloc (.cells #[.int .i64 At, .slice p bs.length cp, .bool cut] 69)))
        clear hPA1
        go_wp2_with fail
        go_roundg (len - (k + 1))
        case measure => omega
        case rel => exact ⟨k + 1, L, by omega, rfl, by go_num, HB1⟩
      · by_cases hbig : 17792 < At
        · have HB1 := hidB (HB.out.grow ((Mod.refl _ wr).alloc (.cells #[.int .i64 At, .slice p bs.length cp, .bool cut] 69)))
          have hdb : decide ((17792 : Int) < At) = true := by simp [hbig]
          have hneg' : 0 ≤ At := by omega
          clear hPA1 hbig hneg
          go_wp2_with fail
          go_roundg (len - (k + 1))
          case measure => omega
          case rel => exact ⟨k + 1, L, by omega, rfl, by go_num, HB1⟩
        · obtain ⟨s, rfl⟩ : ∃ s : Nat, At = (s : Int) := ⟨At.toNat, by omega⟩
          have hs : s ≤ 17792 := by omega
          have hdb : decide ((17792 : Int) < (s : Int)) = false := by simp; omega
          clear hbig hneg
          have HB1 := hidB (HB.out.grow ((Mod.refl _ wr).alloc (.cells #[.int .i64 s, .slice p bs.length cp, .bool cut] 69)))
          have hbp : B ≤ wr.heap.size := HB.out.sz
          have HPA := hidB hPA1
          clear hPA1
          cases cut with
          | true =>
            go_wp2_with fail
            refine (ti_trunc HB1.out.ti s hs).mono ?_
            rintro e w3 ⟨rfl, T3, M3⟩
            have hp3 : w3.cell? ⟨wr.heap.size, 0, none⟩ = some (.int .i64 s) := by
              rw [M3.cell (p := ⟨wr.heap.size, 0, none⟩) (by simp) (by have h1 := HQ.out.b1; have h2 := HQ.out.c1; have h3 := HQ.out.q1; show ¬ (wr.heap.size = b ∨ wr.heap.size = c ∨ wr.heap.size = q); omega), World.cell?_alloc_at _ _ _ _ rfl]; rfl
            have HO3 := hidB (own_mod HB1.out.own M3 (fun k hk h => by have h1 := HQ.out.b1; have h2 := HQ.out.c1; have h3 := HQ.out.q1; omega))
            have HM3 := hidB (Mod.new_of HB1.out.md M3 (fun k h => by have h1 := HQ.out.b0; have h2 := HQ.out.c0; have h3 := HQ.out.q0; omega))
            have hsz3 : B ≤ w3.heap.size := Nat.le_trans HB1.out.sz M3.size
            have HT3 := hidB T3
            have hL17 := HB1.out.ti.2.1
            clear T3 M3 HB1 HB
            go_upto_if 62 with (go_at_call 8; refine (num_any _ _).mono ?_; rintro e w' ⟨rfl, hw'⟩; rw [hw']; clear hw' w')
            go_cut [6] (fun v' wc => w3 = wc ∧ Hid (Own8 w3 B v' (L.take s)))
            case first =>
              by_cases hsl : s < L.length
              · rcases HPW.out with ⟨h1, h2, h3⟩ | ⟨gw, rfl, h2, h3, h4⟩
                · rw [h2] at hsl; cases hsl
                · have hls : (L.take s).length = s := by rw [List.length_take]; omega
                  have HO4 : Hid (Own8 w3 B (.slice (some ⟨gw, 0, none⟩) s cw) (L.take s)) := by
                    show World.ownsRow _ _ _ _ _ _ _
                    rw [hls, List.map_take]
                    exact own_cut HO3.out (by simp) (by omega)
                  have hsl' : (s : Int) < (L.length : Int) := by omega
                  clear HO3 hls
                  go_wp2_with fail
                  go_meet
                  exact ⟨rfl, HO4⟩
              · have HO4 : Hid (Own8 w3 B (.slice pw L.length cw) (L.take s)) := by rw [List.take_of_length_le (by omega)]; exact HO3.out
                have hsl' : ¬ (s : Int) < (L.length : Int) := by omega
                clear HO3
                go_wp2_with fail
                go_meet
                exact ⟨rfl, HO4⟩
            case rest =>
              obtain ⟨rfl, HO4⟩ := hcut
              clear HO3 HPW
              obtain ⟨pw1, cw1, rfl, hpw⟩ := own_form HO4.out
              have HPW := hidB hpw
              clear hpw
              have hls : (L.take s).length ≤ s := by rw [List.length_take]; omega
              have HCE := hidB (cutL_eq L s)
              generalize L.take s = L1 at *
              obtain ⟨m, hm⟩ : ∃ m : Nat, m = s - L1.length := ⟨_, rfl⟩
              have hwr : IntKind.i64.wrap ((s : Int) - (L1.length : Int)) = (m : Int) := by rw [IntKind.wrap_i64]; omega
              rw [← hm] at HCE
              have hq0 := bs0
              have hp3a : (w3.alloc (.cells #[] 5)).cell? ⟨wr.heap.size, 0, none⟩ = some (.int .i64 s) := (World.cell?_alloc_past _ _ _ (block_lt_of_cell hp3)).trans hp3
              go_upto_region 17 with fail
              go_cut [6] (fun v' wc => Hid (Own8 wc B v' (cutL L s)) ∧ Hid (Mod (fun _ => False) w3 wc))
              case first =>
                rcases HPW.out with ⟨rfl, h2, rfl⟩ | ⟨gw, rfl, h2, h3, h4⟩
                · have hm0 : L1.length = 0 := by rw [h2]; rfl
                  have hws : IntKind.i64.wrap (s : Int) = (s : Int) := by rw [IntKind.wrap_i64]; omega
                  have HO5n := hidB (own_fresh w3.drew 5)
                  subst h2
                  go_region_law (first | (refine step_append_nil rfl (.tmp 67) (.tmp 68) 37 rfl 5 i0 und8 HI.out.1 w3.heap.size (by first | (simp [Act.eval]; done) | (simp [Act.eval, Act.put]; done)) (by first | (simp [Act.eval]; done) | (simp [Act.eval, Act.put]; done)) ?_) | (refine step_append_zeros rfl (.tmp 69) (.tmp 74) 37 3 rfl w3.heap.size 5 i0 und8 undI8 HI.out.1 HI.out.2.1 HI.out.2.2.1 HI.out.2.2.2 w3.heap.size 0 0 [] (by first | (simp [Act.eval]; done) | (simp [Act.eval, Act.put]; done)) HO5n.out m (m : Int) rfl (by simp [Act.eval, Act.put, hm]) (by simp only [maxLen]; omega) (by omega) (by simp) ?_; intro v2 w5 ho2 hg2; have HM5 := hidB (Mod.grown (((Mod.refl (fun _ => False) w3).drewN 1).alloc _) hg2 (fun k e => by cases e; exact Nat.le_refl _)); have HO6 := hidB ho2; clear ho2 hg2))
                  all_goals
                    go_wp2_with fail
                    go_meet
                    refine ⟨?_, HM5⟩
                    show World.ownsRow _ _ _ _ _ _ _
                    rw [← HCE.out, List.length_append, List.length_replicate, List.map_append, List.map_replicate]
                    exact own_weaken HO6.out hsz3
                · have HNw := hidB (show ∀ o j u, (L1.map byteV)[j]? = some u → (w3.drew.alloc o).cell? ((⟨gw, 0, none⟩ : Addr).add j) = some u from fun o j u hu => by
                    have h := HO4.out.cells (g := gw) rfl j u hu
                    rw [Addr.add_mid] at h ⊢
                    exact (World.cell?_alloc_past _ _ _ (block_lt_of_cell h)).trans h)
                  clear HO4
                  go_region_law (first | (refine step_append_own rfl (.tmp 67) (.tmp 68) 37 rfl w3.heap.size 5 i0 (.int .u8 0) 1 1 und8 HI.out.1 HI.out.2.1 HI.out.2.2.1 HI.out.2.2.2 rfl (by decide) (.slice (some ⟨w3.heap.size, 0, none⟩) 0 0) 0 [] (by first | (simp [Act.eval]; done) | (simp [Act.eval, Act.put]; done)) (own_fresh w3.drew 5) ⟨gw, 0, none⟩ L1.length cw1 (L1.map byteV) (by first | (simp [Act.eval]; done) | (simp [Act.eval, Act.put]; done)) (by simp) (HNw.out _) (one_b8 _) (by simp only [maxLen]; omega) (by omega) (by simp) ?_; intro v1 w4 ho1 hg1 hiff; rw [Nat.zero_add, List.nil_append] at ho1; obtain ⟨g1, c1, rfl, hgb⟩ := own_some ho1 (fun h => by have h2 := (hiff.1 h).1; cases h2); have HGB := hidB hgb; clear hgb; have HM4 := hidB (Mod.grown (((Mod.refl (fun _ => False) w3).drewN 1).alloc _) hg1 (fun k e => by cases e; exact Nat.le_refl _)); have hp4 : w4.cell? ⟨wr.heap.size, 0, none⟩ = some (.int .i64 s) := (HM4.out.cell (p := ⟨wr.heap.size, 0, none⟩) (block_lt_of_cell hp3) (fun h => h)).trans hp3; have HO5 := hidB ho1; clear ho1 hg1 hiff) | (refine step_append_zeros rfl (.tmp 69) (.tmp 74) 37 3 rfl w3.heap.size 5 i0 und8 undI8 HI.out.1 HI.out.2.1 HI.out.2.2.1 HI.out.2.2.2 g1 L1.length c1 _ (by first | (simp [Act.eval]; done) | (simp [Act.eval, Act.put]; done)) HO5.out m (m : Int) rfl (by simp [Act.eval, Act.put, hm]) (by simp only [maxLen]; omega) (by omega) HM4.out.size ?_; intro v2 w5 ho2 hg2; have HM5 := hidB (HM4.out.grown hg2 (fun k e => by cases e; exact HGB.out)); have HO6 := hidB ho2; clear ho2 hg2))
                  all_goals
                    go_wp2_with fail
                    go_meet
                    refine ⟨?_, HM5⟩
                    show World.ownsRow _ _ _ _ _ _ _
                    rw [← HCE.out, List.length_append, List.length_replicate, List.map_append, List.map_replicate]
                    exact own_weaken HO6.out hsz3
              case rest =>
                obtain ⟨HO7, HM7⟩ := hcut
                have HB7 := hidB (show BI w _ t q b c B (cutL L s) _ from ⟨HT3.out.keep HM7.out (fun h => h) (fun h => h) (fun h => h) (fun h => h) (fun h => h), HO7.out, HM3.out.trans HM7.out, Nat.le_trans hsz3 HM7.out.size⟩)
                clear HO7 HM7 HM3 HT3
                go_wp2_with fail
                go_roundg (len - (k + 1))
                case measure => omega
                case rel => exact ⟨k + 1, cutL L s, by omega, rfl, by go_num, HB7⟩
          | false =>
            obtain ⟨r, hr1, hr2⟩ : ∃ r : Nat, r + s ≤ 17792 ∧ 17792 ≤ r + s := ⟨17792 - s, by omega, by omega⟩
            have hwr : IntKind.i64.wrap ((17792 : Int) - (s : Int)) = (r : Int) := by rw [IntKind.wrap_i64]; omega
            obtain ⟨n, hn1, hn2, hn3⟩ : ∃ n : Nat, n ≤ bs.length ∧ n ≤ r ∧ (bs.length ≤ n ∨ r ≤ n) := ⟨min bs.length r, by omega, by omega, by omega⟩
            have HN3 := hidB hn3
            clear hn3
            have hbl : bs.length ≤ 9223372036854775807 := by have h1 := HPA.out.le; have h2 := HPA.out.cm; simp only [maxLen] at h2; omega
            go_upto_if 83 with fail
            go_cut [9] (fun x wc => (wr.alloc (.cells #[.int .i64 s, .slice p bs.length cp, .bool false] 69)) = wc ∧ x = .int .i64 n)
            case first =>
              by_cases hrl : r < bs.length
              · obtain rfl : r = n := by have := HN3.out; omega
                have hrl' : (r : Int) < (bs.length : Int) := by omega
                clear HN3
                go_wp2_with fail
                go_meet
                exact ⟨rfl, rfl⟩
              · obtain rfl : n = bs.length := by have := HN3.out; omega
                have hrl' : ¬ (r : Int) < (bs.length : Int) := by omega
                clear HN3
                go_wp2_with fail
                go_meet
                exact ⟨rfl, rfl⟩
            case rest =>
              obtain ⟨rfl, rfl⟩ := hcut
              by_cases hn0 : n = 0
              · have hz : ((n : Int) == 0) = true := by rw [hn0]; rfl
                go_wp2_with fail
                refine (ti_none HB1.out.ti s bs.length cp p (by have := HN3.out; omega)).mono ?_
                rintro e w3 ⟨⟨x, y, rfl⟩, hw3⟩
                rw [hw3]; clear hw3 w3
                go_wp2_with fail
                go_roundg (len - (k + 1))
                case measure => omega
                case rel => exact ⟨k + 1, L, by omega, rfl, by go_num, HB1⟩
              · have hz : ((n : Int) == 0) = false := by rw [beq_eq_false_iff_ne]; omega
                have hbn : bs ≠ [] := fun h => by rw [h] at hn1; simp at hn1; omega
                obtain ⟨pg, po, rfl, hsr⟩ := HPA0.out.at_ hbn
                have hbpos : 0 < bs.length := by omega
                have hpg : pg < w.heap.size := by
                  obtain ⟨x, hx⟩ : ∃ x, bs[0]? = some x := ⟨_, List.getElem?_eq_getElem hbpos⟩
                  exact block_lt_of_cell (hsr 0 x hx)
                have HSr := hidB (show Src w pg po bs from ⟨hsr, HPA.out.b8⟩)
                have hcc := HPA.out.le
                have hcm := HPA.out.cm
                have hcm' : cp ≤ 9223372036854775807 := by simp only [maxLen] at hcm; omega
                clear hsr hbn
                go_wp2_with fail
                refine (ti_write HB1.out.ti s pg po cp n bs hbpos (by omega) hcc hcm' (HSr.out.keep HB1.out.md (fun h => h)) (by have h1 := HQ.out.b0; omega) (by have h1 := HQ.out.c0; omega) (by have h1 := HQ.out.q0; omega) (by have := HN3.out; omega)).mono ?_
                rintro e w3 ⟨rfl, T3, M3⟩
                have hnb : ¬ (wr.heap.size = b ∨ wr.heap.size = c ∨ wr.heap.size = q) := by have h1 := HQ.out.b1; have h2 := HQ.out.c1; have h3 := HQ.out.q1; omega
                have hp3 : w3.cell? ⟨wr.heap.size, 0, none⟩ = some (.int .i64 s) := by
                  rw [M3.cell (p := ⟨wr.heap.size, 0, none⟩) (by simp) hnb, World.cell?_alloc_at _ _ _ _ rfl]; rfl
                have hp3t : w3.cell? ⟨wr.heap.size, 1, none⟩ = some (.slice (some ⟨pg, po, none⟩) bs.length cp) := by
                  rw [M3.cell (p := ⟨wr.heap.size, 1, none⟩) (by simp) hnb, World.cell?_alloc_at _ _ _ _ rfl]; rfl
                have HO3 := hidB (own_mod HB1.out.own M3 (fun k hk h => by have h1 := HQ.out.b1; have h2 := HQ.out.c1; have h3 := HQ.out.q1; omega))
                have HM3 := hidB (Mod.new_of HB1.out.md M3 (fun k h => by have h1 := HQ.out.b0; have h2 := HQ.out.c0; have h3 := HQ.out.q0; omega))
                have hsz3 : B ≤ w3.heap.size := Nat.le_trans HB1.out.sz M3.size
                have HT3 := hidB T3
                have hL17 := HB1.out.ti.2.1
                obtain ⟨E, hE⟩ : ∃ E : Nat, E = s + n := ⟨_, rfl⟩
                have HEE := hidB hE
                have hE1 : E ≤ s + n := by omega
                have hE2 : s + n ≤ E := by omega
                have hwe : IntKind.i64.wrap ((s : Int) + (n : Int)) = (E : Int) := by rw [IntKind.wrap_i64]; omega
                clear T3 M3 HB1 HB hnb HPA0 hE
                go_upto_if 113 with (go_at_call 8; refine (num_any _ _).mono ?_; rintro e w' ⟨rfl, hw'⟩; rw [hw']; clear hw' w')
                go_cut [6] (fun v' wc => Hid (Own8 wc B v' (L ++ List.replicate (E - L.length) 0)) ∧ Hid (Mod (fun _ => False) w3 wc))
                case first =>
                  by_cases hgt : L.length < E
                  · have hgt' : (L.length : Int) < (E : Int) := by omega
                    obtain ⟨m, hm⟩ : ∃ m : Nat, m = E - L.length := ⟨_, rfl⟩
                    have HMM := hidB hm
                    have hm1 : m + L.length ≤ E := by omega
                    have hm2 : E ≤ m + L.length := by omega
                    have hwm : IntKind.i64.wrap ((E : Int) - (L.length : Int)) = (m : Int) := by rw [IntKind.wrap_i64]; omega
                    have hq0 := bs0
                    have hp3a : (w3.alloc (.cells #[] 5)).cell? ⟨wr.heap.size, 0, none⟩ = some (.int .i64 s) := (World.cell?_alloc_past _ _ _ (block_lt_of_cell hp3)).trans hp3
                    clear hm
                    rcases HPW.out with ⟨rfl, rfl, rfl⟩ | ⟨gw, rfl, h2, h3, h4⟩
                    · have HO5n := hidB (own_fresh w3.drew 5)
                      have hws : IntKind.i64.wrap (E : Int) = (m : Int) := by rw [IntKind.wrap_i64]; simp at hm1 hm2; omega
                      go_wp2_with fail
                      go_region_law (first | (refine step_append_nil rfl (.tmp 114) (.tmp 115) 37 rfl 5 i0 und8 HI.out.1 w3.heap.size (by first | (simp [Act.eval]; done) | (simp [Act.eval, Act.put]; done)) (by first | (simp [Act.eval]; done) | (simp [Act.eval, Act.put]; done)) ?_) | (refine step_append_zeros rfl (.tmp 116) (.tmp 123) 37 3 rfl w3.heap.size 5 i0 und8 undI8 HI.out.1 HI.out.2.1 HI.out.2.2.1 HI.out.2.2.2 w3.heap.size 0 0 [] (by first | (simp [Act.eval]; done) | (simp [Act.eval, Act.put]; done)) HO5n.out m (m : Int) rfl (by first | (simp [Act.eval, Act.put]; done) | (simp [Act.eval, Act.put, hwe, hwm]; done) | (simp [Act.eval, Act.put, hwe, hws]; done)) (by simp only [maxLen]; omega) (by omega) (by simp) ?_; intro v2 w5 ho2 hg2; have HM5 := hidB (Mod.grown (((Mod.refl (fun _ => False) w3).drewN 1).alloc _) hg2 (fun k e => by cases e; exact Nat.le_refl _)); have HO6 := hidB ho2; clear ho2 hg2))
                      all_goals
                        go_wp2_with fail
                        go_meet
                        refine ⟨?_, HM5⟩
                        show World.ownsRow _ _ _ _ _ _ _
                        rw [← HMM.out, List.length_append, List.length_replicate, List.map_append, List.map_replicate]
                        exact own_weaken HO6.out hsz3
                    · have HNw := hidB (show ∀ o j u, (L.map byteV)[j]? = some u → (w3.drew.alloc o).cell? ((⟨gw, 0, none⟩ : Addr).add j) = some u from fun o j u hu => by
                        have h := HO3.out.cells (g := gw) rfl j u hu
                        rw [Addr.add_mid] at h ⊢
                        exact (World.cell?_alloc_past _ _ _ (block_lt_of_cell h)).trans h)
                      clear HO3
                      go_wp2_with fail
                      go_region_law (first | (refine step_append_own rfl (.tmp 114) (.tmp 115) 37 rfl w3.heap.size 5 i0 (.int .u8 0) 1 1 und8 HI.out.1 HI.out.2.1 HI.out.2.2.1 HI.out.2.2.2 rfl (by decide) (.slice (some ⟨w3.heap.size, 0, none⟩) 0 0) 0 [] (by first | (simp [Act.eval]; done) | (simp [Act.eval, Act.put]; done)) (own_fresh w3.drew 5) ⟨gw, 0, none⟩ L.length cw (L.map byteV) (by first | (simp [Act.eval]; done) | (simp [Act.eval, Act.put]; done)) (by simp) (HNw.out _) (one_b8 _) (by simp only [maxLen]; omega) (by omega) (by simp) ?_; intro v1 w4 ho1 hg1 hiff; rw [Nat.zero_add, List.nil_append] at ho1; obtain ⟨g1, c1, rfl, hgb⟩ := own_some ho1 (fun h => by have h2 := (hiff.1 h).1; cases h2); have HGB := hidB hgb; clear hgb; have HM4 := hidB (Mod.grown (((Mod.refl (fun _ => False) w3).drewN 1).alloc _) hg1 (fun k e => by cases e; exact Nat.le_refl _)); have hp4 : w4.cell? ⟨wr.heap.size, 0, none⟩ = some (.int .i64 s) := (HM4.out.cell (p := ⟨wr.heap.size, 0, none⟩) (block_lt_of_cell hp3) (fun h => h)).trans hp3; have HO5 := hidB ho1; clear ho1 hg1 hiff) | (refine step_append_zeros rfl (.tmp 116) (.tmp 123) 37 3 rfl w3.heap.size 5 i0 und8 undI8 HI.out.1 HI.out.2.1 HI.out.2.2.1 HI.out.2.2.2 g1 L.length c1 _ (by first | (simp [Act.eval]; done) | (simp [Act.eval, Act.put]; done)) HO5.out m (m : Int) rfl (by first | (simp [Act.eval, Act.put]; done) | (simp [Act.eval, Act.put, hwe, hwm]; done) | (simp [Act.eval, Act.put, hwe, hws]; done)) (by simp only [maxLen]; omega) (by omega) HM4.out.size ?_; intro v2 w5 ho2 hg2; have HM5 := hidB (HM4.out.grown hg2 (fun k e => by cases e; exact HGB.out)); have HO6 := hidB ho2; clear ho2 hg2))
                      all_goals
                        go_wp2_with fail
                        go_meet
                        refine ⟨?_, HM5⟩
                        show World.ownsRow _ _ _ _ _ _ _
                        rw [← HMM.out, List.length_append, List.length_replicate, List.map_append, List.map_replicate]
                        exact own_weaken HO6.out hsz3
                  · have hgt' : ¬ (L.length : Int) < (E : Int) := by omega
                    have HO4 : Hid (Own8 w3 B (.slice pw L.length cw) (L ++ List.replicate (E - L.length) 0)) := by rw [show E - L.length = 0 by omega, List.replicate_zero, List.append_nil]; exact HO3.out
                    clear HO3
                    go_wp2_with fail
                    go_meet
                    exact ⟨HO4, Mod.refl _ w3⟩
                case rest =>
                  obtain ⟨HO8, HM8⟩ := hcut
                  clear HO3 HPW
                  have hl1 : (L ++ List.replicate (E - L.length) 0).length = max L.length E := by simp; omega
                  have HWE := hidB (wrL_eq L bs s n (by omega))
                  rw [← HEE.out] at HWE
                  generalize L ++ List.replicate (E - L.length) 0 = L1 at *
                  have hla : E ≤ L1.length := by omega
                  have hlb : L1.length ≤ 17792 := by omega
                  have HL1 := hidB hl1
                  clear hl1
                  obtain ⟨pw1, cw1, rfl, hpw⟩ := own_form HO8.out
                  rcases hpw with ⟨rfl, rfl, rfl⟩ | ⟨gw, rfl, h2, h3, h4⟩
                  · simp at hla; omega
                  · obtain ⟨cur, hcur, hcs, hct⟩ : ∃ cur : List Value, wc.heap[gw]? = some (.cells cur.toArray 5 (0, 0)) ∧ cur.length = cw1 ∧ cur.take L1.length = L1.map byteV := by
                      rcases HO8.out.2 with ⟨h, _⟩ | ⟨g', c', cur, e1, _, e3, _, _, e6, e7⟩
                      · cases h
                      · cases e1
                        exact ⟨cur.toList, by simpa using e3, by simpa using e6, by simpa using e7⟩
                    have HCu := hidB (show wc.heap[gw]? = some (.cells cur.toArray 5 (0, 0)) ∧ cur.length = cw1 ∧ cur.take L1.length = L1.map byteV from ⟨hcur, hcs, hct⟩)
                    clear hcur hcs hct HO8
                    have hp5 : wc.cell? ⟨wr.heap.size, 0, none⟩ = some (.int .i64 s) := (HM8.out.cell (p := ⟨wr.heap.size, 0, none⟩) (block_lt_of_cell hp3) (fun h => h)).trans hp3
                    have hp5t : wc.cell? ⟨wr.heap.size, 1, none⟩ = some (.slice (some ⟨pg, po, none⟩) bs.length cp) := (HM8.out.cell (p := ⟨wr.heap.size, 1, none⟩) (block_lt_of_cell hp3t) (fun h => h)).trans hp3t
                    have HS8 := hidB (show Src wc pg po bs from HSr.out.keep (HM3.out.trans HM8.out) (fun h => h))
                    have HT8 := hidB (HT3.out.keep HM8.out (fun h => h) (fun h => h) (fun h => h) (fun h => h) (fun h => h))
                    have HM9 := hidB (HM3.out.trans HM8.out)
                    have hsz8 : B ≤ wc.heap.size := Nat.le_trans hsz3 HM8.out.size
                    clear HSr HT3 HM3 HM8 hp3 hp3t
                    have hcwE : ¬ cw1 = s := by omega
                    have hncp : n ≤ cp := by omega
                    have hsl : s ≤ L1.length := by omega
                    have HBd := hidB (show Below B wc wc.drew from ⟨rfl, rfl, rfl, Nat.le_refl _, fun _ _ => rfl⟩)
                    have hbt : (bs.take n).length = n := by rw [List.length_take]; omega
                    have HNc := hidB (show ((bs.take n).map byteV).length = Nat.min n (L1.length - s) from by rw [List.length_map, hbt]; exact (Nat.min_eq_left (by omega)).symm)
                    have HSc := hidB (show ∀ j v, ((bs.take n).map byteV)[j]? = some v → wc.drew.cell? ((⟨pg, po, none⟩ : Addr).add j) = some v from fun j v hv => by
                      have h := HS8.out.part 0 n j v (by simpa using hv)
                      simpa using h)
                    go_wp2_with fail
                    go_region_law (refine step_copy_splice rfl (.tmp 128) (.tmp 132) 37 37 rfl 5 und8 (by kernel_rfl) (some ⟨gw, s, none⟩) (some ⟨pg, po, none⟩) (L1.length - s) (cw1 - s) n cp (by simp [Act.eval, Act.put]) (by simp [Act.eval, Act.put]) gw s cur 5 HCu.out.1 ((bs.take n).map byteV) HNc.out (fun _ => ⟨rfl, _, rfl, HSc.out⟩) (by rw [List.length_map, hbt, HCu.out.2.1]; omega) (one_b8 _) B wc HBd.out h2 ?_; intro w6 HG6 hB6)
                    all_goals
                      have hM6 : Mod (fun k => B ≤ k) wc w6 := ⟨hB6.os, hB6.tape, hB6.output, hB6.size, fun k _ hn => hB6.block k (by omega)⟩
                      have hq1 := HQ.out.t0
                      have hq2 := HQ.out.t1
                      have hq3 := HQ.out.q1
                      have hq4 := HQ.out.b1
                      have hq5 := HQ.out.c1
                      have hq6 := HQ.out.g1
                      have HB9 := hidB (show BI w w6 t q b c B (wrL L bs s n) (.slice (some ⟨gw, 0, none⟩) L1.length cw1) from ⟨HT8.out.keep hM6 (by omega) (by omega) (by omega) (by omega) (by omega), by rw [← HWE.out]; exact own_splice HCu.out.2.1 HCu.out.2.2 h2 h3 h4 (by omega) hbt HG6.out, Mod.new_of HM9.out hM6 (fun k h => by omega), Nat.le_trans hsz8 hB6.size⟩)
                      clear hM6 hq1 hq2 hq3 hq4 hq5 hq6 HG6 hB6 HCu HT8 HM9 HS8 HSc HNc HBd
                      go_wp2_with fail
                      go_roundg (len - (k + 1))
                      case measure => omega
                      case rel => exact ⟨k + 1, wrL L bs s n, by omega, rfl, by go_num, HB9⟩
    · obtain rfl : k = len := by omega
      clear HP HPW
      go_wp2_with fail
      refine (ti_read HB.out.ti).mono ?_
      rintro e w3 ⟨v, rfl, hb3, M3⟩
      have HV3 := hidB hb3
      have HB3 := hidB (HB.out.grow M3)
      clear hb3 M3 HB
      go_wp2_with fail
      refine (ti_stat HB3.out.ti).mono ?_
      rintro e w4 ⟨F, bl, hF, rfl, M4⟩
      unfold statW
      rw [hF]
      have HM5 := hidB (show ∀ o, Mod (fun _ => False) w3 (w4.alloc o) from fun o => M4.alloc o)
      have HV5 := hidB (show ∀ o, BytesAt (w4.alloc o) v L from fun o => bytes_mod HV3.out (HM5.out o))
      have HW5 := hidB (show ∀ o, BytesAt (w4.alloc o) (.slice pw L.length cw) L from fun o => own_bytes (HB3.out.grow (HM5.out o)).own HB3.out.ti.2.2)
      have HT5 := hidB (show ∀ o, TabIs (w4.alloc o) from fun o => HT.out.keep ((HB3.out.md.trans (HM5.out o)).block 0 h0 (fun h => h)))
      have HD5 := hidB (show ∀ o, Mod (fun _ => False) w (w4.alloc o) from fun o => HB3.out.md.trans (HM5.out o))
      clear M4 hF HV3 HB3 HM5
      go_wp2_with (first | (go_at_call 8; refine (num_any _ _).mono ?_; rintro e w' ⟨rfl, hw'⟩; rw [hw']; clear hw' w') | (go_at_call 32; refine (same_true (HV5.out _) (HW5.out _)).mono ?_; rintro e w' ⟨rfl, hw'⟩; rw [hw']; clear hw' w') | (go_at_call 9; refine (awake_true _ (HT5.out _)).mono ?_; rintro e w' ⟨rfl, hm⟩))
      go_ret
      exact ⟨rfl, ((HD5.out _).trans hm).below0⟩
end Go.Proofs.YtgplmgliockbcaaDoor
