/- The walk of TreeNone: a file system that no call made, nil and zero. Conditions: the library's table is as its initialiser lays it; layer 6's example. -/
import Derived.Test.YtpohjgnfndgniaaGreatDoorTn4p
namespace Go.Proofs.YtpohjgnfndgniaaGreatDoor
open Go.RowKit
theorem num6n (x : Int) (w : World) : Calls Tryz.prog 9 #[.int .i64 x] w fun e w' => e = .returned (.int .i64 x) ∧ w' = w := by
  go_enter Tryz.func9, Tryz.ntmps9
  go_wp2
  go_ret
  exact ⟨rfl, rfl⟩
theorem put_lit (l : List Value) (ds : List Deferred) (k : Nat) (v : Value) : Act.put ⟨l.toArray, ds⟩ (some k) v = ⟨(l.set k v).toArray, ds⟩ := by simp [Act.put]
theorem wp_gen11 {P : Program} {Q : Exit → Act → World → Prop} {id : Nat} {b : Bool} {ops : Array Oper} {a : Act} {w : World} (h : ∀ OPS, ops = OPS → (Code.region id OPS b).wp P Q a w) : (Code.region id ops b).wp P Q a w := h ops rfl
set_option maxRecDepth 100000 in
set_option maxHeartbeats 16000000 in
theorem none6_walk (c0 : Value) (u g : Int) (ga : Option Addr) (gn gc : Nat) (um cw : Int) (sp sq : ByteArray) (za zb zm : Int) (ta : Option Addr) (tn tc : Nat) (ta1 tb1 : Int) (fo : Bool) (w : World) (hT : TabIs w)
    (hEn : ∀ (f : Value) (w : World), NoF f w → ∀ x : Int, Calls Tryz.prog 27 #[f, .int .i64 x] w fun e w' => e = .returned (.tuple #[.slice none 0 0, .int .i64 14]) ∧ Mod (fun _ => False) w w')
    (hAw : ∀ W, TabIs W → Calls Tryz.prog 36 #[] W fun e w' => e = .returned (.bool true) ∧ Mod (fun _ => False) W w') :
    Calls Tryz.prog 3 #[.agg #[c0, .int .i64 u, .int .i64 g, .slice ga gn gc, .int .i64 um, .int .i64 cw, .string sp, .string sq, .int .i64 za, .int .i64 zb, .int .i64 zm, .slice ta tn tc, .int .i64 ta1, .int .i64 tb1, .bool fo]] w fun e w' => e = .returned (.bool true) ∧ Mod (fun _ => False) w w' := by
  have HT := hid6 hT
  have HAw := hid6 hAw
  have HEn := hid6 hEn
  clear hT hAw hEn
  go_enter Tryz.func3, Tryz.ntmps3
  go_wp2_with fail
  have HM0 := hid6 (show Mod (fun _ => False) w (((w.alloc (.cells #[c0, .int .i64 u, .int .i64 g, .slice ga gn gc, .int .i64 um, .int .i64 cw, .string sp, .string sq, .int .i64 za, .int .i64 zb, .int .i64 zm, .slice ta tn tc, .int .i64 ta1, .int .i64 tb1, .bool fo] 28)).alloc (.cells #[.pointer none] 32)).alloc (.cells #[.pointer none, .pointer (some ⟨w.heap.size + 1, 0, none⟩)] 29)) from (((Mod.refl _ w).alloc _).alloc _).alloc _)
  have hO : ∀ j, (((w.alloc (.cells #[c0, .int .i64 u, .int .i64 g, .slice ga gn gc, .int .i64 um, .int .i64 cw, .string sp, .string sq, .int .i64 za, .int .i64 zb, .int .i64 zm, .slice ta tn tc, .int .i64 ta1, .int .i64 tb1, .bool fo] 28)).alloc (.cells #[.pointer none] 32)).alloc (.cells #[.pointer none, .pointer (some ⟨w.heap.size + 1, 0, none⟩)] 29)).cell? ⟨w.heap.size, j, none⟩ = (#[c0, .int .i64 u, .int .i64 g, .slice ga gn gc, .int .i64 um, .int .i64 cw, .string sp, .string sq, .int .i64 za, .int .i64 zb, .int .i64 zm, .slice ta tn tc, .int .i64 ta1, .int .i64 tb1, .bool fo] : Array Value)[j]? := fun j => by
    rw [World.cell?_alloc_past _ _ _ (by simp <;> omega), World.cell?_alloc_past _ _ _ (by simp), World.cell?_alloc_at _ _ _ _ rfl]
  have hZ : (((w.alloc (.cells #[c0, .int .i64 u, .int .i64 g, .slice ga gn gc, .int .i64 um, .int .i64 cw, .string sp, .string sq, .int .i64 za, .int .i64 zb, .int .i64 zm, .slice ta tn tc, .int .i64 ta1, .int .i64 tb1, .bool fo] 28)).alloc (.cells #[.pointer none] 32)).alloc (.cells #[.pointer none, .pointer (some ⟨w.heap.size + 1, 0, none⟩)] 29)).cell? ⟨w.heap.size + 1, 0, none⟩ = some (.pointer none) := by
    rw [World.cell?_alloc_past _ _ _ (by simp), World.cell?_alloc_at _ _ _ _ (by simp)]; rfl
  have hL : ∀ j, (((w.alloc (.cells #[c0, .int .i64 u, .int .i64 g, .slice ga gn gc, .int .i64 um, .int .i64 cw, .string sp, .string sq, .int .i64 za, .int .i64 zb, .int .i64 zm, .slice ta tn tc, .int .i64 ta1, .int .i64 tb1, .bool fo] 28)).alloc (.cells #[.pointer none] 32)).alloc (.cells #[.pointer none, .pointer (some ⟨w.heap.size + 1, 0, none⟩)] 29)).cell? ⟨w.heap.size + 2, j, none⟩ = (#[.pointer none, .pointer (some ⟨w.heap.size + 1, 0, none⟩)] : Array Value)[j]? := fun j => by
    rw [World.cell?_alloc_at _ _ _ _ (by simp)]
  have hsz : (((w.alloc (.cells #[c0, .int .i64 u, .int .i64 g, .slice ga gn gc, .int .i64 um, .int .i64 cw, .string sp, .string sq, .int .i64 za, .int .i64 zb, .int .i64 zm, .slice ta tn tc, .int .i64 ta1, .int .i64 tb1, .bool fo] 28)).alloc (.cells #[.pointer none] 32)).alloc (.cells #[.pointer none, .pointer (some ⟨w.heap.size + 1, 0, none⟩)] 29)).heap.size = w.heap.size + 3 := by simp
  generalize (((w.alloc (.cells #[c0, .int .i64 u, .int .i64 g, .slice ga gn gc, .int .i64 um, .int .i64 cw, .string sp, .string sq, .int .i64 za, .int .i64 zb, .int .i64 zm, .slice ta tn tc, .int .i64 ta1, .int .i64 tb1, .bool fo] 28)).alloc (.cells #[.pointer none] 32)).alloc (.cells #[.pointer none, .pointer (some ⟨w.heap.size + 1, 0, none⟩)] 29)) = W0 at *
  generalize hB : w.heap.size = B at *
  have HD := hid6 (show ∀ W, Mod (fun _ => False) W0 W → (W.cell? ⟨B, 1, none⟩ = some (.int .i64 u) ∧ W.cell? ⟨B, 2, none⟩ = some (.int .i64 g) ∧ W.cell? ⟨B, 3, none⟩ = some (.slice ga gn gc) ∧ W.cell? ⟨B, 4, none⟩ = some (.int .i64 um) ∧ W.cell? ⟨B, 5, none⟩ = some (.int .i64 cw) ∧ W.cell? ⟨B, 6, none⟩ = some (.string sp) ∧ W.cell? ⟨B, 7, none⟩ = some (.string sq) ∧ W.cell? ⟨B, 8, none⟩ = some (.int .i64 za) ∧ W.cell? ⟨B, 9, none⟩ = some (.int .i64 zb) ∧ W.cell? ⟨B, 10, none⟩ = some (.int .i64 zm) ∧ W.cell? ⟨B, 11, none⟩ = some (.slice ta tn tc) ∧ W.cell? ⟨B, 12, none⟩ = some (.int .i64 ta1) ∧ W.cell? ⟨B, 13, none⟩ = some (.int .i64 tb1) ∧ W.cell? ⟨B, 14, none⟩ = some (.bool fo)) from fun W hM =>
    have k : ∀ j, W.cell? ⟨B, j, none⟩ = W0.cell? ⟨B, j, none⟩ := fun j => hM.cell (p := ⟨B, j, none⟩) (by show B < W0.heap.size; omega) (fun e => e)
    ⟨(k 1).trans (hO 1), (k 2).trans (hO 2), (k 3).trans (hO 3), (k 4).trans (hO 4), (k 5).trans (hO 5), (k 6).trans (hO 6), (k 7).trans (hO 7), (k 8).trans (hO 8), (k 9).trans (hO 9), (k 10).trans (hO 10), (k 11).trans (hO 11), (k 12).trans (hO 12), (k 13).trans (hO 13), (k 14).trans (hO 14)⟩)
  have HL := hid6 (show ∀ W, Mod (fun _ => False) W0 W → ∀ j, W.cell? ⟨B + 2, j, none⟩ = (#[.pointer none, .pointer (some ⟨B + 1, 0, none⟩)] : Array Value)[j]? from fun W hM j => (hM.cell (p := ⟨B + 2, j, none⟩) (by show B + 2 < W0.heap.size; omega) (fun e => e)).trans (hL j))
  have HZ := hid6 (show ∀ W, Mod (fun _ => False) W0 W → NoF (.pointer (some ⟨B + 1, 0, none⟩)) W from fun W hM => noF_zero W (B + 1) ((hM.cell (p := ⟨B + 1, 0, none⟩) (by show B + 1 < W0.heap.size; omega) (fun e => e)).trans hZ))
  clear hO hZ hL hsz
  go_loopg [32] 2 (fun gh i wr => ∃ k : Nat, k ≤ 2 ∧ gh = 2 - k ∧ i = .int .i64 k ∧ Hid (Mod (fun _ => False) W0 wr))
  case atStart => exact ⟨0, by omega, rfl, rfl, Mod.refl _ _⟩
  case round =>
    obtain ⟨k, hk, rfl, rfl, HMc⟩ := hrel
    by_cases hlt : k < 2
    · have hlt' : (k : Int) < 2 := by omega
      obtain ⟨pv, hpv, HP⟩ : ∃ pv, wr.cell? ⟨B + 2, k, none⟩ = some (.pointer pv) ∧ Hid (∀ W, Mod (fun _ => False) W0 W → NoF (.pointer pv) W) := by
        have h2 : k = 0 ∨ k = 1 := by omega
        rcases h2 with rfl | rfl
        · exact ⟨none, HL.out _ HMc.out 0, fun W _ => noF_nil W⟩
        · exact ⟨some ⟨B + 1, 0, none⟩, HL.out _ HMc.out 1, HZ.out⟩
      obtain ⟨d1, d2, d3, d4, d5, d6, d7, d8, d9, d10, d11, d12, d13, d14⟩ := HD.out _ HMc.out
      have hBl := block_lt_of_cell d1
      go_wp2_with (first | (go_at_call 4; refine Calls.mono (nfResolve (.pointer pv) _ (HP.out _ (by first | exact HMc.out | exact HMc.out.alloc _ | exact (HMc.out.alloc _).alloc _ | exact ((HMc.out.alloc _).alloc _).alloc _)) _ _ _ _ _ _ _ _ _) ?_; rintro e w9 ⟨rfl, M9⟩; replace HMc := hid6 ((by first | exact HMc.out | exact HMc.out.alloc _ | exact (HMc.out.alloc _).alloc _ | exact ((HMc.out.alloc _).alloc _).alloc _ : Mod (fun _ => False) W0 _).trans M9); clear M9 d1 d2 d3 d4 d5 d6 d7 d8 d9 d10 d11 d12 d13 d14 hBl; obtain ⟨d1, d2, d3, d4, d5, d6, d7, d8, d9, d10, d11, d12, d13, d14⟩ := HD.out _ HMc.out; have hBl := block_lt_of_cell d1))
      refine Calls.mono (nfStat (.pointer pv) _ (HP.out _ HMc.out) _ _ _ _ _ _ _ _ _) ?_
      rintro e wS ⟨rfl, M9⟩
      replace HMc := hid6 ((by first | exact HMc.out | exact HMc.out.alloc _ | exact (HMc.out.alloc _).alloc _ | exact ((HMc.out.alloc _).alloc _).alloc _ : Mod (fun _ => False) W0 _).trans M9)
      clear M9 d1 d2 d3 d4 d5 d6 d7 d8 d9 d10 d11 d12 d13 d14 hBl
      obtain ⟨d1, d2, d3, d4, d5, d6, d7, d8, d9, d10, d11, d12, d13, d14⟩ := HD.out _ HMc.out
      have hBl := block_lt_of_cell d1
      go_wp2_with fail
      have HSs := hid6 (show ∀ W, Mod (fun _ => False) (wS.alloc (.cells #[.int .i64 0, .int .i64 0, .int .i64 0, .int .i64 0, .int .i64 0, .int .i64 0, .int .i64 0, .int .i64 0, .int .i64 0, .int .i64 0] 38)) W → ∀ j, W.cell? ⟨wS.heap.size, j, none⟩ = (#[.int .i64 0, .int .i64 0, .int .i64 0, .int .i64 0, .int .i64 0, .int .i64 0, .int .i64 0, .int .i64 0, .int .i64 0, .int .i64 0] : Array Value)[j]? from fun W hM j => by rw [hM.cell (p := ⟨wS.heap.size, j, none⟩) (by simp) (fun e => e), World.cell?_alloc_at _ _ _ _ rfl])
      have HMs := hid6 (Mod.refl (fun _ => False) (wS.alloc (.cells #[.int .i64 0, .int .i64 0, .int .i64 0, .int .i64 0, .int .i64 0, .int .i64 0, .int .i64 0, .int .i64 0, .int .i64 0, .int .i64 0] 38)))
      replace HMc := hid6 (HMc.out.alloc (.cells #[.int .i64 0, .int .i64 0, .int .i64 0, .int .i64 0, .int .i64 0, .int .i64 0, .int .i64 0, .int .i64 0, .int .i64 0, .int .i64 0] 38))
      clear d1 d2 d3 d4 d5 d6 d7 d8 d9 d10 d11 d12 d13 d14 hBl
      obtain ⟨d1, d2, d3, d4, d5, d6, d7, d8, d9, d10, d11, d12, d13, d14⟩ := HD.out _ HMc.out
      have hBl := block_lt_of_cell d1
      generalize (wS.alloc (.cells #[.int .i64 0, .int .i64 0, .int .i64 0, .int .i64 0, .int .i64 0, .int .i64 0, .int .i64 0, .int .i64 0, .int .i64 0, .int .i64 0] 38)) = WSs at *
      generalize wS.heap.size = Bs at *
      go_wp2_with (first | (go_at_call 6; refine Calls.mono (nfReadlink (.pointer pv) _ (HP.out _ (by first | exact HMc.out | exact HMc.out.alloc _ | exact (HMc.out.alloc _).alloc _ | exact ((HMc.out.alloc _).alloc _).alloc _)) _ _ _ _ _ _ _ _) ?_; rintro e w9 ⟨rfl, M9⟩; replace HMs := hid6 (HMs.out.trans M9); (try clear s0 s1 s2 s3 s4 s5 s6 s7 s8 s9); have s0 := HSs.out _ HMs.out 0; have s1 := HSs.out _ HMs.out 1; have s2 := HSs.out _ HMs.out 2; have s3 := HSs.out _ HMs.out 3; have s4 := HSs.out _ HMs.out 4; have s5 := HSs.out _ HMs.out 5; have s6 := HSs.out _ HMs.out 6; have s7 := HSs.out _ HMs.out 7; have s8 := HSs.out _ HMs.out 8; have s9 := HSs.out _ HMs.out 9; simp only [List.getElem?_toArray, List.getElem?_cons_zero, List.getElem?_cons_succ] at s0 s1 s2 s3 s4 s5 s6 s7 s8 s9; replace HMc := hid6 ((by first | exact HMc.out | exact HMc.out.alloc _ | exact (HMc.out.alloc _).alloc _ | exact ((HMc.out.alloc _).alloc _).alloc _ : Mod (fun _ => False) W0 _).trans M9); clear M9 d1 d2 d3 d4 d5 d6 d7 d8 d9 d10 d11 d12 d13 d14 hBl; obtain ⟨d1, d2, d3, d4, d5, d6, d7, d8, d9, d10, d11, d12, d13, d14⟩ := HD.out _ HMc.out; have hBl := block_lt_of_cell d1) | (go_at_call 7; refine Calls.mono (nfOpen (.pointer pv) _ (HP.out _ (by first | exact HMc.out | exact HMc.out.alloc _ | exact (HMc.out.alloc _).alloc _ | exact ((HMc.out.alloc _).alloc _).alloc _)) _ _ _ _ _ _ _ _ _ _) ?_; rintro e w9 ⟨rfl, M9⟩; replace HMs := hid6 (HMs.out.trans M9); (try clear s0 s1 s2 s3 s4 s5 s6 s7 s8 s9); have s0 := HSs.out _ HMs.out 0; have s1 := HSs.out _ HMs.out 1; have s2 := HSs.out _ HMs.out 2; have s3 := HSs.out _ HMs.out 3; have s4 := HSs.out _ HMs.out 4; have s5 := HSs.out _ HMs.out 5; have s6 := HSs.out _ HMs.out 6; have s7 := HSs.out _ HMs.out 7; have s8 := HSs.out _ HMs.out 8; have s9 := HSs.out _ HMs.out 9; simp only [List.getElem?_toArray, List.getElem?_cons_zero, List.getElem?_cons_succ] at s0 s1 s2 s3 s4 s5 s6 s7 s8 s9; replace HMc := hid6 ((by first | exact HMc.out | exact HMc.out.alloc _ | exact (HMc.out.alloc _).alloc _ | exact ((HMc.out.alloc _).alloc _).alloc _ : Mod (fun _ => False) W0 _).trans M9); clear M9 d1 d2 d3 d4 d5 d6 d7 d8 d9 d10 d11 d12 d13 d14 hBl; obtain ⟨d1, d2, d3, d4, d5, d6, d7, d8, d9, d10, d11, d12, d13, d14⟩ := HD.out _ HMc.out; have hBl := block_lt_of_cell d1) | (go_at_call 8; refine Calls.mono (nfDir (.pointer pv) _ (HP.out _ (by first | exact HMc.out | exact HMc.out.alloc _ | exact (HMc.out.alloc _).alloc _ | exact ((HMc.out.alloc _).alloc _).alloc _)) _ _ _ _ _ _ _ _) ?_; rintro e w9 ⟨rfl, M9⟩; replace HMs := hid6 (HMs.out.trans M9); (try clear s0 s1 s2 s3 s4 s5 s6 s7 s8 s9); have s0 := HSs.out _ HMs.out 0; have s1 := HSs.out _ HMs.out 1; have s2 := HSs.out _ HMs.out 2; have s3 := HSs.out _ HMs.out 3; have s4 := HSs.out _ HMs.out 4; have s5 := HSs.out _ HMs.out 5; have s6 := HSs.out _ HMs.out 6; have s7 := HSs.out _ HMs.out 7; have s8 := HSs.out _ HMs.out 8; have s9 := HSs.out _ HMs.out 9; simp only [List.getElem?_toArray, List.getElem?_cons_zero, List.getElem?_cons_succ] at s0 s1 s2 s3 s4 s5 s6 s7 s8 s9; replace HMc := hid6 ((by first | exact HMc.out | exact HMc.out.alloc _ | exact (HMc.out.alloc _).alloc _ | exact ((HMc.out.alloc _).alloc _).alloc _ : Mod (fun _ => False) W0 _).trans M9); clear M9 d1 d2 d3 d4 d5 d6 d7 d8 d9 d10 d11 d12 d13 d14 hBl; obtain ⟨d1, d2, d3, d4, d5, d6, d7, d8, d9, d10, d11, d12, d13, d14⟩ := HD.out _ HMc.out; have hBl := block_lt_of_cell d1) | (go_at_call 9; refine (num6n _ _).mono ?_; rintro e w9 ⟨rfl, hw9⟩; rw [hw9]; clear hw9 w9))
      clear s0 s1 s2 s3 s4 s5 s6 s7 s8 s9 HSs HMs
      clear d1 d2 d3 d4 d5 d6 d7 d8 d9 d10 d11 d12 d13 d14 hBl
      simp only [List.append_eq, List.cons_append, List.nil_append]
      go_cut [239, 240, 241] from 133 to 241 (fun v239 v240 v241 wc => ∃ gb : Nat, v239 = .slice (some ⟨gb, 0, none⟩) 14 14 ∧ v240 = .int .i64 14 ∧ v241 = .int .i64 0 ∧ (∀ j : Nat, j < 14 → wc.cell? ⟨gb, j, none⟩ = some (.int .i64 14)) ∧ Hid (Mod (fun _ => False) W0 wc))
      case first =>
        as_aux_lemma =>
          refine wp_only6 ?_
          refine reg11 _ rfl rfl rfl HD HP HMc (fun gb wc h14 hM => ?_)
          rw [puts11]
          rotate_left
          · rfl
          dsimp only [List.take_succ_cons, List.take_zero, List.drop_succ_cons, List.drop_zero, List.cons_append, List.nil_append]
          as_aux_lemma =>
            go_wp2_with fail
            go_meet
            exact ⟨gb, rfl, rfl, rfl, h14, hM⟩
      case rest =>
        as_aux_lemma =>
          obtain ⟨gb, rfl, rfl, rfl, hc14, HMl⟩ := hcut
          clear HMc
          have HMc := HMl
          clear HMl
          go_wp2_with fail
          go_loopg [241] 14 (fun gh i wr2 => ∃ j : Nat, j ≤ 14 ∧ gh = 14 - j ∧ i = .int .i64 j ∧ wr2 = wc)
          case atStart => exact ⟨0, by omega, rfl, rfl, rfl⟩
          case round =>
            obtain ⟨j, hj, rfl, rfl, rfl⟩ := hrel
            by_cases hjl : j < 14
            · have hjl' : (j : Int) < 14 := by omega
              have hcj := hc14 j hjl
              go_wp2_with (first | (go_at_call 9; refine (num6n _ _).mono ?_; rintro e w9 ⟨rfl, hw9⟩; rw [hw9]; clear hw9 w9))
              go_roundg (14 - (j + 1))
              case measure => omega
              case rel => exact ⟨j + 1, by omega, rfl, by go_num, rfl⟩
            · obtain rfl : j = 14 := by omega
              as_aux_lemma =>
                clear hc14
                obtain ⟨d1, d2, d3, d4, d5, d6, d7, d8, d9, d10, d11, d12, d13, d14⟩ := HD.out _ HMc.out
                have hBl := block_lt_of_cell d1
                go_wp2_with (first | (go_at_call 24; refine Calls.mono (nfReadAt (.pointer pv) _ (HP.out _ (by first | exact HMc.out | exact HMc.out.alloc _ | exact (HMc.out.alloc _).alloc _ | exact ((HMc.out.alloc _).alloc _).alloc _)) _ _ _) ?_; rintro e w9 ⟨rfl, M9⟩; replace HMc := hid6 ((by first | exact HMc.out | exact HMc.out.alloc _ | exact (HMc.out.alloc _).alloc _ | exact ((HMc.out.alloc _).alloc _).alloc _ : Mod (fun _ => False) W0 _).trans M9); clear M9 d1 d2 d3 d4 d5 d6 d7 d8 d9 d10 d11 d12 d13 d14 hBl; obtain ⟨d1, d2, d3, d4, d5, d6, d7, d8, d9, d10, d11, d12, d13, d14⟩ := HD.out _ HMc.out; have hBl := block_lt_of_cell d1) | (go_at_call 25; refine Calls.mono (nfWriteAt (.pointer pv) _ (HP.out _ (by first | exact HMc.out | exact HMc.out.alloc _ | exact (HMc.out.alloc _).alloc _ | exact ((HMc.out.alloc _).alloc _).alloc _)) _ _ _ _ _) ?_; rintro e w9 ⟨rfl, M9⟩; replace HMc := hid6 ((by first | exact HMc.out | exact HMc.out.alloc _ | exact (HMc.out.alloc _).alloc _ | exact ((HMc.out.alloc _).alloc _).alloc _ : Mod (fun _ => False) W0 _).trans M9); clear M9 d1 d2 d3 d4 d5 d6 d7 d8 d9 d10 d11 d12 d13 d14 hBl; obtain ⟨d1, d2, d3, d4, d5, d6, d7, d8, d9, d10, d11, d12, d13, d14⟩ := HD.out _ HMc.out; have hBl := block_lt_of_cell d1))
                refine Calls.mono (nfInfo (.pointer pv) _ (HP.out _ HMc.out) _) ?_
                rintro e wS ⟨rfl, M9⟩
                replace HMc := hid6 ((by first | exact HMc.out | exact HMc.out.alloc _ | exact (HMc.out.alloc _).alloc _ | exact ((HMc.out.alloc _).alloc _).alloc _ : Mod (fun _ => False) W0 _).trans M9)
                clear M9 d1 d2 d3 d4 d5 d6 d7 d8 d9 d10 d11 d12 d13 d14 hBl
                obtain ⟨d1, d2, d3, d4, d5, d6, d7, d8, d9, d10, d11, d12, d13, d14⟩ := HD.out _ HMc.out
                have hBl := block_lt_of_cell d1
                go_wp2_with fail
                have HSs := hid6 (show ∀ W, Mod (fun _ => False) (wS.alloc (.cells #[.int .i64 0, .int .i64 0, .int .i64 0, .int .i64 0, .int .i64 0, .int .i64 0, .int .i64 0, .int .i64 0, .int .i64 0, .int .i64 0] 38)) W → ∀ j, W.cell? ⟨wS.heap.size, j, none⟩ = (#[.int .i64 0, .int .i64 0, .int .i64 0, .int .i64 0, .int .i64 0, .int .i64 0, .int .i64 0, .int .i64 0, .int .i64 0, .int .i64 0] : Array Value)[j]? from fun W hM j => by rw [hM.cell (p := ⟨wS.heap.size, j, none⟩) (by simp) (fun e => e), World.cell?_alloc_at _ _ _ _ rfl])
                have HMs := hid6 (Mod.refl (fun _ => False) (wS.alloc (.cells #[.int .i64 0, .int .i64 0, .int .i64 0, .int .i64 0, .int .i64 0, .int .i64 0, .int .i64 0, .int .i64 0, .int .i64 0, .int .i64 0] 38)))
                replace HMc := hid6 (HMc.out.alloc (.cells #[.int .i64 0, .int .i64 0, .int .i64 0, .int .i64 0, .int .i64 0, .int .i64 0, .int .i64 0, .int .i64 0, .int .i64 0, .int .i64 0] 38))
                clear d1 d2 d3 d4 d5 d6 d7 d8 d9 d10 d11 d12 d13 d14 hBl
                obtain ⟨d1, d2, d3, d4, d5, d6, d7, d8, d9, d10, d11, d12, d13, d14⟩ := HD.out _ HMc.out
                have hBl := block_lt_of_cell d1
                generalize (wS.alloc (.cells #[.int .i64 0, .int .i64 0, .int .i64 0, .int .i64 0, .int .i64 0, .int .i64 0, .int .i64 0, .int .i64 0, .int .i64 0, .int .i64 0] 38)) = WSs2 at *
                generalize wS.heap.size = Bs2 at *
                go_wp2_with (first | (go_at_call 27; refine Calls.mono (HEn.out (.pointer pv) _ (HP.out _ (by first | exact HMc.out | exact HMc.out.alloc _ | exact (HMc.out.alloc _).alloc _ | exact ((HMc.out.alloc _).alloc _).alloc _)) _) ?_; rintro e w9 ⟨rfl, M9⟩; replace HMs := hid6 (HMs.out.trans M9); (try clear s0 s1 s2 s3 s4 s5 s6 s7 s8 s9); have s0 := HSs.out _ HMs.out 0; have s1 := HSs.out _ HMs.out 1; have s2 := HSs.out _ HMs.out 2; have s3 := HSs.out _ HMs.out 3; have s4 := HSs.out _ HMs.out 4; have s5 := HSs.out _ HMs.out 5; have s6 := HSs.out _ HMs.out 6; have s7 := HSs.out _ HMs.out 7; have s8 := HSs.out _ HMs.out 8; have s9 := HSs.out _ HMs.out 9; simp only [List.getElem?_toArray, List.getElem?_cons_zero, List.getElem?_cons_succ] at s0 s1 s2 s3 s4 s5 s6 s7 s8 s9; replace HMc := hid6 ((by first | exact HMc.out | exact HMc.out.alloc _ | exact (HMc.out.alloc _).alloc _ | exact ((HMc.out.alloc _).alloc _).alloc _ : Mod (fun _ => False) W0 _).trans M9); clear M9 d1 d2 d3 d4 d5 d6 d7 d8 d9 d10 d11 d12 d13 d14 hBl; obtain ⟨d1, d2, d3, d4, d5, d6, d7, d8, d9, d10, d11, d12, d13, d14⟩ := HD.out _ HMc.out; have hBl := block_lt_of_cell d1) | (go_at_call 28; refine Calls.mono (nfPath (.pointer pv) _ (HP.out _ (by first | exact HMc.out | exact HMc.out.alloc _ | exact (HMc.out.alloc _).alloc _ | exact ((HMc.out.alloc _).alloc _).alloc _)) _) ?_; rintro e w9 ⟨rfl, M9⟩; replace HMs := hid6 (HMs.out.trans M9); (try clear s0 s1 s2 s3 s4 s5 s6 s7 s8 s9); have s0 := HSs.out _ HMs.out 0; have s1 := HSs.out _ HMs.out 1; have s2 := HSs.out _ HMs.out 2; have s3 := HSs.out _ HMs.out 3; have s4 := HSs.out _ HMs.out 4; have s5 := HSs.out _ HMs.out 5; have s6 := HSs.out _ HMs.out 6; have s7 := HSs.out _ HMs.out 7; have s8 := HSs.out _ HMs.out 8; have s9 := HSs.out _ HMs.out 9; simp only [List.getElem?_toArray, List.getElem?_cons_zero, List.getElem?_cons_succ] at s0 s1 s2 s3 s4 s5 s6 s7 s8 s9; replace HMc := hid6 ((by first | exact HMc.out | exact HMc.out.alloc _ | exact (HMc.out.alloc _).alloc _ | exact ((HMc.out.alloc _).alloc _).alloc _ : Mod (fun _ => False) W0 _).trans M9); clear M9 d1 d2 d3 d4 d5 d6 d7 d8 d9 d10 d11 d12 d13 d14 hBl; obtain ⟨d1, d2, d3, d4, d5, d6, d7, d8, d9, d10, d11, d12, d13, d14⟩ := HD.out _ HMc.out; have hBl := block_lt_of_cell d1) | (go_at_call 29; refine Calls.mono (nfOwned (.pointer pv) _ (HP.out _ (by first | exact HMc.out | exact HMc.out.alloc _ | exact (HMc.out.alloc _).alloc _ | exact ((HMc.out.alloc _).alloc _).alloc _)) _) ?_; rintro e w9 ⟨rfl, hw9⟩; rw [hw9]; clear hw9 w9) | (go_at_call 30; refine Calls.mono (nfStatfs (.pointer pv) _ (HP.out _ (by first | exact HMc.out | exact HMc.out.alloc _ | exact (HMc.out.alloc _).alloc _ | exact ((HMc.out.alloc _).alloc _).alloc _)) ) ?_; rintro e w9 ⟨rfl, hw9⟩; rw [hw9]; clear hw9 w9) | (go_at_call 31; refine Calls.mono (nfClock (.pointer pv) _ (HP.out _ (by first | exact HMc.out | exact HMc.out.alloc _ | exact (HMc.out.alloc _).alloc _ | exact ((HMc.out.alloc _).alloc _).alloc _)) _) ?_; rintro e w9 ⟨rfl, hw9⟩; rw [hw9]; clear hw9 w9) | (go_at_call 32; refine Calls.mono (nfUsed (.pointer pv) _ (HP.out _ (by first | exact HMc.out | exact HMc.out.alloc _ | exact (HMc.out.alloc _).alloc _ | exact ((HMc.out.alloc _).alloc _).alloc _)) ) ?_; rintro e w9 ⟨rfl, hw9⟩; rw [hw9]; clear hw9 w9) | (go_at_call 33; refine Calls.mono (nfInodes (.pointer pv) _ (HP.out _ (by first | exact HMc.out | exact HMc.out.alloc _ | exact (HMc.out.alloc _).alloc _ | exact ((HMc.out.alloc _).alloc _).alloc _)) ) ?_; rintro e w9 ⟨rfl, hw9⟩; rw [hw9]; clear hw9 w9) | (go_at_call 34; refine Calls.mono (nfNow (.pointer pv) _ (HP.out _ (by first | exact HMc.out | exact HMc.out.alloc _ | exact (HMc.out.alloc _).alloc _ | exact ((HMc.out.alloc _).alloc _).alloc _)) ) ?_; rintro e w9 ⟨rfl, hw9⟩; rw [hw9]; clear hw9 w9) | (go_at_call 35; refine Calls.mono (nfCopy (.pointer pv) _ (HP.out _ (by first | exact HMc.out | exact HMc.out.alloc _ | exact (HMc.out.alloc _).alloc _ | exact ((HMc.out.alloc _).alloc _).alloc _)) ) ?_; rintro e w9 ⟨rfl, hw9⟩; rw [hw9]; clear hw9 w9) | (go_at_call 9; refine (num6n _ _).mono ?_; rintro e w9 ⟨rfl, hw9⟩; rw [hw9]; clear hw9 w9))
                go_roundg (2 - (k + 1))
                case measure => omega
                case rel => exact ⟨k + 1, by omega, rfl, by go_num, HMc⟩
    · obtain rfl : k = 2 := by omega
      as_aux_lemma =>
        have HTr : Hid (TabIs wr) := fun j hj => ((HM0.out.trans HMc.out).cell (p := ⟨1, j, none⟩) (HT.out.lt) (fun e => e)).trans (HT.out j hj)
        go_wp2_with fail
        refine Calls.mono (HAw.out _ HTr.out) ?_
        rintro e w2 ⟨rfl, M2⟩
        have HM2 := hid6 ((HM0.out.trans HMc.out).trans M2)
        clear M2
        go_wp2
        go_ret
        exact ⟨rfl, HM2.out⟩
end Go.Proofs.YtpohjgnfndgniaaGreatDoor
