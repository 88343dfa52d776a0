/- The walk of the plain answer's Translate. Conditions: the rows' cells are as said; lengths that fit. -/
import Derived.Test.YtncnmeidciailaaDoorLq5
namespace Go.Proofs.YtncnmeidciailaaDoor
open Go.RowKit
attribute [local go_sem] ext_eq app_eq get_eq
set_option maxRecDepth 100000 in
set_option maxHeartbeats 4000000 in
theorem rTrans_A (b fr to : List UInt8) (a a1 a2 : Option Addr) (c c1 c2 : Nat) (hb : b.length ≤ 140737488355328) (q : Nat) (Htn : Hid (to.length = q + 1)) (tn : Nat) (Ht2 : Hid (tn = to.length)) (htn : tn ≤ 2 ^ 62) (h1 : ((tn : Int) == 0) = false) (fn : Nat) (Hfn : Hid (fn = fr.length)) (hf : fn ≤ 2 ^ 62) (w : World) (HS : Hid (Src w a b)) (HS1 : Hid (Src w a1 fr)) (HS2 : Hid (Src w a2 to)) :
    Calls Tryd.prog 28 #[.slice a b.length c, .slice a1 fn c1, .slice a2 tn c2] w fun e w' => Below w.heap.size w w' ∧ ∃ v, e = .returned (.tuple #[v, .int .i64 0]) ∧ By w.heap.size w' v (b.map (Gl.tr fr to)) := by
  obtain ⟨iB, hiB, hz0, hz1, hz2⟩ := infoB
  have hwf : IntKind.i64.wrap ((fn : Int) - 1) = (fn : Int) - 1 := by rw [IntKind.wrap_i64]; omega
  go_enter Tryd.func28, Tryd.ntmps28
  go_wp2
  go_loopw [8, 23] (fun v s23 W => ∃ (k : Nat), s23 = .int .i64 k ∧ k ≤ b.length ∧ Hid (By w.heap.size W v ((b.take k).map (Gl.tr fr to))) ∧ Hid (Below w.heap.size w W)) (fun _ s23 _ => b.length - (intOf s23).toNat)
  case atStart => exact ⟨0, rfl, Nat.zero_le _, By.nil _ _, Below.refl _ _⟩
  case round =>
    obtain ⟨k, rfl, hk, HY, HB⟩ := hrel
    have hsz : w.heap.size ≤ wr.heap.size := HB.out.size
    by_cases hlt : k < b.length
    · have hw1 : IntKind.i64.wrap ((k : Int) + 1) = ((k + 1 : Nat) : Int) := by rw [IntKind.wrap_i64]; omega
      obtain ⟨g, o, rfl, hg, hc⟩ := (HS.out.grow HB.out (Nat.le_refl _)) k hlt
      have HE : Hid ((b.take (k + 1)).map (Gl.tr fr to) = (b.take k).map (Gl.tr fr to) ++ [Gl.tr fr to b[k]]) := by
        show _ = _
        rw [List.take_succ_eq_append_getElem hlt, List.map_append]; rfl
      have hll : ((b.take k).map (Gl.tr fr to)).length ≤ k := by rw [List.length_map, List.length_take]; omega
      generalize (b.take k).map (Gl.tr fr to) = PK at *
      have HT0 : Hid (Gl.trA to b[k] (fr.drop fn) fn = b[k]) := by
        show _ = _
        rw [Hfn.out, List.drop_length]; rfl
      have HTe : Hid (Gl.trA to b[k] (fr.drop 0) 0 = Gl.tr fr to b[k]) := rfl
      generalize b[k] = x at *
      clear HS
      go_wp2
      go_loop [11, 12] (fun s11 s12 => ∃ (z : Int) (m : Nat), s12 = .int .i64 z ∧ s11 = .int .u8 (Gl.trA to x (fr.drop m) m).toNat ∧ m ≤ fn ∧ Hid (z = (m : Int) - 1)) (fun _ s12 => (intOf s12 + 1).toNat)
      case atStart => exact ⟨_, fn, rfl, by rw [HT0.out], Nat.le_refl _, rfl⟩
      case round =>
        obtain ⟨z, m, rfl, rfl, hm, HZ⟩ := hrel
        clear HT0
        by_cases hm0 : 0 < m
        · obtain ⟨i, HI⟩ : ∃ i, Hid (m = i + 1) := ⟨m - 1, by show m = m - 1 + 1; omega⟩
          obtain rfl : z = (i : Int) := by have h1 := HZ.out; have h2 := HI.out; omega
          obtain ⟨t, HT⟩ : ∃ t, Hid (Gl.trA to x (fr.drop m) m = t) := ⟨_, rfl⟩
          rw [HT.out]
          have hmi : i + 1 ≤ fn := by have := HI.out; omega
          have hwi : IntKind.i64.wrap ((i : Int) - 1) = (i : Int) - 1 := by rw [IntKind.wrap_i64]; omega
          have hil : i < fr.length := by have := Hfn.out; omega
          obtain ⟨g1, o1, rfl, hg1, hc1⟩ := (HS1.out.grow HB.out (Nat.le_refl _)) i hil
          have hwq : IntKind.i64.wrap ((tn : Int) - 1) = (q : Int) := by have h1 := Htn.out; have h2 := Ht2.out; rw [IntKind.wrap_i64]; omega
          have hmq : min i q < to.length := by have h1 := Htn.out; omega
          have hqt : q < tn := by have h1 := Htn.out; have h2 := Ht2.out; omega
          obtain ⟨g2, o2, rfl, hg2, hc2⟩ := (HS2.out.grow HB.out (Nat.le_refl _)) (min i q) hmq
          have HStep : Hid (Gl.trA to x (fr.drop i) i = if fr[i] = x then to[min i q] else t) := by
            show _ = _
            have h1 := Htn.out
            have h2 := HT.out
            rw [HI.out] at h2
            rw [Gl.trA_step fr to i hil, show to.length - 1 = q by omega, Gl.getD_at hmq, h2]
          clear HT HI HZ hm hm0 HTe HE HS1 HS2
          have hfl : i < fn := by omega
          generalize fr[i] = y at *
          generalize to[min i q] = tv at *
          by_cases hyx : y = x
          · have he1 := byte_yes y x x.toNat rfl hyx
            have HS3 : Hid (Gl.trA to x (fr.drop i) i = tv) := by show _ = _; rw [HStep.out, if_pos hyx]
            clear hyx HStep
            by_cases hiq : i ≤ q
            · rw [Nat.min_eq_left hiq] at hc2
              have hit : i < tn := by omega
              have hit2 : decide ((i : Int) < (tn : Int)) = true := decide_eq_true (by omega)
              have hit3 : decide (i < tn) = true := decide_eq_true hit
              clear hiq
              go_wp2
              exact ⟨⟨(i : Int) - 1, i, rfl, by rw [HS3.out], by omega, rfl⟩, by simp [intOf]⟩
            · rw [Nat.min_eq_right (by omega)] at hc2
              have hit : ¬ i < tn := by have h1 := Htn.out; have h2 := Ht2.out; omega
              have hit2 : decide ((i : Int) < (tn : Int)) = false := decide_eq_false (by omega)
              have hit3 : decide (i < tn) = false := decide_eq_false hit
              clear hiq
              go_wp2
              exact ⟨⟨(i : Int) - 1, i, rfl, by rw [HS3.out], by omega, rfl⟩, by simp [intOf]⟩
          · have he1 := byte_no y x x.toNat rfl hyx
            have HS3 : Hid (Gl.trA to x (fr.drop i) i = t) := by show _ = _; rw [HStep.out, if_neg hyx]
            clear hyx HStep hc2
            go_wp2
            exact ⟨⟨(i : Int) - 1, i, rfl, by rw [HS3.out], by omega, rfl⟩, by simp [intOf]⟩
        · obtain rfl : m = 0 := by omega
          obtain rfl : z = -1 := by have h1 := HZ.out; omega
          rw [HTe.out]
          clear HTe HZ HS1 HS2
          generalize Gl.tr fr to x = y at *
          go_wp2_with (at_builtin; refine wpList_append_own_at _ rfl _ _ 32 rfl w.heap.size 5 iB (.int .u8 0) 1 1 Tryd.underlying32 hiB hz0 hz1 hz2 rfl (by decide) _ _ _ rfl (HY.out.alloc _) ⟨wr.heap.size, 0, none⟩ 1 1 [.int .u8 y.toNat] rfl rfl (cell_one_new _ _ _) (one_u8 _) (by unfold maxLen; omega) (by omega) (by simp; omega) ?_; intro v2 w2 hown hg2 _ hat; obtain ⟨y2, b2, k2⟩ := HY.out.add (c := y) HB.out hsz _ hown hg2; have Y2 := hidA y2; have B2 := hidA b2; clear hown hg2 hat y2 b2 k2)
          exact ⟨⟨k + 1, by first | rfl | go_num, hlt, hidA (by rw [HE.out]; exact Y2.out), B2⟩, by simp [intOf]; omega⟩
    · have hY := HY.out
      rw [List.take_of_length_le (by omega)] at hY
      have HY2 := hidA hY
      clear hY HY HS HS1 HS2
      go_wp2
      go_ret2
      exact ⟨HB.out, _, rfl, HY2.out⟩
set_option maxRecDepth 100000 in
set_option maxHeartbeats 4000000 in
theorem rTrans_B (b fr to : List UInt8) (a a1 a2 : Option Addr) (c c1 c2 : Nat) (hb : b.length ≤ 140737488355328) (tn : Nat) (h1 : ((tn : Int) == 0) = true) (fn : Nat) (Hfn : Hid (fn = fr.length)) (hf : ¬ 0 < fn) (w : World) (HS : Hid (Src w a b)) :
    Calls Tryd.prog 28 #[.slice a b.length c, .slice a1 fn c1, .slice a2 tn c2] w fun e w' => Below w.heap.size w w' ∧ ∃ v, e = .returned (.tuple #[v, .int .i64 0]) ∧ By w.heap.size w' v (b.map (Gl.tr fr to)) := by
  obtain ⟨iB, hiB, hz0, hz1, hz2⟩ := infoB
  have hwf : IntKind.i64.wrap ((fn : Int) - 1) = (fn : Int) - 1 := by rw [IntKind.wrap_i64]; omega
  have h2 : decide (0 < fn) = false := decide_eq_false hf
  go_enter Tryd.func28, Tryd.ntmps28
  go_wp2
  go_loopw [8, 23] (fun v s23 W => ∃ (k : Nat), s23 = .int .i64 k ∧ k ≤ b.length ∧ Hid (By w.heap.size W v ((b.take k).map (Gl.tr fr to))) ∧ Hid (Below w.heap.size w W)) (fun _ s23 _ => b.length - (intOf s23).toNat)
  case atStart => exact ⟨0, rfl, Nat.zero_le _, By.nil _ _, Below.refl _ _⟩
  case round =>
    obtain ⟨k, rfl, hk, HY, HB⟩ := hrel
    have hsz : w.heap.size ≤ wr.heap.size := HB.out.size
    by_cases hlt : k < b.length
    · have hw1 : IntKind.i64.wrap ((k : Int) + 1) = ((k + 1 : Nat) : Int) := by rw [IntKind.wrap_i64]; omega
      obtain ⟨g, o, rfl, hg, hc⟩ := (HS.out.grow HB.out (Nat.le_refl _)) k hlt
      have HE : Hid ((b.take (k + 1)).map (Gl.tr fr to) = (b.take k).map (Gl.tr fr to) ++ [Gl.tr fr to b[k]]) := by
        show _ = _
        rw [List.take_succ_eq_append_getElem hlt, List.map_append]; rfl
      have hll : ((b.take k).map (Gl.tr fr to)).length ≤ k := by rw [List.length_map, List.length_take]; omega
      generalize (b.take k).map (Gl.tr fr to) = PK at *
      have HT0 : Hid (Gl.trA to b[k] (fr.drop fn) fn = b[k]) := by
        show _ = _
        rw [Hfn.out, List.drop_length]; rfl
      have HTe : Hid (Gl.trA to b[k] (fr.drop 0) 0 = Gl.tr fr to b[k]) := rfl
      generalize b[k] = x at *
      clear HS
      go_wp2
      go_loop [11, 12] (fun s11 s12 => ∃ (z : Int) (m : Nat), s12 = .int .i64 z ∧ s11 = .int .u8 (Gl.trA to x (fr.drop m) m).toNat ∧ m ≤ fn ∧ Hid (z = (m : Int) - 1)) (fun _ s12 => (intOf s12 + 1).toNat)
      case atStart => exact ⟨_, fn, rfl, by rw [HT0.out], Nat.le_refl _, rfl⟩
      case round =>
        obtain ⟨z, m, rfl, rfl, hm, HZ⟩ := hrel
        clear HT0
        · obtain rfl : m = 0 := by omega
          obtain rfl : z = -1 := by have h1 := HZ.out; omega
          rw [HTe.out]
          clear HTe HZ
          generalize Gl.tr fr to x = y at *
          go_wp2_with (at_builtin; refine wpList_append_own_at _ rfl _ _ 32 rfl w.heap.size 5 iB (.int .u8 0) 1 1 Tryd.underlying32 hiB hz0 hz1 hz2 rfl (by decide) _ _ _ rfl (HY.out.alloc _) ⟨wr.heap.size, 0, none⟩ 1 1 [.int .u8 y.toNat] rfl rfl (cell_one_new _ _ _) (one_u8 _) (by unfold maxLen; omega) (by omega) (by simp; omega) ?_; intro v2 w2 hown hg2 _ hat; obtain ⟨y2, b2, k2⟩ := HY.out.add (c := y) HB.out hsz _ hown hg2; have Y2 := hidA y2; have B2 := hidA b2; clear hown hg2 hat y2 b2 k2)
          exact ⟨⟨k + 1, by first | rfl | go_num, hlt, hidA (by rw [HE.out]; exact Y2.out), B2⟩, by simp [intOf]; omega⟩
    · have hY := HY.out
      rw [List.take_of_length_le (by omega)] at hY
      have HY2 := hidA hY
      clear hY HY HS
      go_wp2
      go_ret2
      exact ⟨HB.out, _, rfl, HY2.out⟩
theorem rTranslate (b fr to : List UInt8) (a a1 a2 : Option Addr) (c c1 c2 : Nat) (hb : b.length ≤ 140737488355328) (hf : fr.length ≤ 2 ^ 62) (ht : to.length ≤ 2 ^ 62) (w : World) (hS : Src w a b) (hS1 : Src w a1 fr) (hS2 : Src w a2 to) :
    Calls Tryd.prog 28 #[.slice a b.length c, .slice a1 fr.length c1, .slice a2 to.length c2] w (TrOut b fr to w) := by
  by_cases h : to = []
  · by_cases h2 : fr = []
    · refine (rTrans_B b fr to a a1 a2 c c1 c2 hb to.length (by simp [h]) fr.length rfl (by simp [h2]) w hS).mono ?_
      rintro e w' ⟨h3, h4⟩
      exact ⟨h3, .inr ⟨fun h5 => h5.2 h2, h4⟩⟩
    · have h1 : ((to.length : Int) == 0) = true := by simp [h]
      have h3 : 0 < fr.length := List.length_pos_iff.2 h2
      have h4 : decide (0 < fr.length) = true := decide_eq_true h3
      have HA := hidA (And.intro h h2)
      clear h h2 hS hS1 hS2
      unfold TrOut
      generalize to.length = tn at *
      generalize fr.length = fn at *
      go_enter Tryd.func28, Tryd.ntmps28
      go_wp2
      go_ret2
      exact ⟨Below.refl _ _, .inl ⟨HA.out.1, HA.out.2, rfl⟩⟩
  · have hp := List.length_pos_iff.2 h
    refine (rTrans_A b fr to a a1 a2 c c1 c2 hb (to.length - 1) (by show _ = _; omega) to.length rfl ht (by simpa using h) fr.length rfl hf w hS hS1 hS2).mono ?_
    rintro e w' ⟨h3, h4⟩
    exact ⟨h3, .inr ⟨fun h5 => h h5.1, h4⟩⟩
end Go.Proofs.YtncnmeidciailaaDoor
