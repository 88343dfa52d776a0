/- The walks of the plain answer's Delete, Squeeze and Complement. Conditions: the rows' cells are as said; lengths that fit. -/
import Derived.Test.YtncnmeidciailaaDoorLt1
import Derived.Test.YtncnmeidciailaaDoorLq4
namespace Go.Proofs.YtncnmeidciailaaDoor
open Go.RowKit
attribute [local go_sem] ext_eq app_eq get_eq
set_option maxRecDepth 100000 in
set_option maxHeartbeats 4000000 in
theorem rDelete (b l : List UInt8) (a a2 : Option Addr) (c c2 : Nat) (hb : b.length ≤ 2 ^ 47) (hl : l.length ≤ 2 ^ 62) (w : World) (hS : Src w a b) (hS2 : Src w a2 l) : Calls Tryd.prog 31 #[.slice a b.length c, .slice a2 l.length c2] w fun e w' => ∃ v, e = .returned v ∧ By w.heap.size w' v (Gl.del (Gl.has l) b) ∧ Below w.heap.size w w' := by
  obtain ⟨iB, hiB, hz0, hz1, hz2⟩ := infoB
  have HS := hidA hS
  have HHas := hidA (fun x W (hB : Below w.heap.size w W) => gHas l x a2 c2 hl W (hS2.grow hB (Nat.le_refl _)))
  generalize Gl.has l = G at *
  clear hS hS2
  go_enter Tryd.func31, Tryd.ntmps31
  go_wp2
  go_loopw [5, 10] (fun v s10 W => ∃ (k : Nat), s10 = .int .i64 k ∧ k ≤ b.length ∧ Hid (By w.heap.size W v (Gl.del G (b.take k))) ∧ Hid (Below w.heap.size w W)) (fun _ s10 _ => b.length - (intOf s10).toNat)
  case atStart => exact ⟨0, rfl, Nat.zero_le _, By.nil _ _, Below.refl _ _⟩
  case round =>
    obtain ⟨k, rfl, hk, HY, HB⟩ := hrel
    have hsz : w.heap.size ≤ wr.heap.size := HB.out.size
    have hw1 : IntKind.i64.wrap ((k : Int) + 1) = ((k + 1 : Nat) : Int) := by rw [IntKind.wrap_i64]; omega
    by_cases hlt : k < b.length
    · obtain ⟨g, o, rfl, hg, hc⟩ := (HS.out.grow HB.out (Nat.le_refl _)) k hlt
      have HH := hidA (HHas.out b[k] wr HB.out)
      have HE := hidA (Gl.del_next G b k hlt)
      have hll := Gl.del_len G (b.take k)
      rw [List.length_take, Nat.min_eq_left (by omega)] at hll
      generalize Gl.del G (b.take k) = PK at *
      generalize b[k] = x at *
      clear HS HHas
      cases hgx : G x with
      | true =>
        rw [hgx] at HH HE
        clear hgx
        go_wp2_with (go_at_call 54; refine HH.out.mono ?_; rintro e w1 ⟨rfl, hw'⟩; rw [hw']; clear hw' w1)
        exact ⟨⟨k + 1, by first | rfl | go_num, hlt, hidA (by rw [HE.out]; simpa using HY.out), HB⟩, by simp [intOf]; omega⟩
      | false =>
        rw [hgx] at HH HE
        clear hgx
        go_wp2_with (first | (go_at_call 54; refine HH.out.mono ?_; rintro e w1 ⟨rfl, hw'⟩; rw [hw']; clear hw' w1) | (at_builtin; refine wpList_append_own_at _ rfl _ _ 32 rfl w.heap.size 5 iB (.int .u8 0) 1 1 Tryd.underlying32 hiB hz0 hz1 hz2 rfl (by decide) _ _ _ rfl (HY.out.alloc _) ⟨wr.heap.size, 0, none⟩ 1 1 [.int .u8 x.toNat] rfl rfl (cell_one_new _ _ _) (one_u8 _) (by unfold maxLen; omega) (by omega) (by simp; omega) ?_; intro v2 w2 hown hg2 _ hat; obtain ⟨y2, b2, k2⟩ := HY.out.add (c := x) HB.out hsz _ hown hg2; have Y2 := hidA y2; have B2 := hidA b2; clear hown hg2 hat y2 b2 k2))
        exact ⟨⟨k + 1, by first | rfl | go_num, hlt, hidA (by rw [HE.out]; simpa using Y2.out), B2⟩, by simp [intOf]; omega⟩
    · have hY := HY.out
      rw [List.take_of_length_le (by omega)] at hY
      have HY2 := hidA hY
      clear hY HY HS HHas
      go_wp2
      go_ret
      exact ⟨_, rfl, HY2.out, HB.out⟩
set_option maxRecDepth 100000 in
set_option maxHeartbeats 4000000 in
theorem rSqueeze (b l : List UInt8) (a a2 : Option Addr) (c c2 : Nat) (hb : b.length ≤ 2 ^ 47) (hl : l.length ≤ 2 ^ 62) (w : World) (hS : Src w a b) (hS2 : Src w a2 l) : Calls Tryd.prog 32 #[.slice a b.length c, .slice a2 l.length c2] w fun e w' => ∃ v, e = .returned v ∧ By w.heap.size w' v (Gl.sqR (Gl.has l) none b) ∧ Below w.heap.size w w' := by
  obtain ⟨iB, hiB, hz0, hz1, hz2⟩ := infoB
  have HS := hidA hS
  have HHas := hidA (fun x W (hB : Below w.heap.size w W) => gHas l x a2 c2 hl W (hS2.grow hB (Nat.le_refl _)))
  generalize Gl.has l = G at *
  clear hS hS2
  go_enter Tryd.func32, Tryd.ntmps32
  go_wp2
  go_loopw [5, 10] (fun v s10 W => ∃ (k : Nat), s10 = .int .i64 k ∧ k ≤ b.length ∧ Hid (By w.heap.size W v (Gl.sqR G none (b.take k))) ∧ Hid (Below w.heap.size w W)) (fun _ s10 _ => b.length - (intOf s10).toNat)
  case atStart => exact ⟨0, rfl, Nat.zero_le _, By.nil _ _, Below.refl _ _⟩
  case round =>
    obtain ⟨k, rfl, hk, HY, HB⟩ := hrel
    have hsz : w.heap.size ≤ wr.heap.size := HB.out.size
    have hw1 : IntKind.i64.wrap ((k : Int) + 1) = ((k + 1 : Nat) : Int) := by rw [IntKind.wrap_i64]; omega
    by_cases hlt : k < b.length
    · have HSr := hidA (HS.out.grow HB.out (Nat.le_refl _))
      obtain ⟨g, o, rfl, hg, hc⟩ := HSr.out k hlt
      have HH := hidA (HHas.out b[k] wr HB.out)
      have HE := hidA (Gl.sq_next G b k hlt)
      have hll := Gl.sq_len G (b.take k) none
      rw [List.length_take, Nat.min_eq_left (by omega)] at hll
      generalize Gl.sqR G none (b.take k) = PK at *
      by_cases hk0 : k = 0
      · have h00 : ((k : Int) == 0) = true := by simp [hk0]
        have HE2 : Hid (Gl.sqR G none (b.take (k + 1)) = PK ++ [b[k]]) := by
          show _ = _
          rw [HE.out, if_neg (by omega)]
        clear HE hk0 HSr HS HHas
        generalize b[k] = x at *
        go_wp2_with (first | (go_at_call 54; refine HH.out.mono ?_; rintro e w1 ⟨rfl, hw'⟩; rw [hw']; clear hw' w1) | (at_builtin; refine wpList_append_own_at _ rfl _ _ 32 rfl w.heap.size 5 iB (.int .u8 0) 1 1 Tryd.underlying32 hiB hz0 hz1 hz2 rfl (by decide) _ _ _ rfl (HY.out.alloc _) ⟨wr.heap.size, 0, none⟩ 1 1 [.int .u8 x.toNat] rfl rfl (cell_one_new _ _ _) (one_u8 _) (by unfold maxLen; omega) (by omega) (by simp; omega) ?_; intro v2 w2 hown hg2 _ hat; obtain ⟨y2, b2, k2⟩ := HY.out.add (c := x) HB.out hsz _ hown hg2; have Y2 := hidA y2; have B2 := hidA b2; clear hown hg2 hat y2 b2 k2))
        exact ⟨⟨k + 1, by first | rfl | go_num, hlt, hidA (by rw [HE2.out]; exact Y2.out), B2⟩, by simp [intOf]; omega⟩
      · have h00 : ((k : Int) == 0) = false := by simp [hk0]
        obtain ⟨j, HJ⟩ : ∃ j, Hid (k = j + 1) := ⟨k - 1, by show k = k - 1 + 1; omega⟩
        have hwj : IntKind.i64.wrap ((k : Int) - 1) = (j : Int) := by have := HJ.out; rw [IntKind.wrap_i64]; omega
        have hjl : j < b.length := by have := HJ.out; omega
        obtain ⟨g', o', e', hg', hcj⟩ := HSr.out j hjl
        cases e'
        have HE1 : Hid (Gl.sqR G none (b.take (k + 1)) = PK ++ (if b[j] = b[k] ∧ G b[k] = true then [] else [b[k]])) := by
          show _ = _
          have hj := HJ.out
          rw [HE.out]
          congr 2
          rw [eq_iff_iff]
          constructor
          · rintro ⟨_, h2, h3⟩
            rw [show k - 1 = j by omega, List.getElem?_eq_getElem hjl] at h2
            exact ⟨Option.some.inj h2, h3⟩
          · rintro ⟨h2, h3⟩
            exact ⟨by omega, by rw [show k - 1 = j by omega, List.getElem?_eq_getElem hjl, h2], h3⟩
        clear HE hk0 HSr HS hg' HHas
        generalize b[k] = x at *
        generalize b[j] = y at *
        by_cases hxy : y = x
        · subst hxy
          have hn1 := neq_no y
          cases hgx : G y with
          | true =>
            rw [hgx] at HH HE1
            clear hgx
            go_wp2_with (go_at_call 54; refine HH.out.mono ?_; rintro e w1 ⟨rfl, hw'⟩; rw [hw']; clear hw' w1)
            exact ⟨⟨k + 1, by first | rfl | go_num, hlt, hidA (by rw [HE1.out]; simpa using HY.out), HB⟩, by simp [intOf]; omega⟩
          | false =>
            rw [hgx] at HH HE1
            clear hgx
            go_wp2_with (first | (go_at_call 54; refine HH.out.mono ?_; rintro e w1 ⟨rfl, hw'⟩; rw [hw']; clear hw' w1) | (at_builtin; refine wpList_append_own_at _ rfl _ _ 32 rfl w.heap.size 5 iB (.int .u8 0) 1 1 Tryd.underlying32 hiB hz0 hz1 hz2 rfl (by decide) _ _ _ rfl (HY.out.alloc _) ⟨wr.heap.size, 0, none⟩ 1 1 [.int .u8 y.toNat] rfl rfl (cell_one_new _ _ _) (one_u8 _) (by unfold maxLen; omega) (by omega) (by simp; omega) ?_; intro v2 w2 hown hg2 _ hat; obtain ⟨y2, b2, k2⟩ := HY.out.add (c := y) HB.out hsz _ hown hg2; have Y2 := hidA y2; have B2 := hidA b2; clear hown hg2 hat y2 b2 k2))
            exact ⟨⟨k + 1, by first | rfl | go_num, hlt, hidA (by rw [HE1.out]; simpa using Y2.out), B2⟩, by simp [intOf]; omega⟩
        · have hn1 := neq_yes hxy
          have HE2 : Hid (Gl.sqR G none (b.take (k + 1)) = PK ++ [x]) := by
            show _ = _
            rw [HE1.out, if_neg (fun h => hxy h.1)]
          clear HE1 hxy HH
          go_wp2_with (first | (go_at_call 54; refine HH.out.mono ?_; rintro e w1 ⟨rfl, hw'⟩; rw [hw']; clear hw' w1) | (at_builtin; refine wpList_append_own_at _ rfl _ _ 32 rfl w.heap.size 5 iB (.int .u8 0) 1 1 Tryd.underlying32 hiB hz0 hz1 hz2 rfl (by decide) _ _ _ rfl (HY.out.alloc _) ⟨wr.heap.size, 0, none⟩ 1 1 [.int .u8 x.toNat] rfl rfl (cell_one_new _ _ _) (one_u8 _) (by unfold maxLen; omega) (by omega) (by simp; omega) ?_; intro v2 w2 hown hg2 _ hat; obtain ⟨y2, b2, k2⟩ := HY.out.add (c := x) HB.out hsz _ hown hg2; have Y2 := hidA y2; have B2 := hidA b2; clear hown hg2 hat y2 b2 k2))
          exact ⟨⟨k + 1, by first | rfl | go_num, hlt, hidA (by rw [HE2.out]; exact Y2.out), B2⟩, by simp [intOf]; omega⟩
    · have hY := HY.out
      rw [List.take_of_length_le (by omega)] at hY
      have HY2 := hidA hY
      clear hY HY HS HHas
      go_wp2
      go_ret
      exact ⟨_, rfl, HY2.out, HB.out⟩
set_option maxRecDepth 100000 in
set_option maxHeartbeats 4000000 in
theorem rComplement (l : List UInt8) (a2 : Option Addr) (c2 : Nat) (hl : l.length ≤ 2 ^ 62) (w : World) (hS2 : Src w a2 l) : Calls Tryd.prog 34 #[.slice a2 l.length c2] w fun e w' => ∃ v, e = .returned v ∧ By w.heap.size w' v (Gl.compl l) ∧ Below w.heap.size w w' := by
  obtain ⟨iB, hiB, hz0, hz1, hz2⟩ := infoB
  have HHas := hidA (fun x W (hB : Below w.heap.size w W) => gHas l x a2 c2 hl W (hS2.grow hB (Nat.le_refl _)))
  suffices HX : ∀ R, Hid (R = Gl.compl l) → Calls Tryd.prog 34 #[.slice a2 l.length c2] w fun e w' => ∃ v, e = .returned v ∧ By w.heap.size w' v R ∧ Below w.heap.size w w' from HX _ rfl
  intro R HR
  clear hS2
  go_enter Tryd.func34, Tryd.ntmps34
  go_wp2
  go_loopw [3, 5] (fun v s5 W => ∃ (k : Nat), s5 = .int .i64 k ∧ k ≤ 256 ∧ Hid (By w.heap.size W v (Gl.lst (fun c => !Gl.has l c) k)) ∧ Hid (Below w.heap.size w W)) (fun _ s5 _ => 256 - (intOf s5).toNat)
  case atStart => exact ⟨0, rfl, Nat.zero_le _, By.nil _ _, Below.refl _ _⟩
  case round =>
    obtain ⟨k, rfl, hk, HY, HB⟩ := hrel
    have hsz : w.heap.size ≤ wr.heap.size := HB.out.size
    by_cases hlt : k < 256
    · have hw1 : IntKind.i64.wrap ((k : Int) + 1) = ((k + 1 : Nat) : Int) := by rw [IntKind.wrap_i64]; omega
      have hoN := ofN hlt
      have hu8 : IntKind.u8.wrap (k : Int) = (k : Int) := by rw [IntKind.wrap_u8]; omega
      have HH := hidA (HHas.out (UInt8.ofNat k) wr HB.out)
      rw [hoN] at HH
      have hll := Gl.lst_len (fun c => !Gl.has l c) k
      have HE : Hid (Gl.lst (fun c => !Gl.has l c) (k + 1) = Gl.lst (fun c => !Gl.has l c) k ++ (if !Gl.has l (UInt8.ofNat k) then [UInt8.ofNat k] else [])) := rfl
      generalize Gl.lst (fun c => !Gl.has l c) k = PK at *
      clear HHas HR
      cases hgx : Gl.has l (UInt8.ofNat k) with
      | true =>
        rw [hgx] at HH HE
        clear hgx
        go_wp2_with (go_at_call 54; refine HH.out.mono ?_; rintro e w1 ⟨rfl, hw'⟩; rw [hw']; clear hw' w1)
        exact ⟨⟨k + 1, by first | rfl | go_num, hlt, hidA (by rw [HE.out]; simpa using HY.out), HB⟩, by simp [intOf]; omega⟩
      | false =>
        rw [hgx] at HH HE
        clear hgx
        go_wp2_with (first | (go_at_call 54; refine HH.out.mono ?_; rintro e w1 ⟨rfl, hw'⟩; rw [hw']; clear hw' w1) | (at_builtin; refine wpList_append_own_at _ rfl _ _ 32 rfl w.heap.size 5 iB (.int .u8 0) 1 1 Tryd.underlying32 hiB hz0 hz1 hz2 rfl (by decide) _ _ _ rfl (HY.out.alloc _) ⟨wr.heap.size, 0, none⟩ 1 1 [.int .u8 k] rfl rfl (cell_one_new _ _ _) (one_u8 _) (by unfold maxLen; omega) (by omega) (by simp; omega) ?_; intro v2 w2 hown hg2 _ hat; obtain ⟨y2, b2, k2⟩ := HY.out.add (c := UInt8.ofNat k) HB.out hsz _ (by rw [hoN]; exact hown) hg2; have Y2 := hidA y2; have B2 := hidA b2; clear hown hg2 hat y2 b2 k2))
        exact ⟨⟨k + 1, by first | rfl | go_num, hlt, hidA (by rw [HE.out]; simpa using Y2.out), B2⟩, by simp [intOf]; omega⟩
    · obtain rfl : k = 256 := by omega
      have hY := HY.out
      rw [show Gl.lst (fun c => !Gl.has l c) 256 = R from HR.out.symm] at hY
      have HY2 := hidA hY
      clear hY HY HHas HR
      go_wp2
      go_ret
      exact ⟨_, rfl, HY2.out, HB.out⟩
end Go.Proofs.YtncnmeidciailaaDoor
