/- The walk of the program's Squeeze. Conditions: the rows' cells are as said; lengths that fit. -/
import Derived.Test.YtncnmeidciailaaDoorLq3
namespace Go.Proofs.YtncnmeidciailaaDoor
open Go.RowKit
attribute [local go_sem] ext_eq app_eq get_eq
theorem neq_no (x : UInt8) : ((x.toNat : Int) != (x.toNat : Int)) = false := by simp
theorem neq_yes {x y : UInt8} (h : x ≠ y) : ((x.toNat : Int) != (y.toNat : Int)) = true := by
  have : ¬ (x.toNat : Int) = (y.toNat : Int) := fun e => h (UInt8.toNat_inj.1 (by omega))
  simpa using this
set_option maxRecDepth 100000 in
set_option maxHeartbeats 4000000 in
theorem gSqueeze (b l : List UInt8) (a a2 : Option Addr) (c c2 : Nat) (hb : b.length ≤ 2 ^ 47) (hl : l.length ≤ 2 ^ 62) (w : World) (hS : Src w a b) (hS2 : Src w a2 l) : Calls Tryd.prog 30 #[.slice a b.length c, .slice a2 l.length c2] w fun e w' => ∃ v, e = .returned v ∧ By w.heap.size w' v (Gl.sqR (Gl.has l) none b) ∧ Below w.heap.size w w' := by
  obtain ⟨iB, hiB, hz0, hz1, hz2⟩ := infoB
  have HO := hidA (gSetOf l a2 c2 hl w hS2)
  have HS := hidA hS
  generalize Gl.has l = G at *
  clear hS hS2
  go_enter Tryd.func30, Tryd.ntmps30
  go_wp2_with (first | (go_at_call 53; refine HO.out.mono ?_; rintro e w1 ⟨L, rfl, hL, b1⟩; (have HL := hidA hL); (have B1 := hidA b1); (have HTh := hidA (there_bits w1 hL)); (have HSt := hidA (set_bits w1 hL)); clear hL b1) | (refine wpList_store_mid rfl 71 _ _ rfl w1.heap.size 0 L.toArray rfl rfl HTh.out HL.out.infA (all_oneCell_toArray HL.out.one) ?_; rw [show L.toArray.toList = L from rfl, HSt.out]))
  have HF0 : Hid (FL w (w1.alloc (.cells L.toArray 71)) w1.heap.size G (.slice none 0 0) []) := ⟨HL.out.set w1, B1.out.size, By.nil _ _, B1.out.alloc B1.out.size _⟩
  have hsb : w.heap.size ≤ w1.heap.size := B1.out.size
  clear HO HL HTh HSt B1
  generalize w1.alloc (.cells L.toArray 71) = W0 at *
  generalize w1.heap.size = sb at *
  go_loopw [6, 13] (fun v s13 W => ∃ (k : Nat), s13 = .int .i64 k ∧ k ≤ b.length ∧ Hid (FL w W sb G v (Gl.sqR G none (b.take k)))) (fun _ s13 _ => b.length - (intOf s13).toNat)
  case atStart => exact ⟨0, rfl, Nat.zero_le _, HF0⟩
  case round =>
    obtain ⟨k, rfl, hk, HK⟩ := hrel
    clear HF0
    have hsz : w.heap.size ≤ wr.heap.size := HK.out.bel.size
    have hw1 : IntKind.i64.wrap ((k : Int) + 1) = ((k + 1 : Nat) : Int) := by rw [IntKind.wrap_i64]; omega
    by_cases hlt : k < b.length
    · have HSr := hidA (HK.out.src HS.out)
      obtain ⟨g, o, rfl, hg, hc⟩ := HSr.out k hlt
      have ht := HK.out.set.cell b[k]
      have h8 := b[k].toNat_lt
      have HE := hidA (Gl.sq_next G b k hlt)
      have hll := Gl.sq_len G (b.take k) none
      rw [List.length_take, Nat.min_eq_left (by omega)] at hll
      generalize Gl.sqR G none (b.take k) = PK at *
      have HK1 := hidA (HK.out.adds b[k])
      have HY := hidA HK.out.row
      by_cases hk0 : k = 0
      · have h00 : ((k : Int) == 0) = true := by simp [hk0]
        have HE2 : Hid (Gl.sqR G none (b.take (k + 1)) = PK ++ [b[k]]) := by
          show _ = _
          rw [HE.out, if_neg (by omega)]
        clear HE hk0 HSr HS ht
        generalize b[k] = x at *
        go_wp2_with (at_builtin; refine wpList_append_own_at _ rfl _ _ 32 rfl w.heap.size 5 iB (.int .u8 0) 1 1 Tryd.underlying32 hiB hz0 hz1 hz2 rfl (by decide) _ _ _ rfl (HY.out.alloc _) ⟨wr.heap.size, 0, none⟩ 1 1 [.int .u8 x.toNat] rfl rfl (cell_one_new _ _ _) (one_u8 _) (by unfold maxLen; omega) (by omega) (by simp; omega) ?_; intro v2 w2 hown hg2 _ hat; (have HK2 := hidA (HK1.out _ _ _ hown hg2)); clear hown hg2 hat)
        exact ⟨⟨k + 1, by first | rfl | go_num, hlt, hidA (by rw [HE2.out]; exact HK2.out)⟩, by simp [intOf]; omega⟩
      · have h00 : ((k : Int) == 0) = false := by simp [hk0]
        obtain ⟨j, HJ⟩ : ∃ j, Hid (k = j + 1) := ⟨k - 1, by show k = k - 1 + 1; omega⟩
        have hwj : IntKind.i64.wrap ((k : Int) - 1) = (j : Int) := by have := HJ.out; rw [IntKind.wrap_i64]; omega
        have hjl : j < b.length := by have := HJ.out; omega
        obtain ⟨g', o', e', hg', hcj⟩ := HSr.out j hjl
        cases e'
        have HE1 : Hid (Gl.sqR G none (b.take (k + 1)) = PK ++ (if b[j] = b[k] ∧ G b[k] = true then [] else [b[k]])) := by
          show _ = _
          have hj := HJ.out
          rw [HE.out]
          congr 2
          rw [eq_iff_iff]
          constructor
          · rintro ⟨_, h2, h3⟩
            rw [show k - 1 = j by omega, List.getElem?_eq_getElem hjl] at h2
            exact ⟨Option.some.inj h2, h3⟩
          · rintro ⟨h2, h3⟩
            exact ⟨by omega, by rw [show k - 1 = j by omega, List.getElem?_eq_getElem hjl, h2], h3⟩
        have h8j := b[j].toNat_lt
        clear HE hk0 HSr HS hg'
        generalize b[k] = x at *
        generalize b[j] = y at *
        by_cases hxy : y = x
        · subst hxy
          have hn1 := neq_no y
          cases hgx : G y with
          | true =>
            rw [hgx] at ht HE1
            clear hgx HK1 HY
            go_wp2
            exact ⟨⟨k + 1, by first | rfl | go_num, hlt, hidA (by rw [HE1.out]; simpa using HK.out)⟩, by simp [intOf]; omega⟩
          | false =>
            rw [hgx] at ht HE1
            clear hgx HK
            go_wp2_with (at_builtin; refine wpList_append_own_at _ rfl _ _ 32 rfl w.heap.size 5 iB (.int .u8 0) 1 1 Tryd.underlying32 hiB hz0 hz1 hz2 rfl (by decide) _ _ _ rfl (HY.out.alloc _) ⟨wr.heap.size, 0, none⟩ 1 1 [.int .u8 y.toNat] rfl rfl (cell_one_new _ _ _) (one_u8 _) (by unfold maxLen; omega) (by omega) (by simp; omega) ?_; intro v2 w2 hown hg2 _ hat; (have HK2 := hidA (HK1.out _ _ _ hown hg2)); clear hown hg2 hat)
            exact ⟨⟨k + 1, by first | rfl | go_num, hlt, hidA (by rw [HE1.out]; simpa using HK2.out)⟩, by simp [intOf]; omega⟩
        · have hn1 := neq_yes (fun h => hxy h.symm : x ≠ y)
          have HE2 : Hid (Gl.sqR G none (b.take (k + 1)) = PK ++ [x]) := by
            show _ = _
            rw [HE1.out, if_neg (fun h => hxy h.1)]
          clear HE1 hxy HK ht
          go_wp2_with (at_builtin; refine wpList_append_own_at _ rfl _ _ 32 rfl w.heap.size 5 iB (.int .u8 0) 1 1 Tryd.underlying32 hiB hz0 hz1 hz2 rfl (by decide) _ _ _ rfl (HY.out.alloc _) ⟨wr.heap.size, 0, none⟩ 1 1 [.int .u8 x.toNat] rfl rfl (cell_one_new _ _ _) (one_u8 _) (by unfold maxLen; omega) (by omega) (by simp; omega) ?_; intro v2 w2 hown hg2 _ hat; (have HK2 := hidA (HK1.out _ _ _ hown hg2)); clear hown hg2 hat)
          exact ⟨⟨k + 1, by first | rfl | go_num, hlt, hidA (by rw [HE2.out]; exact HK2.out)⟩, by simp [intOf]; omega⟩
    · have hK := HK.out
      rw [List.take_of_length_le (by omega)] at hK
      have HK2 := hidA hK
      clear hK HK HS
      go_wp2
      go_ret
      exact ⟨_, rfl, HK2.out.row, HK2.out.bel⟩
end Go.Proofs.YtncnmeidciailaaDoor
