/- The walks of the program's Delete and Squeeze. Conditions: the rows' cells are as said; lengths that fit. -/
import Derived.Test.YtncnmeidciailaaDoorLq2
namespace Go.Proofs.YtncnmeidciailaaDoor
open Go.RowKit
attribute [local go_sem] ext_eq app_eq get_eq
theorem By.mono {B B' : Nat} {W : World} {v : Value} {bs : List UInt8} (h : By B W v bs) (hB : B' ≤ B) : By B' W v bs := by
  refine ⟨h.1, ?_⟩
  rcases h.2 with h | ⟨g, cap, cur, h1, h2, h3⟩
  · exact .inl h
  · exact .inr ⟨g, cap, cur, h1, Nat.le_trans hB h2, h3⟩
/-- What a loop that fills a row keeps: a set that was made, the row, and all that was there. -/
structure FL (w W : World) (sb : Nat) (g : UInt8 → Bool) (v : Value) (bs : List UInt8) : Prop where
  set : SetT W sb g
  sB : w.heap.size ≤ sb
  row : By w.heap.size W v bs
  bel : Below w.heap.size w W
theorem FL.add {w W w' : World} {sb : Nat} {g : UInt8 → Bool} {v v' : Value} {bs : List UInt8} {c : UInt8} (h : FL w W sb g v bs) (o : Obj) (hown : w'.ownsRow w.heap.size 5 1 v' (bs.length + 1) (bCs bs ++ [.int .u8 c.toNat])) (hg : (W.alloc o).grownBy w' v.ownBlock) : FL w w' sb g v' (bs ++ [c]) := by
  obtain ⟨y2, b2, k2⟩ := h.row.add h.bel h.bel.size o hown hg
  obtain ⟨arr, h1, h2⟩ := h.set
  exact ⟨⟨arr, k2 sb _ h1 (by simp) (fun c' fz' e => by injection e with _ e2 _; exact absurd e2 (by decide)), h2⟩, h.sB, y2, b2⟩
theorem FL.adds {w W : World} {sb : Nat} {g : UInt8 → Bool} {v : Value} {bs : List UInt8} (h : FL w W sb g v bs) (c : UInt8) : ∀ (o : Obj) (w' : World) (v' : Value), w'.ownsRow w.heap.size 5 1 v' (bs.length + 1) (bCs bs ++ [.int .u8 c.toNat]) → (W.alloc o).grownBy w' v.ownBlock → FL w w' sb g v' (bs ++ [c]) := fun o _ _ h1 h2 => h.add o h1 h2
theorem FL.src {w W : World} {sb : Nat} {g : UInt8 → Bool} {v : Value} {bs : List UInt8} (h : FL w W sb g v bs) {a : Option Addr} {l : List UInt8} (hS : Src w a l) : Src W a l := hS.grow h.bel (Nat.le_refl _)
set_option maxRecDepth 100000 in
set_option maxHeartbeats 2000000 in
theorem gDelete (b l : List UInt8) (a a2 : Option Addr) (c c2 : Nat) (hb : b.length ≤ 2 ^ 47) (hl : l.length ≤ 2 ^ 62) (w : World) (hS : Src w a b) (hS2 : Src w a2 l) : Calls Tryd.prog 29 #[.slice a b.length c, .slice a2 l.length c2] w fun e w' => ∃ v, e = .returned v ∧ By w.heap.size w' v (Gl.del (Gl.has l) b) ∧ Below w.heap.size w w' := by
  obtain ⟨iB, hiB, hz0, hz1, hz2⟩ := infoB
  have HO := hidA (gSetOf l a2 c2 hl w hS2)
  have HS := hidA hS
  generalize Gl.has l = G at *
  clear hS hS2
  go_enter Tryd.func29, Tryd.ntmps29
  go_wp2_with (first | (go_at_call 53; refine HO.out.mono ?_; rintro e w1 ⟨L, rfl, hL, b1⟩; (have HL := hidA hL); (have B1 := hidA b1); (have HTh := hidA (there_bits w1 hL)); (have HSt := hidA (set_bits w1 hL)); clear hL b1) | (refine wpList_store_mid rfl 71 _ _ rfl w1.heap.size 0 L.toArray rfl rfl HTh.out HL.out.infA (all_oneCell_toArray HL.out.one) ?_; rw [show L.toArray.toList = L from rfl, HSt.out]))
  have HF0 : Hid (FL w (w1.alloc (.cells L.toArray 71)) w1.heap.size G (.slice none 0 0) []) := ⟨HL.out.set w1, B1.out.size, By.nil _ _, B1.out.alloc B1.out.size _⟩
  have hsb : w.heap.size ≤ w1.heap.size := B1.out.size
  clear HO HL HTh HSt B1
  generalize w1.alloc (.cells L.toArray 71) = W0 at *
  generalize w1.heap.size = sb at *
  go_loopw [6, 13] (fun v s13 W => ∃ (k : Nat), s13 = .int .i64 k ∧ k ≤ b.length ∧ Hid (FL w W sb G v (Gl.del G (b.take k)))) (fun _ s13 _ => b.length - (intOf s13).toNat)
  case atStart => exact ⟨0, rfl, Nat.zero_le _, HF0⟩
  case round =>
    obtain ⟨k, rfl, hk, HK⟩ := hrel
    clear HF0
    have hsz : w.heap.size ≤ wr.heap.size := HK.out.bel.size
    have hw1 : IntKind.i64.wrap ((k : Int) + 1) = ((k + 1 : Nat) : Int) := by rw [IntKind.wrap_i64]; omega
    by_cases hlt : k < b.length
    · obtain ⟨g, o, rfl, hg, hc⟩ := HK.out.src HS.out k hlt
      have ht := HK.out.set.cell b[k]
      have h8 := b[k].toNat_lt
      have HE := hidA (Gl.del_next G b k hlt)
      have hll := Gl.del_len G (b.take k)
      rw [List.length_take, Nat.min_eq_left (by omega)] at hll
      generalize Gl.del G (b.take k) = PK at *
      have HK1 := hidA (HK.out.adds b[k])
      have HY := hidA HK.out.row
      generalize hx : b[k] = x at *
      cases hgx : G x with
      | true =>
        rw [hgx] at ht HE
        clear hx HS hgx HK1 HY
        go_wp2
        exact ⟨⟨k + 1, by first | rfl | go_num, hlt, hidA (by rw [HE.out]; simpa using HK.out)⟩, by simp [intOf]; omega⟩
      | false =>
        rw [hgx] at ht HE
        clear hx HS hgx HK
        go_wp2_with (at_builtin; refine wpList_append_own_at _ rfl _ _ 32 rfl w.heap.size 5 iB (.int .u8 0) 1 1 Tryd.underlying32 hiB hz0 hz1 hz2 rfl (by decide) _ _ _ rfl (HY.out.alloc _) ⟨wr.heap.size, 0, none⟩ 1 1 [.int .u8 x.toNat] rfl rfl (cell_one_new _ _ _) (one_u8 _) (by unfold maxLen; omega) (by omega) (by simp; omega) ?_; intro v2 w2 hown hg2 _ hat; (have HK2 := hidA (HK1.out _ _ _ hown hg2)); clear hown hg2 hat)
        exact ⟨⟨k + 1, by first | rfl | go_num, hlt, hidA (by rw [HE.out]; simpa using HK2.out)⟩, by simp [intOf]; omega⟩
    · have hK := HK.out
      rw [List.take_of_length_le (by omega)] at hK
      have HK2 := hidA hK
      clear hK HK HS
      go_wp2
      go_ret
      exact ⟨_, rfl, HK2.out.row, HK2.out.bel⟩
end Go.Proofs.YtncnmeidciailaaDoor
