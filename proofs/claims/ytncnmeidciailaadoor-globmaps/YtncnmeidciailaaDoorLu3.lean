/- The walks of tinselref01's Lend and Kept, and of the law's spoil. Conditions: the rows' cells are as said; lengths that fit. -/
import Derived.Test.YtncnmeidciailaaDoorLt1
import Derived.Test.YtncnmeidciailaaDoorLq5
namespace Go.Proofs.YtncnmeidciailaaDoor
open Go.RowKit
attribute [local go_sem] ext_eq app_eq get_eq
/-- A row that is lent, as far as it is filled: a sign ahead of it and one behind it. -/
def LendR (W : World) (wb : Nat) (b : List UInt8) (k : Nat) : Prop := ∃ arr, W.heap[wb]? = some (.cells arr 5 (0, 0)) ∧ arr.size = b.length + 2 ∧ arr[0]? = some (.int .u8 165) ∧ arr[b.length + 1]? = some (.int .u8 90) ∧ ∀ j (h : j < b.length), arr[j + 1]? = some (.int .u8 (if j < k then (b[j]).toNat else 0))
theorem LendR.new (W : World) (b : List UInt8) : LendR (W.alloc (.cells (((madeCells #[.int .u8 0] (b.length + 2)).setIfInBounds 0 (.int .u8 165)).setIfInBounds (b.length + 1) (.int .u8 90)) 5)) W.heap.size b 0 := by
  have hs : (madeCells #[.int .u8 0] (b.length + 2)).size = b.length + 2 := size_madeCells _ _
  have hq : ∀ q, q < b.length + 2 → (madeCells #[.int .u8 0] (b.length + 2))[q]? = some (.int .u8 0) := fun q h => by simp [madeCells, h, Nat.mod_one]
  generalize madeCells #[Value.int .u8 0] (b.length + 2) = A at *
  refine ⟨_, heap_new _ _, by simpa using hs, ?_, ?_, fun j hj => ?_⟩
  · rw [Array.getElem?_setIfInBounds, if_neg (by omega), Array.getElem?_setIfInBounds, if_pos rfl, if_pos (by omega)]
  · rw [Array.getElem?_setIfInBounds, if_pos rfl, if_pos (by simp; omega)]
  · rw [Array.getElem?_setIfInBounds, if_neg (by omega), Array.getElem?_setIfInBounds, if_neg (by omega), hq _ (by omega), if_neg (by omega)]
theorem LendR.set {W : World} {wb : Nat} {b : List UInt8} {k : Nat} (h : LendR W wb b k) (hk : k < b.length) : LendR (W.setCell ⟨wb, k + 1, none⟩ (.int .u8 (b[k]).toNat)) wb b (k + 1) := by
  obtain ⟨arr, h1, h2, h3, h4, h5⟩ := h
  refine ⟨arr.setIfInBounds (k + 1) (.int .u8 (b[k]).toNat), ?_, by simpa using h2, ?_, ?_, fun j hj => ?_⟩
  · show (W.heap.modify wb _)[wb]? = _
    rw [Array.getElem?_modify, if_pos rfl, h1]; rfl
  · rw [Array.getElem?_setIfInBounds, if_neg (by omega)]; exact h3
  · rw [Array.getElem?_setIfInBounds, if_neg (by omega)]; exact h4
  · rw [Array.getElem?_setIfInBounds]
    by_cases e : j = k
    · subst e
      rw [if_pos rfl, if_pos (by omega), if_pos (by omega)]
    · rw [if_neg (by omega), h5 j hj]
      congr 2
      by_cases hlt : j < k
      · rw [if_pos hlt, if_pos (by omega)]
      · rw [if_neg hlt, if_neg (by omega)]
/-- The row that is lent. -/
theorem LendR.src {W : World} {wb : Nat} {b : List UInt8} (h : LendR W wb b b.length) : Src W (some ⟨wb, 1, none⟩) b := fun j hj => by
  obtain ⟨arr, h1, h2, h3, h4, h5⟩ := h
  refine ⟨wb, 1, rfl, heap_lt h1, ?_⟩
  rw [cell_heap h1, show 1 + j = j + 1 by omega, h5 j hj, if_pos hj]
theorem LendR.grow {W W' : World} {wb : Nat} {b : List UInt8} {k B : Nat} (h : LendR W wb b k) (hB : Below B W W') (hs : wb < B) : LendR W' wb b k := by
  obtain ⟨arr, h1, h2⟩ := h
  exact ⟨arr, (hB.block _ hs).trans h1, h2⟩
theorem LendR.lt {W : World} {wb : Nat} {b : List UInt8} {k : Nat} (h : LendR W wb b k) : wb < W.heap.size := by
  obtain ⟨arr, h1, h2⟩ := h
  exact heap_lt h1
set_option maxRecDepth 100000 in
set_option maxHeartbeats 2000000 in
theorem gLend (b : List UInt8) (a : Option Addr) (c : Nat) (hb : b.length + 2 ≤ 140737488355328) (w : World) (hS : Src w a b) : Calls Tryd.prog 26 #[.slice a b.length c] w fun e w' => e = .returned (.tuple #[.slice (some ⟨w.heap.size, 0, none⟩) (b.length + 2) (b.length + 2), .slice (some ⟨w.heap.size, 1, none⟩) b.length (b.length + 1)]) ∧ LendR w' w.heap.size b b.length ∧ Below w.heap.size w w' := by
  have HS := hidA hS
  clear hS
  have HL0 := hidA (LendR.new w b)
  obtain ⟨n2, Hn2⟩ : ∃ n, Hid (n = b.length + 2) := ⟨_, rfl⟩
  obtain ⟨n1, Hn1⟩ : ∃ n, Hid (n = b.length + 1) := ⟨_, rfl⟩
  have hmk := mk_bytes n2 (by have := Hn2.out; omega) w
  rw [← Hn2.out, ← Hn1.out] at HL0
  have hw2 : IntKind.i64.wrap ((b.length : Int) + 2) = (n2 : Int) := by have := Hn2.out; rw [IntKind.wrap_i64]; omega
  have hw1 : IntKind.i64.wrap ((b.length : Int) + 1) = (n1 : Int) := by have := Hn1.out; rw [IntKind.wrap_i64]; omega
  have h12 : n1 < n2 := by have h1 := Hn1.out; have h2 := Hn2.out; omega
  have hbn : b.length < n1 := by have h1 := Hn1.out; omega
  have h02 : 0 < n2 := by omega
  have h1n : 1 ≤ n1 := by omega
  have hAs : (madeCells #[.int .u8 0] n2).size = n2 := size_madeCells _ _
  have hq : ∀ q, q < n2 → (madeCells #[.int .u8 0] n2)[q]? = some (.int .u8 0) := fun q h => by simp [madeCells, h, Nat.mod_one]
  generalize madeCells #[Value.int .u8 0] n2 = A at *
  have c0 : A[0]? = some (.int .u8 0) := hq 0 h02
  have c1 : (A.setIfInBounds 0 (.int .u8 165))[n1]? = some (.int .u8 0) := by rw [Array.getElem?_setIfInBounds, if_neg (by omega)]; exact hq n1 h12
  have HB0 : Hid (Below w.heap.size w (w.alloc (.cells ((A.setIfInBounds 0 (.int .u8 165)).setIfInBounds n1 (.int .u8 90)) 5))) := (Below.refl w.heap.size w).alloc (Nat.le_refl _) _
  clear hq hAs
  go_enter Tryd.func26, Tryd.ntmps26
  go_wp2
  generalize w.alloc (.cells ((A.setIfInBounds 0 (.int .u8 165)).setIfInBounds n1 (.int .u8 90)) 5) = W0 at *
  clear c0 c1 hmk
  go_loopw [20] (fun s20 W => ∃ (k : Nat), s20 = .int .i64 k ∧ k ≤ b.length ∧ Hid (LendR W w.heap.size b k) ∧ Hid (Below w.heap.size w W)) (fun s20 _ => b.length - (intOf s20).toNat)
  case atStart => exact ⟨0, rfl, Nat.zero_le _, HL0, HB0⟩
  case round =>
    obtain ⟨k, rfl, hk, HK, HB⟩ := hrel
    clear HL0 HB0
    by_cases hlt : k < b.length
    · obtain ⟨m, HM⟩ : ∃ m, Hid (m = k + 1) := ⟨_, rfl⟩
      have hwk : IntKind.i64.wrap ((k : Int) + 1) = (m : Int) := by have := HM.out; rw [IntKind.wrap_i64]; omega
      obtain ⟨g, o, rfl, hg, hc⟩ := (HS.out.grow HB.out (Nat.le_refl _)) k hlt
      have hmn : m < n2 := by have h1 := HM.out; have h2 := Hn2.out; omega
      have hcm : wr.cell? ⟨w.heap.size, m, none⟩ = some (.int .u8 0) := by
        obtain ⟨arr, q1, q2, q3, q4, q5⟩ := HK.out
        rw [cell_heap q1, HM.out, q5 k hlt, if_neg (by omega)]
      have hfm : wr.frozen? ⟨w.heap.size, m, none⟩ = false := by
        obtain ⟨arr, q1, q2⟩ := HK.out
        simp [World.frozen?, q1]
      have HK2 := hidA (HK.out.set hlt)
      rw [← HM.out] at HK2
      have HB2 := hidA (HB.out.setCell (p := ⟨w.heap.size, m, none⟩) (Nat.le_refl _) (.int .u8 (b[k]).toNat))
      have hm1 : m ≤ b.length := by have := HM.out; omega
      have hm2 : b.length - m < b.length - k := by have := HM.out; omega
      clear HS HK HB HM
      generalize b[k] = x at *
      go_wp2
      exact ⟨⟨m, by first | rfl | go_num, hm1, HK2, HB2⟩, by simp [intOf]; omega⟩
    · obtain rfl : k = b.length := by omega
      clear HS
      go_wp2_with (go_region)
      go_ret2
      have h1 := Hn1.out
      have h2 := Hn2.out
      subst h1 h2
      exact ⟨by first | rfl | simp, HK.out, HB.out.trans ((bl_drew wr 1).mono HB.out.size)⟩
set_option maxRecDepth 100000 in
set_option maxHeartbeats 2000000 in
theorem gKept (b : List UInt8) (a : Option Addr) (c wb : Nat) (hb : b.length + 2 ≤ 140737488355328) (w : World) (hL : LendR w wb b b.length) (hS : Src w a b) : Calls Tryd.prog 35 #[.slice (some ⟨wb, 0, none⟩) (b.length + 2) (b.length + 2), .slice a b.length c] w fun e w' => e = .returned (.bool true) ∧ Below w.heap.size w w' := by
  have h1 : ∀ W : World, W.heap = w.heap → ∀ k, (convert 32 9 (.slice (some ⟨wb, 1, none⟩) b.length k)).run Tryd.prog W = .ok (.string ⟨b.toArray⟩) W := fun W e k => (hL.src.heap e).text k
  have h2 : ∀ W : World, W.heap = w.heap → (convert 32 9 (.slice a b.length c)).run Tryd.prog W = .ok (.string ⟨b.toArray⟩) W := fun W e => (hS.heap e).text c
  obtain ⟨arr, q1, q2, q3, q4, q5⟩ := hL
  have c0 : w.cell? ⟨wb, 0, none⟩ = some (.int .u8 165) := by rw [cell_heap q1]; exact q3
  obtain ⟨n2, Hn2⟩ : ∃ n, Hid (n = b.length + 2) := ⟨_, rfl⟩
  obtain ⟨n1, Hn1⟩ : ∃ n, Hid (n = b.length + 1) := ⟨_, rfl⟩
  have c1 : w.cell? ⟨wb, n1, none⟩ = some (.int .u8 90) := by rw [cell_heap q1, Hn1.out]; exact q4
  rw [← Hn2.out]
  have hw2 : IntKind.i64.wrap ((b.length : Int) + 2) = (n2 : Int) := by have := Hn2.out; rw [IntKind.wrap_i64]; omega
  have hw1 : IntKind.i64.wrap ((b.length : Int) + 1) = (n1 : Int) := by have := Hn1.out; rw [IntKind.wrap_i64]; omega
  have h12 : n1 < n2 := by have h1 := Hn1.out; have h2 := Hn2.out; omega
  have h02 : 0 < n2 := by omega
  have h1n : 1 ≤ n1 := by have h1 := Hn1.out; omega
  have hsub : n1 - 1 = b.length := by have h1 := Hn1.out; omega
  have hee : ((n2 : Int) == (n2 : Int)) = true := by simp
  have hd1 : ∀ k m, (convert 32 9 (.slice (some ⟨wb, 1, none⟩) b.length k)).run Tryd.prog (w.drewN m) = .ok (.string ⟨b.toArray⟩) (w.drewN m) := fun k m => h1 (w.drewN m) rfl k
  have hd2 : ∀ m, (convert 32 9 (.slice a b.length c)).run Tryd.prog (w.drewN m) = .ok (.string ⟨b.toArray⟩) (w.drewN m) := fun m => h2 (w.drewN m) rfl
  have hd3 : ∀ k, (convert 32 9 (.slice (some ⟨wb, 1, none⟩) b.length k)).run Tryd.prog w.drew = .ok (.string ⟨b.toArray⟩) w.drew := fun k => h1 w.drew rfl k
  have hd4 : (convert 32 9 (.slice a b.length c)).run Tryd.prog w.drew = .ok (.string ⟨b.toArray⟩) w.drew := h2 w.drew rfl
  clear h1 h2 q1 q2 q3 q4 q5 hS
  go_enter Tryd.func35, Tryd.ntmps35
  go_wp2_with (go_quiet (fail))
  go_ret
  exact ⟨by simp, bl_drew w _⟩
/-- A row that can be written. -/
def Wr (W : World) (B : Nat) (a : Option Addr) (n : Nat) : Prop := ∀ j, j < n → ∃ g o, a = some ⟨g, o, none⟩ ∧ B ≤ g ∧ (W.cell? ⟨g, o + j, none⟩).isSome = true ∧ W.frozen? ⟨g, o + j, none⟩ = false
theorem Wr.keep {W : World} {B : Nat} {a : Option Addr} {n : Nat} (h : Wr W B a n) (p : Addr) (v : Value) : Wr (W.setCell p v) B a n := fun j hj => by
  obtain ⟨g, o, e, hg, hs, hf⟩ := h j hj
  refine ⟨g, o, e, hg, ?_, by rw [World.frozen?_setCell]; exact hf⟩
  by_cases hp : p = ⟨g, o + j, none⟩
  · subst hp
    obtain ⟨u, hu⟩ := Option.isSome_iff_exists.1 hs
    rw [World.cell?_setCell_same _ _ _ hu]; rfl
  · rw [World.cell?_setCell_other _ _ _ _ hp]; exact hs
theorem By.wr {B : Nat} {W : World} {a : Option Addr} {n c : Nat} {bs : List UInt8} (h : By B W (.slice a n c) bs) : Wr W B a n := by
  intro j hj
  rcases h.2 with ⟨e, _⟩ | ⟨g, cap, cur, e, hb, hg, hn, hc, hs, _⟩
  · cases e; omega
  · cases e
    refine ⟨g, 0, rfl, hb, ?_, by simp [World.frozen?, hg]⟩
    rw [cell_heap hg, Nat.zero_add, Array.getElem?_eq_getElem (by omega)]; rfl
theorem Wr.grow {W W' : World} {B B' : Nat} {a : Option Addr} {n : Nat} (h : Wr W B a n) (hb : Below W.heap.size W W') (hB : B' ≤ B) : Wr W' B' a n := fun j hj => by
  obtain ⟨g, o, e, hg, hs, hf⟩ := h j hj
  have hlt : g < W.heap.size := by
    obtain ⟨u, hu⟩ := Option.isSome_iff_exists.1 hs
    exact block_lt_of_cell hu
  have hk := hb.block g hlt
  refine ⟨g, o, e, by omega, ?_, ?_⟩
  · rw [World.cell?_of_block (w := W) hk]; exact hs
  · have : W'.frozen? ⟨g, o + j, none⟩ = W.frozen? ⟨g, o + j, none⟩ := by simp [World.frozen?, hk]
    rw [this]; exact hf
set_option maxRecDepth 100000 in
set_option maxHeartbeats 2000000 in
theorem gSpoil (a : Option Addr) (n c B : Nat) (hn : n ≤ 2 ^ 62) (w : World) (hW : Wr w B a n) : Calls Tryd.prog 23 #[.slice a n c] w fun e w' => e = .returned (.tuple #[]) ∧ Below B w w' ∧ ∀ B' a' n', Wr w B' a' n' → Wr w' B' a' n' := by
  have HW0 := hidA hW
  clear hW
  go_enter Tryd.func23, Tryd.ntmps23
  go_wp2
  go_loopw [5] (fun s5 W => ∃ (k : Nat), s5 = .int .i64 k ∧ k ≤ n ∧ Hid (Below B w W) ∧ Hid (∀ B' a' n', Wr w B' a' n' → Wr W B' a' n')) (fun s5 _ => n - (intOf s5).toNat)
  case atStart => exact ⟨0, rfl, Nat.zero_le _, Below.refl _ _, fun _ _ _ h => h⟩
  case round =>
    obtain ⟨k, rfl, hk, HB, HK⟩ := hrel
    by_cases hlt : k < n
    · have hw1 : IntKind.i64.wrap ((k : Int) + 1) = ((k + 1 : Nat) : Int) := by rw [IntKind.wrap_i64]; omega
      obtain ⟨g, o, rfl, hg, hs, hf⟩ := HK.out _ _ _ HW0.out k hlt
      obtain ⟨u, hu⟩ := Option.isSome_iff_exists.1 hs
      have HB2 := hidA (HB.out.setCell (p := ⟨g, o + k, none⟩) hg (.int .u8 7))
      have HK2 : Hid (∀ B' a' n', Wr w B' a' n' → Wr (wr.setCell ⟨g, o + k, none⟩ (.int .u8 7)) B' a' n') := fun B' a' n' h => (HK.out B' a' n' h).keep _ _
      clear HB HK HW0 hs
      go_wp2
      exact ⟨⟨k + 1, by first | rfl | go_num, hlt, HB2, HK2⟩, by simp [intOf]; omega⟩
    · clear HW0
      go_wp2
      exact ⟨rfl, _, results_none rfl _ _ _, rfl, HB.out, HK.out⟩
end Go.Proofs.YtncnmeidciailaaDoor
