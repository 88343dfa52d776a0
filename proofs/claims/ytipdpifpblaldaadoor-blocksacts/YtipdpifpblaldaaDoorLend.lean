/- The walks of Lend and Kept: bytes handed out in the middle of greater memory; that memory is as it was. Conditions: the bytes can be read; they are fewer than 2^47. -/
import Derived.Test.YtipdpifpblaldaaDoorRefX
namespace Go.Proofs.YtipdpifpblaldaaDoor
open Go.RowKit
/-- The memory that Lend hands out, as far as it is filled. -/
structure LendAt (A : Array Value) (bs : List Nat) (k : Nat) : Prop where
  size : A.size = bs.length + 2
  first : A[0]? = some (byteV 165)
  last : A[bs.length + 1]? = some (byteV 90)
  mid : ∀ j x, j < k → bs[j]? = some x → A[j + 1]? = some (byteV x)
theorem mk_bytes (L : Nat) (hL : L + 2 ≤ 140737488355330) (w : World) : (Instr.makeSlice 33 (.int .i64 ((L : Int) + 2)) (.int .i64 ((L : Int) + 2))).run Tryd.prog w = .ok (.slice (some ⟨w.heap.size, 0, none⟩) (L + 2) (L + 2)) (w.alloc (.cells (madeCells #[.int .u8 0] (L + 2)) 5)) := by
  obtain ⟨i, h1, h2, h3, h4⟩ : ∃ i, Tryd.prog.info? 5 = some i ∧ i.zero = some (.int .u8 0) ∧ i.size = 1 ∧ i.bytes = 1 := ⟨_, rfl, by kernel_rfl, by kernel_rfl, by kernel_rfl⟩
  have := run_make (P := Tryd.prog) w 33 5 i _ und33 h1 h2 .i64 .i64 ((L : Int) + 2) ((L : Int) + 2) (by omega) (by omega) (by rw [h4]; omega) (by omega)
  rw [h3, show ((L : Int) + 2).toNat = L + 2 by omega] at this
  simpa [Value.cells] using this
theorem lend0 (bs : List Nat) (z : Array Value) : LendAt (((madeCells z (bs.length + 2)).setIfInBounds 0 (.int .u8 165)).setIfInBounds (bs.length + 1) (.int .u8 90)) bs 0 where
  size := by simp [size_madeCells]
  first := by
    rw [Array.getElem?_setIfInBounds_ne (by omega), Array.getElem?_setIfInBounds_self_of_lt (by rw [size_madeCells]; omega)]; rfl
  last := by rw [Array.getElem?_setIfInBounds_self_of_lt (by simp [size_madeCells])]; rfl
  mid j x hj := by omega
theorem LendAt.step {A : Array Value} {bs : List Nat} {k : Nat} (h : LendAt A bs k) (hk : k < bs.length) : LendAt (A.setIfInBounds (k + 1) (byteV bs[k])) bs (k + 1) where
  size := by rw [Array.size_setIfInBounds]; exact h.size
  first := by rw [Array.getElem?_setIfInBounds_ne (by omega)]; exact h.first
  last := by rw [Array.getElem?_setIfInBounds_ne (by omega)]; exact h.last
  mid j x hj hx := by
    by_cases e : j = k
    · subst e
      rw [Array.getElem?_setIfInBounds_self_of_lt (by rw [h.size]; omega)]
      rw [List.getElem?_eq_getElem hk] at hx
      rw [Option.some.inj hx]
    · rw [Array.getElem?_setIfInBounds_ne (by omega)]; exact h.mid j x (by omega) hx
set_option maxHeartbeats 1000000 in
theorem lend_any (w : World) (a : Option Addr) (cap : Nat) (bs : List Nat) (hL : bs.length + 2 ≤ 140737488355330)
    (hsrc : ∀ j x, bs[j]? = some x → ∃ g o, a = some ⟨g, o, none⟩ ∧ w.cell? ⟨g, o + j, none⟩ = some (byteV x)) :
    Calls Tryd.prog 29 #[.slice a bs.length cap] w fun e w' => ∃ A m, LendAt A bs bs.length ∧ e = .returned (.tuple #[.slice (some ⟨w.heap.size, 0, none⟩) (bs.length + 2) (bs.length + 2), .slice (some ⟨w.heap.size, 1, none⟩) bs.length (bs.length + 1)]) ∧
      w' = (w.alloc (.cells A 5)).drewN m := by
  have HS : Hid (∀ j x, bs[j]? = some x → ∃ g o, a = some ⟨g, o, none⟩ ∧ w.cell? ⟨g, o + j, none⟩ = some (byteV x)) := hsrc
  have hmk := mk_bytes bs.length hL w
  have hsz := size_madeCells #[.int .u8 0] (bs.length + 2)
  clear hsrc
  go_enter Tryd.func29, Tryd.ntmps29
  go_wp2
  go_loopw [20] (fun x wr => ∃ k A, k ≤ bs.length ∧ x = .int .i64 (k : Nat) ∧ Hid (wr = w.alloc (.cells A 5)) ∧ Hid (LendAt A bs k)) (fun x _ => bs.length - (intOf x).toNat)
  case atStart => exact ⟨0, _, Nat.zero_le _, rfl, rfl, lend0 bs _⟩
  case round =>
    obtain ⟨k, A, hk, rfl, hwr, hA⟩ := hrel
    obtain rfl := hwr.out
    clear hwr hmk hsz
    by_cases hlt : k < bs.length
    · obtain ⟨g, o, rfl, hcs⟩ := HS.out k bs[k] (List.getElem?_eq_getElem hlt)
      have hg := block_lt_of_cell hcs
      unfold byteV at hcs
      have hlt' : (k : Int) < bs.length := by omega
      obtain ⟨ov, hov⟩ : ∃ ov, A[k + 1]? = some ov := ⟨_, Array.getElem?_eq_getElem (by rw [hA.out.size]; omega)⟩
      have HN : Hid (LendAt (A.setIfInBounds (k + 1) (.int .u8 (bs[k] : Nat))) bs (k + 1)) := hA.out.step hlt
      generalize bs[k] = x at *
      go_wp2
      exact ⟨⟨k + 1, _, hlt, by go_num, rfl, HN⟩, by simp [intOf]; omega⟩
    · obtain rfl : k = bs.length := by omega
      go_wp2
      go_region
      go_wp2
      go_ret2
      refine ⟨A, 1, hA.out, ?_, rfl⟩
      simp
set_option maxHeartbeats 1000000 in
theorem kept_true (w : World) (h : Nat) (a : Option Addr) (cap : Nat) (bs : List Nat) (hL : bs.length + 2 ≤ 140737488355330) (hf : w.cell? ⟨h, 0, none⟩ = some (.int .u8 165)) (hl : w.cell? ⟨h, bs.length + 1, none⟩ = some (.int .u8 90))
    (hb : BytesAt w (.slice a bs.length cap) bs) (hm : BytesAt w (.slice (some ⟨h, 1, none⟩) bs.length (bs.length + 1)) bs) :
    Calls Tryd.prog 31 #[.slice (some ⟨h, 0, none⟩) (bs.length + 2) (bs.length + 2), .slice a bs.length cap] w fun e w' => e = .returned (.bool true) ∧ ∃ m, w' = w.drewN m := by
  have c1 : ∀ m, (convert 33 9 (.slice a bs.length cap)).run Tryd.prog (w.drewN m) = .ok (.string (strOf bs)) (w.drewN m) := fun m => conv_bytes (w := w.drewN m) hb
  have c2 : ∀ m, (convert 33 9 (.slice (some ⟨h, 1, none⟩) bs.length (bs.length + 1))).run Tryd.prog (w.drewN m) = .ok (.string (strOf bs)) (w.drewN m) := fun m => conv_bytes (w := w.drewN m) hm
  clear hb hm
  go_enter Tryd.func31, Tryd.ntmps31
  go_wp2
  go_quiet (fail)
  go_wp2
  go_ret
  exact ⟨by simp, _, rfl⟩
end Go.Proofs.YtipdpifpblaldaaDoor
