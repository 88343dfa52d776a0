/- A slot: the walks of ino and free. Condition: the array holds 32 bytes. -/
import Derived.Test.YtfmemkninmpfjaaGreatDoorIno3
import Derived.Test.YtfmemkninmpfjaaGreatDoorTab3
import Derived.Test.YtfmemkninmpfjaaGreatDoorShelf
import Derived.Test.YtfmemkninmpfjaaGreatDoorSame
namespace Go.Proofs.YtfmemkninmpfjaaGreatDoor
open Go.RowKit
/-- A list of values that are the bytes of a slot. -/
structure Slot (L : List Value) (s : Nat → Nat) : Prop where
  len : L.length = 32
  at_ : ∀ j, j < 32 → L[j]? = some (.int .u8 (s j : Nat))
  lt : ∀ j, s j < 256
def zeroSl : Array Value := Array.replicate 32 (.int .u8 0)
theorem sizeSl : zeroSl.size = 32 := rfl
theorem zvSl (w : World) : (zeroValue 109).run Tryz.prog w = .ok (.agg zeroSl) w := by kernel_rfl
theorem undS : Tryz.prog.underlying 109 = some (.array 32 5) := by kernel_rfl
theorem infS : (Tryz.prog.info? 109).map (·.size) = some 32 := by kernel_rfl
theorem Slot.one {L : List Value} {s : Nat → Nat} (h : Slot L s) : ∀ v ∈ L, v.oneCell' = true := fun v hv => by
  obtain ⟨j, hj, rfl⟩ := List.getElem_of_mem hv
  have := h.at_ j (by have := h.len; omega)
  rw [List.getElem?_eq_getElem hj] at this
  rw [Option.some.inj this]; rfl
theorem Slot.inf {L : List Value} {s : Nat → Nat} (h : Slot L s) : (Tryz.prog.info? 109).map (·.size) = some L.length := by rw [h.len]; exact infS
theorem range_new (w : World) (L : List Value) (t : TypeId) : (w.alloc (.cells L.toArray t)).rangeAt w.heap.size 0 L := fun j v hv => by
  rw [Nat.zero_add, World.cell?_alloc_at _ _ _ _ rfl]; simpa using hv
set_option maxRecDepth 100000 in
set_option maxHeartbeats 1000000 in
theorem sIno (L : List Value) (s : Nat → Nat) (w : World) (h : Slot L s) : Calls Tryz.prog 60 #[.agg L.toArray] w fun e w' => e = .returned (.int .i64 (le4 s 0 : Nat)) ∧ Below w.heap.size w w' := by
  have HC : Hid (∀ j, j < 32 → (w.alloc (.cells L.toArray 109)).cell? ⟨w.heap.size, j, none⟩ = some (.int .u8 (s j : Nat))) := fun j hj => by
    rw [World.cell?_alloc_at _ _ _ _ rfl]; simpa using h.at_ j hj
  have HD := (show Hid (∀ j, s j < 256) from h.lt)
  have hsz : L.toArray.size = 32 := by simpa using h.len
  generalize L.toArray = A at *
  clear h
  go_enter Tryz.func60, Tryz.ntmps60
  go_wp2
  go_loop [3, 5] (fun x y => ∃ j z : Nat, j ≤ 4 ∧ y = .int .i64 j ∧ x = .int .i64 (z : Nat) ∧ Hid (z = lePart s 0 j)) (fun _ y => 4 - (intOf y).toNat)
  case atStart => exact ⟨0, 0, by omega, rfl, rfl, rfl⟩
  case round =>
    obtain ⟨j, z, hj, rfl, rfl, HZ⟩ := hrel
    by_cases hlj : j < 4
    · have hc := HC.out j (by omega)
      have hstep := le_step s HD.out 0 j hlj
      rw [Nat.zero_add, ← HZ.out] at hstep
      have hb := HD.out j
      generalize s j = y at *
      obtain ⟨z', HZ'⟩ : ∃ z', Hid (z' = lePart s 0 (j + 1)) := ⟨_, rfl⟩
      rw [← HZ'.out] at hstep
      obtain rfl | rfl | rfl | rfl : j = 0 ∨ j = 1 ∨ j = 2 ∨ j = 3 := by omega
      all_goals go_wp2
      · rw [show ((y * 2 ^ (8 * 0) : Nat) : Int) = (y : Int) by simp] at hstep
        rw [hstep]
        exact ⟨⟨1, _, by omega, rfl, rfl, HZ'⟩, by simp [intOf]⟩
      · rw [show ((y * 2 ^ (8 * 1) : Nat) : Int) = (y : Int) * 256 by omega] at hstep
        rw [hstep]
        exact ⟨⟨2, _, by omega, rfl, rfl, HZ'⟩, by simp [intOf]⟩
      · rw [show ((y * 2 ^ (8 * 2) : Nat) : Int) = (y : Int) * 65536 by omega] at hstep
        rw [hstep]
        exact ⟨⟨3, _, by omega, rfl, rfl, HZ'⟩, by simp [intOf]⟩
      · rw [show ((y * 2 ^ (8 * 3) : Nat) : Int) = (y : Int) * 16777216 by omega] at hstep
        rw [hstep]
        exact ⟨⟨4, _, by omega, rfl, rfl, HZ'⟩, by simp [intOf]⟩
    · obtain rfl : j = 4 := by omega
      go_wp2
      go_ret
      exact ⟨by rw [HZ.out]; rfl, (Below.refl _ _).alloc (Nat.le_refl _) _⟩
theorem nat_beq0 (n : Nat) : ((n : Int) == 0) = decide (n = 0) := by
  by_cases h : n = 0
  · subst h; rfl
  · simp [h]
set_option maxRecDepth 100000 in
set_option maxHeartbeats 1000000 in
theorem sFree (L : List Value) (s : Nat → Nat) (w : World) (h : Slot L s) : Calls Tryz.prog 97 #[.agg L.toArray] w fun e w' => e = .returned (.bool (decide (le4 s 0 = 0))) ∧ Below w.heap.size w w' := by
  have HH : Hid (Slot L s) := h
  have HR : Hid ((w.alloc (.cells L.toArray 109)).rangeAt w.heap.size 0 L) := range_new w L _
  clear h
  go_enter Tryz.func97, Tryz.ntmps97
  go_wp2_with (first | (refine wpList_load_mid rfl 109 _ rfl w.heap.size 0 rfl L _ HR.out undS rfl HH.out.inf ?_) | (go_at_call 60; refine (sIno L s _ HH.out).mono ?_; rintro e w1 ⟨rfl, HB1⟩))
  go_ret
  refine ⟨?_, ((Below.refl w.heap.size w).alloc (Nat.le_refl _) _).trans (HB1.mono (by simp))⟩
  show Ending.returned (.bool (((le4 s 0 : Nat) : Int) == 0)) = _
  rw [nat_beq0]
end Go.Proofs.YtfmemkninmpfjaaGreatDoor
