/- Several texts of this claim, one behind the other, in their order. -/
import Derived.Test.YtpcbpikhiooafaaGreatDoorM3
import Derived.Test.YtpcbpikhiooafaaGreatDoorM6
import Derived.Test.YtpcbpikhiooafaaGreatDoorShelf
import Derived.Test.YtpcbpikhiooafaaGreatDoorSame
import Derived.Test.YtpcbpikhiooafaaGreatDoorPa0
import Derived.Lib.BufferWrite
/- A slot: the walks of ino and free. Condition: the array holds 32 bytes. -/
namespace Go.Proofs.YtpcbpikhiooafaaGreatDoor
open Go.RowKit
/-- A list of values that are the bytes of a slot. -/
structure Slot (L : List Value) (s : Nat → Nat) : Prop where
  len : L.length = 32
  at_ : ∀ j, j < 32 → L[j]? = some (.int .u8 (s j : Nat))
  lt : ∀ j, s j < 256
def zeroSl : Array Value := Array.replicate 32 (.int .u8 0)
theorem sizeSl : zeroSl.size = 32 := rfl
theorem zvSl (w : World) : (zeroValue 97).run Tryz.prog w = .ok (.agg zeroSl) w := by kernel_rfl
theorem undS : Tryz.prog.underlying 97 = some (.array 32 5) := by kernel_rfl
theorem infS : (Tryz.prog.info? 97).map (·.size) = some 32 := by kernel_rfl
theorem Slot.one {L : List Value} {s : Nat → Nat} (h : Slot L s) : ∀ v ∈ L, v.oneCell' = true := fun v hv => by
  obtain ⟨j, hj, rfl⟩ := List.getElem_of_mem hv
  have := h.at_ j (by have := h.len; omega)
  rw [List.getElem?_eq_getElem hj] at this
  rw [Option.some.inj this]; rfl
theorem Slot.inf {L : List Value} {s : Nat → Nat} (h : Slot L s) : (Tryz.prog.info? 97).map (·.size) = some L.length := by rw [h.len]; exact infS
theorem range_new (w : World) (L : List Value) (t : TypeId) : (w.alloc (.cells L.toArray t)).rangeAt w.heap.size 0 L := fun j v hv => by
  rw [Nat.zero_add, World.cell?_alloc_at _ _ _ _ rfl]; simpa using hv
set_option maxRecDepth 100000 in
set_option maxHeartbeats 1000000 in
theorem sIno (L : List Value) (s : Nat → Nat) (w : World) (h : Slot L s) : Calls Tryz.prog 113 #[.agg L.toArray] w fun e w' => e = .returned (.int .i64 (le4 s 0 : Nat)) ∧ Below w.heap.size w w' := by
  have HC : Hid (∀ j, j < 32 → (w.alloc (.cells L.toArray 97)).cell? ⟨w.heap.size, j, none⟩ = some (.int .u8 (s j : Nat))) := fun j hj => by
    rw [World.cell?_alloc_at _ _ _ _ rfl]; simpa using h.at_ j hj
  have HD := (show Hid (∀ j, s j < 256) from h.lt)
  have hsz : L.toArray.size = 32 := by simpa using h.len
  generalize L.toArray = A at *
  clear h
  go_enter Tryz.func113, Tryz.ntmps113
  go_wp2
  go_loop [3, 5] (fun x y => ∃ j z : Nat, j ≤ 4 ∧ y = .int .i64 j ∧ x = .int .i64 (z : Nat) ∧ Hid (z = lePart s 0 j)) (fun _ y => 4 - (intOf y).toNat)
  case atStart => exact ⟨0, 0, by omega, rfl, rfl, rfl⟩
  case round =>
    obtain ⟨j, z, hj, rfl, rfl, HZ⟩ := hrel
    by_cases hlj : j < 4
    · have hc := HC.out j (by omega)
      have hstep := le_step s HD.out 0 j hlj
      rw [Nat.zero_add, ← HZ.out] at hstep
      have hb := HD.out j
      generalize s j = y at *
      obtain ⟨z', HZ'⟩ : ∃ z', Hid (z' = lePart s 0 (j + 1)) := ⟨_, rfl⟩
      rw [← HZ'.out] at hstep
      obtain rfl | rfl | rfl | rfl : j = 0 ∨ j = 1 ∨ j = 2 ∨ j = 3 := by omega
      all_goals go_wp2
      · rw [show ((y * 2 ^ (8 * 0) : Nat) : Int) = (y : Int) by simp] at hstep
        rw [hstep]
        exact ⟨⟨1, _, by omega, rfl, rfl, HZ'⟩, by simp [intOf]⟩
      · rw [show ((y * 2 ^ (8 * 1) : Nat) : Int) = (y : Int) * 256 by omega] at hstep
        rw [hstep]
        exact ⟨⟨2, _, by omega, rfl, rfl, HZ'⟩, by simp [intOf]⟩
      · rw [show ((y * 2 ^ (8 * 2) : Nat) : Int) = (y : Int) * 65536 by omega] at hstep
        rw [hstep]
        exact ⟨⟨3, _, by omega, rfl, rfl, HZ'⟩, by simp [intOf]⟩
      · rw [show ((y * 2 ^ (8 * 3) : Nat) : Int) = (y : Int) * 16777216 by omega] at hstep
        rw [hstep]
        exact ⟨⟨4, _, by omega, rfl, rfl, HZ'⟩, by simp [intOf]⟩
    · obtain rfl : j = 4 := by omega
      go_wp2
      go_ret
      exact ⟨by rw [HZ.out]; rfl, (Below.refl _ _).alloc (Nat.le_refl _) _⟩
theorem nat_beq0 (n : Nat) : ((n : Int) == 0) = decide (n = 0) := by
  by_cases h : n = 0
  · subst h; rfl
  · simp [h]
set_option maxRecDepth 100000 in
set_option maxHeartbeats 1000000 in
theorem sFree (L : List Value) (s : Nat → Nat) (w : World) (h : Slot L s) : Calls Tryz.prog 120 #[.agg L.toArray] w fun e w' => e = .returned (.bool (decide (le4 s 0 = 0))) ∧ Below w.heap.size w w' := by
  have HH : Hid (Slot L s) := h
  have HR : Hid ((w.alloc (.cells L.toArray 97)).rangeAt w.heap.size 0 L) := range_new w L _
  clear h
  go_enter Tryz.func120, Tryz.ntmps120
  go_wp2_with (first | (refine wpList_load_mid rfl 97 _ rfl w.heap.size 0 rfl L _ HR.out undS rfl HH.out.inf ?_) | (go_at_call 113; refine (sIno L s _ HH.out).mono ?_; rintro e w1 ⟨rfl, HB1⟩))
  go_ret
  refine ⟨?_, ((Below.refl w.heap.size w).alloc (Nat.le_refl _) _).trans (HB1.mono (by simp))⟩
  show Ending.returned (.bool (((le4 s 0 : Nat) : Int) == 0)) = _
  rw [nat_beq0]
end Go.Proofs.YtpcbpikhiooafaaGreatDoor
/- A slot: the walks of with and count. Condition: the array holds 32 bytes. -/
namespace Go.Proofs.YtpcbpikhiooafaaGreatDoor
open Go.RowKit
def wth (s : Nat → Nat) (n j : Nat) : Nat → Nat := fun i => if i < j then n / 2 ^ (8 * i) % 256 else s i
structure WithAt (A : Array Value) (s : Nat → Nat) (n j : Nat) : Prop where
  size : A.size = 32
  at_ : ∀ i, i < 32 → A[i]? = some (.int .u8 (wth s n j i : Nat))
theorem WithAt.next {A : Array Value} {s : Nat → Nat} {n j x : Nat} (h : WithAt A s n j) (hj : j < 32) (hx : x = n / 2 ^ (8 * j) % 256) : WithAt (A.setIfInBounds j (.int .u8 (x : Nat))) s n (j + 1) := by
  refine ⟨by simpa using h.size, fun i hi => ?_⟩
  by_cases e : i = j
  · subst e
    rw [Array.getElem?_setIfInBounds_self_of_lt (by rw [h.size]; exact hj), hx]
    simp [wth]
  · rw [Array.getElem?_setIfInBounds_ne (fun h => e h.symm), h.at_ i hi]
    have : (i < j) ↔ (i < j + 1) := by omega
    simp only [wth, this]
theorem below_setCells {n : Nat} {a w : World} (h : Below n a w) {b : Nat} (hb : n ≤ b) (L : List Value) : ∀ o, Below n a (w.setCells b o L) := by
  induction L generalizing w with
  | nil => intro o; exact h
  | cons v r ih => intro o; exact ih (h.setCell (p := ⟨b, o, none⟩) hb v) (o + 1)
set_option maxRecDepth 100000 in
set_option maxHeartbeats 1000000 in
theorem sWith (L : List Value) (s : Nat → Nat) (n : Nat) (w : World) (h : Slot L s) (hn : n < 4294967296) : Calls Tryz.prog 64 #[.agg L.toArray, .int .i64 n] w fun e w' => (∃ L', e = .returned (.agg L'.toArray) ∧ Slot L' (wth s n 4)) ∧ Below w.heap.size w w' := by
  have HH : Hid (Slot L s) := h
  have hz := zvSl
  have HA : Hid (WithAt L.toArray s n 0) := ⟨by simpa using h.len, fun i hi => by simpa [wth] using h.at_ i hi⟩
  clear h
  generalize L.toArray = A at *
  go_enter Tryz.func64, Tryz.ntmps64
  go_wp2
  go_loopw [6] (fun x W => ∃ (j : Nat) (A' : Array Value), j ≤ 4 ∧ x = .int .i64 j ∧ W = (w.alloc (.cells A' 97)).alloc (.cells zeroSl 97) ∧ Hid (WithAt A' s n j)) (fun x _ => 4 - (intOf x).toNat)
  case atStart => exact ⟨0, A, by omega, rfl, rfl, HA⟩
  case round =>
    obtain ⟨j, A', hj, rfl, rfl, HJ⟩ := hrel
    by_cases hlj : j < 4
    · have hsz := HJ.out.size
      have hcl : (w.alloc (.cells A' 97)).cell? ⟨w.heap.size, j, none⟩ = some (.int .u8 (wth s n j j : Nat)) := by rw [World.cell?_alloc_at _ _ _ _ rfl]; exact HJ.out.at_ j (by omega)
      generalize wth s n j j = y0 at *
      obtain rfl | rfl | rfl | rfl : j = 0 ∨ j = 1 ∨ j = 2 ∨ j = 3 := by omega
      all_goals go_wp2
      · rw [show ((n : Int) % 256) = ((n / 2 ^ (8 * 0) % 256 : Nat) : Int) by simp]
        exact ⟨⟨1, _, by omega, rfl, rfl, HJ.out.next (by omega) rfl⟩, by simp [intOf]⟩
      · rw [show ((n : Int) / 256 % 256) = ((n / 2 ^ (8 * 1) % 256 : Nat) : Int) by omega]
        exact ⟨⟨2, _, by omega, rfl, rfl, HJ.out.next (by omega) rfl⟩, by simp [intOf]⟩
      · rw [show ((n : Int) / 65536 % 256) = ((n / 2 ^ (8 * 2) % 256 : Nat) : Int) by omega]
        exact ⟨⟨3, _, by omega, rfl, rfl, HJ.out.next (by omega) rfl⟩, by simp [intOf]⟩
      · rw [show ((n : Int) / 16777216) = ((n / 2 ^ (8 * 3) % 256 : Nat) : Int) by omega]
        exact ⟨⟨4, _, by omega, rfl, rfl, HJ.out.next (by omega) rfl⟩, by simp [intOf]⟩
    · obtain rfl : j = 4 := by omega
      obtain ⟨L', hL'⟩ : ∃ L', L' = A'.toList := ⟨_, rfl⟩
      obtain rfl : A' = L'.toArray := by rw [hL']
      have HS' : Hid (Slot L' (wth s n 4)) := ⟨by simpa using HJ.out.size, fun i hi => by simpa using HJ.out.at_ i hi, fun i => by
        unfold wth; split
        · exact Nat.mod_lt _ (by omega)
        · exact HH.out.lt i⟩
      clear hL'
      have HR : Hid (((w.alloc (.cells L'.toArray 97)).alloc (.cells zeroSl 97)).rangeAt w.heap.size 0 L') := World.rangeAt_alloc (range_new w L' _) _
      have HTh : Hid (((w.alloc (.cells L'.toArray 97)).alloc (.cells zeroSl 97)).there (w.heap.size + 1) 0 L'.toArray.size) := by
        have := there_new (w.alloc (.cells L'.toArray 97)) 97 zeroSl (n := 32) sizeSl
        rw [World.size_alloc] at this
        show World.there _ _ _ _
        rw [show L'.toArray.size = 32 by simpa using HS'.out.len]; exact this
      have HI : Hid ((Tryz.prog.info? 97).map (·.size) = some L'.toArray.size) := by show _ = _; rw [show L'.toArray.size = L'.length by simp]; exact HS'.out.inf
      go_wp2_with (first | (refine wpList_load_mid rfl 97 _ rfl w.heap.size 0 rfl L' _ HR.out undS rfl HS'.out.inf ?_) | (refine wpList_store_mid rfl 97 _ _ rfl (w.heap.size + 1) 0 L'.toArray rfl rfl HTh.out HI.out (all_oneCell_toArray HS'.out.one) ?_))
      have hq := World.rangeAt_setCells_same _ (w.heap.size + 1) 0 L' (by have := HTh.out; simpa using this)
      refine bodyPost_ret (v := .agg L'.toArray) (results_cell1 rfl _ _ _ _ rfl (run_loadVar_mid _ _ _ _ L' _ hq undS rfl HS'.out.inf)) rfl ⟨⟨L', rfl, HS'.out⟩, ?_⟩
      exact below_setCells (((Below.refl w.heap.size w).alloc (Nat.le_refl _) _).alloc (by simp) _) (by omega) _ _
end Go.Proofs.YtpcbpikhiooafaaGreatDoor
/- A slot: the walks of newSlot and name. Conditions: the array holds 32 bytes; a name of at most 28 bytes. -/
namespace Go.Proofs.YtpcbpikhiooafaaGreatDoor
open Go.RowKit
theorem undB : Tryz.prog.underlying 22 = some (.slice 5) := by kernel_rfl
/-- The bytes of a new slot, its number not yet there. -/
def nslot0 (l : List UInt8) : Nat → Nat := fun i => if i < 4 then 0 else ((l[i - 4]?).map UInt8.toNat).getD 0
def nslot (l : List UInt8) (n : Nat) : Nat → Nat := wth (nslot0 l) n 4
theorem zero_getS (j : Nat) (hj : j < 32) : zeroSl.toList[j]? = some (.int .u8 0) := by
  unfold zeroSl; rw [Array.toList_replicate, List.getElem?_replicate, if_pos hj]
theorem copyS (l : List UInt8) (hl : l.length ≤ 28) (w : World) : ∃ Lc W3, (Builtin.copy_ #[22, 9] 3 #[.slice (some ⟨w.heap.size + 1, 4, none⟩) 28 28, .string ⟨l.toArray⟩]).run Tryz.prog ((w.alloc (.cells zeroSl 97)).alloc (.cells zeroSl 97)) = .ok (goInt l.length) W3 ∧
    W3.rangeAt (w.heap.size + 1) 0 Lc ∧ Slot Lc (nslot0 l) ∧ W3.there w.heap.size 0 32 ∧ Below w.heap.size w W3 ∧ w.heap.size + 2 ≤ W3.heap.size := by
  have hg : ((w.alloc (.cells zeroSl 97)).alloc (.cells zeroSl 97)).heap[w.heap.size + 1]? = some (.cells zeroSl 97 (0, 0)) := by
    have := heap_alloc_new (w.alloc (.cells zeroSl 97)) (.cells zeroSl 97)
    rwa [World.size_alloc] at this
  have hss : (⟨l.toArray⟩ : ByteArray).size = l.length := by simp [ByteArray.size]
  have hrun := Lib.run_copy_row_string (P := Tryz.prog) ((w.alloc (.cells zeroSl 97)).alloc (.cells zeroSl 97)) 22 9 3 5 (w.heap.size + 1) 4 28 28 ⟨l.toArray⟩ zeroSl 97 undB (by kernel_rfl) hg (by rw [hss]; exact hl) (by rw [hss, sizeSl]; omega)
  rw [hss] at hrun
  have hB : Below w.heap.size w (((w.alloc (.cells zeroSl 97)).alloc (.cells zeroSl 97)).setRow (w.heap.size + 1) (zeroSl.toList.take 4 ++ Lib.byteCells (⟨l.toArray⟩ : ByteArray).data.toList ++ zeroSl.toList.drop (4 + l.length)).toArray) :=
    below_setRow (((Below.refl w.heap.size w).alloc (Nat.le_refl _) _).alloc (by simp) _) (by omega) _
  refine ⟨zeroSl.toList.take 4 ++ Lib.byteCells (⟨l.toArray⟩ : ByteArray).data.toList ++ zeroSl.toList.drop (4 + l.length), _, hrun, fun j v hv => ?_, ⟨?_, fun j hj => ?_, fun j => ?_⟩, fun j hj => ?_, hB, ?_⟩
  · rw [Nat.zero_add, cell_of_row _ (w.heap.size + 1) j _ 97 (0, 0) (setRow_heap _ _ _ _ _ _ hg)]
    simpa using hv
  · simp [Lib.byteCells, zeroSl]; omega
  · by_cases h4 : j < 4
    · rw [List.append_assoc, List.getElem?_append_left (by simp [zeroSl]; omega), List.getElem?_take, if_pos h4, zero_getS j hj]
      simp [nslot0, h4]
    · by_cases h5 : j < 4 + l.length
      · rw [List.getElem?_append_left (by simp [Lib.byteCells, zeroSl]; omega), List.getElem?_append_right (by simp [zeroSl]; omega)]
        simp [Lib.byteCells, zeroSl, nslot0, h4]
        rw [List.getElem?_eq_getElem (by omega)]
        simp
      · rw [List.getElem?_append_right (by simp [Lib.byteCells, zeroSl]; omega)]
        have e : (zeroSl.toList.take 4 ++ Lib.byteCells (⟨l.toArray⟩ : ByteArray).data.toList).length = 4 + l.length := by simp [Lib.byteCells, zeroSl]; omega
        rw [e, List.getElem?_drop, show 4 + l.length + (j - (4 + l.length)) = j by omega, zero_getS j hj]
        simp [nslot0, h4, List.getElem?_eq_none (show l.length ≤ j - 4 by omega)]
  · unfold nslot0
    split
    · omega
    · cases l[j - 4]? with
      | none => simp
      | some x => exact x.toNat_lt
  · have h0 := there_new w 97 zeroSl (n := 32) sizeSl j hj
    have h1 := setRow_other ((w.alloc (.cells zeroSl 97)).alloc (.cells zeroSl 97)) (w.heap.size + 1) w.heap.size (zeroSl.toList.take 4 ++ Lib.byteCells (⟨l.toArray⟩ : ByteArray).data.toList ++ zeroSl.toList.drop (4 + l.length)).toArray (by omega)
    have h2 : ((w.alloc (.cells zeroSl 97)).alloc (.cells zeroSl 97)).heap[w.heap.size]? = (w.alloc (.cells zeroSl 97)).heap[w.heap.size]? := ((Below.refl _ (w.alloc (.cells zeroSl 97))).alloc (Nat.le_refl _) _).block w.heap.size (by simp)
    rw [World.cell?_of_block (a := ⟨w.heap.size, 0 + j, none⟩) (h1.trans h2), World.frozen?_of_block (a := ⟨w.heap.size, 0 + j, none⟩) (h1.trans h2)]
    exact h0
  · simp [World.setRow]
theorem below_drewN0 {n : Nat} {a w : World} (h : Below n a w) (m : Nat) : Below n a (w.drewN m) := ⟨h.os, h.tape, h.output, h.size, h.block⟩
set_option maxRecDepth 100000 in
set_option maxHeartbeats 1000000 in
theorem sNew (l : List UInt8) (n : Nat) (w : World) (hl : l.length ≤ 28) (hn : n < 4294967296) : Calls Tryz.prog 36 #[.string ⟨l.toArray⟩, .int .i64 n] w fun e w' => (∃ L, e = .returned (.agg L.toArray) ∧ Slot L (nslot l n)) ∧ Below w.heap.size w w' := by
  have hz := zvSl
  obtain ⟨Lc, W3, hcp, hr, hs, hth, hB, hsz⟩ := copyS l hl w
  have HR : Hid (W3.rangeAt (w.heap.size + 1) 0 Lc) := hr
  have HSl : Hid (Slot Lc (nslot0 l)) := hs
  have HTh : Hid (W3.there w.heap.size 0 32) := hth
  have HB : Hid (Below w.heap.size w W3) := hB
  clear hr hs hth hB
  go_enter Tryz.func36, Tryz.ntmps36
  go_wp2_with (first | (refine wpList_load_mid rfl 97 _ rfl (w.heap.size + 1) 0 rfl Lc _ HR.out undS rfl HSl.out.inf ?_))
  refine (sWith Lc _ n _ HSl.out hn).mono ?_
  rintro e w4 ⟨⟨L', rfl, hS'⟩, HB4⟩
  have HS' : Hid (Slot L' (nslot l n)) := hS'
  have HTh4 : Hid (w4.there w.heap.size 0 L'.toArray.size) := by
    show World.there _ _ _ _
    rw [show L'.toArray.size = 32 by simpa using hS'.len]
    intro j hj
    rw [HB4.cell (p := ⟨w.heap.size, 0 + j, none⟩) (by show w.heap.size < _; omega), HB4.frozen (p := ⟨w.heap.size, 0 + j, none⟩) (by show w.heap.size < _; omega)]
    exact HTh.out j hj
  have HI : Hid ((Tryz.prog.info? 97).map (·.size) = some L'.toArray.size) := by show _ = _; rw [show L'.toArray.size = L'.length by simp]; exact HS'.out.inf
  have HB' : Hid (Below w.heap.size w w4) := HB.out.trans (HB4.mono HB.out.size)
  clear HB4 hS'
  go_wp2_with (first | (refine wpList_store_mid rfl 97 _ _ rfl w.heap.size 0 L'.toArray rfl rfl HTh4.out HI.out (all_oneCell_toArray HS'.out.one) ?_))
  have hq := World.rangeAt_setCells_same _ w.heap.size 0 L' (by have := HTh4.out; simpa using this)
  refine bodyPost_ret (v := .agg L'.toArray) (results_cell1 rfl _ _ _ _ rfl (run_loadVar_mid _ _ _ _ L' _ hq undS rfl HS'.out.inf)) rfl ⟨⟨L', rfl, HS'.out⟩, ?_⟩
  exact below_setCells HB'.out (Nat.le_refl _) _ _
/-- A slot's name: what stands ahead of the first byte 0. -/
def nmL (s : Nat → Nat) : List Nat := (List.range 28).map fun j => s (4 + j)
def nm (s : Nat → Nat) : List Nat := (nmL s).takeWhile (· != 0)
theorem tw_none : ∀ (L : List Nat), (∀ x ∈ L, x < 256) → (0 : UInt8) ∉ L.map UInt8.ofNat → L.takeWhile (· != 0) = L
  | [], _, _ => rfl
  | x :: r, h, hn => by
    have hx : x ≠ 0 := fun e => hn (by rw [e]; simp)
    rw [List.takeWhile_cons, if_pos (by simpa using hx), tw_none r (fun y hy => h y (by simp [hy])) (fun h => hn (by simp only [List.map_cons, List.mem_cons]; exact .inr h))]
theorem u8_zero {x : Nat} (h : x < 256) (e : UInt8.ofNat x = 0) : x = 0 := by
  have := congrArg UInt8.toNat e
  simp at this; omega
theorem tw_some : ∀ (L : List Nat) (k : Nat), (∀ x ∈ L, x < 256) → k < L.length → (0 : UInt8) ∉ (L.map UInt8.ofNat).take k → (L.map UInt8.ofNat)[k]? = some 0 → L.takeWhile (· != 0) = L.take k
  | [], k, _, hk, _, _ => by simp at hk
  | x :: r, 0, h, _, _, h0 => by
    have : x = 0 := u8_zero (h x (by simp)) (by simpa using h0)
    rw [List.takeWhile_cons, if_neg (by simp [this])]; rfl
  | x :: r, k + 1, h, hk, hn, h0 => by
    have hx : x ≠ 0 := fun e => hn (by rw [e]; simp)
    rw [List.takeWhile_cons, if_pos (by simpa using hx), List.take_succ_cons, tw_some r k (fun y hy => h y (by simp [hy])) (by simpa using hk) (fun h => hn (by simp only [List.map_cons, List.take_succ_cons, List.mem_cons]; exact .inr h)) (by simpa using h0)]
theorem nm_cut (s : Nat → Nat) (hs : ∀ j, s j < 256) : ∃ i : Int, Lib.indexByte ((nmL s).map UInt8.ofNat) 0 = i ∧ ((i = -1 ∧ nm s = nmL s) ∨ ∃ k : Nat, i = k ∧ k < 28 ∧ nm s = (nmL s).take k) := by
  have hlt : ∀ x ∈ nmL s, x < 256 := fun x hx => by obtain ⟨j, _, rfl⟩ := List.mem_map.1 hx; exact hs _
  have hlen : (nmL s).length = 28 := by simp [nmL]
  rcases Pa.indexByte_cut 0 ((nmL s).map UInt8.ofNat) with ⟨e, hn⟩ | ⟨k, e, hk, hn, hl⟩
  · exact ⟨_, e, .inl ⟨rfl, tw_none _ hlt hn⟩⟩
  · rw [List.length_map, hlen] at hk
    refine ⟨_, e, .inr ⟨k, rfl, hk, tw_some _ k hlt (by rw [hlen]; exact hk) hn ?_⟩⟩
    rw [hl, List.getElem?_append_right (by simp only [List.length_take]; omega)]
    simp [hlen, Nat.min_eq_left (Nat.le_of_lt hk)]
theorem nm_lt (s : Nat → Nat) (hs : ∀ j, s j < 256) : ∀ x ∈ nm s, x < 256 := fun x hx => by
  have := List.takeWhile_subset _ hx
  obtain ⟨j, _, rfl⟩ := List.mem_map.1 this
  exact hs _
set_option maxRecDepth 100000 in
set_option maxHeartbeats 1000000 in
theorem sName (L : List Value) (s : Nat → Nat) (w : World) (h : Slot L s) : Calls Tryz.prog 118 #[.agg L.toArray] w fun e w' => e = .returned (.string (strOf (nm s))) ∧ Below w.heap.size w w' := by
  have HH : Hid (Slot L s) := h
  have hsz : L.toArray.size = 32 := by simpa using h.len
  have hB : Below w.heap.size w ((w.alloc (.cells L.toArray 97)).alloc (.cells #[.int .u8 0] 5)) := ((Below.refl w.heap.size w).alloc (Nat.le_refl _) _).alloc (by simp) _
  have hc : ∀ j, j < 32 → ((w.alloc (.cells L.toArray 97)).alloc (.cells #[.int .u8 0] 5)).cell? ⟨w.heap.size, j, none⟩ = some (.int .u8 (s j : Nat)) := fun j hj => by
    rw [World.cell?_alloc_past _ _ _ (by simp), World.cell?_alloc_at _ _ _ _ rfl]; simpa using h.at_ j hj
  obtain ⟨i, hi, hcase⟩ := nm_cut s h.lt
  have hidx := Tryz.bytes_Index_one_at ⟨w.heap.size, 4, none⟩ 28 28 (w.heap.size + 1) 0 1 ((nmL s).map Int.ofNat) 0 ((w.alloc (.cells L.toArray 97)).alloc (.cells #[.int .u8 0] 5)) (by simp [nmL])
    (fun j hj => by rw [Addr.add_mid, hc (4 + j) (by omega)]; simp [nmL, List.getD_eq_getElem?_getD, hj]) (by rw [World.cell?_alloc_at _ _ _ _ (by simp)]; rfl)
  rw [show Lib.bytesOf ((nmL s).map Int.ofNat) = (nmL s).map UInt8.ofNat by simp [Lib.bytesOf], show ((0 : Int).toNat.toUInt8) = 0 from rfl, hi] at hidx
  have hcut := Tryz.bytes_Cut_of (some ⟨w.heap.size, 4, none⟩) (some ⟨w.heap.size + 1, 0, none⟩) 28 28 1 1 i _ (Nat.le_refl _) (by rcases hcase with ⟨rfl, _⟩ | ⟨k, rfl, _⟩ <;> omega) (by rcases hcase with ⟨rfl, _⟩ | ⟨k, rfl, hk, _⟩ <;> omega) (by omega) (hidx.mono fun e w' ⟨h1, h2⟩ => ⟨h1, 0, h2⟩)
  have HB : Hid (Below w.heap.size w ((w.alloc (.cells L.toArray 97)).alloc (.cells #[.int .u8 0] 5))) := hB
  have HC : Hid (∀ j, j < 32 → ((w.alloc (.cells L.toArray 97)).alloc (.cells #[.int .u8 0] 5)).cell? ⟨w.heap.size, j, none⟩ = some (.int .u8 (s j : Nat))) := hc
  have HB4 : ∀ (k q : Nat), k ≤ 28 → BytesAt (((w.alloc (.cells L.toArray 97)).alloc (.cells #[.int .u8 0] 5)).drewN q) (.slice (some ⟨w.heap.size, 4, none⟩) k 28) ((nmL s).take k) := fun k q hk => by
    refine ⟨fun x hx => ?_, some ⟨w.heap.size, 4, none⟩, 28, by simp [nmL, Nat.min_eq_left hk], fun h => (by cases h), fun ad e j x hx => ?_⟩
    · obtain ⟨j, _, rfl⟩ := List.mem_map.1 (List.mem_of_mem_take hx); exact HH.out.lt _
    · obtain rfl := Option.some.inj e
      have hj : j < k ∧ j < 28 := by have := (List.getElem?_eq_some_iff.1 hx).1; simp [nmL] at this; omega
      rw [Addr.add_mid]
      refine (HC.out (4 + j) (by omega)).trans ?_
      rw [List.getElem?_take, if_pos hj.1] at hx
      simp [nmL, hj.2] at hx
      rw [hx]; rfl
  clear h hc hB hidx hi
  have HBy := (show Hid _ from HB4)
  clear HB4
  go_enter Tryz.func118, Tryz.ntmps118
  go_wp2_with fail
  refine hcut.mono ?_
  rcases hcase with ⟨rfl, hnm⟩ | ⟨k, rfl, hk, hnm⟩
  · rw [show Lib.cutV (some ⟨w.heap.size, 4, none⟩) 28 28 1 (-1) = .tuple #[.slice (some ⟨w.heap.size, 4, none⟩) 28 28, .slice none 0 0, .bool false] from rfl]
    rintro e w3 ⟨rfl, q, rfl⟩
    have hcv := conv_bytes (HBy.out 28 q (Nat.le_refl _))
    rw [List.take_of_length_le (by simp [nmL]), ← hnm] at hcv
    clear hnm
    go_wp2
    go_ret
    exact ⟨rfl, below_drewN0 HB.out _⟩
  · rw [show Lib.cutV (some ⟨w.heap.size, 4, none⟩) 28 28 1 (k : Int) = .tuple #[.slice (some ⟨w.heap.size, 4, none⟩) k 28, Lib.fromV (some ⟨w.heap.size, 4, none⟩) 28 28 (k + 1), .bool true] by simp [Lib.cutV]]
    rintro e w3 ⟨rfl, q, rfl⟩
    have hcv := conv_bytes (HBy.out k q (by omega))
    rw [← hnm] at hcv
    clear hnm
    generalize Lib.fromV (some ⟨w.heap.size, 4, none⟩) 28 28 (k + 1) = fv
    go_wp2
    go_ret
    exact ⟨rfl, below_drewN0 HB.out _⟩
end Go.Proofs.YtpcbpikhiooafaaGreatDoor
