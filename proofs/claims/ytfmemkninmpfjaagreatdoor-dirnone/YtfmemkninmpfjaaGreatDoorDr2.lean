/- A slot: the walks of with and count. Condition: the array holds 32 bytes. -/
import Derived.Test.YtfmemkninmpfjaaGreatDoorDr1
namespace Go.Proofs.YtfmemkninmpfjaaGreatDoor
open Go.RowKit
def wth (s : Nat → Nat) (n j : Nat) : Nat → Nat := fun i => if i < j then n / 2 ^ (8 * i) % 256 else s i
structure WithAt (A : Array Value) (s : Nat → Nat) (n j : Nat) : Prop where
  size : A.size = 32
  at_ : ∀ i, i < 32 → A[i]? = some (.int .u8 (wth s n j i : Nat))
theorem WithAt.next {A : Array Value} {s : Nat → Nat} {n j x : Nat} (h : WithAt A s n j) (hj : j < 32) (hx : x = n / 2 ^ (8 * j) % 256) : WithAt (A.setIfInBounds j (.int .u8 (x : Nat))) s n (j + 1) := by
  refine ⟨by simpa using h.size, fun i hi => ?_⟩
  by_cases e : i = j
  · subst e
    rw [Array.getElem?_setIfInBounds_self_of_lt (by rw [h.size]; exact hj), hx]
    simp [wth]
  · rw [Array.getElem?_setIfInBounds_ne (fun h => e h.symm), h.at_ i hi]
    have : (i < j) ↔ (i < j + 1) := by omega
    simp only [wth, this]
theorem below_setCells {n : Nat} {a w : World} (h : Below n a w) {b : Nat} (hb : n ≤ b) (L : List Value) : ∀ o, Below n a (w.setCells b o L) := by
  induction L generalizing w with
  | nil => intro o; exact h
  | cons v r ih => intro o; exact ih (h.setCell (p := ⟨b, o, none⟩) hb v) (o + 1)
set_option maxRecDepth 100000 in
set_option maxHeartbeats 1000000 in
theorem sWith (L : List Value) (s : Nat → Nat) (n : Nat) (w : World) (h : Slot L s) (hn : n < 4294967296) : Calls Tryz.prog 69 #[.agg L.toArray, .int .i64 n] w fun e w' => (∃ L', e = .returned (.agg L'.toArray) ∧ Slot L' (wth s n 4)) ∧ Below w.heap.size w w' := by
  have HH : Hid (Slot L s) := h
  have hz := zvSl
  have HA : Hid (WithAt L.toArray s n 0) := ⟨by simpa using h.len, fun i hi => by simpa [wth] using h.at_ i hi⟩
  clear h
  generalize L.toArray = A at *
  go_enter Tryz.func69, Tryz.ntmps69
  go_wp2
  go_loopw [6] (fun x W => ∃ (j : Nat) (A' : Array Value), j ≤ 4 ∧ x = .int .i64 j ∧ W = (w.alloc (.cells A' 109)).alloc (.cells zeroSl 109) ∧ Hid (WithAt A' s n j)) (fun x _ => 4 - (intOf x).toNat)
  case atStart => exact ⟨0, A, by omega, rfl, rfl, HA⟩
  case round =>
    obtain ⟨j, A', hj, rfl, rfl, HJ⟩ := hrel
    by_cases hlj : j < 4
    · have hsz := HJ.out.size
      have hcl : (w.alloc (.cells A' 109)).cell? ⟨w.heap.size, j, none⟩ = some (.int .u8 (wth s n j j : Nat)) := by rw [World.cell?_alloc_at _ _ _ _ rfl]; exact HJ.out.at_ j (by omega)
      generalize wth s n j j = y0 at *
      obtain rfl | rfl | rfl | rfl : j = 0 ∨ j = 1 ∨ j = 2 ∨ j = 3 := by omega
      all_goals go_wp2
      · rw [show ((n : Int) % 256) = ((n / 2 ^ (8 * 0) % 256 : Nat) : Int) by simp]
        exact ⟨⟨1, _, by omega, rfl, rfl, HJ.out.next (by omega) rfl⟩, by simp [intOf]⟩
      · rw [show ((n : Int) / 256 % 256) = ((n / 2 ^ (8 * 1) % 256 : Nat) : Int) by omega]
        exact ⟨⟨2, _, by omega, rfl, rfl, HJ.out.next (by omega) rfl⟩, by simp [intOf]⟩
      · rw [show ((n : Int) / 65536 % 256) = ((n / 2 ^ (8 * 2) % 256 : Nat) : Int) by omega]
        exact ⟨⟨3, _, by omega, rfl, rfl, HJ.out.next (by omega) rfl⟩, by simp [intOf]⟩
      · rw [show ((n : Int) / 16777216) = ((n / 2 ^ (8 * 3) % 256 : Nat) : Int) by omega]
        exact ⟨⟨4, _, by omega, rfl, rfl, HJ.out.next (by omega) rfl⟩, by simp [intOf]⟩
    · obtain rfl : j = 4 := by omega
      obtain ⟨L', hL'⟩ : ∃ L', L' = A'.toList := ⟨_, rfl⟩
      obtain rfl : A' = L'.toArray := by rw [hL']
      have HS' : Hid (Slot L' (wth s n 4)) := ⟨by simpa using HJ.out.size, fun i hi => by simpa using HJ.out.at_ i hi, fun i => by
        unfold wth; split
        · exact Nat.mod_lt _ (by omega)
        · exact HH.out.lt i⟩
      clear hL'
      have HR : Hid (((w.alloc (.cells L'.toArray 109)).alloc (.cells zeroSl 109)).rangeAt w.heap.size 0 L') := World.rangeAt_alloc (range_new w L' _) _
      have HTh : Hid (((w.alloc (.cells L'.toArray 109)).alloc (.cells zeroSl 109)).there (w.heap.size + 1) 0 L'.toArray.size) := by
        have := there_new (w.alloc (.cells L'.toArray 109)) 109 zeroSl (n := 32) sizeSl
        rw [World.size_alloc] at this
        show World.there _ _ _ _
        rw [show L'.toArray.size = 32 by simpa using HS'.out.len]; exact this
      have HI : Hid ((Tryz.prog.info? 109).map (·.size) = some L'.toArray.size) := by show _ = _; rw [show L'.toArray.size = L'.length by simp]; exact HS'.out.inf
      go_wp2_with (first | (refine wpList_load_mid rfl 109 _ rfl w.heap.size 0 rfl L' _ HR.out undS rfl HS'.out.inf ?_) | (refine wpList_store_mid rfl 109 _ _ rfl (w.heap.size + 1) 0 L'.toArray rfl rfl HTh.out HI.out (all_oneCell_toArray HS'.out.one) ?_))
      have hq := World.rangeAt_setCells_same _ (w.heap.size + 1) 0 L' (by have := HTh.out; simpa using this)
      refine bodyPost_ret (v := .agg L'.toArray) (results_cell1 rfl _ _ _ _ rfl (run_loadVar_mid _ _ _ _ L' _ hq undS rfl HS'.out.inf)) rfl ⟨⟨L', rfl, HS'.out⟩, ?_⟩
      exact below_setCells (((Below.refl w.heap.size w).alloc (Nat.le_refl _) _).alloc (by simp) _) (by omega) _ _
end Go.Proofs.YtfmemkninmpfjaaGreatDoor
