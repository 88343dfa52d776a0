/- The walk of InodeNone. Condition: the library's table is as its initialiser lays it. -/
import Derived.Test.YtgplmgliockbcaaDoorBase
import Derived.Test.YtgplmgliockbcaaDoorNone1
namespace Go.Proofs.YtgplmgliockbcaaDoor
open Go.ChangeShapes Go.WideShapes Go.ChangeAt Go.RowKit
set_option maxRecDepth 100000 in
set_option maxHeartbeats 8000000 in
theorem none_walk (c0 c1 c2 c3 c4 c5 c6 c7 : Value) (w : World) (hT : TabIs w) : Calls Tryd.prog 5 #[.agg #[c0, c1, c2, c3, c4, c5, c6, c7]] w fun e w' => e = .returned (.bool true) ∧ Below w.heap.size w w' := by
  have HT : Hid (TabIs w) := hT
  have HW : Hid (Mod (fun _ => False) w (((w.alloc (.cells #[c0, c1, c2, c3, c4, c5, c6, c7] 39)).alloc (.cells #[.pointer none, .slice none 0 0, .int .i64 0] 43)).alloc (.cells #[.pointer none, .pointer (some ⟨w.heap.size + 1, 0, none⟩)] 25))) := (((Mod.refl _ w).alloc _).alloc _).alloc _
  clear hT
  go_enter Tryd.func5, Tryd.ntmps5
  go_wp2_with fail
  have HC : Hid (∀ j, j < 8 → (((w.alloc (.cells #[c0, c1, c2, c3, c4, c5, c6, c7] 39)).alloc (.cells #[.pointer none, .slice none 0 0, .int .i64 0] 43)).alloc (.cells #[.pointer none, .pointer (some ⟨w.heap.size + 1, 0, none⟩)] 25)).cell? ⟨w.heap.size, j, none⟩ = #[c0, c1, c2, c3, c4, c5, c6, c7][j]?) := fun j _ => by
    rw [World.cell?_alloc_past _ _ _ (by simp; omega), World.cell?_alloc_past _ _ _ (by simp), World.cell?_alloc_at _ _ _ _ rfl]
  have HZ : Hid ((((w.alloc (.cells #[c0, c1, c2, c3, c4, c5, c6, c7] 39)).alloc (.cells #[.pointer none, .slice none 0 0, .int .i64 0] 43)).alloc (.cells #[.pointer none, .pointer (some ⟨w.heap.size + 1, 0, none⟩)] 25)).cell? ⟨w.heap.size + 1, 0, none⟩ = some (.pointer none)) := by
    show _ = _
    rw [World.cell?_alloc_past _ _ _ (by simp), World.cell?_alloc_at _ _ _ _ (by simp)]; rfl
  have HE : Hid ((((w.alloc (.cells #[c0, c1, c2, c3, c4, c5, c6, c7] 39)).alloc (.cells #[.pointer none, .slice none 0 0, .int .i64 0] 43)).alloc (.cells #[.pointer none, .pointer (some ⟨w.heap.size + 1, 0, none⟩)] 25)).cell? ⟨w.heap.size + 2, 0, none⟩ = some (.pointer none) ∧ (((w.alloc (.cells #[c0, c1, c2, c3, c4, c5, c6, c7] 39)).alloc (.cells #[.pointer none, .slice none 0 0, .int .i64 0] 43)).alloc (.cells #[.pointer none, .pointer (some ⟨w.heap.size + 1, 0, none⟩)] 25)).cell? ⟨w.heap.size + 2, 1, none⟩ = some (.pointer (some ⟨w.heap.size + 1, 0, none⟩))) := by
    refine ⟨?_, ?_⟩
    · rw [World.cell?_alloc_at _ _ _ _ (by simp)]; rfl
    · rw [World.cell?_alloc_at _ _ _ _ (by simp)]; rfl
  go_loopw [23] (fun x wx => ∃ k : Nat, k ≤ 2 ∧ x = .int .i64 k ∧ Hid (Mod (fun _ => False) (((w.alloc (.cells #[c0, c1, c2, c3, c4, c5, c6, c7] 39)).alloc (.cells #[.pointer none, .slice none 0 0, .int .i64 0] 43)).alloc (.cells #[.pointer none, .pointer (some ⟨w.heap.size + 1, 0, none⟩)] 25)) wx)) (fun x _ => 2 - (intOf x).toNat)
  case atStart => exact ⟨0, by omega, rfl, Mod.refl _ _⟩
  case round =>
    obtain ⟨k, hk, rfl, HM⟩ := hrel
    have hsz : ∀ j, j < 3 → w.heap.size + j < (((w.alloc (.cells #[c0, c1, c2, c3, c4, c5, c6, c7] 39)).alloc (.cells #[.pointer none, .slice none 0 0, .int .i64 0] 43)).alloc (.cells #[.pointer none, .pointer (some ⟨w.heap.size + 1, 0, none⟩)] 25)).heap.size := fun j hj => by simp; omega
    have hcell : ∀ j, j < 8 → wr.cell? ⟨w.heap.size, j, none⟩ = #[c0, c1, c2, c3, c4, c5, c6, c7][j]? := fun j hj => (HM.out.cell (p := ⟨w.heap.size, j, none⟩) (hsz 0 (by omega)) (fun h => h)).trans (HC.out j hj)
    have d0 : wr.cell? ⟨w.heap.size, 0, none⟩ = some c0 := hcell 0 (by omega)
    have d1 : wr.cell? ⟨w.heap.size, 1, none⟩ = some c1 := hcell 1 (by omega)
    have d2 : wr.cell? ⟨w.heap.size, 2, none⟩ = some c2 := hcell 2 (by omega)
    have d3 : wr.cell? ⟨w.heap.size, 3, none⟩ = some c3 := hcell 3 (by omega)
    have d4 : wr.cell? ⟨w.heap.size, 4, none⟩ = some c4 := hcell 4 (by omega)
    have d5 : wr.cell? ⟨w.heap.size, 5, none⟩ = some c5 := hcell 5 (by omega)
    have d6 : wr.cell? ⟨w.heap.size, 6, none⟩ = some c6 := hcell 6 (by omega)
    have d7 : wr.cell? ⟨w.heap.size, 7, none⟩ = some c7 := hcell 7 (by omega)
    have hz0 : wr.cell? ⟨w.heap.size + 1, 0, none⟩ = some (.pointer none) := (HM.out.cell (p := ⟨w.heap.size + 1, 0, none⟩) (hsz 1 (by omega)) (fun h => h)).trans HZ.out
    have he0 : wr.cell? ⟨w.heap.size + 2, 0, none⟩ = some (.pointer none) := (HM.out.cell (p := ⟨w.heap.size + 2, 0, none⟩) (hsz 2 (by omega)) (fun h => h)).trans HE.out.1
    have he1 : wr.cell? ⟨w.heap.size + 2, 1, none⟩ = some (.pointer (some ⟨w.heap.size + 1, 0, none⟩)) := (HM.out.cell (p := ⟨w.heap.size + 2, 1, none⟩) (hsz 2 (by omega)) (fun h => h)).trans HE.out.2
    have hbl : w.heap.size < wr.heap.size := block_lt_of_cell d0
    clear hcell hsz
    obtain rfl | rfl | rfl : k = 0 ∨ k = 1 ∨ k = 2 := by omega
    · have HN : ∀ W, Mod (fun _ => False) wr W → NoT (.pointer none) W := fun _ _ => tmade_nil _
      have H0 := HN wr (Mod.refl _ _)
      have H1 := HN (wr.alloc (.cells zeroS 51)) ((Mod.refl _ _).alloc _)
      have H2 := HN ((wr.alloc (.cells zeroS 51)).alloc (.cells zeroS 51)) (((Mod.refl _ _).alloc _).alloc _)
      have HM2 : Hid (Mod (fun _ => False) (((w.alloc (.cells #[c0, c1, c2, c3, c4, c5, c6, c7] 39)).alloc (.cells #[.pointer none, .slice none 0 0, .int .i64 0] 43)).alloc (.cells #[.pointer none, .pointer (some ⟨w.heap.size + 1, 0, none⟩)] 25)) ((wr.alloc (.cells zeroS 51)).alloc (.cells zeroS 51))) := (HM.out.alloc _).alloc _
      clear HN hz0 HM
      go_wp2_with (first | (go_at_call 16; refine (tn_alloc _ _ H0 _ _ _).mono ?_; rintro e w' ⟨rfl, hw'⟩; rw [hw']; clear hw' w') | (go_at_call 17; refine (tn_read _ _ H0 _ _ _).mono ?_; rintro e w' ⟨rfl, hw'⟩; rw [hw']; clear hw' w') | (go_at_call 18; refine (tn_write _ _ H0 _ _ _).mono ?_; rintro e w' ⟨rfl, hw'⟩; rw [hw']; clear hw' w') | (go_at_call 19; refine (tn_stat _ _ H1 _).mono ?_; rintro e w' ⟨rfl, hw'⟩; rw [hw']; clear hw' w') | (go_at_call 20; refine (tn_owned _ _ H2 _).mono ?_; rintro e w' ⟨rfl, hw'⟩; rw [hw']; clear hw' w') | (go_at_call 21; refine (tn_room _ _ H2).mono ?_; rintro e w' ⟨rfl, hw'⟩; rw [hw']; clear hw' w') | (go_at_call 22; refine (tn_clock _ _ H2 _).mono ?_; rintro e w' ⟨rfl, hw'⟩; rw [hw']; clear hw' w') | (go_at_call 23; refine (tn_trunc _ _ H2 _ _).mono ?_; rintro e w' ⟨rfl, hw'⟩; rw [hw']; clear hw' w') | (go_at_call 24; refine (tn_setmode _ _ H2 _ _).mono ?_; rintro e w' ⟨rfl, hw'⟩; rw [hw']; clear hw' w') | (go_at_call 25; refine (tn_setowner _ _ H2 _ _ _).mono ?_; rintro e w' ⟨rfl, hw'⟩; rw [hw']; clear hw' w') | (go_at_call 26; refine (tn_settimes _ _ H2 _ _ _).mono ?_; rintro e w' ⟨rfl, hw'⟩; rw [hw']; clear hw' w') | (go_at_call 27; refine (tn_links _ _ H2 _ _).mono ?_; rintro e w' ⟨rfl, hw'⟩; rw [hw']; clear hw' w') | (go_at_call 28; refine (tn_hold _ _ H2 _).mono ?_; rintro e w' ⟨rfl, hw'⟩; rw [hw']; clear hw' w') | (go_at_call 29; refine (tn_release _ _ H2 _).mono ?_; rintro e w' ⟨rfl, hw'⟩; rw [hw']; clear hw' w') | (go_at_call 30; refine (tn_is _ _ H2 _).mono ?_; rintro e w' ⟨rfl, hw'⟩; rw [hw']; clear hw' w') | (go_at_call 14; refine (tn_used _ _ H2).mono ?_; rintro e w' ⟨rfl, hw'⟩; rw [hw']; clear hw' w') | (go_at_call 15; refine (tn_blocks _ _ H2).mono ?_; rintro e w' ⟨rfl, hw'⟩; rw [hw']; clear hw' w') | (go_at_call 13; refine (tn_now _ _ H2).mono ?_; rintro e w' ⟨rfl, hw'⟩; rw [hw']; clear hw' w') | (go_at_call 31; refine (tn_copy _ _ H2).mono ?_; rintro e w' ⟨rfl, hw'⟩; rw [hw']; clear hw' w') | (go_at_call 8; refine (num_any _ _).mono ?_; rintro e w' ⟨rfl, hw'⟩; rw [hw']; clear hw' w'))
      exact ⟨⟨1, by omega, rfl, HM2⟩, by decide⟩
    · have HN : ∀ W, Mod (fun _ => False) wr W → NoT (.pointer (some ⟨w.heap.size + 1, 0, none⟩)) W := fun W hW => tmade_zero _ W ((hW.cell (p := ⟨w.heap.size + 1, 0, none⟩) (block_lt_of_cell hz0) (fun h => h)).trans hz0)
      have H0 := HN wr (Mod.refl _ _)
      have H1 := HN (wr.alloc (.cells zeroS 51)) ((Mod.refl _ _).alloc _)
      have H2 := HN ((wr.alloc (.cells zeroS 51)).alloc (.cells zeroS 51)) (((Mod.refl _ _).alloc _).alloc _)
      have HM2 : Hid (Mod (fun _ => False) (((w.alloc (.cells #[c0, c1, c2, c3, c4, c5, c6, c7] 39)).alloc (.cells #[.pointer none, .slice none 0 0, .int .i64 0] 43)).alloc (.cells #[.pointer none, .pointer (some ⟨w.heap.size + 1, 0, none⟩)] 25)) ((wr.alloc (.cells zeroS 51)).alloc (.cells zeroS 51))) := (HM.out.alloc _).alloc _
      clear HN hz0 HM
      go_wp2_with (first | (go_at_call 16; refine (tn_alloc _ _ H0 _ _ _).mono ?_; rintro e w' ⟨rfl, hw'⟩; rw [hw']; clear hw' w') | (go_at_call 17; refine (tn_read _ _ H0 _ _ _).mono ?_; rintro e w' ⟨rfl, hw'⟩; rw [hw']; clear hw' w') | (go_at_call 18; refine (tn_write _ _ H0 _ _ _).mono ?_; rintro e w' ⟨rfl, hw'⟩; rw [hw']; clear hw' w') | (go_at_call 19; refine (tn_stat _ _ H1 _).mono ?_; rintro e w' ⟨rfl, hw'⟩; rw [hw']; clear hw' w') | (go_at_call 20; refine (tn_owned _ _ H2 _).mono ?_; rintro e w' ⟨rfl, hw'⟩; rw [hw']; clear hw' w') | (go_at_call 21; refine (tn_room _ _ H2).mono ?_; rintro e w' ⟨rfl, hw'⟩; rw [hw']; clear hw' w') | (go_at_call 22; refine (tn_clock _ _ H2 _).mono ?_; rintro e w' ⟨rfl, hw'⟩; rw [hw']; clear hw' w') | (go_at_call 23; refine (tn_trunc _ _ H2 _ _).mono ?_; rintro e w' ⟨rfl, hw'⟩; rw [hw']; clear hw' w') | (go_at_call 24; refine (tn_setmode _ _ H2 _ _).mono ?_; rintro e w' ⟨rfl, hw'⟩; rw [hw']; clear hw' w') | (go_at_call 25; refine (tn_setowner _ _ H2 _ _ _).mono ?_; rintro e w' ⟨rfl, hw'⟩; rw [hw']; clear hw' w') | (go_at_call 26; refine (tn_settimes _ _ H2 _ _ _).mono ?_; rintro e w' ⟨rfl, hw'⟩; rw [hw']; clear hw' w') | (go_at_call 27; refine (tn_links _ _ H2 _ _).mono ?_; rintro e w' ⟨rfl, hw'⟩; rw [hw']; clear hw' w') | (go_at_call 28; refine (tn_hold _ _ H2 _).mono ?_; rintro e w' ⟨rfl, hw'⟩; rw [hw']; clear hw' w') | (go_at_call 29; refine (tn_release _ _ H2 _).mono ?_; rintro e w' ⟨rfl, hw'⟩; rw [hw']; clear hw' w') | (go_at_call 30; refine (tn_is _ _ H2 _).mono ?_; rintro e w' ⟨rfl, hw'⟩; rw [hw']; clear hw' w') | (go_at_call 14; refine (tn_used _ _ H2).mono ?_; rintro e w' ⟨rfl, hw'⟩; rw [hw']; clear hw' w') | (go_at_call 15; refine (tn_blocks _ _ H2).mono ?_; rintro e w' ⟨rfl, hw'⟩; rw [hw']; clear hw' w') | (go_at_call 13; refine (tn_now _ _ H2).mono ?_; rintro e w' ⟨rfl, hw'⟩; rw [hw']; clear hw' w') | (go_at_call 31; refine (tn_copy _ _ H2).mono ?_; rintro e w' ⟨rfl, hw'⟩; rw [hw']; clear hw' w') | (go_at_call 8; refine (num_any _ _).mono ?_; rintro e w' ⟨rfl, hw'⟩; rw [hw']; clear hw' w'))
      exact ⟨⟨2, by omega, rfl, HM2⟩, by decide⟩
    · have HTr : Hid (TabIs wr) := HT.out.keep ((HM.out.block 0 (Nat.lt_of_lt_of_le HT.out.lt HW.out.size) (fun h => h)).trans (HW.out.block 0 HT.out.lt (fun h => h)))
      go_wp2_with (go_at_call 9; refine (awake_true _ HTr.out).mono ?_; rintro e w' ⟨rfl, hm⟩)
      go_ret
      exact ⟨rfl, ((HW.out.trans HM.out).trans hm).below0⟩

end Go.Proofs.YtgplmgliockbcaaDoor
