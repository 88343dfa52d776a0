/- The walks of the plain list's calls that write or make memory: Alloc, Free, Read, Write. Conditions: the cells are as said. -/
import Derived.Test.YtipdpifpblaldaaDoorRefR
import Derived.Test.YtipdpifpblaldaaDoorBackP
namespace Go.Proofs.YtipdpifpblaldaaDoor
open Go.RowKit
section
variable (w : World) (tb n ob co yb cy : Nat) (u : Nat → Bool)
set_option maxHeartbeats 1000000 in
theorem ralloc_some (i : Nat) (hi : i < n) (old : Value) (hon : w.cell? ⟨tb, 0, none⟩ = some (.slice (some ⟨ob, 0, none⟩) n co)) (hyn : w.cell? ⟨tb, 1, none⟩ = some (.slice (some ⟨yb, 0, none⟩) n cy)) (hn2 : n ≤ 4096)
    (hlow : ∀ j, j < i → w.cell? ⟨ob, j, none⟩ = some (.bool true)) (hci : w.cell? ⟨ob, i, none⟩ = some (.bool false)) (hcy : w.cell? ⟨yb, i, none⟩ = some old)
    (hfo : w.frozen? ⟨ob, i, none⟩ = false) (hfy : w.frozen? ⟨yb, i, none⟩ = false) (hto : tb ≠ ob) (hoy : ob ≠ yb) (_hty : tb ≠ yb) (hlt : yb < w.heap.size) :
    Calls Tryd.prog 26 #[.pointer (some ⟨tb, 0, none⟩)] w fun e w' => e = .returned (.tuple #[.int .i64 i, .int .i64 0]) ∧
      ∃ m, w' = (((w.setCell ⟨ob, i, none⟩ (.bool true)).setCell ⟨yb, i, none⟩ (.slice (some ⟨w.heap.size, 0, none⟩) 64 64)).alloc (.cells zero73 5)).drewN m := by
  have HL : Hid (∀ j, j < i → w.cell? ⟨ob, j, none⟩ = some (.bool true)) := hlow
  have hmk := mk64
  clear hlow
  go_enter Tryd.func26, Tryd.ntmps26
  go_wp2
  go_loop [11] (fun x => ∃ k : Nat, k ≤ i ∧ x = .int .i64 k) (fun x => n - (intOf x).toNat)
  case atStart => exact ⟨0, Nat.zero_le _, rfl⟩
  case round =>
    obtain ⟨k, hk, rfl⟩ := hrel
    by_cases hlt' : k < i
    · have hck := HL.out k hlt'
      have h2 : (k : Int) < n := by omega
      go_wp2
      go_round
      case rel => exact ⟨k + 1, hlt', by go_num⟩
      case measure => simp [intOf]; omega
    · obtain rfl : k = i := by omega
      have h2 : (k : Int) < n := by omega
      have hyn1 : (w.setCell ⟨ob, k, none⟩ (.bool true)).cell? ⟨tb, 1, none⟩ = some (.slice (some ⟨yb, 0, none⟩) n cy) := by rw [setCell_out _ _ _ _ _ (fun e => absurd e hto)]; exact hyn
      have hcy1 : (w.setCell ⟨ob, k, none⟩ (.bool true)).cell? ⟨yb, k, none⟩ = some old := by rw [setCell_out _ _ _ _ _ (fun e => absurd e.symm hoy)]; exact hcy
      have hfy1 : (w.setCell ⟨ob, k, none⟩ (.bool true)).frozen? ⟨yb, k, none⟩ = false := by rw [setCell_frozen]; exact hfy
      have hs1 : (w.setCell ⟨ob, k, none⟩ (.bool true)).heap.size = w.heap.size := by simp [World.setCell]
      go_wp2
      generalize hw1 : w.setCell ⟨ob, k, none⟩ (.bool true) = w1 at *
      have HW1 : Hid (w.setCell ⟨ob, k, none⟩ (.bool true) = w1) := hw1
      clear hw1
      have hlt1 : yb < w1.heap.size := by omega
      have htb1 : tb < w1.heap.size := block_lt_of_cell hyn1
      have HS1 : Hid (w1.heap.size = w.heap.size) := hs1
      clear hs1 hon hyn hcy hfy HL hlt hci
      go_region
      go_wp2
      go_ret2
      refine ⟨rfl, 1, ?_⟩
      rw [← HS1.out, HW1.out]; rfl
set_option maxHeartbeats 800000 in
theorem ralloc_full (hon : w.cell? ⟨tb, 0, none⟩ = some (.slice (some ⟨ob, 0, none⟩) n co)) (hn2 : n ≤ 4096)
    (hall : ∀ j, j < n → w.cell? ⟨ob, j, none⟩ = some (.bool true)) :
    Calls Tryd.prog 26 #[.pointer (some ⟨tb, 0, none⟩)] w fun e w' => e = .returned (.tuple #[.int .i64 0, .int .i64 28]) ∧ w' = w := by
  have HL : Hid (∀ j, j < n → w.cell? ⟨ob, j, none⟩ = some (.bool true)) := hall
  clear hall
  go_enter Tryd.func26, Tryd.ntmps26
  go_wp2
  go_loop [11] (fun x => ∃ k : Nat, k ≤ n ∧ x = .int .i64 k) (fun x => n - (intOf x).toNat)
  case atStart => exact ⟨0, Nat.zero_le _, rfl⟩
  case round =>
    obtain ⟨k, hk, rfl⟩ := hrel
    by_cases hlt' : k < n
    · have hck := HL.out k hlt'
      have h2 : (k : Int) < n := by omega
      go_wp2
      go_round
      case rel => exact ⟨k + 1, hlt', by go_num⟩
      case measure => simp [intOf]; omega
    · go_wp2
      go_ret2
      exact ⟨rfl, rfl⟩
set_option maxHeartbeats 400000 in
theorem rfree_out (i : Int) (his : Calls Tryd.prog 32 #[.pointer (some ⟨tb, 0, none⟩), .int .i64 i] w fun e w' => e = .returned (.bool false) ∧ w' = w) :
    Calls Tryd.prog 27 #[.pointer (some ⟨tb, 0, none⟩), .int .i64 i] w fun e w' => e = .returned (.int .i64 22) ∧ w' = w := by
  have HI : Hid (Calls Tryd.prog 32 #[.pointer (some ⟨tb, 0, none⟩), .int .i64 i] w fun e w' => e = .returned (.bool false) ∧ w' = w) := his
  clear his
  go_enter Tryd.func27, Tryd.ntmps27
  go_wp2_with (go_at_call 32; refine HI.out.mono ?_; rintro e w' ⟨rfl, rfl⟩)
  go_ret
  exact ⟨rfl, rfl⟩
set_option maxHeartbeats 400000 in
theorem rfree_in (i : Nat) (hon : w.cell? ⟨tb, 0, none⟩ = some (.slice (some ⟨ob, 0, none⟩) n co)) (hi : i < n) (hc : w.cell? ⟨ob, i, none⟩ = some (.bool true)) (hf : w.frozen? ⟨ob, i, none⟩ = false) :
    Calls Tryd.prog 27 #[.pointer (some ⟨tb, 0, none⟩), .int .i64 i] w fun e w' => e = .returned (.int .i64 0) ∧ w' = w.setCell ⟨ob, i, none⟩ (.bool false) := by
  have h2 : (i : Int) < n := by omega
  go_enter Tryd.func27, Tryd.ntmps27
  go_wp2_with (go_at_call 32; refine (ris_in w tb n ob co i true hon hi hc).mono ?_; rintro e w' ⟨rfl, hw'⟩; rw [hw']; clear hw' w')
  go_ret
  exact ⟨rfl, rfl⟩
set_option maxHeartbeats 400000 in
theorem rread_out (i : Int) (his : Calls Tryd.prog 32 #[.pointer (some ⟨tb, 0, none⟩), .int .i64 i] w fun e w' => e = .returned (.bool false) ∧ w' = w) :
    Calls Tryd.prog 28 #[.pointer (some ⟨tb, 0, none⟩), .int .i64 i] w fun e w' => e = .returned (.tuple #[.slice none 0 0, .int .i64 22]) ∧ w' = w := by
  have HI : Hid (Calls Tryd.prog 32 #[.pointer (some ⟨tb, 0, none⟩), .int .i64 i] w fun e w' => e = .returned (.bool false) ∧ w' = w) := his
  clear his
  go_enter Tryd.func28, Tryd.ntmps28
  go_wp2_with (go_at_call 32; refine HI.out.mono ?_; rintro e w' ⟨rfl, rfl⟩)
  go_ret2
  exact ⟨rfl, rfl⟩
set_option maxHeartbeats 1000000 in
theorem rread_in (i r cap : Nat) (bs : List Nat) (hon : w.cell? ⟨tb, 0, none⟩ = some (.slice (some ⟨ob, 0, none⟩) n co)) (hyn : w.cell? ⟨tb, 1, none⟩ = some (.slice (some ⟨yb, 0, none⟩) n cy)) (hi : i < n) (hc : w.cell? ⟨ob, i, none⟩ = some (.bool true))
    (hcy : w.cell? ⟨yb, i, none⟩ = some (.slice (some ⟨r, 0, none⟩) bs.length cap)) (hl : bs.length ≤ 64) (hb : ∀ j x, bs[j]? = some x → w.cell? ⟨r, j, none⟩ = some (byteV x)) :
    Calls Tryd.prog 28 #[.pointer (some ⟨tb, 0, none⟩), .int .i64 i] w fun e w' => ∃ v, e = .returned (.tuple #[v, .int .i64 0]) ∧ w'.ownsRow w.heap.size 5 1 v bs.length (bs.map byteV) ∧ Mod (fun _ => False) w w' := by
  obtain ⟨i5, q1, q2, q3, q4⟩ : ∃ i, Tryd.prog.info? 5 = some i ∧ i.zero = some (.int .u8 0) ∧ i.size = 1 ∧ i.bytes = 1 := ⟨_, rfl, by kernel_rfl, by kernel_rfl, by kernel_rfl⟩
  have HI : Hid (Tryd.prog.info? 5 = some i5 ∧ i5.zero = some (.int .u8 0) ∧ i5.size = 1 ∧ i5.bytes = 1) := ⟨q1, q2, q3, q4⟩
  have HB : Hid (∀ j x, bs[j]? = some x → w.cell? ⟨r, j, none⟩ = some (byteV x)) := hb
  have hbs : ∀ W : World, (Instr.buildSlice 33 0 #[]).run Tryd.prog W = .ok (.slice (some ⟨W.heap.size, 0, none⟩) 0 0) (W.alloc (.cells #[] 5)) := fun _ => by kernel_rfl
  have h2 : (i : Int) < n := by omega
  have g1 := block_lt_of_cell hyn
  have g2 := block_lt_of_cell hcy
  clear q1 q2 q3 q4 hb
  go_enter Tryd.func28, Tryd.ntmps28
  go_wp2_with (first | (go_at_call 32; refine (ris_in w tb n ob co i true hon hi hc).mono ?_; rintro e w' ⟨rfl, hw'⟩; rw [hw']; clear hw' w') | (at_builtin; go_must (refine wpList_append_own _ rfl _ _ 33 rfl w.heap.size 5 i5 (.int .u8 0) 1 1 und33 HI.out.1 HI.out.2.1 HI.out.2.2.1 HI.out.2.2.2 rfl (by decide) _ 0 [] rfl ?own ⟨r, 0, none⟩ bs.length cap (bs.map byteV) rfl ?c0 ?c1 (one_bytes bs) ?c3 ?c4 ?c5 ?_)))
  case own => exact World.ownsRow_made w #[] 0 (Nat.le_refl _) (by unfold maxLen; omega) (by simp)
  case c0 => simp
  case c1 =>
    intro j v hj
    rw [List.getElem?_map, Option.map_eq_some_iff] at hj
    obtain ⟨x, hx, rfl⟩ := hj
    have h := HB.out j x hx
    rw [show (⟨r, 0, none⟩ : Addr).add j = ⟨r, j, none⟩ by unfold Addr.add; split <;> simp_all]
    rw [World.cell?_alloc_past _ _ _ (block_lt_of_cell h)]; exact h
  case c3 => unfold maxLen; omega
  case c4 => omega
  case c5 => simp
  intro v' w1 hown hgrow _
  have HO : Hid (w1.ownsRow w.heap.size 5 1 v' bs.length (bs.map byteV)) := by
    show w1.ownsRow _ _ _ _ _ _
    simpa using hown
  have HM : Hid (Mod (fun _ => False) w w1) := ((Mod.refl _ w).alloc (.cells #[] 5)).grown hgrow (fun k hk => by simp [Value.ownBlock] at hk; omega)
  clear hown hgrow
  go_wp2
  go_ret2
  exact ⟨_, rfl, HO, HM⟩
set_option maxHeartbeats 400000 in
theorem rwrite_out (i t : Int) (v : Value) (his : Calls Tryd.prog 32 #[.pointer (some ⟨tb, 0, none⟩), .int .i64 i] w fun e w' => e = .returned (.bool false) ∧ w' = w) :
    Calls Tryd.prog 30 #[.pointer (some ⟨tb, 0, none⟩), .int .i64 i, .int .i64 t, v] w fun e w' => e = .returned (.int .i64 22) ∧ w' = w := by
  have HI : Hid (Calls Tryd.prog 32 #[.pointer (some ⟨tb, 0, none⟩), .int .i64 i] w fun e w' => e = .returned (.bool false) ∧ w' = w) := his
  clear his
  go_enter Tryd.func30, Tryd.ntmps30
  go_wp2_with (go_at_call 32; refine HI.out.mono ?_; rintro e w' ⟨rfl, rfl⟩)
  go_ret
  exact ⟨rfl, rfl⟩
set_option maxHeartbeats 400000 in
theorem rwrite_bad (i : Nat) (t : Int) (a : Option Addr) (k cap : Nat) (hon : w.cell? ⟨tb, 0, none⟩ = some (.slice (some ⟨ob, 0, none⟩) n co)) (hi : i < n) (hc : w.cell? ⟨ob, i, none⟩ = some (.bool true)) (ht : t < 0 ∨ 64 < t + k) :
    Calls Tryd.prog 30 #[.pointer (some ⟨tb, 0, none⟩), .int .i64 i, .int .i64 t, .slice a k cap] w fun e w' => e = .returned (.int .i64 22) ∧ w' = w := by
  have H : Hid (t < 0 ∨ 64 < t + k) := ht
  clear ht
  by_cases h0 : t < 0
  · go_enter Tryd.func30, Tryd.ntmps30
    go_wp2_with (go_at_call 32; refine (ris_in w tb n ob co i true hon hi hc).mono ?_; rintro e w' ⟨rfl, hw'⟩; rw [hw']; clear hw' w')
    go_ret
    exact ⟨rfl, rfl⟩
  · by_cases h1 : 64 < t
    · go_enter Tryd.func30, Tryd.ntmps30
      go_wp2_with (go_at_call 32; refine (ris_in w tb n ob co i true hon hi hc).mono ?_; rintro e w' ⟨rfl, hw'⟩; rw [hw']; clear hw' w')
      go_ret
      exact ⟨rfl, rfl⟩
    · have h2 : (64 : Int) - t < k := by have := H.out; omega
      go_enter Tryd.func30, Tryd.ntmps30
      go_wp2_with (go_at_call 32; refine (ris_in w tb n ob co i true hon hi hc).mono ?_; rintro e w' ⟨rfl, hw'⟩; rw [hw']; clear hw' w')
      go_ret
      exact ⟨rfl, rfl⟩
end
end Go.Proofs.YtipdpifpblaldaaDoor
