/- The plain table's calls that a fresh one is asked: New, Room. Conditions: the cells are as said. -/
import Derived.Test.YtfmemkninmpfjaaGreatDoorRoom
import Derived.Test.YtfmemkninmpfjaaGreatDoorShortP
import Derived.Laws.ResultCell
import Derived.Test.YtfmemkninmpfjaaGreatDoorUsed
namespace Go.Proofs.YtfmemkninmpfjaaGreatDoor
open Go.RowKit
section
variable (w : World) (tb n ob co : Nat) (u : Nat → Bool)
set_option maxHeartbeats 800000 in
theorem rleft_any (hon : w.cell? ⟨tb, 0, none⟩ = some (.slice (some ⟨ob, 0, none⟩) n co)) (hn2 : n ≤ 4096) (hoc : ∀ i, i < n → w.cell? ⟨ob, i, none⟩ = some (.bool (u i))) :
    Calls Tryz.prog 110 #[.pointer (some ⟨tb, 0, none⟩)] w fun e w' => e = .returned (.int .i64 ((n : Int) - (Bt.cnt u n : Nat))) ∧ w' = w := by
  have HC : Hid (∀ i, i < n → w.cell? ⟨ob, i, none⟩ = some (.bool (u i))) := hoc
  clear hoc
  go_enter Tryz.func110, Tryz.ntmps110
  go_wp2
  go_loop [3, 11] (fun l i => ∃ k : Nat, k ≤ n ∧ i = .int .i64 k ∧ l = .int .i64 ((k : Int) - (Bt.cnt u k : Nat))) (fun _ i => n - (intOf i).toNat)
  case atStart => exact ⟨0, by omega, rfl, by simp [Bt.cnt]⟩
  case round =>
    obtain ⟨k, hk, rfl, rfl⟩ := hrel
    by_cases hlt : k < n
    · have hc := HC.out k hlt
      have hb := Bt.cnt_le u k
      cases hu : u k with
      | false =>
        have HU : Hid (Bt.cnt u (k + 1) = Bt.cnt u k) := by show Bt.cnt u (k + 1) = Bt.cnt u k; simp [Bt.cnt, hu]
        rw [hu] at hc
        clear hu
        go_wp2
        go_round
        case rel => exact ⟨k + 1, hlt, by go_num, by rw [HU.out]; congr 1; omega⟩
        case measure => simp [intOf]; omega
      | true =>
        have HU : Hid (Bt.cnt u (k + 1) = Bt.cnt u k + 1) := by show Bt.cnt u (k + 1) = Bt.cnt u k + 1; simp [Bt.cnt, hu]
        rw [hu] at hc
        clear hu
        go_wp2
        go_round
        case rel => exact ⟨k + 1, hlt, by go_num, by rw [HU.out]; congr 1; omega⟩
        case measure => simp [intOf]; omega
    · obtain rfl : k = n := by omega
      go_wp2
      go_ret
      exact ⟨rfl, rfl⟩
end
theorem Hid.intr {p : Prop} (h : p) : Hid p := h
theorem mk_bools (n : Nat) (hn : n ≤ 4096) (w : World) : (Instr.makeSlice 124 (.int .i64 n) (.int .i64 n)).run Tryz.prog w = .ok (.slice (some ⟨w.heap.size, 0, none⟩) n n) (w.alloc (.cells (madeCells #[.bool false] n) 4)) := by
  obtain ⟨i, h1, h2, h3, h4⟩ : ∃ i, Tryz.prog.info? 4 = some i ∧ i.zero = some (.bool false) ∧ i.size = 1 ∧ i.bytes = 1 := info_of (by kernel_rfl)
  have := run_make (P := Tryz.prog) w 124 4 i _ (by kernel_rfl) h1 h2 .i64 .i64 n n (by omega) (by omega) (by rw [h4]; omega) (by omega)
  rw [h3] at this
  simpa [Value.cells] using this
theorem mk_slices (n : Nat) (hn : n ≤ 4096) (w : World) : (Instr.makeSlice 98 (.int .i64 n) (.int .i64 n)).run Tryz.prog w = .ok (.slice (some ⟨w.heap.size, 0, none⟩) n n) (w.alloc (.cells (madeCells #[.slice none 0 0] n) 28)) := by
  obtain ⟨i, h1, h2, h3, h4⟩ : ∃ i, Tryz.prog.info? 28 = some i ∧ i.zero = some (.slice none 0 0) ∧ i.size = 1 ∧ i.bytes = 24 := info_of (by kernel_rfl)
  have := run_make (P := Tryz.prog) w 98 28 i _ (by kernel_rfl) h1 h2 .i64 .i64 n n (by omega) (by omega) (by rw [h4]; omega) (by omega)
  rw [h3] at this
  simpa [Value.cells] using this
theorem three_last (w : World) (A B C : Obj) : (((w.alloc A).alloc B).alloc C).heap[w.heap.size + 2]? = some C := by
  have := heap_alloc_new ((w.alloc A).alloc B) C
  simpa using this
theorem three_mid (w : World) (A B C : Obj) : (((w.alloc A).alloc B).alloc C).heap[w.heap.size + 1]? = some B := by
  rw [Below.heap_alloc _ _ _ (by simp)]
  have := heap_alloc_new (w.alloc A) B
  simpa using this
set_option maxHeartbeats 800000 in
theorem rnew_any (n : Nat) (w : World) (hn2 : n ≤ 4096) : Calls Tryz.prog 71 #[.int .i64 n] w fun e w' => ∃ ob yb, e = .returned (.agg #[.slice (some ⟨ob, 0, none⟩) n n, .slice (some ⟨yb, 0, none⟩) n n]) ∧
    w.heap.size ≤ ob ∧ w.heap.size ≤ yb ∧ ob ≠ yb ∧ w'.heap[ob]? = some (.cells (madeCells #[.bool false] n) 4 (0, 0)) ∧ w'.heap[yb]? = some (.cells (madeCells #[.slice none 0 0] n) 28 (0, 0)) ∧ Mod (fun _ => False) w w' := by
  have h1 := mk_bools n hn2
  have h2 := mk_slices n hn2
  go_enter Tryz.func71, Tryz.ntmps71
  go_wp2
  go_region
  all_goals go_wp2
  · exact bodyPost_ret (v := .agg #[.slice (some ⟨w.heap.size + 1, 0, none⟩) n n, .slice (some ⟨w.heap.size + 2, 0, none⟩) n n]) (by simp [results, Tryz.results71, go_sem]) rfl
      ⟨_, _, rfl, by omega, by omega, by omega, three_mid _ _ _ _, three_last _ _ _ _, ((((Mod.refl _ w).alloc _).alloc _).alloc _).drewN 1⟩
  · exact bodyPost_ret (v := .agg #[.slice (some ⟨w.heap.size + 2, 0, none⟩) n n, .slice (some ⟨w.heap.size + 1, 0, none⟩) n n]) (by simp [results, Tryz.results71, go_sem]) rfl
      ⟨_, _, rfl, by omega, by omega, by omega, three_last _ _ _ _, three_mid _ _ _ _, ((((Mod.refl _ w).alloc _).alloc _).alloc _).drewN 1⟩

def zeroI : Array Value := #[.bool false] ++ Array.replicate 307 (.int .i64 0)
theorem sizeI : zeroI.size = 308 := by simp [zeroI]
theorem infoI : ∃ i, Tryz.prog.info? 140 = some i ∧ i.zero = some (.agg zeroI) ∧ i.size = 308 ∧ i.bytes = 2464 := info_of (by kernel_rfl)
theorem undI : Tryz.prog.underlying 128 = some (.slice 140) := by kernel_rfl
theorem mk_inodes (n : Nat) (hn : n ≤ 4097) (w : World) : (Instr.makeSlice 128 (.int .i64 n) (.int .i64 n)).run Tryz.prog w = .ok (.slice (some ⟨w.heap.size, 0, none⟩) n n) (w.alloc (.cells (madeCells zeroI (n * 308)) 140)) := by
  obtain ⟨i, h1, h2, h3, h4⟩ := infoI
  have := run_make (P := Tryz.prog) w 128 140 i _ undI h1 h2 .i64 .i64 n n (by omega) (by omega) (by rw [h4]; omega) (by omega)
  rw [h3] at this
  simpa [Value.cells] using this
theorem madeI_at (n j : Nat) (hj : j < n) : (madeCells zeroI (n * 308))[j * 308]? = some (.bool false) := by
  simp only [madeCells, Array.getElem?_map, sizeI]
  rw [Array.getElem?_eq_getElem (by simp; omega)]
  simp only [Array.getElem_range, Option.map_some, Nat.mul_mod_left]
  rw [getElem!_pos zeroI 0 (by rw [sizeI]; omega)]
  simp [zeroI]
/-- A fresh plain table. -/
structure RT (w : World) (tb ob lb n N : Nat) : Prop where
  on : w.cell? ⟨tb, 0, none⟩ = some (.slice (some ⟨ob, 0, none⟩) n n)
  nn : w.cell? ⟨tb, 2, none⟩ = some (.int .i64 N)
  ll : w.cell? ⟨tb, 4, none⟩ = some (.slice (some ⟨lb, 0, none⟩) (N + 1) (N + 1))
  oc : ∀ i, i < n → w.cell? ⟨ob, i, none⟩ = some (.bool false)
  lc : ∀ i, i < N + 1 → w.cell? ⟨lb, i * 308, none⟩ = some (.bool false)
theorem RT.keep {w w' : World} {tb ob lb n N : Nat} (h : RT w tb ob lb n N) (hM : Mod (fun _ => False) w w') : RT w' tb ob lb n N :=
  ⟨(hM.cell (p := ⟨tb, 0, none⟩) (block_lt_of_cell h.on) (fun h => h)).trans h.on, (hM.cell (p := ⟨tb, 2, none⟩) (block_lt_of_cell h.nn) (fun h => h)).trans h.nn, (hM.cell (p := ⟨tb, 4, none⟩) (block_lt_of_cell h.ll) (fun h => h)).trans h.ll,
    fun i hi => (hM.cell (p := ⟨ob, i, none⟩) (block_lt_of_cell (h.oc i hi)) (fun h => h)).trans (h.oc i hi), fun i hi => (hM.cell (p := ⟨lb, i * 308, none⟩) (block_lt_of_cell (h.lc i hi)) (fun h => h)).trans (h.lc i hi)⟩
theorem madeB_at (n j : Nat) (hj : j < n) : (madeCells #[.bool false] n)[j]? = some (.bool false) := by
  simp only [madeCells, Array.getElem?_map]
  rw [Array.getElem?_eq_getElem (by simpa using hj)]
  simp [Nat.mod_one]
theorem RT.lay (w1 : World) (ob lb n N : Nat) (y : Value) (hO : w1.heap[ob]? = some (.cells (madeCells #[.bool false] n) 4 (0, 0))) (hL : w1.heap[lb]? = some (.cells (madeCells zeroI ((N + 1) * 308)) 140 (0, 0))) :
    RT (w1.alloc (.cells #[.slice (some ⟨ob, 0, none⟩) n n, y, .int .i64 N, .int .i64 0, .slice (some ⟨lb, 0, none⟩) (N + 1) (N + 1)] 130)) w1.heap.size ob lb n N :=
  have ho : ob < w1.heap.size := by rcases Nat.lt_or_ge ob w1.heap.size with h | h; exact h; rw [Array.getElem?_eq_none h] at hO; exact absurd hO (by simp)
  have hl : lb < w1.heap.size := by rcases Nat.lt_or_ge lb w1.heap.size with h | h; exact h; rw [Array.getElem?_eq_none h] at hL; exact absurd hL (by simp)
  { on := by rw [World.cell?_alloc_at _ _ _ _ rfl]; rfl
    nn := by rw [World.cell?_alloc_at _ _ _ _ rfl]; rfl
    ll := by rw [World.cell?_alloc_at _ _ _ _ rfl]; rfl
    oc := fun i hi => by rw [World.cell?_alloc_past _ _ _ ho, cell_of_row w1 ob i _ _ (0, 0) hO]; exact madeB_at n i hi
    lc := fun i hi => by rw [World.cell?_alloc_past _ _ _ hl, cell_of_row w1 lb _ _ _ (0, 0) hL]; exact madeI_at (N + 1) i hi }
set_option maxRecDepth 8000 in
set_option maxHeartbeats 1000000 in
theorem r2new_ok (n N : Nat) (w : World) (hn : 1 ≤ n) (hn2 : n ≤ 4096) (hN : 1 ≤ N) (hN2 : N ≤ 4096) : Calls Tryz.prog 28 #[.int .i64 n, .int .i64 N] w fun e w' => ∃ tb ob lb, e = .returned (.tuple #[.pointer (some ⟨tb, 0, none⟩), .int .i64 0]) ∧ RT w' tb ob lb n N ∧ Mod (fun _ => False) w w' := by
  have hm := mk_inodes (N + 1) (by omega)
  have hc : ((N + 1 : Nat) : Int) = (N : Int) + 1 := rfl
  rw [hc] at hm
  have hw : IntKind.i64.wrap ((N : Int) + 1) = (N : Int) + 1 := by rw [IntKind.wrap_i64]; omega
  have h1 : ¬ (n : Int) < 1 := by omega
  have h2 : ¬ 4096 < (n : Int) := by omega
  have h3 : ¬ (N : Int) < 1 := by omega
  have h4 : ¬ 4096 < (N : Int) := by omega
  go_enter Tryz.func28, Tryz.ntmps28
  go_wp2_with fail
  go_region_held (fun _ => True) (trivial) (first | (go_at_call 71; refine (rnew_any n _ hn2).mono ?_; rintro e w1 ⟨ob, yb, rfl, -, -, -, O1, Y1, M1⟩; have HO := Hid.intr O1; have HM := Hid.intr M1; clear O1 Y1 M1))
  all_goals go_wp2
  · go_ret2
    have hO : (w1.alloc (.cells (madeCells zeroI ((N + 1) * 308)) 140)).heap[ob]? = some (.cells (madeCells #[.bool false] n) 4 (0, 0)) := by
      rw [Below.heap_alloc _ _ _ (by rcases Nat.lt_or_ge ob w1.heap.size with h | h; exact h; have := HO.out; rw [Array.getElem?_eq_none h] at this; exact absurd this (by simp))]; exact HO.out
    have hL : (w1.alloc (.cells (madeCells zeroI ((N + 1) * 308)) 140)).heap[w1.heap.size]? = some (.cells (madeCells zeroI ((N + 1) * 308)) 140 (0, 0)) := by
      show (w1.heap.push _)[w1.heap.size]? = _
      simp
    have h := RT.lay _ ob w1.heap.size n N (.slice (some ⟨yb, 0, none⟩) n n) hO hL
    rw [World.size_alloc] at h
    exact ⟨_, _, _, by simp, h, ((((Mod.refl _ w).drewN 1).trans HM.out).alloc _).alloc _⟩
  · go_ret2
    have hL : w1.heap[w.heap.size]? = some (.cells (madeCells zeroI ((N + 1) * 308)) 140 (0, 0)) := by
      rw [HM.out.block w.heap.size (by show _ < (w.alloc _).heap.size; simp) (fun h => h)]
      show (w.heap.push _)[w.heap.size]? = _
      simp
    exact ⟨_, _, _, by simp, RT.lay w1 ob w.heap.size n N (.slice (some ⟨yb, 0, none⟩) n n) HO.out hL, ((((Mod.refl _ w).alloc _).drewN 1).trans HM.out).alloc _⟩
theorem r2new_bad (n N : Int) (w : World) (h : n < 1 ∨ 4096 < n ∨ N < 1 ∨ 4096 < N) : Calls Tryz.prog 28 #[.int .i64 n, .int .i64 N] w fun e w' => e = .returned (.tuple #[.pointer none, .int .i64 22]) ∧ w' = w := by
  by_cases h1 : n < 1
  · clear h
    go_enter Tryz.func28, Tryz.ntmps28
    go_wp2
    go_ret2
    exact ⟨by simp, rfl⟩
  by_cases h2 : 4096 < n
  · clear h
    go_enter Tryz.func28, Tryz.ntmps28
    go_wp2
    go_ret2
    exact ⟨by simp, rfl⟩
  by_cases h3 : N < 1
  · clear h
    go_enter Tryz.func28, Tryz.ntmps28
    go_wp2
    go_ret2
    exact ⟨by simp, rfl⟩
  have h4 : 4096 < N := by omega
  clear h
  go_enter Tryz.func28, Tryz.ntmps28
  go_wp2
  go_ret2
  exact ⟨by simp, rfl⟩
set_option maxRecDepth 8000 in
set_option maxHeartbeats 1000000 in
theorem r2used0 (w : World) (tb ob lb n N : Nat) (h : RT w tb ob lb n N) (hN2 : N ≤ 4096) : Calls Tryz.prog 43 #[.pointer (some ⟨tb, 0, none⟩)] w fun e w' => e = .returned (.slice none 0 0) ∧ w' = w := by
  have h1 := h.nn
  have h2 := h.ll
  have HL : Hid (∀ i, i < N + 1 → w.cell? ⟨lb, i * 308, none⟩ = some (.bool false)) := h.lc
  clear h
  go_enter Tryz.func43, Tryz.ntmps43
  go_wp2
  go_loop [3, 4] (fun v x => ∃ k : Nat, k ≤ N ∧ v = .slice none 0 0 ∧ x = .int .i64 ((k : Int) + 1)) (fun _ x => N + 1 - (intOf x).toNat)
  case atStart => exact ⟨0, by omega, rfl, rfl⟩
  case round =>
    obtain ⟨k, hk, rfl, rfl⟩ := hrel
    by_cases hlt : k < N
    · have hc := HL.out (k + 1) (by omega)
      have hlt' : (k : Int) + 1 ≤ N := by omega
      go_wp2
      exact ⟨⟨k + 1, by omega, rfl, by go_num⟩, by simp [intOf]; omega⟩
    · have hlt' : ¬ (k : Int) + 1 ≤ N := by omega
      go_wp2
      go_ret
      exact ⟨by simp, rfl⟩
end Go.Proofs.YtfmemkninmpfjaaGreatDoor
