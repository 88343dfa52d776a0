/- Several texts of this claim, one behind the other, in their order. -/
import Derived.Test.YtfmemkninmpfjaaGreatDoorM8
import Derived.Test.YtfmemkninmpfjaaGreatDoorM11
import Derived.Laws.ResultCell
import Derived.Test.YtfmemkninmpfjaaGreatDoorM10
import Derived.Laws.StructEq
import Derived.ChangeKeysEq
/- The plain table's calls that a fresh one is asked: New, Room. Conditions: the cells are as said. -/
namespace Go.Proofs.YtfmemkninmpfjaaGreatDoor
open Go.RowKit
section
variable (w : World) (tb n ob co : Nat) (u : Nat → Bool)
set_option maxHeartbeats 800000 in
theorem rleft_any (hon : w.cell? ⟨tb, 0, none⟩ = some (.slice (some ⟨ob, 0, none⟩) n co)) (hn2 : n ≤ 4096) (hoc : ∀ i, i < n → w.cell? ⟨ob, i, none⟩ = some (.bool (u i))) :
    Calls Tryz.prog 110 #[.pointer (some ⟨tb, 0, none⟩)] w fun e w' => e = .returned (.int .i64 ((n : Int) - (Bt.cnt u n : Nat))) ∧ w' = w := by
  have HC : Hid (∀ i, i < n → w.cell? ⟨ob, i, none⟩ = some (.bool (u i))) := hoc
  clear hoc
  go_enter Tryz.func110, Tryz.ntmps110
  go_wp2
  go_loop [3, 11] (fun l i => ∃ k : Nat, k ≤ n ∧ i = .int .i64 k ∧ l = .int .i64 ((k : Int) - (Bt.cnt u k : Nat))) (fun _ i => n - (intOf i).toNat)
  case atStart => exact ⟨0, by omega, rfl, by simp [Bt.cnt]⟩
  case round =>
    obtain ⟨k, hk, rfl, rfl⟩ := hrel
    by_cases hlt : k < n
    · have hc := HC.out k hlt
      have hb := Bt.cnt_le u k
      cases hu : u k with
      | false =>
        have HU : Hid (Bt.cnt u (k + 1) = Bt.cnt u k) := by show Bt.cnt u (k + 1) = Bt.cnt u k; simp [Bt.cnt, hu]
        rw [hu] at hc
        clear hu
        go_wp2
        go_round
        case rel => exact ⟨k + 1, hlt, by go_num, by rw [HU.out]; congr 1; omega⟩
        case measure => simp [intOf]; omega
      | true =>
        have HU : Hid (Bt.cnt u (k + 1) = Bt.cnt u k + 1) := by show Bt.cnt u (k + 1) = Bt.cnt u k + 1; simp [Bt.cnt, hu]
        rw [hu] at hc
        clear hu
        go_wp2
        go_round
        case rel => exact ⟨k + 1, hlt, by go_num, by rw [HU.out]; congr 1; omega⟩
        case measure => simp [intOf]; omega
    · obtain rfl : k = n := by omega
      go_wp2
      go_ret
      exact ⟨rfl, rfl⟩
end
theorem Hid.intr {p : Prop} (h : p) : Hid p := h
theorem mk_bools (n : Nat) (hn : n ≤ 4096) (w : World) : (Instr.makeSlice 124 (.int .i64 n) (.int .i64 n)).run Tryz.prog w = .ok (.slice (some ⟨w.heap.size, 0, none⟩) n n) (w.alloc (.cells (madeCells #[.bool false] n) 4)) := by
  obtain ⟨i, h1, h2, h3, h4⟩ : ∃ i, Tryz.prog.info? 4 = some i ∧ i.zero = some (.bool false) ∧ i.size = 1 ∧ i.bytes = 1 := info_of (by kernel_rfl)
  have := run_make (P := Tryz.prog) w 124 4 i _ (by kernel_rfl) h1 h2 .i64 .i64 n n (by omega) (by omega) (by rw [h4]; omega) (by omega)
  rw [h3] at this
  simpa [Value.cells] using this
theorem mk_slices (n : Nat) (hn : n ≤ 4096) (w : World) : (Instr.makeSlice 98 (.int .i64 n) (.int .i64 n)).run Tryz.prog w = .ok (.slice (some ⟨w.heap.size, 0, none⟩) n n) (w.alloc (.cells (madeCells #[.slice none 0 0] n) 28)) := by
  obtain ⟨i, h1, h2, h3, h4⟩ : ∃ i, Tryz.prog.info? 28 = some i ∧ i.zero = some (.slice none 0 0) ∧ i.size = 1 ∧ i.bytes = 24 := info_of (by kernel_rfl)
  have := run_make (P := Tryz.prog) w 98 28 i _ (by kernel_rfl) h1 h2 .i64 .i64 n n (by omega) (by omega) (by rw [h4]; omega) (by omega)
  rw [h3] at this
  simpa [Value.cells] using this
theorem three_last (w : World) (A B C : Obj) : (((w.alloc A).alloc B).alloc C).heap[w.heap.size + 2]? = some C := by
  have := heap_alloc_new ((w.alloc A).alloc B) C
  simpa using this
theorem three_mid (w : World) (A B C : Obj) : (((w.alloc A).alloc B).alloc C).heap[w.heap.size + 1]? = some B := by
  rw [Below.heap_alloc _ _ _ (by simp)]
  have := heap_alloc_new (w.alloc A) B
  simpa using this
set_option maxHeartbeats 800000 in
theorem rnew_any (n : Nat) (w : World) (hn2 : n ≤ 4096) : Calls Tryz.prog 71 #[.int .i64 n] w fun e w' => ∃ ob yb, e = .returned (.agg #[.slice (some ⟨ob, 0, none⟩) n n, .slice (some ⟨yb, 0, none⟩) n n]) ∧
    w.heap.size ≤ ob ∧ w.heap.size ≤ yb ∧ ob ≠ yb ∧ w'.heap[ob]? = some (.cells (madeCells #[.bool false] n) 4 (0, 0)) ∧ w'.heap[yb]? = some (.cells (madeCells #[.slice none 0 0] n) 28 (0, 0)) ∧ Mod (fun _ => False) w w' := by
  have h1 := mk_bools n hn2
  have h2 := mk_slices n hn2
  go_enter Tryz.func71, Tryz.ntmps71
  go_wp2
  go_region
  all_goals go_wp2
  · exact bodyPost_ret (v := .agg #[.slice (some ⟨w.heap.size + 1, 0, none⟩) n n, .slice (some ⟨w.heap.size + 2, 0, none⟩) n n]) (by simp [results, Tryz.results71, go_sem]) rfl
      ⟨_, _, rfl, by omega, by omega, by omega, three_mid _ _ _ _, three_last _ _ _ _, ((((Mod.refl _ w).alloc _).alloc _).alloc _).drewN 1⟩
  · exact bodyPost_ret (v := .agg #[.slice (some ⟨w.heap.size + 2, 0, none⟩) n n, .slice (some ⟨w.heap.size + 1, 0, none⟩) n n]) (by simp [results, Tryz.results71, go_sem]) rfl
      ⟨_, _, rfl, by omega, by omega, by omega, three_last _ _ _ _, three_mid _ _ _ _, ((((Mod.refl _ w).alloc _).alloc _).alloc _).drewN 1⟩

def zeroI : Array Value := #[.bool false] ++ Array.replicate 307 (.int .i64 0)
theorem sizeI : zeroI.size = 308 := by simp [zeroI]
theorem infoI : ∃ i, Tryz.prog.info? 140 = some i ∧ i.zero = some (.agg zeroI) ∧ i.size = 308 ∧ i.bytes = 2464 := info_of (by kernel_rfl)
theorem undI : Tryz.prog.underlying 128 = some (.slice 140) := by kernel_rfl
theorem mk_inodes (n : Nat) (hn : n ≤ 4097) (w : World) : (Instr.makeSlice 128 (.int .i64 n) (.int .i64 n)).run Tryz.prog w = .ok (.slice (some ⟨w.heap.size, 0, none⟩) n n) (w.alloc (.cells (madeCells zeroI (n * 308)) 140)) := by
  obtain ⟨i, h1, h2, h3, h4⟩ := infoI
  have := run_make (P := Tryz.prog) w 128 140 i _ undI h1 h2 .i64 .i64 n n (by omega) (by omega) (by rw [h4]; omega) (by omega)
  rw [h3] at this
  simpa [Value.cells] using this
theorem madeI_at (n j : Nat) (hj : j < n) : (madeCells zeroI (n * 308))[j * 308]? = some (.bool false) := by
  simp only [madeCells, Array.getElem?_map, sizeI]
  rw [Array.getElem?_eq_getElem (by simp; omega)]
  simp only [Array.getElem_range, Option.map_some, Nat.mul_mod_left]
  rw [getElem!_pos zeroI 0 (by rw [sizeI]; omega)]
  simp [zeroI]
/-- A fresh plain table. -/
structure RT (w : World) (tb ob lb n N : Nat) : Prop where
  on : w.cell? ⟨tb, 0, none⟩ = some (.slice (some ⟨ob, 0, none⟩) n n)
  nn : w.cell? ⟨tb, 2, none⟩ = some (.int .i64 N)
  ll : w.cell? ⟨tb, 4, none⟩ = some (.slice (some ⟨lb, 0, none⟩) (N + 1) (N + 1))
  oc : ∀ i, i < n → w.cell? ⟨ob, i, none⟩ = some (.bool false)
  lc : ∀ i, i < N + 1 → w.cell? ⟨lb, i * 308, none⟩ = some (.bool false)
theorem RT.keep {w w' : World} {tb ob lb n N : Nat} (h : RT w tb ob lb n N) (hM : Mod (fun _ => False) w w') : RT w' tb ob lb n N :=
  ⟨(hM.cell (p := ⟨tb, 0, none⟩) (block_lt_of_cell h.on) (fun h => h)).trans h.on, (hM.cell (p := ⟨tb, 2, none⟩) (block_lt_of_cell h.nn) (fun h => h)).trans h.nn, (hM.cell (p := ⟨tb, 4, none⟩) (block_lt_of_cell h.ll) (fun h => h)).trans h.ll,
    fun i hi => (hM.cell (p := ⟨ob, i, none⟩) (block_lt_of_cell (h.oc i hi)) (fun h => h)).trans (h.oc i hi), fun i hi => (hM.cell (p := ⟨lb, i * 308, none⟩) (block_lt_of_cell (h.lc i hi)) (fun h => h)).trans (h.lc i hi)⟩
theorem madeB_at (n j : Nat) (hj : j < n) : (madeCells #[.bool false] n)[j]? = some (.bool false) := by
  simp only [madeCells, Array.getElem?_map]
  rw [Array.getElem?_eq_getElem (by simpa using hj)]
  simp [Nat.mod_one]
theorem RT.lay (w1 : World) (ob lb n N : Nat) (y : Value) (hO : w1.heap[ob]? = some (.cells (madeCells #[.bool false] n) 4 (0, 0))) (hL : w1.heap[lb]? = some (.cells (madeCells zeroI ((N + 1) * 308)) 140 (0, 0))) :
    RT (w1.alloc (.cells #[.slice (some ⟨ob, 0, none⟩) n n, y, .int .i64 N, .int .i64 0, .slice (some ⟨lb, 0, none⟩) (N + 1) (N + 1)] 130)) w1.heap.size ob lb n N :=
  have ho : ob < w1.heap.size := by rcases Nat.lt_or_ge ob w1.heap.size with h | h; exact h; rw [Array.getElem?_eq_none h] at hO; exact absurd hO (by simp)
  have hl : lb < w1.heap.size := by rcases Nat.lt_or_ge lb w1.heap.size with h | h; exact h; rw [Array.getElem?_eq_none h] at hL; exact absurd hL (by simp)
  { on := by rw [World.cell?_alloc_at _ _ _ _ rfl]; rfl
    nn := by rw [World.cell?_alloc_at _ _ _ _ rfl]; rfl
    ll := by rw [World.cell?_alloc_at _ _ _ _ rfl]; rfl
    oc := fun i hi => by rw [World.cell?_alloc_past _ _ _ ho, cell_of_row w1 ob i _ _ (0, 0) hO]; exact madeB_at n i hi
    lc := fun i hi => by rw [World.cell?_alloc_past _ _ _ hl, cell_of_row w1 lb _ _ _ (0, 0) hL]; exact madeI_at (N + 1) i hi }
set_option maxRecDepth 8000 in
set_option maxHeartbeats 1000000 in
theorem r2new_ok (n N : Nat) (w : World) (hn : 1 ≤ n) (hn2 : n ≤ 4096) (hN : 1 ≤ N) (hN2 : N ≤ 4096) : Calls Tryz.prog 28 #[.int .i64 n, .int .i64 N] w fun e w' => ∃ tb ob lb, e = .returned (.tuple #[.pointer (some ⟨tb, 0, none⟩), .int .i64 0]) ∧ RT w' tb ob lb n N ∧ Mod (fun _ => False) w w' := by
  have hm := mk_inodes (N + 1) (by omega)
  have hc : ((N + 1 : Nat) : Int) = (N : Int) + 1 := rfl
  rw [hc] at hm
  have hw : IntKind.i64.wrap ((N : Int) + 1) = (N : Int) + 1 := by rw [IntKind.wrap_i64]; omega
  have h1 : ¬ (n : Int) < 1 := by omega
  have h2 : ¬ 4096 < (n : Int) := by omega
  have h3 : ¬ (N : Int) < 1 := by omega
  have h4 : ¬ 4096 < (N : Int) := by omega
  go_enter Tryz.func28, Tryz.ntmps28
  go_wp2_with fail
  go_region_held (fun _ => True) (trivial) (first | (go_at_call 71; refine (rnew_any n _ hn2).mono ?_; rintro e w1 ⟨ob, yb, rfl, -, -, -, O1, Y1, M1⟩; have HO := Hid.intr O1; have HM := Hid.intr M1; clear O1 Y1 M1))
  all_goals go_wp2
  · go_ret2
    have hO : (w1.alloc (.cells (madeCells zeroI ((N + 1) * 308)) 140)).heap[ob]? = some (.cells (madeCells #[.bool false] n) 4 (0, 0)) := by
      rw [Below.heap_alloc _ _ _ (by rcases Nat.lt_or_ge ob w1.heap.size with h | h; exact h; have := HO.out; rw [Array.getElem?_eq_none h] at this; exact absurd this (by simp))]; exact HO.out
    have hL : (w1.alloc (.cells (madeCells zeroI ((N + 1) * 308)) 140)).heap[w1.heap.size]? = some (.cells (madeCells zeroI ((N + 1) * 308)) 140 (0, 0)) := by
      show (w1.heap.push _)[w1.heap.size]? = _
      simp
    have h := RT.lay _ ob w1.heap.size n N (.slice (some ⟨yb, 0, none⟩) n n) hO hL
    rw [World.size_alloc] at h
    exact ⟨_, _, _, by simp, h, ((((Mod.refl _ w).drewN 1).trans HM.out).alloc _).alloc _⟩
  · go_ret2
    have hL : w1.heap[w.heap.size]? = some (.cells (madeCells zeroI ((N + 1) * 308)) 140 (0, 0)) := by
      rw [HM.out.block w.heap.size (by show _ < (w.alloc _).heap.size; simp) (fun h => h)]
      show (w.heap.push _)[w.heap.size]? = _
      simp
    exact ⟨_, _, _, by simp, RT.lay w1 ob w.heap.size n N (.slice (some ⟨yb, 0, none⟩) n n) HO.out hL, ((((Mod.refl _ w).alloc _).drewN 1).trans HM.out).alloc _⟩
theorem r2new_bad (n N : Int) (w : World) (h : n < 1 ∨ 4096 < n ∨ N < 1 ∨ 4096 < N) : Calls Tryz.prog 28 #[.int .i64 n, .int .i64 N] w fun e w' => e = .returned (.tuple #[.pointer none, .int .i64 22]) ∧ w' = w := by
  by_cases h1 : n < 1
  · clear h
    go_enter Tryz.func28, Tryz.ntmps28
    go_wp2
    go_ret2
    exact ⟨by simp, rfl⟩
  by_cases h2 : 4096 < n
  · clear h
    go_enter Tryz.func28, Tryz.ntmps28
    go_wp2
    go_ret2
    exact ⟨by simp, rfl⟩
  by_cases h3 : N < 1
  · clear h
    go_enter Tryz.func28, Tryz.ntmps28
    go_wp2
    go_ret2
    exact ⟨by simp, rfl⟩
  have h4 : 4096 < N := by omega
  clear h
  go_enter Tryz.func28, Tryz.ntmps28
  go_wp2
  go_ret2
  exact ⟨by simp, rfl⟩
set_option maxRecDepth 8000 in
set_option maxHeartbeats 1000000 in
theorem r2used0 (w : World) (tb ob lb n N : Nat) (h : RT w tb ob lb n N) (hN2 : N ≤ 4096) : Calls Tryz.prog 43 #[.pointer (some ⟨tb, 0, none⟩)] w fun e w' => e = .returned (.slice none 0 0) ∧ w' = w := by
  have h1 := h.nn
  have h2 := h.ll
  have HL : Hid (∀ i, i < N + 1 → w.cell? ⟨lb, i * 308, none⟩ = some (.bool false)) := h.lc
  clear h
  go_enter Tryz.func43, Tryz.ntmps43
  go_wp2
  go_loop [3, 4] (fun v x => ∃ k : Nat, k ≤ N ∧ v = .slice none 0 0 ∧ x = .int .i64 ((k : Int) + 1)) (fun _ x => N + 1 - (intOf x).toNat)
  case atStart => exact ⟨0, by omega, rfl, rfl⟩
  case round =>
    obtain ⟨k, hk, rfl, rfl⟩ := hrel
    by_cases hlt : k < N
    · have hc := HL.out (k + 1) (by omega)
      have hlt' : (k : Int) + 1 ≤ N := by omega
      go_wp2
      exact ⟨⟨k + 1, by omega, rfl, by go_num⟩, by simp [intOf]; omega⟩
    · have hlt' : ¬ (k : Int) + 1 ≤ N := by omega
      go_wp2
      go_ret
      exact ⟨by simp, rfl⟩
end Go.Proofs.YtfmemkninmpfjaaGreatDoor
/- The walk of prune: places from keep on are holes. Conditions: the store lies in memory as 'St' says, the table's first cell leads to it, the ref lies in a block of its own. -/
namespace Go.Proofs.YtfmemkninmpfjaaGreatDoor
open Go.RowKit
theorem und_r : Tryz.prog.underlying 132 = some (.int .i64) := by kernel_rfl
theorem part_r (A : Array Value) (j : Nat) (v : Value) (h : A[j]? = some v) (W : World) : (Go.part 132 A j).run Tryz.prog W = .ok v W := by
  simp [Go.part, go_sem, h]
theorem items_r (q : Nat → Nat) (W : World) (d : Nat) : ∀ is : List Nat, (∀ j ∈ is, j < 16) → (Op.eqItems (d + 1) 132 1 (refsV q) zeroP is).run Tryz.prog W = .ok (is.all fun j => q j == 0) W
  | [], _ => by simp [Op.eqItems]
  | j :: is, h => by
    have hj : j < 16 := h j (by simp)
    have h1 := part_r (refsV q) j (.int .i64 (q j : Nat)) (by simp [refsV, List.getElem?_range hj, refV]) W
    have h2 := part_r zeroP j (.int .i64 0) (by simp [zeroP, hj]) W
    have h3 := run_equalIn_int (P := Tryz.prog) (w := W) d 132 .i64 .i64 (q j : Nat) 0 und_r
    have ih := items_r q W d is (fun k hk => h k (by simp [hk]))
    simp only [Op.eqItems, Sem.run_bind, Nat.mul_one, h1, h2, h3, Result.andThen_ok]
    by_cases hq : q j = 0
    · simp [hq, ih]
    · have : ((q j : Int) == 0) = false := by simpa using hq
      simp [this, hq]
/-- Are all the refs holes? -/
def allZ (q : Nat → Nat) : Bool := (List.range 16).all fun j => q j == 0
theorem run_neqP (q : Nat → Nat) (W : World) : (binOp .neq 198 (.agg (refsV q)) (.agg zeroP)).run Tryz.prog W = .ok (.bool (!allZ q)) W := by
  obtain ⟨i, hi, -, hz, -⟩ : ∃ i, Tryz.prog.info? 132 = some i ∧ i.zero = some (.int .i64 0) ∧ i.size = 1 ∧ i.bytes = 8 := info_of (by kernel_rfl)
  rw [run_neq_struct, run_equalIn_array (P := Tryz.prog) (w := W) 9999 (refsV q) zeroP undP hi]
  rw [show Tryz.prog.cellsOf 132 = 1 by kernel_rfl, items_r q W 9998 (List.range 16) (fun j hj => by simpa using hj)]
  rfl
/-- What prune makes: in use, the bytes, the ref. -/
abbrev PS := (Nat → Bool) × (Nat → Nat) × Nat
/-- The first i of an indirect block's refs are pruned. -/
def prRow (f : (Nat → Bool) → (Nat → Nat) → Nat → Int → PS) (below : Nat) (keep : Int) : Nat → (Nat → Bool) × (Nat → Nat) × (Nat → Nat) → (Nat → Bool) × (Nat → Nat) × (Nat → Nat)
  | 0, s => s
  | i + 1, s => ((f (prRow f below keep i s).1 (prRow f below keep i s).2.1 ((prRow f below keep i s).2.2 i) (keep - (i * below : Nat))).1, (f (prRow f below keep i s).1 (prRow f below keep i s).2.1 ((prRow f below keep i s).2.2 i) (keep - (i * below : Nat))).2.1,
      upd (prRow f below keep i s).2.2 i (f (prRow f below keep i s).1 (prRow f below keep i s).2.1 ((prRow f below keep i s).2.2 i) (keep - (i * below : Nat))).2.2)
/-- prune, by its words. -/
def pr : Nat → (Nat → Bool) → (Nat → Nat) → Nat → Int → PS
  | 0, u, D, r, keep => if r = 0 ∨ 1 ≤ keep then (u, D, r) else (freeU u r, freeD u D r, 0)
  | l + 1, u, D, r, keep => if r = 0 ∨ ((16 ^ (l + 1) : Nat) : Int) ≤ keep then (u, D, r) else
      if allZ (prRow (pr l) (16 ^ l) keep 16 (u, D, ptr u D r)).2.2 then (freeU (prRow (pr l) (16 ^ l) keep 16 (u, D, ptr u D r)).1 r, freeD (prRow (pr l) (16 ^ l) keep 16 (u, D, ptr u D r)).1 (prRow (pr l) (16 ^ l) keep 16 (u, D, ptr u D r)).2.1 r, 0)
      else ((prRow (pr l) (16 ^ l) keep 16 (u, D, ptr u D r)).1, saved (prRow (pr l) (16 ^ l) keep 16 (u, D, ptr u D r)).1 (prRow (pr l) (16 ^ l) keep 16 (u, D, ptr u D r)).2.1 r (prRow (pr l) (16 ^ l) keep 16 (u, D, ptr u D r)).2.2, r)
theorem pr_le : ∀ (l : Nat) (u : Nat → Bool) (D : Nat → Nat) (r : Nat) (keep : Int), (pr l u D r keep).2.2 ≤ r
  | 0, u, D, r, keep => by rw [pr]; split; exact Nat.le_refl _; exact Nat.zero_le _
  | l + 1, u, D, r, keep => by
    rw [pr]; split
    · exact Nat.le_refl _
    · split
      · exact Nat.zero_le _
      · exact Nat.le_refl _
def PrPost (b c n t ab ao : Nat) (w : World) (y : PS) (e : Ending) (w' : World) : Prop :=
  e = .returned (.tuple #[]) ∧ St w' b c n y.1 y.2.1 ∧ w'.cell? ⟨ab, ao, none⟩ = some (.int .i64 (y.2.2 : Nat)) ∧ Fr b c ab ao w w' ∧ w'.cell? ⟨t, 0, none⟩ = some (.pointer (some ⟨b, 0, none⟩))
/-- The store, the table, the ref at ⟨ab, ao⟩ and the refs in prune's variable at Pb. -/
structure PQ (b c n t ab ao r Pb : Nat) (u : Nat → Bool) (D : Nat → Nat) (q : Nat → Nat) (w : World) : Prop where
  S : St w b c n u D
  ct : w.cell? ⟨t, 0, none⟩ = some (.pointer (some ⟨b, 0, none⟩))
  ca : w.cell? ⟨ab, ao, none⟩ = some (.int .i64 (r : Nat))
  fa : w.frozen? ⟨ab, ao, none⟩ = false
  at_ : ∀ j, j < 16 → w.cell? ⟨Pb, j, none⟩ = some (.int .i64 (q j : Nat))
  fr : ∀ o, o < 16 → w.frozen? ⟨Pb, o, none⟩ = false
  ql : ∀ j, q j < 4294967296
  A : Apart b c t ab
  P : Apart b c t Pb
  ne : ab ≠ Pb
theorem fr_sub0 {b c ab ao Pb po : Nat} {w x y : World} (h : Fr b c Pb po x y) (hab : ab < x.heap.size) (h1 : ab ≠ b) (h2 : ab ≠ c) (h3 : ab ≠ Pb) (hl : w.heap.size ≤ Pb) (hF : Fr b c ab ao w x) : Fr b c ab ao w y :=
  fr_sub (x := x) (po := po) ⟨⟨h.mod.os, h.mod.tape, h.mod.output, h.mod.size, h.mod.block⟩, h.cell, h.frz⟩ hab h1 h2 h3 hl hF
theorem PQ.next {b c n t ab ao r Pb : Nat} {u u' : Nat → Bool} {D D' : Nat → Nat} {q : Nat → Nat} {w w' : World} (h : PQ b c n t ab ao r Pb u D q w) (i x : Nat) (hx : x < 4294967296) (hS : St w' b c n u' D') (hc : w'.cell? ⟨Pb, i, none⟩ = some (.int .i64 (x : Nat))) (hF : Fr b c Pb i w w') (ht : w'.cell? ⟨t, 0, none⟩ = some (.pointer (some ⟨b, 0, none⟩))) :
    PQ b c n t ab ao r Pb u' D' (upd q i x) w' where
  S := hS
  ct := ht
  ca := (hF.mod.cell (p := ⟨ab, ao, none⟩) (block_lt_of_cell h.ca) (fun e => e.elim h.A.nb (fun e => e.elim h.A.nc h.ne))).trans h.ca
  fa := (hF.mod.frozen (p := ⟨ab, ao, none⟩) (block_lt_of_cell h.ca) (fun e => e.elim h.A.nb (fun e => e.elim h.A.nc h.ne))).trans h.fa
  at_ j hj := by
    unfold upd
    by_cases e : j = i
    · subst e; rw [if_pos rfl]; exact hc
    · rw [if_neg e]; exact (hF.cell j e).trans (h.at_ j hj)
  fr o ho := (hF.frz o).trans (h.fr o ho)
  ql j := by unfold upd; split; exact hx; exact h.ql j
  A := h.A
  P := h.P
  ne := h.ne
section
variable {w : World} {b c n : Nat} {u : Nat → Bool} {D : Nat → Nat}
theorem prune_hole (t ab ao p : Nat) (keep : Int) (ha : w.cell? ⟨ab, ao, none⟩ = some (.int .i64 (0 : Nat))) :
    Calls Tryz.prog 121 #[.pointer (some ⟨t, 0, none⟩), .pointer (some ⟨ab, ao, none⟩), .int .i64 p, .int .i64 keep] w fun e w' => e = .returned (.tuple #[]) ∧ w' = w := by
  go_enter Tryz.func121, Tryz.ntmps121
  go_wp2
  exact bodyPost_ret (results_none rfl _ _ _) rfl ⟨rfl, rfl⟩
theorem prune_keeps (t ab ao r p : Nat) (keep : Int) (ha : w.cell? ⟨ab, ao, none⟩ = some (.int .i64 (r : Nat))) (hr : r ≠ 0) (hk : (p : Int) ≤ keep) :
    Calls Tryz.prog 121 #[.pointer (some ⟨t, 0, none⟩), .pointer (some ⟨ab, ao, none⟩), .int .i64 p, .int .i64 keep] w fun e w' => e = .returned (.tuple #[]) ∧ w' = w := by
  have hrb : ((r : Int) == 0) = false := by simpa using hr
  go_enter Tryz.func121, Tryz.ntmps121
  go_wp2
  exact bodyPost_ret (results_none rfl _ _ _) rfl ⟨rfl, rfl⟩
theorem prune_free (S : St w b c n u D) (t ab ao r : Nat) (keep : Int) (ht : w.cell? ⟨t, 0, none⟩ = some (.pointer (some ⟨b, 0, none⟩))) (ha : w.cell? ⟨ab, ao, none⟩ = some (.int .i64 (r : Nat))) (hf : w.frozen? ⟨ab, ao, none⟩ = false) (hA : Apart b c t ab) (hr : r < 4294967296) (hr0 : r ≠ 0) (hk : ¬ 1 ≤ keep) :
    Calls Tryz.prog 121 #[.pointer (some ⟨t, 0, none⟩), .pointer (some ⟨ab, ao, none⟩), .int .i64 1, .int .i64 keep] w (PrPost b c n t ab ao w (freeU u r, freeD u D r, 0)) := by
  have hrb : ((r : Int) == 0) = false := by simpa using hr0
  have HF : Hid (Calls Tryz.prog 126 #[.pointer (some ⟨t, 0, none⟩), .pointer (some ⟨ab, ao, none⟩)] w fun e w' => e = .returned (.tuple #[]) ∧ St w' b c n (freeU u r) (freeD u D r) ∧ w'.cell? ⟨ab, ao, none⟩ = some (.int .i64 0) ∧ Fr b c ab ao w w') := free_any S t ab ao r ht ha hf hA.a0 hA.nb hA.nc hA.tb hA.tc hr
  have HT : Hid (w.cell? ⟨t, 0, none⟩ = some (.pointer (some ⟨b, 0, none⟩)) ∧ Apart b c t ab) := ⟨ht, hA⟩
  clear S ht hf hA
  go_enter Tryz.func121, Tryz.ntmps121
  go_wp2_with (go_at_call 126; refine HF.out.mono ?_; rintro e w1 ⟨rfl, H1, C1, F1⟩; have HH : Hid (St w1 b c n (freeU u r) (freeD u D r) ∧ w1.cell? ⟨ab, ao, none⟩ = some (.int .i64 0) ∧ Fr b c ab ao w w1) := ⟨H1, C1, F1⟩; clear H1 C1 F1)
  exact ⟨rfl, _, results_none rfl _ _ _, rfl, HH.out.1, HH.out.2.1, HH.out.2.2, (HH.out.2.2.mod.cell (p := ⟨t, 0, none⟩) (block_lt_of_cell HT.out.1) (fun e => e.elim HT.out.2.tb (fun e => e.elim HT.out.2.tc HT.out.2.ta))).trans HT.out.1⟩
/-- prune of one place. -/
theorem prune0 (S : St w b c n u D) (t ab ao r : Nat) (keep : Int) (ht : w.cell? ⟨t, 0, none⟩ = some (.pointer (some ⟨b, 0, none⟩))) (ha : w.cell? ⟨ab, ao, none⟩ = some (.int .i64 (r : Nat))) (hf : w.frozen? ⟨ab, ao, none⟩ = false) (hA : Apart b c t ab) (hr : r < 4294967296) :
    Calls Tryz.prog 121 #[.pointer (some ⟨t, 0, none⟩), .pointer (some ⟨ab, ao, none⟩), .int .i64 1, .int .i64 keep] w (PrPost b c n t ab ao w (pr 0 u D r keep)) := by
  rw [pr]
  by_cases h0 : r = 0
  · subst h0
    rw [if_pos (.inl rfl)]
    exact (prune_hole t ab ao 1 keep ha).mono fun e w' ⟨h1, h2⟩ => by subst h2; exact ⟨h1, S, ha, Fr.refl _ _ _ _ _, ht⟩
  · by_cases hk : 1 ≤ keep
    · rw [if_pos (.inr hk)]
      exact (prune_keeps t ab ao r 1 keep ha h0 hk).mono fun e w' ⟨h1, h2⟩ => by subst h2; exact ⟨h1, S, ha, Fr.refl _ _ _ _ _, ht⟩
    · rw [if_neg (fun h => h.elim h0 hk)]
      exact prune_free S t ab ao r keep ht ha hf hA hr h0 hk
end
end Go.Proofs.YtfmemkninmpfjaaGreatDoor
