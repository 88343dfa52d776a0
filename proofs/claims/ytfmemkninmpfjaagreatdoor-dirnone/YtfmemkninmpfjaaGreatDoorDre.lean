/- The plain answer's table, as 'made' uses it. -/
import Derived.Test.YtfmemkninmpfjaaGreatDoorRefN
import Derived.Test.YtfmemkninmpfjaaGreatDoorDr8
namespace Go.Proofs.YtfmemkninmpfjaaGreatDoor
open Go.RowKit
/-- A plain table: which inodes are on, and their links. -/
structure RA (w : World) (tb lb N : Nat) (on : Nat → Bool) (lk : Nat → Int) : Prop where
  nn : w.cell? ⟨tb, 2, none⟩ = some (.int .i64 N)
  at3 : w.cell? ⟨tb, 3, none⟩ = some (.int .i64 0)
  ll : w.cell? ⟨tb, 4, none⟩ = some (.slice (some ⟨lb, 0, none⟩) (N + 1) (N + 1))
  lc : ∀ i, i < N + 1 → w.cell? ⟨lb, i * 308, none⟩ = some (.bool (on i))
  lks : ∀ i, i < N + 1 → on i = true → w.cell? ⟨lb, i * 308 + 2, none⟩ = some (.int .i64 (lk i))
  ok : ∀ j, j < (N + 1) * 308 → (w.cell? ⟨lb, j, none⟩).isSome = true
  fr : ∀ o, w.frozen? ⟨lb, o, none⟩ = false
  ne : tb ≠ lb
theorem RA.lay (w1 : World) (ob lb n N : Nat) (y : Value) (_hO : w1.heap[ob]? = some (.cells (madeCells #[.bool false] n) 4 (0, 0))) (hL : w1.heap[lb]? = some (.cells (madeCells zeroI ((N + 1) * 308)) 140 (0, 0))) :
    RA (w1.alloc (.cells #[.slice (some ⟨ob, 0, none⟩) n n, y, .int .i64 N, .int .i64 0, .slice (some ⟨lb, 0, none⟩) (N + 1) (N + 1)] 130)) w1.heap.size lb N (fun _ => false) (fun _ => 0) :=
  have hl : lb < w1.heap.size := (Array.getElem?_eq_some_iff.1 hL).1
  { nn := by rw [World.cell?_alloc_at _ _ _ _ rfl]; rfl
    at3 := by rw [World.cell?_alloc_at _ _ _ _ rfl]; rfl
    ll := by rw [World.cell?_alloc_at _ _ _ _ rfl]; rfl
    lc := fun i hi => by rw [World.cell?_alloc_past _ _ _ hl, cell_of_row w1 lb _ _ _ (0, 0) hL]; exact madeI_at (N + 1) i hi
    lks := fun i _ h => by cases h
    ok := fun j hj => by
      rw [World.cell?_alloc_past _ _ _ hl, cell_of_row w1 lb _ _ _ (0, 0) hL, Array.getElem?_eq_getElem (by simpa [madeCells] using hj)]; rfl
    fr := fun o => by rw [World.frozen?_alloc_past _ _ _ hl]; exact frozen_of_row _ _ _ _ _ hL
    ne := by omega }
set_option maxRecDepth 8000 in
set_option maxHeartbeats 1000000 in
theorem r2new_ra (n N : Nat) (w : World) (hn : 1 ≤ n) (hn2 : n ≤ 4096) (hN : 1 ≤ N) (hN2 : N ≤ 4096) : Calls Tryz.prog 28 #[.int .i64 n, .int .i64 N] w fun e w' => ∃ tb lb, e = .returned (.tuple #[.pointer (some ⟨tb, 0, none⟩), .int .i64 0]) ∧ RA w' tb lb N (fun _ => false) (fun _ => 0) ∧ (w.heap.size ≤ tb ∧ w.heap.size ≤ lb) ∧ Mod (fun _ => False) w w' := by
  have hm := mk_inodes (N + 1) (by omega)
  have hc : ((N + 1 : Nat) : Int) = (N : Int) + 1 := rfl
  rw [hc] at hm
  have hw : IntKind.i64.wrap ((N : Int) + 1) = (N : Int) + 1 := by rw [IntKind.wrap_i64]; omega
  have h1 : ¬ (n : Int) < 1 := by omega
  have h2 : ¬ 4096 < (n : Int) := by omega
  have h3 : ¬ (N : Int) < 1 := by omega
  have h4 : ¬ 4096 < (N : Int) := by omega
  go_enter Tryz.func28, Tryz.ntmps28
  go_wp2_with fail
  go_region_held (fun _ => True) (trivial) (first | (go_at_call 71; refine (rnew_any n _ hn2).mono ?_; rintro e w1 ⟨ob, yb, rfl, -, -, -, O1, Y1, M1⟩; have HO := Hid.intr O1; have HM := Hid.intr M1; clear O1 Y1 M1))
  all_goals go_wp2
  · go_ret2
    have hO : (w1.alloc (.cells (madeCells zeroI ((N + 1) * 308)) 140)).heap[ob]? = some (.cells (madeCells #[.bool false] n) 4 (0, 0)) := by
      rw [Below.heap_alloc _ _ _ (by rcases Nat.lt_or_ge ob w1.heap.size with h | h; exact h; have := HO.out; rw [Array.getElem?_eq_none h] at this; exact absurd this (by simp))]; exact HO.out
    have hL : (w1.alloc (.cells (madeCells zeroI ((N + 1) * 308)) 140)).heap[w1.heap.size]? = some (.cells (madeCells zeroI ((N + 1) * 308)) 140 (0, 0)) := by
      show (w1.heap.push _)[w1.heap.size]? = _
      simp
    have h := RA.lay _ ob w1.heap.size n N (.slice (some ⟨yb, 0, none⟩) n n) hO hL
    rw [World.size_alloc] at h
    have hsz : w.heap.size ≤ w1.heap.size := HM.out.size
    exact ⟨_, _, by simp, h, ⟨by omega, hsz⟩, ((((Mod.refl _ w).drewN 1).trans HM.out).alloc _).alloc _⟩
  · go_ret2
    have hL : w1.heap[w.heap.size]? = some (.cells (madeCells zeroI ((N + 1) * 308)) 140 (0, 0)) := by
      rw [HM.out.block w.heap.size (by show _ < (w.alloc _).heap.size; simp) (fun h => h)]
      show (w.heap.push _)[w.heap.size]? = _
      simp
    have hsz : w.heap.size + 1 ≤ w1.heap.size := by
      have h1 : (w.alloc (.cells (madeCells zeroI ((N + 1) * 308)) 140)).heap.size ≤ w1.heap.size := HM.out.size
      simp at h1; omega
    exact ⟨_, _, by simp, RA.lay w1 ob w.heap.size n N (.slice (some ⟨yb, 0, none⟩) n n) HO.out hL, ⟨by omega, Nat.le_refl _⟩, ((((Mod.refl _ w).alloc _).drewN 1).trans HM.out).alloc _⟩
theorem RA.mod {w w' : World} {tb lb N : Nat} {on : Nat → Bool} {lk : Nat → Int} (h : RA w tb lb N on lk) {s : Nat → Prop} (hM : Mod s w w') (ht : ¬ s tb) (hl : ¬ s lb) : RA w' tb lb N on lk :=
  have kt : ∀ o v, w.cell? ⟨tb, o, none⟩ = some v → w'.cell? ⟨tb, o, none⟩ = some v := fun o _ e => (hM.cell (p := ⟨tb, o, none⟩) (block_lt_of_cell e) ht).trans e
  have hlb : lb < w.heap.size := block_lt_of_cell (h.lc 0 (by omega))
  have kl : ∀ o, w'.cell? ⟨lb, o, none⟩ = w.cell? ⟨lb, o, none⟩ := fun o => hM.cell (p := ⟨lb, o, none⟩) hlb hl
  ⟨kt _ _ h.nn, kt _ _ h.at3, kt _ _ h.ll, fun i hi => (kl _).trans (h.lc i hi), fun i hi ho => (kl _).trans (h.lks i hi ho), fun j hj => by rw [kl]; exact h.ok j hj, fun o => (hM.frozen (p := ⟨lb, o, none⟩) hlb hl).trans (h.fr o), h.ne⟩
end Go.Proofs.YtfmemkninmpfjaaGreatDoor
