/- Several texts of this claim, one behind the other, in their order. -/
import Derived.Test.YtfmemkninmpfjaaGreatDoorM12
import Derived.Test.YtfmemkninmpfjaaGreatDoorM18
import Derived.Deep.DeepCutAuto
import Derived.Deep.LoopGhost
import Derived.Test.YtfmemkninmpfjaaGreatDoorCut
import Derived.Test.YtfmemkninmpfjaaGreatDoorM7
/- The plain answer's table, as 'made' uses it. -/
namespace Go.Proofs.YtfmemkninmpfjaaGreatDoor
open Go.RowKit
/-- A plain table: which inodes are on, and their links. -/
structure RA (w : World) (tb lb N : Nat) (on : Nat → Bool) (lk : Nat → Int) : Prop where
  nn : w.cell? ⟨tb, 2, none⟩ = some (.int .i64 N)
  at3 : w.cell? ⟨tb, 3, none⟩ = some (.int .i64 0)
  ll : w.cell? ⟨tb, 4, none⟩ = some (.slice (some ⟨lb, 0, none⟩) (N + 1) (N + 1))
  lc : ∀ i, i < N + 1 → w.cell? ⟨lb, i * 308, none⟩ = some (.bool (on i))
  lks : ∀ i, i < N + 1 → on i = true → w.cell? ⟨lb, i * 308 + 2, none⟩ = some (.int .i64 (lk i))
  ok : ∀ j, j < (N + 1) * 308 → (w.cell? ⟨lb, j, none⟩).isSome = true
  fr : ∀ o, w.frozen? ⟨lb, o, none⟩ = false
  ne : tb ≠ lb
theorem RA.lay (w1 : World) (ob lb n N : Nat) (y : Value) (_hO : w1.heap[ob]? = some (.cells (madeCells #[.bool false] n) 4 (0, 0))) (hL : w1.heap[lb]? = some (.cells (madeCells zeroI ((N + 1) * 308)) 140 (0, 0))) :
    RA (w1.alloc (.cells #[.slice (some ⟨ob, 0, none⟩) n n, y, .int .i64 N, .int .i64 0, .slice (some ⟨lb, 0, none⟩) (N + 1) (N + 1)] 130)) w1.heap.size lb N (fun _ => false) (fun _ => 0) :=
  have hl : lb < w1.heap.size := (Array.getElem?_eq_some_iff.1 hL).1
  { nn := by rw [World.cell?_alloc_at _ _ _ _ rfl]; rfl
    at3 := by rw [World.cell?_alloc_at _ _ _ _ rfl]; rfl
    ll := by rw [World.cell?_alloc_at _ _ _ _ rfl]; rfl
    lc := fun i hi => by rw [World.cell?_alloc_past _ _ _ hl, cell_of_row w1 lb _ _ _ (0, 0) hL]; exact madeI_at (N + 1) i hi
    lks := fun i _ h => by cases h
    ok := fun j hj => by
      rw [World.cell?_alloc_past _ _ _ hl, cell_of_row w1 lb _ _ _ (0, 0) hL, Array.getElem?_eq_getElem (by simpa [madeCells] using hj)]; rfl
    fr := fun o => by rw [World.frozen?_alloc_past _ _ _ hl]; exact frozen_of_row _ _ _ _ _ hL
    ne := by omega }
set_option maxRecDepth 8000 in
set_option maxHeartbeats 1000000 in
theorem r2new_ra (n N : Nat) (w : World) (hn : 1 ≤ n) (hn2 : n ≤ 4096) (hN : 1 ≤ N) (hN2 : N ≤ 4096) : Calls Tryz.prog 28 #[.int .i64 n, .int .i64 N] w fun e w' => ∃ tb lb, e = .returned (.tuple #[.pointer (some ⟨tb, 0, none⟩), .int .i64 0]) ∧ RA w' tb lb N (fun _ => false) (fun _ => 0) ∧ (w.heap.size ≤ tb ∧ w.heap.size ≤ lb) ∧ Mod (fun _ => False) w w' := by
  have hm := mk_inodes (N + 1) (by omega)
  have hc : ((N + 1 : Nat) : Int) = (N : Int) + 1 := rfl
  rw [hc] at hm
  have hw : IntKind.i64.wrap ((N : Int) + 1) = (N : Int) + 1 := by rw [IntKind.wrap_i64]; omega
  have h1 : ¬ (n : Int) < 1 := by omega
  have h2 : ¬ 4096 < (n : Int) := by omega
  have h3 : ¬ (N : Int) < 1 := by omega
  have h4 : ¬ 4096 < (N : Int) := by omega
  go_enter Tryz.func28, Tryz.ntmps28
  go_wp2_with fail
  go_region_held (fun _ => True) (trivial) (first | (go_at_call 71; refine (rnew_any n _ hn2).mono ?_; rintro e w1 ⟨ob, yb, rfl, -, -, -, O1, Y1, M1⟩; have HO := Hid.intr O1; have HM := Hid.intr M1; clear O1 Y1 M1))
  all_goals go_wp2
  · go_ret2
    have hO : (w1.alloc (.cells (madeCells zeroI ((N + 1) * 308)) 140)).heap[ob]? = some (.cells (madeCells #[.bool false] n) 4 (0, 0)) := by
      rw [Below.heap_alloc _ _ _ (by rcases Nat.lt_or_ge ob w1.heap.size with h | h; exact h; have := HO.out; rw [Array.getElem?_eq_none h] at this; exact absurd this (by simp))]; exact HO.out
    have hL : (w1.alloc (.cells (madeCells zeroI ((N + 1) * 308)) 140)).heap[w1.heap.size]? = some (.cells (madeCells zeroI ((N + 1) * 308)) 140 (0, 0)) := by
      show (w1.heap.push _)[w1.heap.size]? = _
      simp
    have h := RA.lay _ ob w1.heap.size n N (.slice (some ⟨yb, 0, none⟩) n n) hO hL
    rw [World.size_alloc] at h
    have hsz : w.heap.size ≤ w1.heap.size := HM.out.size
    exact ⟨_, _, by simp, h, ⟨by omega, hsz⟩, ((((Mod.refl _ w).drewN 1).trans HM.out).alloc _).alloc _⟩
  · go_ret2
    have hL : w1.heap[w.heap.size]? = some (.cells (madeCells zeroI ((N + 1) * 308)) 140 (0, 0)) := by
      rw [HM.out.block w.heap.size (by show _ < (w.alloc _).heap.size; simp) (fun h => h)]
      show (w.heap.push _)[w.heap.size]? = _
      simp
    have hsz : w.heap.size + 1 ≤ w1.heap.size := by
      have h1 : (w.alloc (.cells (madeCells zeroI ((N + 1) * 308)) 140)).heap.size ≤ w1.heap.size := HM.out.size
      simp at h1; omega
    exact ⟨_, _, by simp, RA.lay w1 ob w.heap.size n N (.slice (some ⟨yb, 0, none⟩) n n) HO.out hL, ⟨by omega, Nat.le_refl _⟩, ((((Mod.refl _ w).alloc _).drewN 1).trans HM.out).alloc _⟩
theorem RA.mod {w w' : World} {tb lb N : Nat} {on : Nat → Bool} {lk : Nat → Int} (h : RA w tb lb N on lk) {s : Nat → Prop} (hM : Mod s w w') (ht : ¬ s tb) (hl : ¬ s lb) : RA w' tb lb N on lk :=
  have kt : ∀ o v, w.cell? ⟨tb, o, none⟩ = some v → w'.cell? ⟨tb, o, none⟩ = some v := fun o _ e => (hM.cell (p := ⟨tb, o, none⟩) (block_lt_of_cell e) ht).trans e
  have hlb : lb < w.heap.size := block_lt_of_cell (h.lc 0 (by omega))
  have kl : ∀ o, w'.cell? ⟨lb, o, none⟩ = w.cell? ⟨lb, o, none⟩ := fun o => hM.cell (p := ⟨lb, o, none⟩) hlb hl
  ⟨kt _ _ h.nn, kt _ _ h.at3, kt _ _ h.ll, fun i hi => (kl _).trans (h.lc i hi), fun i hi ho => (kl _).trans (h.lks i hi ho), fun j hj => by rw [kl]; exact h.ok j hj, fun o => (hM.frozen (p := ⟨lb, o, none⟩) hlb hl).trans (h.fr o), h.ne⟩
end Go.Proofs.YtfmemkninmpfjaaGreatDoor
/- What the walk of the plain answer's Alloc wants: its kind, and a store of a whole inode. -/
namespace Go.Proofs.YtfmemkninmpfjaaGreatDoor
open Go.RowKit
theorem zvI (w : World) : (zeroValue 140).run Tryz.prog w = .ok (.agg zeroI) w := by kernel_rfl
theorem rkind (m k : Int) (w : World) (h : bits .and .i64 m 61440 = k) : Calls Tryz.prog 75 #[.int .i64 m] w fun e w' => e = .returned (.int .i64 k) ∧ w' = w := by
  go_enter Tryz.func75, Tryz.ntmps75
  go_wp2
  go_ret
  exact ⟨by simp, rfl⟩
theorem one_set {A : Array Value} {i : Nat} {x : Value} (h : ∀ v ∈ A.toList, v.oneCell' = true) (hx : x.oneCell' = true) : ∀ v ∈ (A.setIfInBounds i x).toList, v.oneCell' = true := fun v hv => by
  rw [Array.toList_setIfInBounds] at hv
  rcases List.mem_or_eq_of_mem_set hv with h1 | rfl
  · exact h v h1
  · exact hx
theorem st_ino (w : World) (lb off : Nat) (X : Array Value) (hx : ∀ v ∈ X.toList, v.oneCell' = true) (ok : ∀ a, a < X.size → (w.cell? ⟨lb, off + a, none⟩).isSome = true) (fr : ∀ a, w.frozen? ⟨lb, off + a, none⟩ = false) : (storeCells ⟨lb, off, none⟩ X.toList).run Tryz.prog w = .ok () (w.setCells lb off X.toList) := by
  have := run_storeCells_cells (P := Tryz.prog) lb off X.toList 0 w (fun a ha => by simpa using ok a (by simpa using ha)) (fun a _ => by simpa using fr a) hx
  simpa using this
end Go.Proofs.YtfmemkninmpfjaaGreatDoor
/- The plain answer's Is and Links, of a table whose inodes are on or off. -/
namespace Go.Proofs.YtfmemkninmpfjaaGreatDoor
open Go.RowKit
theorem RA.put {w : World} {tb lb N : Nat} {on : Nat → Bool} {lk : Nat → Int} (h : RA w tb lb N on lk) (j : Nat) (v : Value) (lk' : Nat → Int) (h0 : ∀ i, j ≠ i * 308) (h2 : ∀ i, i < N + 1 → j ≠ i * 308 + 2 → lk' i = lk i) (h3 : ∀ i, i < N + 1 → j = i * 308 + 2 → v = .int .i64 (lk' i)) : RA (w.setCell ⟨lb, j, none⟩ v) tb lb N on lk' :=
  have kt : ∀ o, (w.setCell ⟨lb, j, none⟩ v).cell? ⟨tb, o, none⟩ = w.cell? ⟨tb, o, none⟩ := fun o => World.cell?_setCell_far _ _ _ _ (by show lb ≠ tb; exact fun e => h.ne e.symm)
  have kl : ∀ o, j ≠ o → (w.setCell ⟨lb, j, none⟩ v).cell? ⟨lb, o, none⟩ = w.cell? ⟨lb, o, none⟩ := fun o ho => World.cell?_setCell_other _ _ _ _ (by intro e; injection e with _ e2 _; exact ho e2)
  have ks : ∀ o, (w.cell? ⟨lb, o, none⟩).isSome = true → j = o → (w.setCell ⟨lb, j, none⟩ v).cell? ⟨lb, o, none⟩ = some v := fun o hs e => by
    subst e
    obtain ⟨u, hu⟩ := Option.isSome_iff_exists.1 hs
    exact World.cell?_setCell_same _ _ _ hu
  { nn := (kt _).trans h.nn
    at3 := (kt _).trans h.at3
    ll := (kt _).trans h.ll
    lc := fun i hi => (kl _ (h0 i)).trans (h.lc i hi)
    lks := fun i hi ho => by
      by_cases e : j = i * 308 + 2
      · rw [ks _ (h.ok _ (by omega)) e, h3 i hi e]
      · rw [kl _ e, h2 i hi e]; exact h.lks i hi ho
    ok := fun k hk => by
      by_cases e : j = k
      · rw [ks _ (h.ok _ hk) e]; rfl
      · rw [kl _ e]; exact h.ok k hk
    fr := fun o => by rw [World.frozen?_setCell]; exact h.fr o
    ne := h.ne }
set_option maxRecDepth 8000 in
set_option maxHeartbeats 1000000 in
theorem rIs {w : World} {tb lb N : Nat} {on : Nat → Bool} {lk : Nat → Int} (h : RA w tb lb N on lk) (_hN : N ≤ 4096) (i : Nat) (h1 : 1 ≤ i) (h2 : i ≤ N) (b : Bool) (hb : on i = b) : Calls Tryz.prog 78 #[.pointer (some ⟨tb, 0, none⟩), .int .i64 i] w fun e w' => e = .returned (.bool b) ∧ w' = w := by
  have hn := h.nn
  have hl := h.ll
  have hc := h.lc i (by omega)
  rw [hb] at hc
  have h0 : (0 : Int) < (i : Int) := by omega
  have hiN : (i : Int) ≤ (N : Int) := by omega
  have hi1 : (i : Int) < (N : Int) + 1 := by omega
  clear h hb
  go_enter Tryz.func78, Tryz.ntmps78
  go_wp2
  go_ret
  exact ⟨rfl, rfl⟩
set_option maxRecDepth 8000 in
set_option maxHeartbeats 1000000 in
theorem rGone {w : World} {tb lb N : Nat} {on : Nat → Bool} {lk : Nat → Int} (h : RA w tb lb N on lk) (_hN : N ≤ 4096) (i : Nat) (h2 : i ≤ N) (ho : on i = true) (hk : lk i = 1) : Calls Tryz.prog 79 #[.pointer (some ⟨tb, 0, none⟩), .int .i64 i] w fun e w' => e = .returned (.tuple #[]) ∧ w' = w := by
  have hl := h.ll
  have hc := h.lks i (by omega) ho
  rw [hk] at hc
  have hi1 : (i : Int) < (N : Int) + 1 := by omega
  clear h hk
  go_enter Tryz.func79, Tryz.ntmps79
  go_wp2
  exact ⟨rfl, _, results_none rfl _ _ _, rfl, rfl⟩
set_option maxRecDepth 8000 in
set_option maxHeartbeats 1000000 in
theorem rLinks {w : World} {tb lb N : Nat} {on : Nat → Bool} {lk : Nat → Int} (h : RA w tb lb N on lk) (_hN : N ≤ 4096) (i : Nat) (h1 : 1 ≤ i) (h2 : i ≤ N) (ho : on i = true) (hk : lk i = 0) : Calls Tryz.prog 32 #[.pointer (some ⟨tb, 0, none⟩), .int .i64 i, .int .i64 1] w fun e w' => e = .returned (.int .i64 0) ∧ RA w' tb lb N on (fun k => if k = i then 1 else lk k) ∧ Mod (fun k => k = lb) w w' := by
  have H := Hid.intr h
  have hl := h.ll
  have h3 := h.at3
  have hc := h.lks i (by omega) ho
  rw [hk] at hc
  obtain ⟨u10, hc10⟩ := Option.isSome_iff_exists.1 (h.ok (i * 308 + 10) (by omega))
  have hf2 := h.fr (i * 308 + 2)
  have hf10 := h.fr (i * 308 + 10)
  have hi1 : (i : Int) < (N : Int) + 1 := by omega
  have hne := h.ne
  have hA := Hid.intr (h.put (i * 308 + 2) (.int .i64 1) (fun k => if k = i then 1 else lk k) (by omega) (fun k _ e => if_neg (by omega)) (fun k _ e => by rw [if_pos (by omega)]))
  have hB := Hid.intr (hA.out.put (i * 308 + 10) (.int .i64 0) (fun k => if k = i then 1 else lk k) (by omega) (fun k _ e => rfl) (fun k _ e => by omega))
  clear h hk
  go_enter Tryz.func32, Tryz.ntmps32
  go_wp2_with (first | (go_at_call 78; refine (rIs H.out _hN i h1 h2 true ho).mono ?_; rintro e w' ⟨rfl, hw'⟩; rw [hw']; clear hw' w') | (go_at_call 79; refine (rGone hB.out _hN i h2 ho (if_pos rfl)).mono ?_; rintro e w' ⟨rfl, hw'⟩; rw [hw']; clear hw' w'))
  go_ret
  exact ⟨rfl, hB.out, Mod.setCell (s := fun k => k = lb) (Mod.setCell (s := fun k => k = lb) (Mod.refl _ w) _ _ rfl) _ _ rfl⟩
end Go.Proofs.YtfmemkninmpfjaaGreatDoor
/- The plain answer's Alloc: the lowest inode that is off is on. -/
namespace Go.Proofs.YtfmemkninmpfjaaGreatDoor
open Go.RowKit
noncomputable def inoL (i : Nat) (m : Int) : List Value :=
  ((((((((((Tryz.zeroCells140.toList.set 0 (.bool true)).set 1 (.int .i64 i)).set 2 (.int .i64 0)).set 3 (.int .i64 0)).set 4 (.int .i64 0)).set 5 (.int .i64 0)).set 6 (.int .i64 0)).set 7 (.int .i64 m)).set 8 (.int .i64 0)).set 9 (.int .i64 0)).set 10 (.int .i64 0)
theorem inoL_size (i : Nat) (m : Int) : (inoL i m).length = 308 := by kernel_rfl
theorem inoL_on (i : Nat) (m : Int) : (inoL i m)[0]? = some (.bool true) := by kernel_rfl
theorem inoL_lk (i : Nat) (m : Int) : (inoL i m)[2]? = some (.int .i64 0) := by kernel_rfl
theorem inoL_one (i : Nat) (m : Int) : ∀ v ∈ inoL i m, v.oneCell' = true := by
  have h : (inoL i m).all (fun v => v.oneCell') = true := by kernel_rfl
  exact List.all_eq_true.1 h
theorem st_list (w : World) (lb off : Nat) (L : List Value) (hx : ∀ v ∈ L, v.oneCell' = true) (ok : ∀ a, a < L.length → (w.cell? ⟨lb, off + a, none⟩).isSome = true) (fr : ∀ a, w.frozen? ⟨lb, off + a, none⟩ = false) : (storeCells ⟨lb, off, none⟩ L).run Tryz.prog w = .ok () (w.setCells lb off L) := by
  have := st_ino w lb off L.toArray (by simpa using hx) (by simpa using ok) fr
  simpa using this
theorem RA.puts {w : World} {tb lb N : Nat} {on : Nat → Bool} {lk : Nat → Int} (h : RA w tb lb N on lk) (i : Nat) (hi : i < N + 1) (X : List Value) (hl : X.length = 308) (h0 : X[0]? = some (.bool true)) (h2 : X[2]? = some (.int .i64 0)) : RA (w.setCells lb (i * 308) X) tb lb N (fun k => if k = i then true else on k) (fun k => if k = i then 0 else lk k) :=
  have kt : ∀ o, (w.setCells lb (i * 308) X).cell? ⟨tb, o, none⟩ = w.cell? ⟨tb, o, none⟩ := fun o => World.cell?_setCells_out _ _ _ _ _ (fun e => absurd e h.ne)
  have ko : ∀ o, (o < i * 308 ∨ i * 308 + 308 ≤ o) → (w.setCells lb (i * 308) X).cell? ⟨lb, o, none⟩ = w.cell? ⟨lb, o, none⟩ := fun o ho => World.cell?_setCells_out _ _ _ _ _ (fun _ _ => by rw [hl]; exact ho)
  have ki : ∀ j (hj : j < X.length), (w.setCells lb (i * 308) X).cell? ⟨lb, i * 308 + j, none⟩ = some X[j] := World.cell?_setCells_in lb _ _ _ (fun j hj => h.ok _ (by omega))
  have at' : ∀ j v, X[j]? = some v → (w.setCells lb (i * 308) X).cell? ⟨lb, i * 308 + j, none⟩ = some v := fun j v e => by
    obtain ⟨hj, e'⟩ := List.getElem?_eq_some_iff.1 e
    rw [ki j hj, e']
  { nn := (kt _).trans h.nn
    at3 := (kt _).trans h.at3
    ll := (kt _).trans h.ll
    lc := fun k hk => by
      by_cases e : k = i
      · subst e; rw [if_pos rfl]; have h := at' 0 _ h0; rw [Nat.add_zero] at h; exact h
      · rw [if_neg e, ko _ (by omega)]; exact h.lc k hk
    lks := fun k hk ho => by
      by_cases e : k = i
      · subst e; rw [if_pos rfl]; exact at' 2 _ h2
      · rw [if_neg e] at ho ⊢; rw [ko _ (by omega)]; exact h.lks k hk ho
    ok := fun j hj => by
      by_cases e : j < i * 308 ∨ i * 308 + 308 ≤ j
      · rw [ko _ e]; exact h.ok j hj
      · obtain ⟨d, rfl⟩ : ∃ d, j = i * 308 + d := ⟨j - i * 308, by omega⟩
        rw [ki d (by omega)]; rfl
    fr := fun o => by rw [World.frozen?_setCells]; exact h.fr o
    ne := h.ne }
theorem RA.drew {w : World} {tb lb N : Nat} {on : Nat → Bool} {lk : Nat → Int} (h : RA w tb lb N on lk) : RA w.drew tb lb N on lk := h.mod (s := fun _ => False) ((Mod.refl _ w).drewN 1) (fun e => e) (fun e => e)
set_option maxRecDepth 8000 in
set_option maxHeartbeats 2000000 in
theorem rAlloc {w : World} {tb lb N : Nat} {on : Nat → Bool} {lk : Nat → Int} (h : RA w tb lb N on lk) (hN : N ≤ 4096) (m k : Int) (hk : bits .and .i64 m 61440 = k) (hm : bits .and .i64 m 65535 = m) (hm0 : ¬ m < 0) (hc : ((k != 32768) = true ∧ (k != 16384) = false) ∨ (k != 32768) = false)
    (i : Nat) (h1 : 1 ≤ i) (h2 : i ≤ N) (hon : ∀ j, 1 ≤ j → j < i → on j = true) (hoff : on i = false) : Calls Tryz.prog 30 #[.pointer (some ⟨tb, 0, none⟩), .int .i64 m, .int .i64 0, .int .i64 0] w fun e w' => e = .returned (.tuple #[.int .i64 i, .int .i64 0]) ∧ RA w' tb lb N (fun k => if k = i then true else on k) (fun k => if k = i then 0 else lk k) ∧ Mod (fun k => k = lb) w w' := by
  have H := Hid.intr h
  have HO := Hid.intr hon
  have HF := Hid.intr hoff
  have HC := Hid.intr hc
  have hn := h.nn
  have hl := h.ll
  have h3 := h.at3
  have hne := h.ne
  clear h hon hoff hc
  go_enter Tryz.func30, Tryz.ntmps30
  go_wp2_with fail
  refine (rkind m k _ hk).mono ?_
  rintro e w1 ⟨rfl, hw1⟩
  rw [hw1]; clear hw1 w1 hk
  go_upto_region 2 with fail
  go_cut [41] (fun c wc => w = wc ∧ c = .bool false)
  case first =>
    rcases HC.out with ⟨a1, a2⟩ | a1
    all_goals
      go_wp2_with fail
      go_meet
      exact ⟨rfl, congrArg Value.bool (decide_eq_false (by omega))⟩
  case rest =>
    obtain ⟨rfl, rfl⟩ := hcut
    go_wp2_with fail
    go_loopg [11] (N - 1) (fun g t wr => w = wr ∧ ∃ j : Nat, 1 ≤ j ∧ j ≤ i ∧ g = N - j ∧ t = .int .i64 j)
    case atStart => exact ⟨rfl, 1, by omega, by omega, rfl, rfl⟩
    case round =>
      obtain ⟨rfl, j, hj1, hji, rfl, rfl⟩ := hrel
      have hjN : (j : Int) ≤ (N : Int) := by omega
      have hjN1 : (j : Int) < (N : Int) + 1 := by omega
      have hcl := H.out.lc j (by omega)
      by_cases hlt : j < i
      · rw [HO.out j hj1 hlt] at hcl
        go_wp2_with fail
        go_roundg (N - (j + 1))
        case measure => omega
        case rel => exact ⟨rfl, j + 1, by omega, by omega, rfl, by go_num⟩
      · obtain rfl : j = i := by omega
        rw [HF.out] at hcl
        obtain ⟨L, hL⟩ : ∃ L, inoL j m = L := ⟨_, rfl⟩
        have hRA := Hid.intr (H.out.drew.puts j (by omega) L (hL ▸ inoL_size j m) (hL ▸ inoL_on j m) (hL ▸ inoL_lk j m))
        have hst : (storeCells ⟨lb, j * 308, none⟩ (inoL j m)).run Tryz.prog w.drew = .ok () (w.drew.setCells lb (j * 308) L) := by
          rw [hL]
          exact st_list w.drew lb (j * 308) L (hL ▸ inoL_one j m) (fun a ha => H.out.drew.ok _ (by rw [← hL, inoL_size] at ha; omega)) (fun a => H.out.drew.fr _)
        unfold inoL at hst
        have hMod := Hid.intr (Mod.setCells (s := fun k => k = lb) (a := w) lb rfl L (j * 308) ((Mod.refl _ w).drewN 1))
        clear hL
        go_upto_region 8 with fail
        go_region_held (fun W => W.cell? ⟨tb, 4, none⟩ = some (.slice (some ⟨lb, 0, none⟩) (N + 1) (N + 1)) ∧ W.cell? ⟨tb, 3, none⟩ = some (.int .i64 0)) (first | exact ⟨hl, h3⟩ | exact ⟨(World.cell?_setCells_out _ _ _ _ _ (fun e => absurd e hne)).trans hl, (World.cell?_setCells_out _ _ _ _ _ (fun e => absurd e hne)).trans h3⟩) (fail)
        all_goals go_wp2_with fail
        all_goals go_ret2
        all_goals exact ⟨by simp, hRA.out, hMod.out⟩
end Go.Proofs.YtfmemkninmpfjaaGreatDoor
/- The walks of leave, Links and Release. Condition: the table lies in memory as 'Tb' says. -/
namespace Go.Proofs.YtfmemkninmpfjaaGreatDoor
open Go.RowKit
theorem zvN (w : World) : (zeroValue 135).run Tryz.prog w = .ok (.agg zeroN) w := by kernel_rfl
theorem oneN : zeroN.all (·.oneCell') = true := by kernel_rfl
section
variable {w : World} {t q b c n N : Nat} {clk : Int} {F : Nat → Nat → Int} {R : Nat → Nat → Nat} {u : Nat → Bool} {D : Nat → Nat}
set_option maxHeartbeats 1000000 in
theorem leave_keeps (T : Tb w t q b c n N clk F R u D) (i : Nat) (hi : i < N) (h : 0 < F i 3 ∨ 0 < F i 4) : Calls Tryz.prog 77 #[.pointer (some ⟨t, 0, none⟩), .pointer (some ⟨q, i * 17, none⟩)] w fun e w' => e = .returned (.tuple #[]) ∧ w' = w := by
  have k3 := T.cf i 3 hi (by omega)
  have k4 := T.cf i 4 hi (by omega)
  clear T
  by_cases h3 : 0 < F i 3
  · clear h
    go_enter Tryz.func77, Tryz.ntmps77
    go_wp2
    exact bodyPost_ret (results_none rfl _ _ _) rfl ⟨rfl, rfl⟩
  · have h4 : 0 < F i 4 := by omega
    clear h
    go_enter Tryz.func77, Tryz.ntmps77
    go_wp2
    exact bodyPost_ret (results_none rfl _ _ _) rfl ⟨rfl, rfl⟩
set_option maxRecDepth 8000 in
set_option maxHeartbeats 2000000 in
theorem leave_ends (T : Tb w t q b c n N clk F R u D) (i : Nat) (hi : i < N) (h3 : ¬ 0 < F i 3) (h4 : ¬ 0 < F i 4) (y : (Nat → Bool) × (Nat → Nat) × (Nat → Nat)) (hy : cutS 0 u D (R i) 8 = y) :
    Calls Tryz.prog 77 #[.pointer (some ⟨t, 0, none⟩), .pointer (some ⟨q, i * 17, none⟩)] w fun e w' => e = .returned (.tuple #[]) ∧ Tb w' t q b c n N clk (setN F i (fun _ => 0)) (setN R i (fun _ => 0)) y.1 y.2.1 ∧ Mod (fun k => k = b ∨ k = c ∨ k = q) w w' := by
  have HT : Hid (Tb w t q b c n N clk F R u D) := T
  have HY : Hid (cutS 0 u D (R i) 8 = y) := hy
  have k3 := T.cf i 3 hi (by omega)
  have k4 := T.cf i 4 hi (by omega)
  have hz := zvN
  clear T hy
  go_enter Tryz.func77, Tryz.ntmps77
  go_wp2_with (first | (go_at_call 100; refine (cut_any HT.out i 0 hi (by omega) (by omega) y HY.out).mono ?_; rintro e w1 ⟨rfl, T1, M1⟩; have HT1 : Hid (Tb w1 t q b c n N clk F (setN R i y.2.2) y.1 y.2.1) := T1; have HM1 : Hid (Mod (fun k => k = b ∨ k = c ∨ k = q) w w1) := M1; clear T1 M1) | (refine wpList_store_mid rfl 135 _ _ rfl q (i * 17) zeroN rfl rfl (HT1.out.there i hi) infN17 oneN ?_))
  refine ⟨rfl, _, results_none rfl _ _ _, rfl, ?_, Mod.setCells (s := fun k => k = b ∨ k = c ∨ k = q) q (.inr (.inr rfl)) zeroN.toList _ HM1.out⟩
  have h := HT1.out.setNode i hi (fun _ => 0) (fun _ => 0) (fun _ => by omega) (by omega) zeroN.toList rfl
    (fun o ho => by match o, ho with | 0, _ => rfl | 1, _ => rfl | 2, _ => rfl | 3, _ => rfl | 4, _ => rfl | 5, _ => rfl | 6, _ => rfl | 7, _ => rfl | 8, _ => rfl)
    (fun o ho => by match o, ho with | 0, _ => rfl | 1, _ => rfl | 2, _ => rfl | 3, _ => rfl | 4, _ => rfl | 5, _ => rfl | 6, _ => rfl | 7, _ => rfl)
  rwa [setN_setN] at h
end
end Go.Proofs.YtfmemkninmpfjaaGreatDoor
/- The walks of Links and Release. Condition: the table lies in memory as 'Tb' says. -/
namespace Go.Proofs.YtfmemkninmpfjaaGreatDoor
open Go.RowKit
theorem Hid.intrL {p : Prop} (h : p) : Hid p := h
section
variable {w : World} {t q b c n N : Nat} {clk : Int} {F : Nat → Nat → Int} {R : Nat → Nat → Nat} {u : Nat → Bool} {D : Nat → Nat}
set_option maxRecDepth 8000 in
set_option maxHeartbeats 2000000 in
theorem tlinks_low (T : Tb w t q b c n N clk F R u D) (i : Nat) (by_ : Int) (hi : i < N) (hz : F i 0 ≠ 0) (hl : 0 ≤ F i 3 ∧ F i 3 ≤ 16) (hb : by_ < - F i 3) :
    Calls Tryz.prog 31 #[.pointer (some ⟨t, 0, none⟩), .int .i64 ((i : Int) + 1), .int .i64 by_] w fun e w' => e = .returned (.int .i64 22) ∧ w' = w := by
  have HT : Hid (Tb w t q b c n N clk F R u D) := T
  have HZ : Hid (F i 0 ≠ 0) := hz
  have h2 := T.c2
  have htq := T.tq
  have hlq := T.lt_q
  have k3 := T.cf i 3 hi (by omega)
  have f3 := T.fq (i * 17 + 3)
  clear T hz
  go_enter Tryz.func31, Tryz.ntmps31
  go_wp2_with (go_at_call 76; refine (find_ok HT.out i hi HZ.out).mono ?_; rintro e w1 ⟨rfl, hw1⟩; rw [hw1]; clear hw1 w1)
  go_ret
  exact ⟨by simp, rfl⟩
set_option maxRecDepth 8000 in
set_option maxHeartbeats 2000000 in
theorem tlinks_high (T : Tb w t q b c n N clk F R u D) (i : Nat) (by_ : Int) (hi : i < N) (hz : F i 0 ≠ 0) (hl : 0 ≤ F i 3 ∧ F i 3 ≤ 16) (_hb : ¬ by_ < - F i 3) (hh : 16 - F i 3 < by_) :
    Calls Tryz.prog 31 #[.pointer (some ⟨t, 0, none⟩), .int .i64 ((i : Int) + 1), .int .i64 by_] w fun e w' => e = .returned (.int .i64 31) ∧ w' = w := by
  have HT : Hid (Tb w t q b c n N clk F R u D) := T
  have HZ : Hid (F i 0 ≠ 0) := hz
  have h2 := T.c2
  have htq := T.tq
  have hlq := T.lt_q
  have k3 := T.cf i 3 hi (by omega)
  have f3 := T.fq (i * 17 + 3)
  clear T hz
  go_enter Tryz.func31, Tryz.ntmps31
  go_wp2_with (go_at_call 76; refine (find_ok HT.out i hi HZ.out).mono ?_; rintro e w1 ⟨rfl, hw1⟩; rw [hw1]; clear hw1 w1)
  go_ret
  exact ⟨by simp, rfl⟩
set_option maxRecDepth 8000 in
set_option maxHeartbeats 2000000 in
theorem tlinks_keep (T : Tb w t q b c n N clk F R u D) (i : Nat) (by_ : Int) (hi : i < N) (hz : F i 0 ≠ 0) (hl : 0 ≤ F i 3 ∧ F i 3 ≤ 16) (hb : ¬ by_ < - F i 3) (hh : ¬ 16 - F i 3 < by_) (hk : 0 < F i 3 + by_ ∨ 0 < F i 4) :
    Calls Tryz.prog 31 #[.pointer (some ⟨t, 0, none⟩), .int .i64 ((i : Int) + 1), .int .i64 by_] w fun e w' => e = .returned (.int .i64 0) ∧ Tb w' t q b c n N clk (upd2 (upd2 F i 3 (F i 3 + by_)) i 8 clk) R u D ∧ Mod (fun k => k = q) w w' := by
  have HT1 : Hid (Tb ((w.setCell ⟨q, i * 17 + 3, none⟩ (.int .i64 (F i 3 + by_))).setCell ⟨q, i * 17 + 8, none⟩ (.int .i64 clk)) t q b c n N clk (upd2 (upd2 F i 3 (F i 3 + by_)) i 8 clk) R u D) := (T.setF i 3 (by omega) _ (by omega)).setF i 8 (by omega) clk (by omega)
  have HK : Hid (0 < (upd2 (upd2 F i 3 (F i 3 + by_)) i 8 clk) i 3 ∨ 0 < (upd2 (upd2 F i 3 (F i 3 + by_)) i 8 clk) i 4) := by (show _ ∨ _; rw [show upd2 (upd2 F i 3 (F i 3 + by_)) i 8 clk i 3 = F i 3 + by_ by simp [upd2], show upd2 (upd2 F i 3 (F i 3 + by_)) i 8 clk i 4 = F i 4 by simp [upd2]]; exact hk)
  have HT : Hid (Tb w t q b c n N clk F R u D) := T
  have HZ : Hid (F i 0 ≠ 0) := hz
  have h2 := T.c2
  have htq := T.tq
  have hlq := T.lt_q
  have k3 := T.cf i 3 hi (by omega)
  have f3 := T.fq (i * 17 + 3)
  have k8 := T.cf i 8 hi (by omega)
  have f8 := T.fq (i * 17 + 8)
  clear T hz
  clear hk
  go_enter Tryz.func31, Tryz.ntmps31
  go_wp2_with (first | (go_at_call 76; refine (find_ok HT.out i hi HZ.out).mono ?_; rintro e w1 ⟨rfl, hw1⟩; rw [hw1]; clear hw1 w1) | (go_at_call 77; refine (leave_keeps HT1.out i hi HK.out).mono ?_; rintro e w2 ⟨rfl, hw2⟩; rw [hw2]; clear hw2 w2))
  go_ret
  exact ⟨by simp, HT1.out, ((Mod.refl (fun k => k = q) w).setCell _ _ rfl).setCell _ _ rfl⟩
set_option maxRecDepth 8000 in
set_option maxHeartbeats 2000000 in
theorem tlinks_end (T : Tb w t q b c n N clk F R u D) (i : Nat) (by_ : Int) (hi : i < N) (hz : F i 0 ≠ 0) (hl : 0 ≤ F i 3 ∧ F i 3 ≤ 16) (hb : ¬ by_ < - F i 3) (hh : ¬ 16 - F i 3 < by_) (hk : ¬ 0 < F i 3 + by_ ∧ ¬ 0 < F i 4) (y : (Nat → Bool) × (Nat → Nat) × (Nat → Nat)) (hy : cutS 0 u D (R i) 8 = y) :
    Calls Tryz.prog 31 #[.pointer (some ⟨t, 0, none⟩), .int .i64 ((i : Int) + 1), .int .i64 by_] w fun e w' => e = .returned (.int .i64 0) ∧ Tb w' t q b c n N clk (setN (upd2 (upd2 F i 3 (F i 3 + by_)) i 8 clk) i (fun _ => 0)) (setN R i (fun _ => 0)) y.1 y.2.1 ∧ Mod (fun k => k = b ∨ k = c ∨ k = q) w w' := by
  have HT1 : Hid (Tb ((w.setCell ⟨q, i * 17 + 3, none⟩ (.int .i64 (F i 3 + by_))).setCell ⟨q, i * 17 + 8, none⟩ (.int .i64 clk)) t q b c n N clk (upd2 (upd2 F i 3 (F i 3 + by_)) i 8 clk) R u D) := (T.setF i 3 (by omega) _ (by omega)).setF i 8 (by omega) clk (by omega)
  have HK : Hid (¬ 0 < (upd2 (upd2 F i 3 (F i 3 + by_)) i 8 clk) i 3 ∧ ¬ 0 < (upd2 (upd2 F i 3 (F i 3 + by_)) i 8 clk) i 4) := by (show _ ∧ _; rw [show upd2 (upd2 F i 3 (F i 3 + by_)) i 8 clk i 3 = F i 3 + by_ by simp [upd2], show upd2 (upd2 F i 3 (F i 3 + by_)) i 8 clk i 4 = F i 4 by simp [upd2]]; exact hk)
  have HY : Hid (cutS 0 u D (R i) 8 = y) := hy
  have HT : Hid (Tb w t q b c n N clk F R u D) := T
  have HZ : Hid (F i 0 ≠ 0) := hz
  have h2 := T.c2
  have htq := T.tq
  have hlq := T.lt_q
  have k3 := T.cf i 3 hi (by omega)
  have f3 := T.fq (i * 17 + 3)
  have k8 := T.cf i 8 hi (by omega)
  have f8 := T.fq (i * 17 + 8)
  clear T hz
  clear hk hy
  go_enter Tryz.func31, Tryz.ntmps31
  go_wp2_with (first | (go_at_call 76; refine (find_ok HT.out i hi HZ.out).mono ?_; rintro e w1 ⟨rfl, hw1⟩; rw [hw1]; clear hw1 w1) | (go_at_call 77; refine (leave_ends HT1.out i hi (by first | exact HK.out.1 | exact Int.not_lt.mpr HK.out.1) (by first | exact HK.out.2 | exact Int.not_lt.mpr HK.out.2) y HY.out).mono ?_; rintro e w2 ⟨rfl, T2, M2⟩; have HT2 := Hid.intrL T2; have HM2 := Hid.intrL M2; clear T2 M2))
  go_ret
  exact ⟨by simp, HT2.out, ((((Mod.refl (fun k => k = q) w).setCell _ _ rfl).setCell _ _ rfl).mono (fun _ _ h => .inr (.inr h))).trans HM2.out⟩
end
end Go.Proofs.YtfmemkninmpfjaaGreatDoor
