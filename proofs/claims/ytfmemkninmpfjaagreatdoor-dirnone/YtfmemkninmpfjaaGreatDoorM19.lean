/- Several texts of this claim, one behind the other, in their order. -/
import Derived.Test.YtfmemkninmpfjaaGreatDoorM14
import Derived.Test.YtfmemkninmpfjaaGreatDoorM18
import Derived.Deep.RegionHeld
import Derived.Test.YtfmemkninmpfjaaGreatDoorM12
import Derived.Deep.DeepCutAuto
import Derived.Deep.LoopGhost
/- What Stat tells. Condition: the table lies in memory as 'Tb' says. -/
namespace Go.Proofs.YtfmemkninmpfjaaGreatDoor
open Go.RowKit
def SeeN (F : Nat → Nat → Int) (q i : Nat) (W : World) : Prop :=
  W.cell? ⟨q, i * 17 + 3, none⟩ = some (.int .i64 (F i 3)) ∧ W.cell? ⟨q, i * 17 + 1, none⟩ = some (.int .i64 (F i 1)) ∧ W.cell? ⟨q, i * 17 + 2, none⟩ = some (.int .i64 (F i 2)) ∧ W.cell? ⟨q, i * 17 + 5, none⟩ = some (.int .i64 (F i 5)) ∧
    W.cell? ⟨q, i * 17, none⟩ = some (.int .i64 (F i 0)) ∧ W.cell? ⟨q, i * 17 + 6, none⟩ = some (.int .i64 (F i 6)) ∧ W.cell? ⟨q, i * 17 + 7, none⟩ = some (.int .i64 (F i 7)) ∧ W.cell? ⟨q, i * 17 + 8, none⟩ = some (.int .i64 (F i 8))
theorem ret_stat {W : World} {B : Nat} {L : List Value} (h : W.rangeAt B 0 L) (hl : L.length = 10) (tmps : Array Value) (h4 : tmps[4]?.getD undef = .pointer (some ⟨B, 0, none⟩)) (h5 : tmps[5]?.getD undef = .int .i64 0) :
    (results Tryz.f44 tmps).run Tryz.prog W = .ok (.tuple #[.agg L.toArray, .int .i64 0]) W := by
  have h2 := run_loadVar_mid (P := Tryz.prog) W B 0 91 L _ h Tryz.underlying91 rfl (by rw [hl]; exact infSt)
  unfold results
  rw [Tryz.results44]
  simp [h4, h5, asAddr, Result.andThen, h2]
theorem row_slice {w : World} {B e n : Nat} {v : Value} {xs : List Value} (h : w.ownsRow B e 1 v n xs) : ∃ a c, v = .slice a n c := by
  rcases h.2 with ⟨rfl, rfl⟩ | ⟨g, cap, cur, rfl, _⟩
  · exact ⟨_, _, rfl⟩
  · exact ⟨_, _, rfl⟩
section
variable {w : World} {t q b c n N : Nat} {clk : Int} {F : Nat → Nat → Int} {R : Nat → Nat → Nat} {u : Nat → Bool} {D : Nat → Nat}
theorem Tb.see (T : Tb w t q b c n N clk F R u D) {i : Nat} (hi : i < N) : SeeN F q i w :=
  ⟨T.cf i 3 hi (by omega), T.cf i 1 hi (by omega), T.cf i 2 hi (by omega), T.cf i 5 hi (by omega), T.cf i 0 hi (by omega), T.cf i 6 hi (by omega), T.cf i 7 hi (by omega), T.cf i 8 hi (by omega)⟩
set_option maxRecDepth 100000 in
set_option maxHeartbeats 4000000 in
theorem tstat (T : Tb w t q b c n N clk F R u D) (i : Nat) (hi : i < N) (hz : F i 0 ≠ 0) : StatOf F t i w := by
  have HT : Hid (Tb w t q b c n N clk F R u D) := T
  have HZ : Hid (F i 0 ≠ 0) := hz
  have HM0 : Hid (∀ o, Mod (fun _ => False) w ((w.alloc o).drewN 1)) := fun o => ((Mod.refl _ w).alloc o).drewN 1
  have HLt : Hid (w.heap.size < ((w.alloc (.cells #[.int .i64 0, .int .i64 0, .int .i64 0, .int .i64 0, .int .i64 0, .int .i64 0, .int .i64 0, .int .i64 0, .int .i64 0, .int .i64 0] 91)).drewN 1).heap.size) := by show w.heap.size < (w.alloc _).heap.size; simp
  have HK0 : Hid (∀ j, j < 10 → ((w.alloc (.cells #[.int .i64 0, .int .i64 0, .int .i64 0, .int .i64 0, .int .i64 0, .int .i64 0, .int .i64 0, .int .i64 0, .int .i64 0, .int .i64 0] 91)).drewN 1).cell? ⟨w.heap.size, j, none⟩ = some (.int .i64 0)) := fun j hj => by
    show (w.alloc _).cell? _ = _
    rw [World.cell?_alloc_at _ _ _ _ rfl]
    obtain rfl | rfl | rfl | rfl | rfl | rfl | rfl | rfl | rfl | rfl : j = 0 ∨ j = 1 ∨ j = 2 ∨ j = 3 ∨ j = 4 ∨ j = 5 ∨ j = 6 ∨ j = 7 ∨ j = 8 ∨ j = 9 := by omega
    all_goals rfl
  have HKf : Hid (∀ o, ((w.alloc (.cells #[.int .i64 0, .int .i64 0, .int .i64 0, .int .i64 0, .int .i64 0, .int .i64 0, .int .i64 0, .int .i64 0, .int .i64 0, .int .i64 0] 91)).drewN 1).frozen? ⟨w.heap.size, o, none⟩ = false) := fun o => World.frozen?_alloc_at _ _ _ _ rfl
  have hqw := T.lt_q
  have hcq : ∀ (W : World) (o x : Nat) (v : Value), (W.setCell ⟨w.heap.size, o, none⟩ v).cell? ⟨q, x, none⟩ = W.cell? ⟨q, x, none⟩ := fun W o x v => setCell_out _ _ _ _ _ (fun e => by have h1 : q = w.heap.size := e; omega)
  clear T hz
  unfold StatOf
  go_enter Tryz.func44, Tryz.ntmps44
  go_wp2_with (go_at_call 76; refine (find_ok (HT.out.new ((Mod.refl _ w).alloc _)) i hi HZ.out).mono ?_; rintro e w1 ⟨rfl, hw1⟩; rw [hw1]; clear hw1 w1)
  have hS0 : SeeN F q i ((w.alloc (.cells #[.int .i64 0, .int .i64 0, .int .i64 0, .int .i64 0, .int .i64 0, .int .i64 0, .int .i64 0, .int .i64 0, .int .i64 0, .int .i64 0] 91)).drew) := (HT.out.new (HM0.out _)).see hi
  unfold SeeN at hS0
  go_region_held (fun W' => W'.cell? ⟨q, i * 17 + 3, none⟩ = some (.int .i64 (F i 3)) ∧ W'.cell? ⟨q, i * 17 + 1, none⟩ = some (.int .i64 (F i 1)) ∧ W'.cell? ⟨q, i * 17 + 2, none⟩ = some (.int .i64 (F i 2)) ∧ W'.cell? ⟨q, i * 17 + 5, none⟩ = some (.int .i64 (F i 5)) ∧ W'.cell? ⟨q, i * 17, none⟩ = some (.int .i64 (F i 0)) ∧ W'.cell? ⟨q, i * 17 + 6, none⟩ = some (.int .i64 (F i 6)) ∧ W'.cell? ⟨q, i * 17 + 7, none⟩ = some (.int .i64 (F i 7)) ∧ W'.cell? ⟨q, i * 17 + 8, none⟩ = some (.int .i64 (F i 8))) (first | with_reducible exact hS1 | with_reducible exact hS0 | (simp only [hcq]; with_reducible exact hS1))
    (first | (go_at_call 87; refine (owned_any (HT.out.new (HM0.out _)) i hi).mono ?_; rintro e w1 ⟨v, rfl, hv, HM1⟩; have hS1 := (HT.out.new ((HM0.out _).trans HM1)).see hi; unfold SeeN at hS1; obtain ⟨a1, c1, rfl⟩ := row_slice hv; clear hv; have k0 : w1.cell? ⟨w.heap.size, 0, none⟩ = some (.int .i64 0) := (HM1.cell (p := ⟨w.heap.size, 0, none⟩) HLt.out (fun h => h)).trans (HK0.out 0 (by omega)); have k1 : w1.cell? ⟨w.heap.size, 1, none⟩ = some (.int .i64 0) := (HM1.cell (p := ⟨w.heap.size, 1, none⟩) HLt.out (fun h => h)).trans (HK0.out 1 (by omega)); have k2 : w1.cell? ⟨w.heap.size, 2, none⟩ = some (.int .i64 0) := (HM1.cell (p := ⟨w.heap.size, 2, none⟩) HLt.out (fun h => h)).trans (HK0.out 2 (by omega)); have k3 : w1.cell? ⟨w.heap.size, 3, none⟩ = some (.int .i64 0) := (HM1.cell (p := ⟨w.heap.size, 3, none⟩) HLt.out (fun h => h)).trans (HK0.out 3 (by omega)); have k4 : w1.cell? ⟨w.heap.size, 4, none⟩ = some (.int .i64 0) := (HM1.cell (p := ⟨w.heap.size, 4, none⟩) HLt.out (fun h => h)).trans (HK0.out 4 (by omega)); have k5 : w1.cell? ⟨w.heap.size, 5, none⟩ = some (.int .i64 0) := (HM1.cell (p := ⟨w.heap.size, 5, none⟩) HLt.out (fun h => h)).trans (HK0.out 5 (by omega)); have k6 : w1.cell? ⟨w.heap.size, 6, none⟩ = some (.int .i64 0) := (HM1.cell (p := ⟨w.heap.size, 6, none⟩) HLt.out (fun h => h)).trans (HK0.out 6 (by omega)); have k7 : w1.cell? ⟨w.heap.size, 7, none⟩ = some (.int .i64 0) := (HM1.cell (p := ⟨w.heap.size, 7, none⟩) HLt.out (fun h => h)).trans (HK0.out 7 (by omega)); have k8 : w1.cell? ⟨w.heap.size, 8, none⟩ = some (.int .i64 0) := (HM1.cell (p := ⟨w.heap.size, 8, none⟩) HLt.out (fun h => h)).trans (HK0.out 8 (by omega)); have k9 : w1.cell? ⟨w.heap.size, 9, none⟩ = some (.int .i64 0) := (HM1.cell (p := ⟨w.heap.size, 9, none⟩) HLt.out (fun h => h)).trans (HK0.out 9 (by omega)); have kf : ∀ o, w1.frozen? ⟨w.heap.size, o, none⟩ = false := (fun o => (HM1.frozen (p := ⟨w.heap.size, o, none⟩) HLt.out (fun h => h)).trans (HKf.out o)); have HM2 : Hid (Mod (fun _ => False) w w1) := (HM0.out _).trans HM1; have HK1 : Hid (∀ j, j < 10 → w1.cell? ⟨w.heap.size, j, none⟩ = some (.int .i64 0)) := (fun j hj => (HM1.cell (p := ⟨w.heap.size, j, none⟩) HLt.out (fun h => h)).trans (HK0.out j hj)); clear HM1))
  have HTh : Hid (w1.there w.heap.size 0 10) := fun j hj => ⟨by rw [Nat.zero_add, HK1.out j hj]; rfl, kf _⟩
  have HRg : Hid ((w1.setCells w.heap.size 0 (statW F (ownL u D (R i) 8).length i)).rangeAt w.heap.size 0 (statW F (ownL u D (R i) 8).length i)) := World.rangeAt_setCells_same _ _ _ _ HTh.out
  have HFin : Hid (Mod (fun _ => False) w (w1.setCells w.heap.size 0 (statW F (ownL u D (R i) 8).length i))) := ⟨(below_setCells (Below.refl w.heap.size w1) (Nat.le_refl _) _ 0).os.trans HM2.out.os, (below_setCells (Below.refl w.heap.size w1) (Nat.le_refl _) _ 0).tape.trans HM2.out.tape, (below_setCells (Below.refl w.heap.size w1) (Nat.le_refl _) _ 0).output.trans HM2.out.output, by rw [size_setCells]; exact HM2.out.size, fun k hk hn => by rw [setCells_other _ _ _ (by omega)]; exact HM2.out.block k hk hn⟩
  clear hS0 hS1 kf hcq k0 k1 k2 k3 k4 k5 k6 k7 k8 k9
  go_wp2
  exact bodyPost_ret (ret_stat HRg.out rfl _ rfl rfl) rfl ⟨⟨_, rfl⟩, HFin.out⟩
end
end Go.Proofs.YtfmemkninmpfjaaGreatDoor
/- The plain answer's table, as 'made' uses it. -/
namespace Go.Proofs.YtfmemkninmpfjaaGreatDoor
open Go.RowKit
/-- A plain table: which inodes are on, and their links. -/
structure RA (w : World) (tb lb N : Nat) (on : Nat → Bool) (lk : Nat → Int) : Prop where
  nn : w.cell? ⟨tb, 2, none⟩ = some (.int .i64 N)
  at3 : w.cell? ⟨tb, 3, none⟩ = some (.int .i64 0)
  ll : w.cell? ⟨tb, 4, none⟩ = some (.slice (some ⟨lb, 0, none⟩) (N + 1) (N + 1))
  lc : ∀ i, i < N + 1 → w.cell? ⟨lb, i * 308, none⟩ = some (.bool (on i))
  lks : ∀ i, i < N + 1 → on i = true → w.cell? ⟨lb, i * 308 + 2, none⟩ = some (.int .i64 (lk i))
  ok : ∀ j, j < (N + 1) * 308 → (w.cell? ⟨lb, j, none⟩).isSome = true
  fr : ∀ o, w.frozen? ⟨lb, o, none⟩ = false
  ne : tb ≠ lb
theorem RA.lay (w1 : World) (ob lb n N : Nat) (y : Value) (_hO : w1.heap[ob]? = some (.cells (madeCells #[.bool false] n) 4 (0, 0))) (hL : w1.heap[lb]? = some (.cells (madeCells zeroI ((N + 1) * 308)) 140 (0, 0))) :
    RA (w1.alloc (.cells #[.slice (some ⟨ob, 0, none⟩) n n, y, .int .i64 N, .int .i64 0, .slice (some ⟨lb, 0, none⟩) (N + 1) (N + 1)] 130)) w1.heap.size lb N (fun _ => false) (fun _ => 0) :=
  have hl : lb < w1.heap.size := (Array.getElem?_eq_some_iff.1 hL).1
  { nn := by rw [World.cell?_alloc_at _ _ _ _ rfl]; rfl
    at3 := by rw [World.cell?_alloc_at _ _ _ _ rfl]; rfl
    ll := by rw [World.cell?_alloc_at _ _ _ _ rfl]; rfl
    lc := fun i hi => by rw [World.cell?_alloc_past _ _ _ hl, cell_of_row w1 lb _ _ _ (0, 0) hL]; exact madeI_at (N + 1) i hi
    lks := fun i _ h => by cases h
    ok := fun j hj => by
      rw [World.cell?_alloc_past _ _ _ hl, cell_of_row w1 lb _ _ _ (0, 0) hL, Array.getElem?_eq_getElem (by simpa [madeCells] using hj)]; rfl
    fr := fun o => by rw [World.frozen?_alloc_past _ _ _ hl]; exact frozen_of_row _ _ _ _ _ hL
    ne := by omega }
set_option maxRecDepth 8000 in
set_option maxHeartbeats 1000000 in
theorem r2new_ra (n N : Nat) (w : World) (hn : 1 ≤ n) (hn2 : n ≤ 4096) (hN : 1 ≤ N) (hN2 : N ≤ 4096) : Calls Tryz.prog 28 #[.int .i64 n, .int .i64 N] w fun e w' => ∃ tb lb, e = .returned (.tuple #[.pointer (some ⟨tb, 0, none⟩), .int .i64 0]) ∧ RA w' tb lb N (fun _ => false) (fun _ => 0) ∧ (w.heap.size ≤ tb ∧ w.heap.size ≤ lb) ∧ Mod (fun _ => False) w w' := by
  have hm := mk_inodes (N + 1) (by omega)
  have hc : ((N + 1 : Nat) : Int) = (N : Int) + 1 := rfl
  rw [hc] at hm
  have hw : IntKind.i64.wrap ((N : Int) + 1) = (N : Int) + 1 := by rw [IntKind.wrap_i64]; omega
  have h1 : ¬ (n : Int) < 1 := by omega
  have h2 : ¬ 4096 < (n : Int) := by omega
  have h3 : ¬ (N : Int) < 1 := by omega
  have h4 : ¬ 4096 < (N : Int) := by omega
  go_enter Tryz.func28, Tryz.ntmps28
  go_wp2_with fail
  go_region_held (fun _ => True) (trivial) (first | (go_at_call 71; refine (rnew_any n _ hn2).mono ?_; rintro e w1 ⟨ob, yb, rfl, -, -, -, O1, Y1, M1⟩; have HO := Hid.intr O1; have HM := Hid.intr M1; clear O1 Y1 M1))
  all_goals go_wp2
  · go_ret2
    have hO : (w1.alloc (.cells (madeCells zeroI ((N + 1) * 308)) 140)).heap[ob]? = some (.cells (madeCells #[.bool false] n) 4 (0, 0)) := by
      rw [Below.heap_alloc _ _ _ (by rcases Nat.lt_or_ge ob w1.heap.size with h | h; exact h; have := HO.out; rw [Array.getElem?_eq_none h] at this; exact absurd this (by simp))]; exact HO.out
    have hL : (w1.alloc (.cells (madeCells zeroI ((N + 1) * 308)) 140)).heap[w1.heap.size]? = some (.cells (madeCells zeroI ((N + 1) * 308)) 140 (0, 0)) := by
      show (w1.heap.push _)[w1.heap.size]? = _
      simp
    have h := RA.lay _ ob w1.heap.size n N (.slice (some ⟨yb, 0, none⟩) n n) hO hL
    rw [World.size_alloc] at h
    have hsz : w.heap.size ≤ w1.heap.size := HM.out.size
    exact ⟨_, _, by simp, h, ⟨by omega, hsz⟩, ((((Mod.refl _ w).drewN 1).trans HM.out).alloc _).alloc _⟩
  · go_ret2
    have hL : w1.heap[w.heap.size]? = some (.cells (madeCells zeroI ((N + 1) * 308)) 140 (0, 0)) := by
      rw [HM.out.block w.heap.size (by show _ < (w.alloc _).heap.size; simp) (fun h => h)]
      show (w.heap.push _)[w.heap.size]? = _
      simp
    have hsz : w.heap.size + 1 ≤ w1.heap.size := by
      have h1 : (w.alloc (.cells (madeCells zeroI ((N + 1) * 308)) 140)).heap.size ≤ w1.heap.size := HM.out.size
      simp at h1; omega
    exact ⟨_, _, by simp, RA.lay w1 ob w.heap.size n N (.slice (some ⟨yb, 0, none⟩) n n) HO.out hL, ⟨by omega, Nat.le_refl _⟩, ((((Mod.refl _ w).alloc _).drewN 1).trans HM.out).alloc _⟩
theorem RA.mod {w w' : World} {tb lb N : Nat} {on : Nat → Bool} {lk : Nat → Int} (h : RA w tb lb N on lk) {s : Nat → Prop} (hM : Mod s w w') (ht : ¬ s tb) (hl : ¬ s lb) : RA w' tb lb N on lk :=
  have kt : ∀ o v, w.cell? ⟨tb, o, none⟩ = some v → w'.cell? ⟨tb, o, none⟩ = some v := fun o _ e => (hM.cell (p := ⟨tb, o, none⟩) (block_lt_of_cell e) ht).trans e
  have hlb : lb < w.heap.size := block_lt_of_cell (h.lc 0 (by omega))
  have kl : ∀ o, w'.cell? ⟨lb, o, none⟩ = w.cell? ⟨lb, o, none⟩ := fun o => hM.cell (p := ⟨lb, o, none⟩) hlb hl
  ⟨kt _ _ h.nn, kt _ _ h.at3, kt _ _ h.ll, fun i hi => (kl _).trans (h.lc i hi), fun i hi ho => (kl _).trans (h.lks i hi ho), fun j hj => by rw [kl]; exact h.ok j hj, fun o => (hM.frozen (p := ⟨lb, o, none⟩) hlb hl).trans (h.fr o), h.ne⟩
end Go.Proofs.YtfmemkninmpfjaaGreatDoor
/- What the walk of the plain answer's Alloc wants: its kind, and a store of a whole inode. -/
namespace Go.Proofs.YtfmemkninmpfjaaGreatDoor
open Go.RowKit
theorem zvI (w : World) : (zeroValue 140).run Tryz.prog w = .ok (.agg zeroI) w := by kernel_rfl
theorem rkind (m k : Int) (w : World) (h : bits .and .i64 m 61440 = k) : Calls Tryz.prog 75 #[.int .i64 m] w fun e w' => e = .returned (.int .i64 k) ∧ w' = w := by
  go_enter Tryz.func75, Tryz.ntmps75
  go_wp2
  go_ret
  exact ⟨by simp, rfl⟩
theorem one_set {A : Array Value} {i : Nat} {x : Value} (h : ∀ v ∈ A.toList, v.oneCell' = true) (hx : x.oneCell' = true) : ∀ v ∈ (A.setIfInBounds i x).toList, v.oneCell' = true := fun v hv => by
  rw [Array.toList_setIfInBounds] at hv
  rcases List.mem_or_eq_of_mem_set hv with h1 | rfl
  · exact h v h1
  · exact hx
theorem st_ino (w : World) (lb off : Nat) (X : Array Value) (hx : ∀ v ∈ X.toList, v.oneCell' = true) (ok : ∀ a, a < X.size → (w.cell? ⟨lb, off + a, none⟩).isSome = true) (fr : ∀ a, w.frozen? ⟨lb, off + a, none⟩ = false) : (storeCells ⟨lb, off, none⟩ X.toList).run Tryz.prog w = .ok () (w.setCells lb off X.toList) := by
  have := run_storeCells_cells (P := Tryz.prog) lb off X.toList 0 w (fun a ha => by simpa using ok a (by simpa using ha)) (fun a _ => by simpa using fr a) hx
  simpa using this
end Go.Proofs.YtfmemkninmpfjaaGreatDoor
/- The plain answer's Is and Links, of a table whose inodes are on or off. -/
namespace Go.Proofs.YtfmemkninmpfjaaGreatDoor
open Go.RowKit
theorem RA.put {w : World} {tb lb N : Nat} {on : Nat → Bool} {lk : Nat → Int} (h : RA w tb lb N on lk) (j : Nat) (v : Value) (lk' : Nat → Int) (h0 : ∀ i, j ≠ i * 308) (h2 : ∀ i, i < N + 1 → j ≠ i * 308 + 2 → lk' i = lk i) (h3 : ∀ i, i < N + 1 → j = i * 308 + 2 → v = .int .i64 (lk' i)) : RA (w.setCell ⟨lb, j, none⟩ v) tb lb N on lk' :=
  have kt : ∀ o, (w.setCell ⟨lb, j, none⟩ v).cell? ⟨tb, o, none⟩ = w.cell? ⟨tb, o, none⟩ := fun o => World.cell?_setCell_far _ _ _ _ (by show lb ≠ tb; exact fun e => h.ne e.symm)
  have kl : ∀ o, j ≠ o → (w.setCell ⟨lb, j, none⟩ v).cell? ⟨lb, o, none⟩ = w.cell? ⟨lb, o, none⟩ := fun o ho => World.cell?_setCell_other _ _ _ _ (by intro e; injection e with _ e2 _; exact ho e2)
  have ks : ∀ o, (w.cell? ⟨lb, o, none⟩).isSome = true → j = o → (w.setCell ⟨lb, j, none⟩ v).cell? ⟨lb, o, none⟩ = some v := fun o hs e => by
    subst e
    obtain ⟨u, hu⟩ := Option.isSome_iff_exists.1 hs
    exact World.cell?_setCell_same _ _ _ hu
  { nn := (kt _).trans h.nn
    at3 := (kt _).trans h.at3
    ll := (kt _).trans h.ll
    lc := fun i hi => (kl _ (h0 i)).trans (h.lc i hi)
    lks := fun i hi ho => by
      by_cases e : j = i * 308 + 2
      · rw [ks _ (h.ok _ (by omega)) e, h3 i hi e]
      · rw [kl _ e, h2 i hi e]; exact h.lks i hi ho
    ok := fun k hk => by
      by_cases e : j = k
      · rw [ks _ (h.ok _ hk) e]; rfl
      · rw [kl _ e]; exact h.ok k hk
    fr := fun o => by rw [World.frozen?_setCell]; exact h.fr o
    ne := h.ne }
set_option maxRecDepth 8000 in
set_option maxHeartbeats 1000000 in
theorem rIs {w : World} {tb lb N : Nat} {on : Nat → Bool} {lk : Nat → Int} (h : RA w tb lb N on lk) (_hN : N ≤ 4096) (i : Nat) (h1 : 1 ≤ i) (h2 : i ≤ N) (b : Bool) (hb : on i = b) : Calls Tryz.prog 78 #[.pointer (some ⟨tb, 0, none⟩), .int .i64 i] w fun e w' => e = .returned (.bool b) ∧ w' = w := by
  have hn := h.nn
  have hl := h.ll
  have hc := h.lc i (by omega)
  rw [hb] at hc
  have h0 : (0 : Int) < (i : Int) := by omega
  have hiN : (i : Int) ≤ (N : Int) := by omega
  have hi1 : (i : Int) < (N : Int) + 1 := by omega
  clear h hb
  go_enter Tryz.func78, Tryz.ntmps78
  go_wp2
  go_ret
  exact ⟨rfl, rfl⟩
set_option maxRecDepth 8000 in
set_option maxHeartbeats 1000000 in
theorem rGone {w : World} {tb lb N : Nat} {on : Nat → Bool} {lk : Nat → Int} (h : RA w tb lb N on lk) (_hN : N ≤ 4096) (i : Nat) (h2 : i ≤ N) (ho : on i = true) (hk : lk i = 1) : Calls Tryz.prog 79 #[.pointer (some ⟨tb, 0, none⟩), .int .i64 i] w fun e w' => e = .returned (.tuple #[]) ∧ w' = w := by
  have hl := h.ll
  have hc := h.lks i (by omega) ho
  rw [hk] at hc
  have hi1 : (i : Int) < (N : Int) + 1 := by omega
  clear h hk
  go_enter Tryz.func79, Tryz.ntmps79
  go_wp2
  exact ⟨rfl, _, results_none rfl _ _ _, rfl, rfl⟩
set_option maxRecDepth 8000 in
set_option maxHeartbeats 1000000 in
theorem rLinks {w : World} {tb lb N : Nat} {on : Nat → Bool} {lk : Nat → Int} (h : RA w tb lb N on lk) (_hN : N ≤ 4096) (i : Nat) (h1 : 1 ≤ i) (h2 : i ≤ N) (ho : on i = true) (hk : lk i = 0) : Calls Tryz.prog 32 #[.pointer (some ⟨tb, 0, none⟩), .int .i64 i, .int .i64 1] w fun e w' => e = .returned (.int .i64 0) ∧ RA w' tb lb N on (fun k => if k = i then 1 else lk k) ∧ Mod (fun k => k = lb) w w' := by
  have H := Hid.intr h
  have hl := h.ll
  have h3 := h.at3
  have hc := h.lks i (by omega) ho
  rw [hk] at hc
  obtain ⟨u10, hc10⟩ := Option.isSome_iff_exists.1 (h.ok (i * 308 + 10) (by omega))
  have hf2 := h.fr (i * 308 + 2)
  have hf10 := h.fr (i * 308 + 10)
  have hi1 : (i : Int) < (N : Int) + 1 := by omega
  have hne := h.ne
  have hA := Hid.intr (h.put (i * 308 + 2) (.int .i64 1) (fun k => if k = i then 1 else lk k) (by omega) (fun k _ e => if_neg (by omega)) (fun k _ e => by rw [if_pos (by omega)]))
  have hB := Hid.intr (hA.out.put (i * 308 + 10) (.int .i64 0) (fun k => if k = i then 1 else lk k) (by omega) (fun k _ e => rfl) (fun k _ e => by omega))
  clear h hk
  go_enter Tryz.func32, Tryz.ntmps32
  go_wp2_with (first | (go_at_call 78; refine (rIs H.out _hN i h1 h2 true ho).mono ?_; rintro e w' ⟨rfl, hw'⟩; rw [hw']; clear hw' w') | (go_at_call 79; refine (rGone hB.out _hN i h2 ho (if_pos rfl)).mono ?_; rintro e w' ⟨rfl, hw'⟩; rw [hw']; clear hw' w'))
  go_ret
  exact ⟨rfl, hB.out, Mod.setCell (s := fun k => k = lb) (Mod.setCell (s := fun k => k = lb) (Mod.refl _ w) _ _ rfl) _ _ rfl⟩
end Go.Proofs.YtfmemkninmpfjaaGreatDoor
/- The plain answer's Alloc: the lowest inode that is off is on. -/
namespace Go.Proofs.YtfmemkninmpfjaaGreatDoor
open Go.RowKit
noncomputable def inoL (i : Nat) (m : Int) : List Value :=
  ((((((((((Tryz.zeroCells140.toList.set 0 (.bool true)).set 1 (.int .i64 i)).set 2 (.int .i64 0)).set 3 (.int .i64 0)).set 4 (.int .i64 0)).set 5 (.int .i64 0)).set 6 (.int .i64 0)).set 7 (.int .i64 m)).set 8 (.int .i64 0)).set 9 (.int .i64 0)).set 10 (.int .i64 0)
theorem inoL_size (i : Nat) (m : Int) : (inoL i m).length = 308 := by kernel_rfl
theorem inoL_on (i : Nat) (m : Int) : (inoL i m)[0]? = some (.bool true) := by kernel_rfl
theorem inoL_lk (i : Nat) (m : Int) : (inoL i m)[2]? = some (.int .i64 0) := by kernel_rfl
theorem inoL_one (i : Nat) (m : Int) : ∀ v ∈ inoL i m, v.oneCell' = true := by
  have h : (inoL i m).all (fun v => v.oneCell') = true := by kernel_rfl
  exact List.all_eq_true.1 h
theorem st_list (w : World) (lb off : Nat) (L : List Value) (hx : ∀ v ∈ L, v.oneCell' = true) (ok : ∀ a, a < L.length → (w.cell? ⟨lb, off + a, none⟩).isSome = true) (fr : ∀ a, w.frozen? ⟨lb, off + a, none⟩ = false) : (storeCells ⟨lb, off, none⟩ L).run Tryz.prog w = .ok () (w.setCells lb off L) := by
  have := st_ino w lb off L.toArray (by simpa using hx) (by simpa using ok) fr
  simpa using this
theorem RA.puts {w : World} {tb lb N : Nat} {on : Nat → Bool} {lk : Nat → Int} (h : RA w tb lb N on lk) (i : Nat) (hi : i < N + 1) (X : List Value) (hl : X.length = 308) (h0 : X[0]? = some (.bool true)) (h2 : X[2]? = some (.int .i64 0)) : RA (w.setCells lb (i * 308) X) tb lb N (fun k => if k = i then true else on k) (fun k => if k = i then 0 else lk k) :=
  have kt : ∀ o, (w.setCells lb (i * 308) X).cell? ⟨tb, o, none⟩ = w.cell? ⟨tb, o, none⟩ := fun o => World.cell?_setCells_out _ _ _ _ _ (fun e => absurd e h.ne)
  have ko : ∀ o, (o < i * 308 ∨ i * 308 + 308 ≤ o) → (w.setCells lb (i * 308) X).cell? ⟨lb, o, none⟩ = w.cell? ⟨lb, o, none⟩ := fun o ho => World.cell?_setCells_out _ _ _ _ _ (fun _ _ => by rw [hl]; exact ho)
  have ki : ∀ j (hj : j < X.length), (w.setCells lb (i * 308) X).cell? ⟨lb, i * 308 + j, none⟩ = some X[j] := World.cell?_setCells_in lb _ _ _ (fun j hj => h.ok _ (by omega))
  have at' : ∀ j v, X[j]? = some v → (w.setCells lb (i * 308) X).cell? ⟨lb, i * 308 + j, none⟩ = some v := fun j v e => by
    obtain ⟨hj, e'⟩ := List.getElem?_eq_some_iff.1 e
    rw [ki j hj, e']
  { nn := (kt _).trans h.nn
    at3 := (kt _).trans h.at3
    ll := (kt _).trans h.ll
    lc := fun k hk => by
      by_cases e : k = i
      · subst e; rw [if_pos rfl]; have h := at' 0 _ h0; rw [Nat.add_zero] at h; exact h
      · rw [if_neg e, ko _ (by omega)]; exact h.lc k hk
    lks := fun k hk ho => by
      by_cases e : k = i
      · subst e; rw [if_pos rfl]; exact at' 2 _ h2
      · rw [if_neg e] at ho ⊢; rw [ko _ (by omega)]; exact h.lks k hk ho
    ok := fun j hj => by
      by_cases e : j < i * 308 ∨ i * 308 + 308 ≤ j
      · rw [ko _ e]; exact h.ok j hj
      · obtain ⟨d, rfl⟩ : ∃ d, j = i * 308 + d := ⟨j - i * 308, by omega⟩
        rw [ki d (by omega)]; rfl
    fr := fun o => by rw [World.frozen?_setCells]; exact h.fr o
    ne := h.ne }
theorem RA.drew {w : World} {tb lb N : Nat} {on : Nat → Bool} {lk : Nat → Int} (h : RA w tb lb N on lk) : RA w.drew tb lb N on lk := h.mod (s := fun _ => False) ((Mod.refl _ w).drewN 1) (fun e => e) (fun e => e)
set_option maxRecDepth 8000 in
set_option maxHeartbeats 2000000 in
theorem rAlloc {w : World} {tb lb N : Nat} {on : Nat → Bool} {lk : Nat → Int} (h : RA w tb lb N on lk) (hN : N ≤ 4096) (m k : Int) (hk : bits .and .i64 m 61440 = k) (hm : bits .and .i64 m 65535 = m) (hm0 : ¬ m < 0) (hc : ((k != 32768) = true ∧ (k != 16384) = false) ∨ (k != 32768) = false)
    (i : Nat) (h1 : 1 ≤ i) (h2 : i ≤ N) (hon : ∀ j, 1 ≤ j → j < i → on j = true) (hoff : on i = false) : Calls Tryz.prog 30 #[.pointer (some ⟨tb, 0, none⟩), .int .i64 m, .int .i64 0, .int .i64 0] w fun e w' => e = .returned (.tuple #[.int .i64 i, .int .i64 0]) ∧ RA w' tb lb N (fun k => if k = i then true else on k) (fun k => if k = i then 0 else lk k) ∧ Mod (fun k => k = lb) w w' := by
  have H := Hid.intr h
  have HO := Hid.intr hon
  have HF := Hid.intr hoff
  have HC := Hid.intr hc
  have hn := h.nn
  have hl := h.ll
  have h3 := h.at3
  have hne := h.ne
  clear h hon hoff hc
  go_enter Tryz.func30, Tryz.ntmps30
  go_wp2_with fail
  refine (rkind m k _ hk).mono ?_
  rintro e w1 ⟨rfl, hw1⟩
  rw [hw1]; clear hw1 w1 hk
  go_upto_region 2 with fail
  go_cut [41] (fun c wc => w = wc ∧ c = .bool false)
  case first =>
    rcases HC.out with ⟨a1, a2⟩ | a1
    all_goals
      go_wp2_with fail
      go_meet
      exact ⟨rfl, congrArg Value.bool (decide_eq_false (by omega))⟩
  case rest =>
    obtain ⟨rfl, rfl⟩ := hcut
    go_wp2_with fail
    go_loopg [11] (N - 1) (fun g t wr => w = wr ∧ ∃ j : Nat, 1 ≤ j ∧ j ≤ i ∧ g = N - j ∧ t = .int .i64 j)
    case atStart => exact ⟨rfl, 1, by omega, by omega, rfl, rfl⟩
    case round =>
      obtain ⟨rfl, j, hj1, hji, rfl, rfl⟩ := hrel
      have hjN : (j : Int) ≤ (N : Int) := by omega
      have hjN1 : (j : Int) < (N : Int) + 1 := by omega
      have hcl := H.out.lc j (by omega)
      by_cases hlt : j < i
      · rw [HO.out j hj1 hlt] at hcl
        go_wp2_with fail
        go_roundg (N - (j + 1))
        case measure => omega
        case rel => exact ⟨rfl, j + 1, by omega, by omega, rfl, by go_num⟩
      · obtain rfl : j = i := by omega
        rw [HF.out] at hcl
        obtain ⟨L, hL⟩ : ∃ L, inoL j m = L := ⟨_, rfl⟩
        have hRA := Hid.intr (H.out.drew.puts j (by omega) L (hL ▸ inoL_size j m) (hL ▸ inoL_on j m) (hL ▸ inoL_lk j m))
        have hst : (storeCells ⟨lb, j * 308, none⟩ (inoL j m)).run Tryz.prog w.drew = .ok () (w.drew.setCells lb (j * 308) L) := by
          rw [hL]
          exact st_list w.drew lb (j * 308) L (hL ▸ inoL_one j m) (fun a ha => H.out.drew.ok _ (by rw [← hL, inoL_size] at ha; omega)) (fun a => H.out.drew.fr _)
        unfold inoL at hst
        have hMod := Hid.intr (Mod.setCells (s := fun k => k = lb) (a := w) lb rfl L (j * 308) ((Mod.refl _ w).drewN 1))
        clear hL
        go_upto_region 8 with fail
        go_region_held (fun W => W.cell? ⟨tb, 4, none⟩ = some (.slice (some ⟨lb, 0, none⟩) (N + 1) (N + 1)) ∧ W.cell? ⟨tb, 3, none⟩ = some (.int .i64 0)) (first | exact ⟨hl, h3⟩ | exact ⟨(World.cell?_setCells_out _ _ _ _ _ (fun e => absurd e hne)).trans hl, (World.cell?_setCells_out _ _ _ _ _ (fun e => absurd e hne)).trans h3⟩) (fail)
        all_goals go_wp2_with fail
        all_goals go_ret2
        all_goals exact ⟨by simp, hRA.out, hMod.out⟩
end Go.Proofs.YtfmemkninmpfjaaGreatDoor
