/- The sort of a row of ranges: its closure, its contract. -/
import Derived.Test.YtgkjpfebjhhdkaaDoorNr4
namespace Go.Proofs.YtgkjpfebjhhdkaaDoor
open Go.RowKit Go.Sort Go.Shelf
theorem cmp_lt (x y : Na.Rg) : ltOf (fun x y : Na.Rg => Lib.compareInt x.1 y.1) x y = decide (x.1 < y.1) := by
  unfold ltOf Lib.compareInt
  by_cases h1 : x.1 < y.1
  · simp [h1]
  · by_cases h2 : y.1 < x.1 <;> simp [h1, h2]
theorem cmp_swo : SWO (ltOf fun x y : Na.Rg => Lib.compareInt x.1 y.1) where
  irrefl x := by rw [cmp_lt]; simp
  trans x y z h1 h2 := by rw [cmp_lt] at *; simp at *; omega
  ntrans x y z h1 h2 := by rw [cmp_lt] at *; simp at *; omega
set_option maxHeartbeats 1000000 in
theorem nCmp (x y : Na.Rg) (W : World) : Calls Tryd.prog 69 #[.agg #[.int .i64 x.1, .int .i64 x.2], .agg #[.int .i64 y.1, .int .i64 y.2]] W fun e w' => e = .returned (.int .i64 (Lib.compareInt x.1 y.1)) ∧ ∃ q os', w' = grow (W.drewN q) os' := by
  have HC := hidA (fun W' => Tryd.cmp_Compare_int x.1 y.1 W')
  generalize Lib.compareInt x.1 y.1 = r at HC ⊢
  go_enter Tryd.func69, Tryd.ntmps69
  go_wp2_with (go_at_call 70; refine (HC.out _).mono ?_; rintro e w' ⟨rfl, rfl⟩)
  go_ret
  exact ⟨rfl, 0, _, by rw [alloc_eq_grow, alloc_eq_grow, grow_grow]; rfl⟩
theorem heap_mapBlock (w : World) (g : Nat) (f : Array Value → Array Value) (cur : Array Value) (T : TypeId) (fr : Nat × Nat) (h : w.heap[g]? = some (.cells cur T fr)) : (mapBlock w g f).heap[g]? = some (.cells (f cur) T fr) := by
  unfold mapBlock
  simp only [Array.getElem?_modify, if_true, h, Option.map_some]
  rfl
theorem heap_mapBlock_other (w : World) (g k : Nat) (f : Array Value → Array Value) (h : k ≠ g) : (mapBlock w g f).heap[k]? = w.heap[k]? := by
  unfold mapBlock
  simp [Array.getElem?_modify, Ne.symm h]
set_option maxRecDepth 100000 in
theorem nSort (rs : List Na.Rg) (w : World) (B g cap : Nat) (hr : Rw w g rs.length cap (fun j => rs.getD j (0, 0))) (hB : B ≤ g) (hn : rs.length < 4611686018427387904) :
    Calls Tryd.prog 68 #[.slice (some ⟨g, 0, none⟩) rs.length cap, .func (.func 69) #[] #[]] w fun e w' =>
      e = .returned (.tuple #[]) ∧ ∃ ds : List Na.Rg, ds.Perm rs ∧ ds.Pairwise (fun a b => a.1 ≤ b.1) ∧ Rw w' g rs.length cap (fun j => ds.getD j (0, 0)) ∧ Below B w w' := by
  have hlt := hr.lt
  have hr0 := hr
  obtain ⟨cur, hb⟩ := hr
  have eg : ∀ args w, (callFunc 69 args).run Tryd.prog w = .ok (.enter 69 args) w := enters_of Tryd.func69 (by kernel_rfl) rfl
  have hk : ∀ x : Na.Rg, (rC x).length = 2 := fun _ => rfl
  have hH : HoldsK rC 2 w g 0 rs.toArray := by
    intro t ht
    rw [size_flatK, List.size_toArray] at ht
    rw [get_flatK _ _ _ _ (by simpa using ht), Nat.zero_add]
    refine ⟨?_, hr0.fz t⟩
    have e3 : rs.toArray[t / 2]! = rs.getD (t / 2) (0, 0) := by
      rw [getElem!_pos _ _ (by simp; omega)]; simp [List.getD, show t / 2 < rs.length by omega]
    rw [e3]
    by_cases h2 : t % 2 = 0
    · have := hr0.lo (t / 2) (by omega)
      rw [show t / 2 * 2 = t by omega] at this
      rw [this, h2]; rfl
    · have := hr0.hi (t / 2) (by omega)
      rw [show t / 2 * 2 + 1 = t by omega] at this
      rw [this, show t % 2 = 1 by omega]; rfl
  have hcon := AnyQ.slices_SortFunc Tryd.sortR 2 Tryd.isAgg51 Tryd.sizeOf51 rC hk (fun x v hv => by simp [rC] at hv; rcases hv with rfl | rfl <;> rfl) (fun x y => Lib.compareInt x.1 y.1) cmp_swo 69 #[] g 0 cap rs.toArray w eg (fun _ _ _ _ x y => nCmp x y _) hH hlt (by simpa using hn)
  rw [List.size_toArray] at hcon
  refine Calls.mono hcon ?_
  rintro e w' ⟨rfl, d', m, os, hp, hs, rfl⟩
  obtain ⟨hsz0, -, hperm⟩ := hp
  have hsz : d'.size = rs.length := hsz0
  have e1 : d'.extract 0 rs.length = d' := by rw [← hsz]; simp
  have e2 : rs.toArray.extract 0 rs.length = rs.toArray := by
    have : rs.toArray.size = rs.length := by simp
    rw [← this]; simp
  rw [e1, e2] at hperm
  refine ⟨rfl, d'.toList, by simpa using hperm, ?_, ?_, ?_⟩
  · rw [List.pairwise_iff_getElem]
    intro i j hi hj hij
    have := hs i j (Nat.zero_le _) hij (by simp at hj; omega)
    rw [cmp_lt] at this
    have hi' : i < d'.size := by simpa using hi
    have hj' : j < d'.size := by simpa using hj
    rw [getElem!_pos d' i hi', getElem!_pos d' j hj'] at this
    simp at this ⊢
    exact this
  · have hh : (putRowK rC 2 (Sort.ahead w m) g 0 d').heap[g]? = some (.cells (putCells id 0 (flatK rC 2 d') cur) 51 (0, 0)) := heap_mapBlock (Sort.ahead w m) g _ cur _ _ hb.hg
    have hgl : (sortWorldK rC 2 w g 0 m d' os).heap[g]? = some (.cells (putCells id 0 (flatK rC 2 d') cur) 51 (0, 0)) := by
      show ((putRowK rC 2 (Sort.ahead w m) g 0 d').heap ++ os)[g]? = _
      rw [Array.getElem?_append_left (Array.getElem?_eq_some_iff.1 hh).1]; exact hh
    have hHK : HoldsK rC 2 (sortWorldK rC 2 w g 0 m d' os) g 0 d' := by
      refine holdsK_grow rC 2 _ os g 0 d' (Array.getElem?_eq_some_iff.1 hh).1 ?_
      exact holdsK_putRowK rC 2 (Sort.ahead w m) g 0 rs.toArray d' hH (by simp [hsz])
    have hD : ∀ j, j < rs.length → d'[j]! = d'.toList.getD j (0, 0) := fun j hj => by
      rw [getElem!_pos _ _ (by omega)]; simp [List.getD, show j < d'.size by omega]
    refine ⟨_, hgl, by simp [putCells]; exact hb.sz, hb.le, fun j hj => ?_, fun j hj => ?_⟩
    · have := (hHK.cell (i := j) (c := 0) (by omega) (by decide)).1
      rw [cell_of_heap hgl, Nat.zero_add, Nat.add_zero] at this
      rw [this, hD j hj]; rfl
    · have := (hHK.cell (i := j) (c := 1) (by omega) (by decide)).1
      rw [cell_of_heap hgl, Nat.zero_add] at this
      rw [this, hD j hj]; rfl
  · refine ⟨rfl, rfl, rfl, ?_, fun k hk => ?_⟩
    · show w.heap.size ≤ ((putRowK rC 2 (Sort.ahead w m) g 0 d').heap ++ os).size
      have : (putRowK rC 2 (Sort.ahead w m) g 0 d').heap.size = w.heap.size := by simp [putRowK, putRow, mapBlock, Sort.ahead]
      rw [Array.size_append, this]; omega
    · show ((putRowK rC 2 (Sort.ahead w m) g 0 d').heap ++ os)[k]? = _
      have : (putRowK rC 2 (Sort.ahead w m) g 0 d').heap.size = w.heap.size := by simp [putRowK, putRow, mapBlock, Sort.ahead]
      rw [Array.getElem?_append_left (by omega)]
      exact heap_mapBlock_other (Sort.ahead w m) g k _ (by omega)
end Go.Proofs.YtgkjpfebjhhdkaaDoor
