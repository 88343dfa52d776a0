/- A slice of slots is built: the law. Condition: each slot has 32 cells. -/
import Derived.Test.YtfmemkninmpfjaaGreatDoorDrb
namespace Go.Proofs.YtfmemkninmpfjaaGreatDoor
open Go.RowKit
theorem fold_off (off : Nat) : ∀ (ws : List Value) (k : Nat) (A : Array Value) (i : Nat), off + k + ws.length ≤ A.size → ((ws.zipIdx k).foldl (fun cs x => cs.setIfInBounds (off + x.snd) x.fst) A)[i]? = if off + k ≤ i ∧ i < off + k + ws.length then ws[i - (off + k)]? else A[i]?
  | [], k, A, i, _ => by rw [if_neg (by simp only [List.length_nil]; omega)]; rfl
  | v :: ws, k, A, i, h => by
    simp only [List.length_cons] at h
    rw [List.zipIdx_cons, List.foldl_cons, fold_off off ws (k + 1) _ i (by simp; omega)]
    by_cases h1 : off + (k + 1) ≤ i ∧ i < off + (k + 1) + ws.length
    · rw [if_pos h1, if_pos (by simp; omega), show i - (off + k) = (i - (off + (k + 1))) + 1 by omega, List.getElem?_cons_succ]
    · rw [if_neg h1]
      by_cases h2 : i = off + k
      · subst h2
        rw [if_pos (by simp), Array.getElem?_setIfInBounds_self_of_lt (by omega), Nat.sub_self]; rfl
      · rw [if_neg (by simp; omega), Array.getElem?_setIfInBounds_ne (by omega)]
theorem fold_off_size (off : Nat) : ∀ (ws : List Value) (k : Nat) (A : Array Value), ((ws.zipIdx k).foldl (fun cs x => cs.setIfInBounds (off + x.snd) x.fst) A).size = A.size
  | [], _, _ => rfl
  | v :: ws, k, A => by rw [List.zipIdx_cons, List.foldl_cons, fold_off_size off ws]; simp
/-- One slot laid over a row of cells. -/
theorem fill_one (off : Nat) (L : List Value) (A : Array Value) : (L.toArray.zipIdx.foldl (fun cs x => cs.setIfInBounds (off + x.2) x.1) A) = (L.zipIdx.foldl (fun cs x => cs.setIfInBounds (off + x.snd) x.fst) A) := by
  rw [← Array.foldl_toList]; simp
theorem undSl : Tryz.prog.underlying 168 = some (.slice 109) := by kernel_rfl
theorem infSl : ∃ i, Tryz.prog.info? 109 = some i ∧ i.zero = some (.agg zeroSl) ∧ i.size = 32 ∧ i.bytes = 32 := info_of (by kernel_rfl)
/-- The cells of built slots. -/
def Built (C : Array Value) (Ls : List (List Value)) : Prop := C.size = 32 * Ls.length ∧ ∀ (k : Nat) L, Ls[k]? = some L → ∀ j, j < 32 → C[k * 32 + j]? = L[j]?
theorem zrow (m : Nat) : ((Array.range (m * 32)).map (zeroSl[· % zeroSl.size]!)).size = m * 32 := by simp
theorem agg_cells (L : List Value) : (Value.agg L.toArray).cells = L.toArray := by simp [Value.cells]
theorem build_run (m : Nat) (hm : m = 1 ∨ m = 2) (parts : Array (Nat × Value)) (C : Array Value) (w : World)
    (hf : Instr.fill (fun i => some (i * 32, 32)) ((Array.range (m * 32)).map (zeroSl[· % zeroSl.size]!)) parts.toList = some C) :
    (Instr.buildSlice 168 m parts).run Tryz.prog w = .ok (.slice (some ⟨w.heap.size, 0, none⟩) m m) (w.alloc (.cells C 109)) := by
  obtain ⟨i, hi, hz, hsz, hb⟩ := infSl
  have hso : (sizeOf 109).run Tryz.prog w = .ok 32 w := by simp [sizeOf, typeInfo, hi, hsz]
  have hzv := zvSl w
  have h1 : ¬ m * 32 > 2 ^ 24 := by rcases hm with rfl | rfl <;> decide
  have h2 : ¬ m * 32 = 0 := by rcases hm with rfl | rfl <;> decide
  have hnr : (newRow 109 C).run Tryz.prog w = .ok ⟨w.heap.size, 0, none⟩ (w.alloc (.cells C 109)) := by simp [newRow]
  unfold Instr.buildSlice
  simp only [Sem.run_bind, run_underlying undSl, Result.andThen_ok, hso, h1, h2, if_false, hzv, Sem.run_pure, show (Value.agg zeroSl).cells = zeroSl from rfl, hf, hnr]
theorem build1 (L : List Value) (hl : L.length = 32) (w : World) : ∃ C, Built C [L] ∧ (Instr.buildSlice 168 1 #[(0, .agg L.toArray)]).run Tryz.prog w = .ok (.slice (some ⟨w.heap.size, 0, none⟩) 1 1) (w.alloc (.cells C 109)) := by
  obtain ⟨Z, hZ⟩ : ∃ Z, Z = (Array.range (1 * 32)).map (zeroSl[· % zeroSl.size]!) := ⟨_, rfl⟩
  have hzs : Z.size = 32 := by rw [hZ, zrow]
  refine ⟨L.zipIdx.foldl (fun cs x => cs.setIfInBounds (0 + x.snd) x.fst) Z, ⟨?_, ?_⟩, build_run 1 (.inl rfl) _ _ w ?_⟩
  · rw [fold_off_size, hzs]; rfl
  · intro k M hk j hj
    cases k with
    | succ k => simp at hk
    | zero =>
      obtain rfl : L = M := by simpa using hk
      rw [fold_off 0 L 0 _ _ (by rw [hl, hzs]; omega), if_pos (by rw [hl]; omega)]
      congr 1; omega
  · rw [← hZ]
    simp only [Instr.fill, agg_cells, List.size_toArray, hl, hzs, fill_one, Nat.zero_mul]
    simp
theorem build2 (L M : List Value) (hl : L.length = 32) (hm : M.length = 32) (w : World) : ∃ C, Built C [L, M] ∧ (Instr.buildSlice 168 2 #[(0, .agg L.toArray), (1, .agg M.toArray)]).run Tryz.prog w = .ok (.slice (some ⟨w.heap.size, 0, none⟩) 2 2) (w.alloc (.cells C 109)) := by
  obtain ⟨Z, hZ⟩ : ∃ Z, Z = (Array.range (2 * 32)).map (zeroSl[· % zeroSl.size]!) := ⟨_, rfl⟩
  have hzs : Z.size = 64 := by rw [hZ, zrow]
  have hy : (L.zipIdx.foldl (fun cs x => cs.setIfInBounds (0 + x.snd) x.fst) Z).size = 64 := by rw [fold_off_size, hzs]
  refine ⟨M.zipIdx.foldl (fun cs x => cs.setIfInBounds (1 * 32 + x.snd) x.fst) (L.zipIdx.foldl (fun cs x => cs.setIfInBounds (0 + x.snd) x.fst) Z), ⟨?_, ?_⟩, build_run 2 (.inr rfl) _ _ w ?_⟩
  · rw [fold_off_size, hy]; rfl
  · intro k K hk j hj
    match k, hk with
    | 0, hk =>
      obtain rfl : L = K := by simpa using hk
      rw [fold_off (1 * 32) M 0 _ _ (by rw [hm, hy]; omega), if_neg (by rw [hm]; omega), fold_off 0 L 0 _ _ (by rw [hl, hzs]; omega), if_pos (by rw [hl]; omega)]
      congr 1; omega
    | 1, hk =>
      obtain rfl : M = K := by simpa using hk
      rw [fold_off (1 * 32) M 0 _ _ (by rw [hm, hy]; omega), if_pos (by rw [hm]; omega)]
      congr 1; omega
  · rw [← hZ]
    simp only [Instr.fill, agg_cells, List.size_toArray, hl, hm, hzs, fill_one, Nat.zero_mul, hy]
    simp
theorem wpList_buildSlice {P : Program} {ops : Array Oper} {rest : List Oper} {op : Oper} {a : Act} {w w' : World} {Q : Exit → Act → World → Prop} (hgd : op.guard = none) (ty : TypeId) (m : Nat) (parts : Array (Nat × Operand)) (ho : op.op = .buildSlice ty m parts) (ps : Array (Nat × Value)) (hp : (parts.map fun (i, x) => (i, a.eval x)) = ps) (v : Value)
    (hr : (Instr.buildSlice ty m ps).run P w = .ok v w') (h : wpList P ops Q rest (a.put op.dst v) w') : wpList P ops Q (op :: rest) a w :=
  wpList_plain hgd fun K hK => by
    unfold Oper.wp execOp
    simp only [ho, hp, Sem.run_bind, hr, Result.andThen_ok, Sem.run_pure]
    exact hK _ _ h
end Go.Proofs.YtfmemkninmpfjaaGreatDoor
