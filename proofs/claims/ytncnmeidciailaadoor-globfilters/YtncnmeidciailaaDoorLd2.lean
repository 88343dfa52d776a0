/- The walk of the program's lost. Conditions: a text that fits; the reader lies in memory. -/
import Derived.Test.YtncnmeidciailaaDoorLd1
namespace Go.Proofs.YtncnmeidciailaaDoor
open Go.RowKit
attribute [local go_sem] ext_eq app_eq get_eq
/-- The places that were seen, by name. -/
def SeenN (W : World) (l : List UInt8) (sb : Option Nat) (sv : Value) (sn : Nat → Bool) : Prop :=
  match sb with
  | none => sv = .slice none 0 0 ∧ ∀ q, sn q = false
  | some b => ∃ (arr : Array Value) (cap : Nat), sv = .slice (some ⟨b, 0, none⟩) l.length cap ∧ W.heap[b]? = some (.cells arr 4 (0, 0)) ∧ arr.size = l.length ∧ ∀ q, q < l.length → arr[q]? = some (.bool (sn q))
/-- The reader, its seen places by name. -/
def RN (W : World) (rb : Nat) (l : List UInt8) (fl : Int) (sb : Option Nat) (sn : Nat → Bool) : Prop :=
  ∃ sv, W.heap[rb]? = some (.cells #[.string ⟨l.toArray⟩, .int .i64 fl, sv] 82 (0, 0)) ∧ SeenN W l sb sv sn
def updS (sn : Nat → Bool) (q : Nat) : Nat → Bool := fun j => if j = q then true else sn j
theorem heap_set2 (W : World) (b : Nat) (x0 x1 x2 v : Value) (T : TypeId) (h : W.heap[b]? = some (.cells #[x0, x1, x2] T (0, 0))) : (W.setCell ⟨b, 2, none⟩ v).heap[b]? = some (.cells #[x0, x1, v] T (0, 0)) := by
  show (W.heap.modify b _)[b]? = _
  rw [Array.getElem?_modify, if_pos rfl, h]
  rfl
theorem heap_setq (W : World) (b q : Nat) (arr : Array Value) (v : Value) (T : TypeId) (h : W.heap[b]? = some (.cells arr T (0, 0))) : (W.setCell ⟨b, q, none⟩ v).heap[b]? = some (.cells (arr.setIfInBounds q v) T (0, 0)) := by
  show (W.heap.modify b _)[b]? = _
  rw [Array.getElem?_modify, if_pos rfl, h]
  rfl
theorem infoBool : ∃ i, Tryd.prog.info? 4 = some i ∧ i.zero = some (.bool false) ∧ i.size = 1 ∧ i.bytes = 1 := info_of (by kernel_rfl)
theorem mk_bools (n : Nat) (hn : n ≤ 140737488355328) (w : World) : (Instr.makeSlice 54 (.int .i64 n) (.int .i64 n)).run Tryd.prog w = .ok (.slice (some ⟨w.heap.size, 0, none⟩) n n) (w.alloc (.cells (madeCells #[.bool false] n) 4)) := by
  obtain ⟨i, hi, hz, hs, hb⟩ := infoBool
  have h := run_make (P := Tryd.prog) w 54 4 i _ Tryd.underlying54 hi hz .i64 .i64 n n (by omega) (by omega) (by rw [hb]; omega) (by omega)
  rw [hs] at h
  simpa [Value.cells] using h
theorem made_q (n q : Nat) (hq : q < n) : (madeCells #[.bool false] n)[q]? = some (.bool false) := by simp [madeCells, hq, Nat.mod_one]
theorem bin_some (a : Addr) (n c : Nat) (w : World) : (binOp .eql 54 (.slice (some a) n c) (.slice none 0 0)).run Tryd.prog w = .ok (.bool false) w := by kernel_rfl
theorem bin_none (w : World) : (binOp .eql 54 (.slice none 0 0) (.slice none 0 0)).run Tryd.prog w = .ok (.bool true) w := by kernel_rfl
set_option maxRecDepth 100000 in
set_option maxHeartbeats 1000000 in
theorem gLost (rb : Nat) (l : List UInt8) (fl : Int) (sb : Option Nat) (sn : Nat → Bool) (q : Nat) (hq : q < l.length) (hl : l.length ≤ 2 ^ 40) (w : World) (h : RN w rb l fl sb sn) : Calls Tryd.prog 95 #[.pointer (some ⟨rb, 0, none⟩), .int .i64 q] w fun e w' => e = .returned (.bool (sn q)) ∧ Md (sR rb sb) w w' ∧ ∃ sb', sbNew w sb sb' ∧ RN w' rb l fl sb' (updS sn q) := by
  have hs : (⟨l.toArray⟩ : ByteArray).size = l.length := str_size l
  obtain ⟨sv, hr, hsn⟩ := h
  have hrb := heap_lt hr
  have c0 : w.cell? ⟨rb, 0, none⟩ = some (.string ⟨l.toArray⟩) := by rw [cell_heap hr]; rfl
  have c2 : w.cell? ⟨rb, 2, none⟩ = some sv := by rw [cell_heap hr]; rfl
  have hf : ∀ j, w.frozen? ⟨rb, j, none⟩ = false := fun j => by simp [World.frozen?, hr]
  have HR := hidA hr
  clear hr
  cases sb with
  | some b =>
    obtain ⟨arr, cap, rfl, hb, hsz, hall⟩ := hsn
    have cq : w.cell? ⟨b, q, none⟩ = some (.bool (sn q)) := by rw [cell_heap hb]; exact hall q hq
    have hfb : ∀ j, w.frozen? ⟨b, j, none⟩ = false := fun j => by simp [World.frozen?, hb]
    have hne : rb ≠ b := heap_ne HR.out hb (by decide)
    have HB := hidA hb
    have HA := hidA hall
    have hbl := heap_lt hb
    have hbin := fun w => bin_some ⟨b, 0, none⟩ l.length cap w
    clear hb hall
    go_enter Tryd.func95, Tryd.ntmps95
    go_wp2
    go_ret
    have hM : Md (sR rb (some b)) w (w.setCell ⟨b, q, none⟩ (.bool true)) := (Md.refl _ _).setCell _ _ (.inl (.inr rfl))
    refine ⟨rfl, hM, some b, .inl rfl, _, (Below.heap_setCell _ _ _ _ hne).trans HR.out, arr.setIfInBounds q (.bool true), cap, rfl, heap_setq _ _ _ _ _ _ HB.out, by simp [hsz], fun j hj => ?_⟩
    unfold updS
    rw [Array.getElem?_setIfInBounds]
    by_cases e : j = q
    · subst e; rw [if_pos rfl, if_pos rfl, if_pos (by omega)]
    · rw [if_neg (fun h => e h.symm), if_neg e]; exact HA.out j hj
  | none =>
    obtain ⟨rfl, hno⟩ := hsn
    have HN := hidA hno
    have hbin := fun w => bin_none w
    have hmk := mk_bools l.length (by omega) w
    have hAs : (madeCells #[.bool false] l.length).size = l.length := size_madeCells _ _
    have hAq := made_q l.length
    clear hno
    generalize madeCells #[Value.bool false] l.length = A at *
    have hcq : ∀ v, ((w.setCell ⟨rb, 2, none⟩ v).alloc (.cells A 4)).cell? ⟨w.heap.size, q, none⟩ = some (.bool false) := fun v => by
      rw [World.cell?_alloc_at _ _ _ _ (by simp [World.setCell])]; exact hAq q hq
    have hfq : ∀ v, ((w.setCell ⟨rb, 2, none⟩ v).alloc (.cells A 4)).frozen? ⟨w.heap.size, q, none⟩ = false := fun v => World.frozen?_alloc_at _ _ _ _ (by simp [World.setCell])
    have HAs := hidA hAs
    have HAq := hidA hAq
    clear hAs hAq
    go_enter Tryd.func95, Tryd.ntmps95
    go_wp2
    go_ret
    obtain ⟨A', hA'⟩ : ∃ A', A.setIfInBounds q (.bool true) = A' := ⟨_, rfl⟩
    rw [hA']
    have hh : ∀ v (g : Nat), g < w.heap.size → ((w.setCell ⟨rb, 2, none⟩ v).alloc (.cells A' 4)).heap[g]? = (w.setCell ⟨rb, 2, none⟩ v).heap[g]? := fun v g hg => Below.heap_alloc _ _ _ (by simp [World.setCell]; exact hg)
    have hnew : ∀ v, ((w.setCell ⟨rb, 2, none⟩ v).alloc (.cells A' 4)).heap[w.heap.size]? = some (.cells A' 4 (0, 0)) := fun v => by
      have := heap_new (w.setCell ⟨rb, 2, none⟩ v) (.cells A' 4)
      simpa [World.setCell] using this
    refine ⟨by rw [HN.out q]; rfl, ((Md.refl _ w).setCell _ _ (.inl (.inl rfl))).alloc _, some w.heap.size, .inr ⟨rfl, _, rfl, Nat.le_refl _⟩, _, (hh _ rb hrb).trans (heap_set2 _ _ _ _ _ _ _ HR.out), A', l.length, rfl, hnew _, by rw [← hA']; simp [HAs.out], fun j hj => ?_⟩
    unfold updS
    rw [← hA', Array.getElem?_setIfInBounds]
    by_cases e : j = q
    · subst e; rw [if_pos rfl, if_pos rfl, if_pos (by rw [HAs.out]; exact hj)]
    · rw [if_neg (fun h => e h.symm), if_neg e, HN.out j]; exact HAq.out j hj
end Go.Proofs.YtncnmeidciailaaDoor
