/- The walk of the program's read: a spec's letters. Condition: a length that fits. -/
import Derived.Test.YtgbkgfmljcfhoaaGa3
namespace Go.Proofs.Ytgbkgfmljcfhoaa
open Go.RowKit
attribute [local go_sem] ext_eq app_eq get_eq
theorem take_get (l : List UInt8) (k : Nat) (h : k < l.length) : l.take (k + 1) = l.take k ++ [l[k]] := List.take_succ_eq_append_getElem h
theorem dec_low (l : List UInt8) (pos : Nat) (hp : pos < l.length) (hc : l[pos].toNat < 128) : Utf8.decode ⟨l.toArray⟩ pos = (l[pos].toNat, 1) := decode_ascii ⟨l.toArray⟩ pos (by simpa [ByteArray.size] using hp) hc
theorem dec_high (l : List UInt8) (pos : Nat) (hp : pos < l.length) (hc : 128 ≤ l[pos].toNat) : 128 ≤ (Utf8.decode ⟨l.toArray⟩ pos).1 ∧ 1 ≤ (Utf8.decode ⟨l.toArray⟩ pos).2 := decode_high ⟨l.toArray⟩ pos (by simpa [ByteArray.size] using hp) hc
/-- The letters that are being read: the result's cells in block B, the letters in B + 1, the range's place in B + 1 + 1. -/
structure Rdr (w : World) (B : Nat) (W : World) (st : Bool) (l : List UInt8) (i : Nat) (al tk : List UInt8) : Prop where
  bel : Below B w W
  it : W.heap[B + 1 + 1]? = some (.stringIter ⟨l.toArray⟩ i)
  c0 : W.cell? ⟨B + 1, 0, none⟩ = some (.bool st)
  c1 : W.cell? ⟨B + 1, 1, none⟩ = some (.string ⟨al.toArray⟩)
  c2 : W.cell? ⟨B + 1, 2, none⟩ = some (.string ⟨tk.toArray⟩)
  f1 : ∀ o, W.frozen? ⟨B + 1, o, none⟩ = false
  r0 : W.cell? ⟨B, 0, none⟩ = some (.bool false)
  r1 : W.cell? ⟨B, 1, none⟩ = some (.string ⟨#[]⟩)
  r2 : W.cell? ⟨B, 2, none⟩ = some (.string ⟨#[]⟩)
  f0 : ∀ o, W.frozen? ⟨B, o, none⟩ = false
theorem sc_in {W : World} {p : Addr} {u v : Value} (h : W.cell? p = some u) : (W.setCell p v).cell? p = some v := World.cell?_setCell_same _ _ _ h
theorem sc_out {W : World} {p q : Addr} {v : Value} (h : p ≠ q) : (W.setCell p v).cell? q = W.cell? q := World.cell?_setCell_other _ _ _ _ h
def itPos (W : World) (k : Nat) : Nat := match W.heap[k]? with
  | some (.stringIter _ p) => p
  | _ => 0
theorem itPos_eq {W : World} {k : Nat} {s : ByteArray} {p : Nat} (h : W.heap[k]? = some (.stringIter s p)) : itPos W k = p := by unfold itPos; rw [h]
theorem al3_c1 (w : World) (L0 L1 : Array Value) (T0 T1 : TypeId) (o : Obj) (j : Nat) : (((w.alloc (.cells L0 T0)).alloc (.cells L1 T1)).alloc o).cell? ⟨w.heap.size + 1, j, none⟩ = L1[j]? := by
  rw [World.cell?_alloc_past _ _ _ (by simp), World.cell?_alloc_at _ _ _ _ (by simp)]
theorem al3_c0 (w : World) (L0 L1 : Array Value) (T0 T1 : TypeId) (o : Obj) (j : Nat) : (((w.alloc (.cells L0 T0)).alloc (.cells L1 T1)).alloc o).cell? ⟨w.heap.size, j, none⟩ = L0[j]? := by
  rw [World.cell?_alloc_past _ _ _ (by simp; omega), World.cell?_alloc_past _ _ _ (by simp), World.cell?_alloc_at _ _ _ _ rfl]
theorem al3_f1 (w : World) (L0 L1 : Array Value) (T0 T1 : TypeId) (o : Obj) (j : Nat) : (((w.alloc (.cells L0 T0)).alloc (.cells L1 T1)).alloc o).frozen? ⟨w.heap.size + 1, j, none⟩ = false := by
  rw [World.frozen?_alloc_past _ _ _ (by simp), World.frozen?_alloc_at _ _ _ _ (by simp)]
theorem al3_f0 (w : World) (L0 L1 : Array Value) (T0 T1 : TypeId) (o : Obj) (j : Nat) : (((w.alloc (.cells L0 T0)).alloc (.cells L1 T1)).alloc o).frozen? ⟨w.heap.size, j, none⟩ = false := by
  rw [World.frozen?_alloc_past _ _ _ (by simp; omega), World.frozen?_alloc_past _ _ _ (by simp), World.frozen?_alloc_at _ _ _ _ rfl]
theorem iter_lt {W : World} {k : Nat} {o : Obj} (h : W.heap[k]? = some o) : k < W.heap.size := (Array.getElem?_eq_some_iff.1 h).1
theorem Rdr.grow {w W W' : World} {B : Nat} {st : Bool} {l : List UInt8} {i : Nat} {al tk : List UInt8} (h : Rdr w B W st l i al tk) (hB : Below W.heap.size W W') : Rdr w B W' st l i al tk := by
  have hlt := iter_lt h.it
  have e1 : W'.heap[B + 1]? = W.heap[B + 1]? := hB.block _ (by omega)
  have e0 : W'.heap[B]? = W.heap[B]? := hB.block _ (by omega)
  have e2 : W'.heap[B + 1 + 1]? = W.heap[B + 1 + 1]? := hB.block _ (by omega)
  exact ⟨h.bel.trans (hB.mono (by omega)), e2.trans h.it, (World.cell?_of_block (a := ⟨B + 1, 0, none⟩) e1).trans h.c0, (World.cell?_of_block (a := ⟨B + 1, 1, none⟩) e1).trans h.c1, (World.cell?_of_block (a := ⟨B + 1, 2, none⟩) e1).trans h.c2,
    fun o => (World.frozen?_of_block (a := ⟨B + 1, o, none⟩) e1).trans (h.f1 o), (World.cell?_of_block (a := ⟨B, 0, none⟩) e0).trans h.r0, (World.cell?_of_block (a := ⟨B, 1, none⟩) e0).trans h.r1, (World.cell?_of_block (a := ⟨B, 2, none⟩) e0).trans h.r2, fun o => (World.frozen?_of_block (a := ⟨B, o, none⟩) e0).trans (h.f0 o)⟩
theorem Rdr.next {w W : World} {B : Nat} {st : Bool} {l : List UInt8} {i : Nat} {al tk : List UInt8} (h : Rdr w B W st l i al tk) (k : Nat) : Rdr w B (W.iterAt (B + 1 + 1) ⟨l.toArray⟩ k) st l k al tk := by
  have e1 : (W.iterAt (B + 1 + 1) ⟨l.toArray⟩ k).heap[B + 1]? = W.heap[B + 1]? := Lib.iterAt_other _ _ _ _ _ (by omega)
  have e0 : (W.iterAt (B + 1 + 1) ⟨l.toArray⟩ k).heap[B]? = W.heap[B]? := Lib.iterAt_other _ _ _ _ _ (by omega)
  exact ⟨Lib.below_iterAt h.bel (by omega) _ _, Lib.iterAt_heap _ _ _ _ _ h.it, (World.cell?_of_block (a := ⟨B + 1, 0, none⟩) e1).trans h.c0, (World.cell?_of_block (a := ⟨B + 1, 1, none⟩) e1).trans h.c1, (World.cell?_of_block (a := ⟨B + 1, 2, none⟩) e1).trans h.c2,
    fun o => (World.frozen?_of_block (a := ⟨B + 1, o, none⟩) e1).trans (h.f1 o), (World.cell?_of_block (a := ⟨B, 0, none⟩) e0).trans h.r0, (World.cell?_of_block (a := ⟨B, 1, none⟩) e0).trans h.r1, (World.cell?_of_block (a := ⟨B, 2, none⟩) e0).trans h.r2, fun o => (World.frozen?_of_block (a := ⟨B, o, none⟩) e0).trans (h.f0 o)⟩
theorem Rdr.set1 {w W : World} {B : Nat} {st : Bool} {l : List UInt8} {i : Nat} {al tk : List UInt8} (h : Rdr w B W st l i al tk) (x : List UInt8) : Rdr w B (W.setCell ⟨B + 1, 1, none⟩ (.string ⟨x.toArray⟩)) st l i x tk := by
  have e0 : (W.setCell ⟨B + 1, 1, none⟩ (.string ⟨x.toArray⟩)).heap[B]? = W.heap[B]? := Below.heap_setCell _ _ _ _ (show B ≠ B + 1 by omega)
  have e2 : (W.setCell ⟨B + 1, 1, none⟩ (.string ⟨x.toArray⟩)).heap[B + 1 + 1]? = W.heap[B + 1 + 1]? := Below.heap_setCell _ _ _ _ (show B + 1 + 1 ≠ B + 1 by omega)
  exact ⟨h.bel.setCell (by simp) _ , e2.trans h.it, (sc_out (by simp)).trans h.c0, sc_in h.c1, (sc_out (by simp)).trans h.c2, fun o => by simp [h.f1 o],
    (World.cell?_of_block (a := ⟨B, 0, none⟩) e0).trans h.r0, (World.cell?_of_block (a := ⟨B, 1, none⟩) e0).trans h.r1, (World.cell?_of_block (a := ⟨B, 2, none⟩) e0).trans h.r2, fun o => (World.frozen?_of_block (a := ⟨B, o, none⟩) e0).trans (h.f0 o)⟩
theorem Rdr.set2 {w W : World} {B : Nat} {st : Bool} {l : List UInt8} {i : Nat} {al tk : List UInt8} (h : Rdr w B W st l i al tk) (x : List UInt8) : Rdr w B (W.setCell ⟨B + 1, 2, none⟩ (.string ⟨x.toArray⟩)) st l i al x := by
  have e0 : (W.setCell ⟨B + 1, 2, none⟩ (.string ⟨x.toArray⟩)).heap[B]? = W.heap[B]? := Below.heap_setCell _ _ _ _ (show B ≠ B + 1 by omega)
  have e2 : (W.setCell ⟨B + 1, 2, none⟩ (.string ⟨x.toArray⟩)).heap[B + 1 + 1]? = W.heap[B + 1 + 1]? := Below.heap_setCell _ _ _ _ (show B + 1 + 1 ≠ B + 1 by omega)
  exact ⟨h.bel.setCell (by simp) _ , e2.trans h.it, (sc_out (by simp)).trans h.c0, (sc_out (by simp)).trans h.c1, sc_in h.c2, fun o => by simp [h.f1 o],
    (World.cell?_of_block (a := ⟨B, 0, none⟩) e0).trans h.r0, (World.cell?_of_block (a := ⟨B, 1, none⟩) e0).trans h.r1, (World.cell?_of_block (a := ⟨B, 2, none⟩) e0).trans h.r2, fun o => (World.frozen?_of_block (a := ⟨B, o, none⟩) e0).trans (h.f0 o)⟩
theorem alP_len (l : List UInt8) : ∀ i, (Ga.alP l i).length ≤ i
  | 0 => by simp [Ga.alP]
  | i + 1 => by
    have := alP_len l i
    rw [Ga.alP]
    split
    · omega
    · split <;> simp <;> omega
theorem tkP_len (l : List UInt8) : ∀ i, (Ga.tkP l i).length ≤ i
  | 0 => by simp [Ga.tkP]
  | i + 1 => by
    have := tkP_len l i
    rw [Ga.tkP]
    split
    · omega
    · split <;> simp <;> omega
theorem alP_succ (l : List UInt8) (i : Nat) (h : i < l.length) : Ga.alP l (i + 1) = if l[i] = 58 ∨ l[i + 1]? = some 58 then Ga.alP l i else Ga.alP l i ++ [l[i]] := by
  rw [Ga.alP, List.getElem?_eq_getElem h]
theorem tkP_succ (l : List UInt8) (i : Nat) (h : i < l.length) : Ga.tkP l (i + 1) = if l[i] ≠ 58 ∧ l[i + 1]? = some 58 then Ga.tkP l i ++ [l[i]] else Ga.tkP l i := by
  rw [Ga.tkP, List.getElem?_eq_getElem h]
theorem letB_high {c : Int} (h : 128 ≤ c) : Ga.letB c = false := by
  unfold Ga.letB
  rw [decide_eq_false (show ¬ c ≤ 122 by omega), decide_eq_false (show ¬ c ≤ 90 by omega), decide_eq_false (show ¬ c ≤ 57 by omega)]
  simp
theorem letB_58 : Ga.letB 58 = false := by decide
theorem hp58 (l : List UInt8) : Lib.hasPrefix l [58] = decide (l.head? = some 58) := by
  cases l with
  | nil => simp [Lib.hasPrefix]
  | cons c r => 
    by_cases h : c = 58
    · subst h; simp [Lib.hasPrefix]
    · have h' : ¬ (58 : UInt8) = c := fun e => h e.symm
      simp [Lib.hasPrefix, h, List.isPrefixOf, h']
theorem knd_ne (l : List UInt8) (i : Nat) (h : i < l.length) (hc : ¬ l[i] = 58) : (Ga.knd (Ga.alP l i) (Ga.tkP l i) l[i] = none) ↔ (l.take i).contains l[i] = false := by
  have hm := Ga.mem_both l l[i] hc i
  rw [← Bool.not_eq_true, List.contains_iff_mem, ← hm]
  unfold Ga.knd
  by_cases h1 : l[i] ∈ Ga.alP l i
  · simp [h1]
  · by_cases h2 : l[i] ∈ Ga.tkP l i
    · simp [h1, h2]
    · simp [h1, h2]
/-- The letters of a spec, as read tells them. -/
def rdV (st : Bool) (l : List UInt8) : Value := if Ga.specB l then ltV st (Ga.alP l l.length) (Ga.tkP l l.length) else ltV false [] []
theorem rdV_no {st : Bool} {l : List UInt8} (h : Ga.specB l = false) : rdV st l = .agg #[.bool false, .string ⟨#[]⟩, .string ⟨#[]⟩] := by unfold rdV; rw [h]; rfl
theorem rdV_ok {st : Bool} {l : List UInt8} (h : Ga.specB l = true) : rdV st l = .agg #[.bool st, .string ⟨(Ga.alP l l.length).toArray⟩, .string ⟨(Ga.tkP l l.length).toArray⟩] := by unfold rdV; rw [h]; rfl
set_option maxRecDepth 100000 in
set_option maxHeartbeats 4000000 in
theorem gRead (spec : List UInt8) (w : World) (hs : spec.length ≤ 2 ^ 47) : Calls Try.prog 26 #[.string ⟨spec.toArray⟩] w fun e w' =>
    e = .returned (.tuple #[rdV (Ga.plus spec) (Ga.bare spec), .bool (Ga.specB (Ga.bare spec))]) ∧ Below w.heap.size w w' := by
  have HC : Hid (∀ W, Calls Try.prog 36 #[.string ⟨spec.toArray⟩, .string ⟨#[43]⟩] W fun e w' => e = .returned (.tuple #[.string ⟨(Ga.bare spec).toArray⟩, .bool (Ga.plus spec)]) ∧ w' = W) := by
    intro W
    have h := Try.strings_CutPrefix ⟨spec.toArray⟩ ⟨#[43]⟩ W
    have e1 : Lib.hasPrefix spec [43] = Ga.plus spec := by
      cases spec with
      | nil => rfl
      | cons c r => rw [Bool.eq_iff_iff]; simp [Lib.hasPrefix, Ga.plus, List.isPrefixOf]; exact ⟨Eq.symm, Eq.symm⟩
    have e2 : Lib.trimPrefix spec [43] = Ga.bare spec := by
      unfold Lib.trimPrefix Ga.bare
      rw [e1]
      cases spec with
      | nil => rfl
      | cons c r => by_cases hc : c = 43 <;> simp [Ga.plus, hc]
    have e3 : (⟨#[43]⟩ : ByteArray).data.toList = [43] := rfl
    have e4 : (⟨spec.toArray⟩ : ByteArray).data.toList = spec := rfl
    rw [e3, e4, e1, e2] at h
    exact h
  have hbl : (Ga.bare spec).length ≤ 2 ^ 47 := by unfold Ga.bare; split <;> simp <;> omega
  generalize Ga.bare spec = l at *
  generalize Ga.plus spec = st at *
  have H0 : Hid (∀ W : World, W = ((w.alloc (.cells #[.bool false, .string ⟨#[]⟩, .string ⟨#[]⟩] 53)).alloc (.cells #[.bool st, .string ⟨#[]⟩, .string ⟨#[]⟩] 53)).iter ⟨l.toArray⟩ 0 → Rdr w w.heap.size W st l 0 [] []) := by
    intro W e
    subst e
    refine ⟨(((Below.refl _ _).alloc (Nat.le_refl _) _).alloc (by simp) _).alloc (by simp; omega) _, ?_, al3_c1 _ _ _ _ _ _ _, al3_c1 _ _ _ _ _ _ _, al3_c1 _ _ _ _ _ _ _, al3_f1 _ _ _ _ _ _, al3_c0 _ _ _ _ _ _ _, al3_c0 _ _ _ _ _ _ _, al3_c0 _ _ _ _ _ _ _, al3_f0 _ _ _ _ _ _⟩
    have := World.iter_heap ((w.alloc (.cells #[.bool false, .string ⟨#[]⟩, .string ⟨#[]⟩] 53)).alloc (.cells #[.bool st, .string ⟨#[]⟩, .string ⟨#[]⟩] 53)) ⟨l.toArray⟩ 0
    simpa using this
  go_enter Try.func26, Try.ntmps26
  go_wp2_with fail
  refine (HC.out _).mono ?_
  rintro e w1 ⟨rfl, hw1⟩
  rw [hw1]
  clear hw1 w1
  go_wp2_with fail
  go_loopw [7] (fun _ W => ∃ i : Nat, i ≤ l.length ∧ Hid (Rdr w w.heap.size W st l i (Ga.alP l i) (Ga.tkP l i)) ∧ Hid (okTo l i)) (fun _ W => l.length - itPos W (w.heap.size + 1 + 1))
  case atStart => exact ⟨0, Nat.zero_le _, H0.out _ rfl, fun j hj => by omega⟩
  case round =>
    obtain ⟨i, hi, HR, HO⟩ := hrel
    have HM : Hid (itPos wr (w.heap.size + 1 + 1) = i) := itPos_eq HR.out.it
    have hsz : w.heap.size + 1 + 1 < wr.heap.size := iter_lt HR.out.it
    by_cases hlt : i < l.length
    · have HSL : Hid ((l.take (i + 1)).drop i = [l[i]]) := by
        show _ = _
        rw [take_get l i hlt, List.drop_append_of_le_length (by simp; omega), List.drop_of_length_le (by simp; omega)]; simp
      by_cases hhi : 128 ≤ l[i].toNat
      · have hd := dec_high l i hlt hhi
        have hnx : ∀ ty, (Instr.next (.pointer (some ⟨w.heap.size + 1 + 1, 0, none⟩)) true ty).run Try.prog wr = _ := fun ty => Lib.run_next_any_at wr _ _ i ty HR.out.it (by rw [str_size]; exact hlt)
        have HR1 : Hid (Rdr w w.heap.size (wr.iterAt (w.heap.size + 1 + 1) ⟨l.toArray⟩ (i + (Utf8.decode ⟨l.toArray⟩ i).2)) st l _ (Ga.alP l i) (Ga.tkP l i)) := HR.out.next _
        generalize wr.iterAt (w.heap.size + 1 + 1) ⟨l.toArray⟩ (i + (Utf8.decode ⟨l.toArray⟩ i).2) = W1 at *
        generalize (Utf8.decode ⟨l.toArray⟩ i).2 = n at *
        generalize (Utf8.decode ⟨l.toArray⟩ i).1 = c at *
        have hle : Ga.letB (c : Int) = false := letB_high (by have := hd.1; omega)
        have h58 : ((c : Int) == 58) = false := by have := hd.1; simp; omega
        have HN : Hid (Ga.specB l = false) := specB_not l i hlt (by rw [okAt_ne l i hlt (fun e => by rw [e] at hhi; revert hhi; decide), letB_high (by omega)]; rfl)
        obtain ⟨_, _, c0, c1, c2, f1, r0, r1, r2, f0⟩ := HR1.out
        have HL : Hid (∀ W, Calls Try.prog 37 #[.int .i32 (c : Nat)] W fun e w' => e = .returned (.bool false) ∧ w' = W) := fun W => by rw [← hle]; exact gMay _ W
        clear hd hhi hle HSL HR HM HO
        go_wp2_with (go_at_call 37; refine (HL.out _).mono ?_; rintro e w2 ⟨rfl, hw2⟩; rw [hw2]; clear hw2 w2)
        (try simp only [Exit.inBlock, Exit.then])
        refine bodyPost_ret (by simp [results, Try.results26, go_sem, r0, r1, r2]; rfl) rfl ?_
        exact ⟨by rw [rdV_no HN.out, HN.out], by have h := HR1.out.bel; exact ((h.setCell (Nat.le_refl _) _).setCell (Nat.le_refl _) _).setCell (Nat.le_refl _) _⟩
      · have hnx : ∀ ty, (Instr.next (.pointer (some ⟨w.heap.size + 1 + 1, 0, none⟩)) true ty).run Try.prog wr = .ok (.tuple #[.bool true, .int .i64 i, .int .i32 l[i].toNat]) (wr.iterAt (w.heap.size + 1 + 1) ⟨l.toArray⟩ (i + 1)) := fun ty => Lib.run_next_ascii_at wr _ _ i ty HR.out.it (by rw [str_size]; exact hlt) (by show l[i].toNat < 128; omega)
        have HR1 : Hid (Rdr w w.heap.size (wr.iterAt (w.heap.size + 1 + 1) ⟨l.toArray⟩ (i + 1)) st l (i + 1) (Ga.alP l i) (Ga.tkP l i)) := HR.out.next _
        generalize wr.iterAt (w.heap.size + 1 + 1) ⟨l.toArray⟩ (i + 1) = W1 at *
        clear hhi HR
        have hla := alP_len l i
        have hlt' := tkP_len l i
        have HL : Hid (∀ W, Calls Try.prog 37 #[.int .i32 l[i].toNat] W fun e w' => e = .returned (.bool (Ga.letB l[i].toNat)) ∧ w' = W) := fun W => gMay _ W
        have HA : Hid (Ga.alP l (i + 1) = if l[i] = 58 ∨ l[i + 1]? = some 58 then Ga.alP l i else Ga.alP l i ++ [l[i]]) := alP_succ l i hlt
        have HT : Hid (Ga.tkP l (i + 1) = if l[i] ≠ 58 ∧ l[i + 1]? = some 58 then Ga.tkP l i ++ [l[i]] else Ga.tkP l i) := tkP_succ l i hlt
        obtain ⟨_, _, c0, c1, c2, f1, r0, r1, r2, f0⟩ := HR1.out
        by_cases hc : l[i] = 58
        · have hc' : ((l[i].toNat : Int) == 58) = true := by rw [byte58]; simpa using hc
          have HK : Hid (Ga.okAt l i = (decide (0 < i) && decide (l[i - 1]? ≠ some 58))) := okAt_58 l i hlt hc
          rw [hc, if_pos (.inl rfl)] at HA
          rw [hc, if_neg (by simp)] at HT
          rw [show Ga.letB (l[i].toNat : Int) = false by rw [hc]; exact letB_58] at HL
          clear hc HSL
          by_cases h0 : i = 0
          · subst h0
            have HN : Hid (Ga.specB l = false) := specB_not l 0 hlt HK.out
            go_wp2_with (go_at_call 37; refine (HL.out _).mono ?_; rintro e w2 ⟨rfl, hw2⟩; rw [hw2]; clear hw2 w2)
            (try simp only [Exit.inBlock, Exit.then])
            refine bodyPost_ret (by simp [results, Try.results26, go_sem, r0, r1, r2]; rfl) rfl ?_
            exact ⟨by rw [rdV_no HN.out, HN.out], by have h := HR1.out.bel; exact ((h.setCell (Nat.le_refl _) _).setCell (Nat.le_refl _) _).setCell (Nat.le_refl _) _⟩
          · obtain ⟨j, rfl⟩ : ∃ j, i = j + 1 := ⟨i - 1, by omega⟩
            have hj : j < l.length := by omega
            have hwr : IntKind.i64.wrap (((j + 1 : Nat) : Int) - 1) = (j : Int) := by rw [IntKind.wrap_i64]; omega
            by_cases h2 : l[j] = 58
            · have h2' : ((l[j].toNat : Int) == 58) = true := by rw [byte58]; simpa using h2
              have HN : Hid (Ga.specB l = false) := specB_not l (j + 1) hlt (by rw [HK.out, Nat.add_sub_cancel, List.getElem?_eq_getElem hj, h2]; simp)
              clear h2
              go_wp2_with (go_at_call 37; refine (HL.out _).mono ?_; rintro e w2 ⟨rfl, hw2⟩; rw [hw2]; clear hw2 w2)
              (try simp only [Exit.inBlock, Exit.then])
              refine bodyPost_ret (by simp [results, Try.results26, go_sem, r0, r1, r2]; rfl) rfl ?_
              exact ⟨by rw [rdV_no HN.out, HN.out], by have h := HR1.out.bel; exact ((h.setCell (Nat.le_refl _) _).setCell (Nat.le_refl _) _).setCell (Nat.le_refl _) _⟩
            · have h2' : ((l[j].toNat : Int) == 58) = false := by rw [byte58]; simpa using h2
              have HN : Hid (Ga.okAt l (j + 1) = true) := by show _ = _; rw [HK.out, Nat.add_sub_cancel, List.getElem?_eq_getElem hj]; simpa using h2
              clear h2
              go_wp2
              exact ⟨⟨j + 1 + 1, by omega, by rw [HA.out, HT.out]; exact HR1, okTo_succ HO.out HN.out⟩, by rw [HM.out, itPos_eq HR1.out.it]; omega⟩
        · have hc' : ((l[i].toNat : Int) == 58) = false := by rw [byte58]; simpa using hc
          have HK : Hid (Ga.okAt l i = (Ga.letB (l[i].toNat : Int) && !(l.take i).contains l[i])) := okAt_ne l i hlt hc
          have HU : Hid ((Ga.knd (Ga.alP l i) (Ga.tkP l i) l[i] = none) ↔ (l.take i).contains l[i] = false) := knd_ne l i hlt hc
          have HQ : Hid (∀ W, Calls Try.prog 32 #[.agg #[.bool st, .string ⟨(Ga.alP l i).toArray⟩, .string ⟨(Ga.tkP l i).toArray⟩], .string ⟨((l.take (i + 1)).drop i).toArray⟩] W fun e w' => e = .returned (.int .i64 (Ga.kndN (Ga.knd (Ga.alP l i) (Ga.tkP l i) l[i]))) ∧ Below W.heap.size W w') := by
            intro W
            have := gKind st (Ga.alP l i) (Ga.tkP l i) ((l.take (i + 1)).drop i) W (by simp; omega)
            rw [show kndS (Ga.alP l i) (Ga.tkP l i) ((l.take (i + 1)).drop i) = Ga.knd (Ga.alP l i) (Ga.tkP l i) l[i] by rw [HSL.out]; rfl] at this
            exact this
          cases hle : Ga.letB (l[i].toNat : Int) with
          | false =>
            have HN : Hid (Ga.specB l = false) := specB_not l i hlt (by rw [HK.out, hle]; rfl)
            rw [hle] at HL
            clear hle hc
            go_wp2_with (go_at_call 37; refine (HL.out _).mono ?_; rintro e w2 ⟨rfl, hw2⟩; rw [hw2]; clear hw2 w2)
            (try simp only [Exit.inBlock, Exit.then])
            refine bodyPost_ret (by simp [results, Try.results26, go_sem, r0, r1, r2]; rfl) rfl ?_
            exact ⟨by rw [rdV_no HN.out, HN.out], by have h := HR1.out.bel; exact ((h.setCell (Nat.le_refl _) _).setCell (Nat.le_refl _) _).setCell (Nat.le_refl _) _⟩
          | true =>
            rw [hle] at HL HK
            clear hle
            cases hk : Ga.knd (Ga.alP l i) (Ga.tkP l i) l[i] with
            | some x =>
              have HN : Hid (Ga.specB l = false) := specB_not l i hlt (by
                rw [HK.out, Bool.true_and, Bool.not_eq_false']
                cases e : (l.take i).contains l[i] with
                | true => rfl
                | false => rw [HU.out.2 e] at hk; cases hk)
              obtain ⟨kn, hkn, hz⟩ : ∃ kn, Ga.kndN (some x) = kn ∧ (kn != 0) = true := ⟨_, rfl, by cases x <;> rfl⟩
              rw [hk, hkn] at HQ
              clear hk hc HU hkn
              go_wp2_with (first | (go_at_call 37; refine (HL.out _).mono ?_; rintro e w2 ⟨rfl, hw2⟩; rw [hw2]; clear hw2 w2) | (go_at_call 32; refine (HQ.out _).mono ?_; rintro e w2 ⟨rfl, hB2⟩; have HR2 : Hid (Rdr w w.heap.size w2 st l (i + 1) (Ga.alP l i) (Ga.tkP l i)) := HR1.out.grow hB2; obtain ⟨_, _, d0, d1, d2, g1, s0, s1, s2, g0⟩ := HR2.out; clear hB2))
              (try simp only [Exit.inBlock, Exit.then])
              refine bodyPost_ret (by simp [results, Try.results26, go_sem, s0, s1, s2]; rfl) rfl ?_
              exact ⟨by rw [rdV_no HN.out, HN.out], ((HR2.out.bel.setCell (Nat.le_refl _) _).setCell (Nat.le_refl _) _).setCell (Nat.le_refl _) _⟩
            | none =>
              have HN : Hid (Ga.okAt l i = true) := by show _ = _; rw [HK.out, HU.out.1 hk]; rfl
              rw [hk, show Ga.kndN none = 0 from rfl] at HQ
              have HP : Hid (∀ W, Calls Try.prog 38 #[.string ⟨(l.drop (i + 1)).toArray⟩, .string ⟨#[58]⟩] W fun e w' => e = .returned (.bool (decide (l[i + 1]? = some 58))) ∧ w' = W) := by
                intro W
                have := Try.strings_HasPrefix ⟨(l.drop (i + 1)).toArray⟩ ⟨#[58]⟩ W
                rw [show (⟨#[58]⟩ : ByteArray).data.toList = [58] from rfl, show (⟨(l.drop (i + 1)).toArray⟩ : ByteArray).data.toList = l.drop (i + 1) from rfl, hp58, List.head?_drop] at this
                exact this
              clear hk HU HK
              by_cases h2 : l[i + 1]? = some 58
              · rw [if_pos (.inr h2)] at HA
                rw [if_pos ⟨hc, h2⟩] at HT
                rw [decide_eq_true h2] at HP
                clear h2 hc
                go_wp2_with (first | (go_at_call 37; refine (HL.out _).mono ?_; rintro e w2 ⟨rfl, hw2⟩; rw [hw2]; clear hw2 w2) | (go_at_call 32; refine (HQ.out _).mono ?_; rintro e w2 ⟨rfl, hB2⟩; have HR2 : Hid (Rdr w w.heap.size w2 st l (i + 1) (Ga.alP l i) (Ga.tkP l i)) := HR1.out.grow hB2; obtain ⟨_, _, d0, d1, d2, g1, s0, s1, s2, g0⟩ := HR2.out; clear hB2) | (go_at_call 38; refine (HP.out _).mono ?_; rintro e w2 ⟨rfl, hw2⟩; rw [hw2]; clear hw2 w2))
                have h3 := HR2.out.set2 (Ga.tkP l i ++ [l[i]])
                rw [HSL.out]
                exact ⟨⟨i + 1, by omega, by rw [HA.out, HT.out]; exact h3, okTo_succ HO.out HN.out⟩, by rw [HM.out, itPos_eq h3.it]; omega⟩
              · rw [if_neg (by rintro (e | e); exact hc e; exact h2 e)] at HA
                rw [if_neg (fun e => h2 e.2)] at HT
                rw [decide_eq_false h2] at HP
                clear h2 hc
                go_wp2_with (first | (go_at_call 37; refine (HL.out _).mono ?_; rintro e w2 ⟨rfl, hw2⟩; rw [hw2]; clear hw2 w2) | (go_at_call 32; refine (HQ.out _).mono ?_; rintro e w2 ⟨rfl, hB2⟩; have HR2 : Hid (Rdr w w.heap.size w2 st l (i + 1) (Ga.alP l i) (Ga.tkP l i)) := HR1.out.grow hB2; obtain ⟨_, _, d0, d1, d2, g1, s0, s1, s2, g0⟩ := HR2.out; clear hB2) | (go_at_call 38; refine (HP.out _).mono ?_; rintro e w2 ⟨rfl, hw2⟩; rw [hw2]; clear hw2 w2))
                have h3 := HR2.out.set1 (Ga.alP l i ++ [l[i]])
                rw [HSL.out]
                exact ⟨⟨i + 1, by omega, by rw [HA.out, HT.out]; exact h3, okTo_succ HO.out HN.out⟩, by rw [HM.out, itPos_eq h3.it]; omega⟩
    · have hnx : ∀ ty, (Instr.next (.pointer (some ⟨w.heap.size + 1 + 1, 0, none⟩)) true ty).run Try.prog wr = .ok (.tuple #[.bool false]) wr := fun ty => Lib.run_next_end_at wr _ _ i ty HR.out.it (by rw [str_size]; exact hlt)
      obtain ⟨_, _, c0, c1, c2, f1, r0, r1, r2, f0⟩ := HR.out
      have HN : Hid (Ga.specB l = true) := specB_of l (by have : i = l.length := by omega
                                                          rw [← this]; exact HO.out)
      have HI : Hid (i = l.length) := by show _ = _; omega
      go_wp2
      (try simp only [Exit.inBlock, Exit.then])
      refine bodyPost_ret (by simp [results, Try.results26, go_sem, r0, r1, r2]; rfl) rfl ?_
      exact ⟨by rw [rdV_ok HN.out, HN.out, HI.out], by have h := HR.out.bel; exact ((h.setCell (Nat.le_refl _) _).setCell (Nat.le_refl _) _).setCell (Nat.le_refl _) _⟩
end Go.Proofs.Ytgbkgfmljcfhoaa
