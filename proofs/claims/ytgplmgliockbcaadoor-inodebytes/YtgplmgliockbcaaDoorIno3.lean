/- The walk of save: refs are laid into an indirect block. Conditions: the store lies in memory as 'St' says, the table's first cell leads to it. -/
import Derived.Test.YtgplmgliockbcaaDoorIno2
namespace Go.Proofs.YtgplmgliockbcaaDoor
open Go.RowKit
/-- The bytes of sixteen refs, four each, the lowest first. -/
def leAt (q : Nat → Nat) (o : Nat) : Nat := q (o / 4) / 2 ^ (8 * (o % 4)) % 256
def leB (q : Nat → Nat) : List Nat := (List.range 64).map (leAt q)
theorem leB_len (q : Nat → Nat) : (leB q).length = 64 := by simp [leB]
theorem leB_lt (q : Nat → Nat) : ∀ x ∈ leB q, x < 256 := fun x hx => by
  obtain ⟨o, _, rfl⟩ := List.mem_map.mp hx
  exact Nat.mod_lt _ (by omega)
theorem leB_at (q : Nat → Nat) (o : Nat) (ho : o < 64) : (leB q)[o]? = some (leAt q o) := by simp [leB, List.getElem?_range ho]
/-- What the store's bytes are when q was saved at r. -/
def saved (u : Nat → Bool) (D : Nat → Nat) (r : Nat) (q : Nat → Nat) : Nat → Nat := if r ≠ 0 ∧ u (r - 1) = true then over D ((r - 1) * 64) (leB q) else D

structure ByteAt (w1 wr : World) (P : Nat) (f : Nat → Nat) : Prop where
  at_ : ∀ k, k < 64 → wr.cell? ⟨P, k, none⟩ = some (.int .u8 (f k : Nat))
  fr : ∀ o, wr.frozen? ⟨P, o, none⟩ = false
  mod : Mod (fun k => k = P) w1 wr
theorem ByteAt.congr {w1 wr : World} {P : Nat} {q p : Nat → Nat} (h : ByteAt w1 wr P q) (e : ∀ k, k < 64 → q k = p k) : ByteAt w1 wr P p :=
  ⟨fun k hk => by rw [← e k hk]; exact h.at_ k hk, h.fr, h.mod⟩
theorem ByteAt.set {w1 wr : World} {P : Nat} {q : Nat → Nat} (h : ByteAt w1 wr P q) (i : Nat) (x : Nat) : ByteAt w1 (wr.setCell ⟨P, i, none⟩ (.int .u8 (x : Nat))) P (upd q i x) where
  at_ k hk := by
    unfold upd
    by_cases e : k = i
    · subst e; rw [if_pos rfl, setCell_in _ _ _ _ _ (h.at_ k hk)]
    · rw [if_neg e, setCell_out _ _ _ _ _ (fun _ => e)]; exact h.at_ k hk
  fr o := by rw [setCell_frozen]; exact h.fr o
  mod := h.mod.setCell _ _ rfl
def zeroB : Array Value := Array.replicate 64 (.int .u8 0)
theorem zvB (w : World) : (zeroValue 124).run Tryd.prog w = .ok (.agg zeroB) w := by kernel_rfl
theorem sizeB : zeroB.size = 64 := rfl
/-- The bytes ahead of 4 i + j are laid. -/
def laidTo (q : Nat → Nat) (m : Nat) (o : Nat) : Nat := if o < m then leAt q o else 0

theorem unfit_of {n r : Nat} {u : Nat → Bool} (hu : ¬ (r ≠ 0 ∧ u (r - 1) = true)) : Unfit n u ((r : Int) - 1) := by
  unfold Unfit
  by_cases h0 : r = 0
  · subst h0; left; simp
  · by_cases hl : (n : Int) ≤ (r : Int) - 1
    · exact .inr (.inl hl)
    · refine .inr (.inr ?_)
      rw [show ((r : Int) - 1).toNat = r - 1 by omega]
      cases e : u (r - 1) with
      | false => rfl
      | true => exact absurd ⟨h0, e⟩ hu
section
variable {w : World} {b c n : Nat} {u : Nat → Bool} {D : Nat → Nat}
set_option maxHeartbeats 1000000 in
theorem save_any (S : St w b c n u D) (t r : Nat) (q : Nat → Nat) (hq : ∀ j, q j < 4294967296) (ht : w.cell? ⟨t, 0, none⟩ = some (.pointer (some ⟨b, 0, none⟩))) (htc : t ≠ c) (hr : r < 4294967296) :
    Calls Tryd.prog 77 #[.pointer (some ⟨t, 0, none⟩), .int .i64 r, .agg (refsV q)] w fun e w' => e = .returned (.tuple #[]) ∧ St w' b c n u (saved u D r q) ∧ Mod (fun k => k = c) w w' := by
  have hn := S.n2
  have hz := zvB
  have htl := block_lt_of_cell ht
  have HS : Hid (St w b c n u D) := S
  have HT : Hid (w.cell? ⟨t, 0, none⟩ = some (.pointer (some ⟨b, 0, none⟩))) := ht
  have HTC : Hid (t ≠ c) := htc
  have HQ : Hid (∀ j, q j < 4294967296) := hq
  have HA : Hid (∀ j, j < 16 → (refsV q)[j]? = some (.int .i64 (q j : Nat))) := fun j hj => by simp [refsV, List.getElem?_range hj, refV]
  have hsz := refsV_size q
  have hoc := refsV_one q
  clear S hq ht
  generalize refsV q = A at *
  go_enter Tryd.func77, Tryd.ntmps77
  go_wp2
  have HL : Hid (ByteAt ((w.alloc (.cells A 134)).alloc (.cells zeroB 124)) ((w.alloc (.cells A 134)).alloc (.cells zeroB 124)) (w.heap.size + 1) (laidTo q 0)) := by
    refine ⟨fun k hk => ?_, fun o => ?_, Mod.refl _ _⟩
    · rw [World.cell?_alloc_at _ _ _ _ (by simp)]; simp [zeroB, hk, laidTo]
    · exact World.frozen?_alloc_at _ _ _ _ (by simp)
  have HC : Hid (∀ j, j < 16 → ((w.alloc (.cells A 134)).alloc (.cells zeroB 124)).cell? ⟨w.heap.size, j, none⟩ = some (.int .i64 (q j : Nat))) := fun j hj => by
    rw [World.cell?_alloc_past _ _ _ (by simp), World.cell?_alloc_at _ _ _ _ rfl]; exact HA.out j hj
  have HW : Hid (Mod (fun _ => False) w ((w.alloc (.cells A 134)).alloc (.cells zeroB 124))) := ((Mod.refl (fun _ => False) w).alloc _).alloc _
  have HZ : Hid (w.heap.size + 1 < ((w.alloc (.cells A 134)).alloc (.cells zeroB 124)).heap.size) := by show _ < _; simp
  generalize hw1 : ((w.alloc (.cells A 134)).alloc (.cells zeroB 124)) = w1 at *
  clear hw1
  go_loopw [9] (fun x wr => ∃ i : Nat, i ≤ 16 ∧ x = .int .i64 i ∧ Hid (ByteAt w1 wr (w.heap.size + 1) (laidTo q (4 * i)))) (fun x _ => 16 - (intOf x).toNat)
  case atStart => exact ⟨0, by omega, rfl, HL⟩
  case round =>
    obtain ⟨i, hi, rfl, HI⟩ := hrel
    by_cases hlt : i < 16
    · go_wp2
      go_loopw [12] (fun x wr => ∃ j : Nat, j ≤ 4 ∧ x = .int .i64 j ∧ Hid (ByteAt w1 wr (w.heap.size + 1) (laidTo q (4 * i + j)))) (fun x _ => 4 - (intOf x).toNat)
      case atStart => exact ⟨0, by omega, rfl, HI⟩
      case round =>
        obtain ⟨j, hj, rfl, HJ⟩ := hrel
        by_cases hlj : j < 4
        · have hp := HJ.out.at_ (i * 4 + j) (by omega)
          have hf := HJ.out.fr (i * 4 + j)
          have hgr := (HJ.out.mod.cell (p := ⟨w.heap.size, i, none⟩) (block_lt_of_cell (HC.out i hlt)) (by show ¬ w.heap.size = w.heap.size + 1; omega)).trans (HC.out i hlt)
          have HP : Hid (ByteAt w1 (wr.setCell ⟨w.heap.size + 1, i * 4 + j, none⟩ (.int .u8 (leAt q (i * 4 + j) : Nat))) (w.heap.size + 1) (laidTo q (4 * i + (j + 1)))) :=
            (HJ.out.set (i * 4 + j) _).congr (fun k _ => by
              unfold upd laidTo
              by_cases e : k = i * 4 + j
              · rw [if_pos e, if_pos (by omega), e]
              · rw [if_neg e]
                by_cases e' : k < 4 * i + j
                · rw [if_pos e', if_pos (by omega)]
                · rw [if_neg e', if_neg (by omega)])
          have hb := HQ.out i
          have HX : Hid (leAt q (i * 4 + j) = q i / 2 ^ (8 * j) % 256) := by
            show _ = _
            unfold leAt; rw [show (i * 4 + j) / 4 = i by omega, show (i * 4 + j) % 4 = j by omega]
          generalize q i = y at *
          obtain rfl | rfl | rfl | rfl : j = 0 ∨ j = 1 ∨ j = 2 ∨ j = 3 := by omega
          all_goals try simp only [Nat.add_zero] at hp hf
          all_goals go_wp2
          · have h := HP.out
            rw [HX.out, show ((y / 2 ^ (8 * 0) % 256 : Nat) : Int) = (y : Int) % 256 by omega] at h
            exact ⟨⟨1, by omega, rfl, h⟩, by simp [intOf]⟩
          · have h := HP.out
            rw [HX.out, show ((y / 2 ^ (8 * 1) % 256 : Nat) : Int) = (y : Int) / 256 % 256 by omega] at h
            exact ⟨⟨2, by omega, rfl, h⟩, by simp [intOf]⟩
          · have h := HP.out
            rw [HX.out, show ((y / 2 ^ (8 * 2) % 256 : Nat) : Int) = (y : Int) / 65536 % 256 by omega] at h
            exact ⟨⟨3, by omega, rfl, h⟩, by simp [intOf]⟩
          · have h := HP.out
            rw [HX.out, show ((y / 2 ^ (8 * 3) % 256 : Nat) : Int) = (y : Int) / 16777216 by omega] at h
            exact ⟨⟨4, by omega, rfl, h⟩, by simp [intOf]⟩
        · go_wp2
          exact ⟨⟨i + 1, by omega, by go_num, by rw [show 4 * (i + 1) = 4 * i + j by omega]; exact HJ⟩, by simp [intOf]; omega⟩
    · have HE : Hid (laidTo q (4 * i) = laidTo q 64) := by show _ = _; rw [show 4 * i = 64 by omega]
      have hT' := (HI.out.mod.cell (p := ⟨t, 0, none⟩) (Nat.lt_of_lt_of_le htl HW.out.size) (by show ¬ t = w.heap.size + 1; omega)).trans ((HW.out.cell (p := ⟨t, 0, none⟩) htl (fun h => h)).trans HT.out)
      have HS' : Hid (St wr b c n u D) := (HS.out.mod HW.out (fun h => h) (fun h => h) (fun h => h)).mod HI.out.mod (by show ¬ 0 = w.heap.size + 1; have := HS.out.tab.lt; omega) (by show ¬ b = w.heap.size + 1; have := HS.out.lt_b; omega) (by show ¬ c = w.heap.size + 1; have := HS.out.lt_c; omega)
      have HG : Hid (∀ j v, ((leB q).map byteV)[j]? = some v → wr.cell? ((⟨w.heap.size + 1, 0, none⟩ : Addr).add j) = some v) := fun j v hv => by
        rw [Addr.add_mid, Nat.zero_add]
        have hj : j < 64 := by
          rw [List.getElem?_map, Option.map_eq_some_iff] at hv
          obtain ⟨x, hx, _⟩ := hv
          have := (List.getElem?_eq_some_iff.mp hx).1
          rwa [leB_len] at this
        rw [List.getElem?_map, leB_at q j hj] at hv
        rw [HI.out.at_ j hj, HE.out, laidTo, if_pos hj]; exact hv
      have HX : Hid (Mod (fun _ => False) w wr) := ⟨HI.out.mod.os.trans HW.out.os, HI.out.mod.tape.trans HW.out.tape, HI.out.mod.output.trans HW.out.output, Nat.le_trans HW.out.size HI.out.mod.size, fun k hk _ =>
        (HI.out.mod.block k (Nat.lt_of_lt_of_le hk HW.out.size) (by show ¬ k = w.heap.size + 1; omega)).trans (HW.out.block k hk (fun h => h))⟩
      clear HC HL HI HZ
      have HT' : Hid (wr.cell? ⟨t, 0, none⟩ = some (.pointer (some ⟨b, 0, none⟩))) := hT'
      clear hT'
      by_cases hUu : r ≠ 0 ∧ u (r - 1) = true
      · have hr0 : Hid (r ≠ 0) := hUu.1
        have HU : Hid (u (r - 1) = true) := hUu.2
        have hrn : r - 1 < n := Nat.lt_of_not_le fun h => by have := HU.out; rw [HS'.out.out _ h] at this; exact absurd this (by simp)
        have hr1 : (r : Int) - 1 = ((r - 1 : Nat) : Int) := by have := hr0.out; omega
        clear hUu
        go_wp2_with fail
        go_region_held (fun W' => W'.cell? ⟨t, 0, none⟩ = some (.pointer (some ⟨b, 0, none⟩))) (first | exact HT'.out | exact hS1) (first | (go_at_call 62; refine (block_any r _ (by omega)).mono ?_; rintro e w2 ⟨rfl, rfl⟩; rw [hr1]) | (go_at_call 64; refine ((HS'.out.drewN 1).write_ok (r - 1) 0 _ 64 64 (leB q) hrn HU.out (by omega) (leB_len q) (leB_lt q) (fun _ => ⟨_, rfl, HG.out⟩)).mono ?_; rintro e w2 ⟨rfl, H2, M2, -⟩; have hS1 : w2.cell? ⟨t, 0, none⟩ = some (.pointer (some ⟨b, 0, none⟩)) := (M2.cell (p := ⟨t, 0, none⟩) (block_lt_of_cell (w := wr) HT'.out) (fun h => HTC.out h)).trans HT'.out; have HS2 : Hid (St w2 b c n u (over D ((r - 1) * 64 + 0) (leB q))) := H2; have HM2 : Hid (Mod (fun k => k = c) wr w2) := ((Mod.refl _ wr).drewN 1).trans M2; clear H2 M2))
        go_wp2
        exact ⟨rfl, _, results_none rfl _ _ _, rfl, by rw [saved, if_pos ⟨hr0.out, HU.out⟩]; exact HS2.out, (HX.out.mono (fun _ _ h => h.elim)).trans HM2.out⟩
      · have HU : Hid (Unfit n u ((r : Int) - 1)) := unfit_of hUu
        have HN : Hid (¬ (r ≠ 0 ∧ u (r - 1) = true)) := hUu
        clear hUu
        go_wp2_with fail
        go_region_held (fun W' => W'.cell? ⟨t, 0, none⟩ = some (.pointer (some ⟨b, 0, none⟩))) (first | exact HT'.out) (first | (go_at_call 62; refine (block_any r _ (by omega)).mono ?_; rintro e w2 ⟨rfl, rfl⟩) | (go_at_call 64; refine ((HS'.out.drewN 1).write_not _ 0 _ 64 64 (by unfold maxLen; omega) (.inl HU.out)).mono ?_; rintro e w2 ⟨rfl, m, rfl⟩))
        go_wp2
        exact ⟨rfl, _, results_none rfl _ _ _, rfl, by rw [saved, if_neg HN.out]; exact HS'.out.drewN _, (HX.out.mono (fun _ _ h => h.elim)).drewN _⟩
end
end Go.Proofs.YtgplmgliockbcaaDoor
