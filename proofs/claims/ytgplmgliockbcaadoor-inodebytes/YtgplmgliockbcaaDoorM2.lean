/- Several texts of this claim, one behind the other, in their order. -/
import Derived.Test.YtgplmgliockbcaaDoorIno2
/- The walk of save: refs are laid into an indirect block. Conditions: the store lies in memory as 'St' says, the table's first cell leads to it. -/
namespace Go.Proofs.YtgplmgliockbcaaDoor
open Go.RowKit
/-- The bytes of sixteen refs, four each, the lowest first. -/
def leAt (q : Nat → Nat) (o : Nat) : Nat := q (o / 4) / 2 ^ (8 * (o % 4)) % 256
def leB (q : Nat → Nat) : List Nat := (List.range 64).map (leAt q)
theorem leB_len (q : Nat → Nat) : (leB q).length = 64 := by simp [leB]
theorem leB_lt (q : Nat → Nat) : ∀ x ∈ leB q, x < 256 := fun x hx => by
  obtain ⟨o, _, rfl⟩ := List.mem_map.mp hx
  exact Nat.mod_lt _ (by omega)
theorem leB_at (q : Nat → Nat) (o : Nat) (ho : o < 64) : (leB q)[o]? = some (leAt q o) := by simp [leB, List.getElem?_range ho]
/-- What the store's bytes are when q was saved at r. -/
def saved (u : Nat → Bool) (D : Nat → Nat) (r : Nat) (q : Nat → Nat) : Nat → Nat := if r ≠ 0 ∧ u (r - 1) = true then over D ((r - 1) * 64) (leB q) else D

structure ByteAt (w1 wr : World) (P : Nat) (f : Nat → Nat) : Prop where
  at_ : ∀ k, k < 64 → wr.cell? ⟨P, k, none⟩ = some (.int .u8 (f k : Nat))
  fr : ∀ o, wr.frozen? ⟨P, o, none⟩ = false
  mod : Mod (fun k => k = P) w1 wr
theorem ByteAt.congr {w1 wr : World} {P : Nat} {q p : Nat → Nat} (h : ByteAt w1 wr P q) (e : ∀ k, k < 64 → q k = p k) : ByteAt w1 wr P p :=
  ⟨fun k hk => by rw [← e k hk]; exact h.at_ k hk, h.fr, h.mod⟩
theorem ByteAt.set {w1 wr : World} {P : Nat} {q : Nat → Nat} (h : ByteAt w1 wr P q) (i : Nat) (x : Nat) : ByteAt w1 (wr.setCell ⟨P, i, none⟩ (.int .u8 (x : Nat))) P (upd q i x) where
  at_ k hk := by
    unfold upd
    by_cases e : k = i
    · subst e; rw [if_pos rfl, setCell_in _ _ _ _ _ (h.at_ k hk)]
    · rw [if_neg e, setCell_out _ _ _ _ _ (fun _ => e)]; exact h.at_ k hk
  fr o := by rw [setCell_frozen]; exact h.fr o
  mod := h.mod.setCell _ _ rfl
def zeroB : Array Value := Array.replicate 64 (.int .u8 0)
theorem zvB (w : World) : (zeroValue 124).run Tryd.prog w = .ok (.agg zeroB) w := by kernel_rfl
theorem sizeB : zeroB.size = 64 := rfl
/-- The bytes ahead of 4 i + j are laid. -/
def laidTo (q : Nat → Nat) (m : Nat) (o : Nat) : Nat := if o < m then leAt q o else 0

theorem unfit_of {n r : Nat} {u : Nat → Bool} (hu : ¬ (r ≠ 0 ∧ u (r - 1) = true)) : Unfit n u ((r : Int) - 1) := by
  unfold Unfit
  by_cases h0 : r = 0
  · subst h0; left; simp
  · by_cases hl : (n : Int) ≤ (r : Int) - 1
    · exact .inr (.inl hl)
    · refine .inr (.inr ?_)
      rw [show ((r : Int) - 1).toNat = r - 1 by omega]
      cases e : u (r - 1) with
      | false => rfl
      | true => exact absurd ⟨h0, e⟩ hu
section
variable {w : World} {b c n : Nat} {u : Nat → Bool} {D : Nat → Nat}
set_option maxHeartbeats 1000000 in
theorem save_any (S : St w b c n u D) (t r : Nat) (q : Nat → Nat) (hq : ∀ j, q j < 4294967296) (ht : w.cell? ⟨t, 0, none⟩ = some (.pointer (some ⟨b, 0, none⟩))) (htc : t ≠ c) (hr : r < 4294967296) :
    Calls Tryd.prog 77 #[.pointer (some ⟨t, 0, none⟩), .int .i64 r, .agg (refsV q)] w fun e w' => e = .returned (.tuple #[]) ∧ St w' b c n u (saved u D r q) ∧ Mod (fun k => k = c) w w' := by
  have hn := S.n2
  have hz := zvB
  have htl := block_lt_of_cell ht
  have HS : Hid (St w b c n u D) := S
  have HT : Hid (w.cell? ⟨t, 0, none⟩ = some (.pointer (some ⟨b, 0, none⟩))) := ht
  have HTC : Hid (t ≠ c) := htc
  have HQ : Hid (∀ j, q j < 4294967296) := hq
  have HA : Hid (∀ j, j < 16 → (refsV q)[j]? = some (.int .i64 (q j : Nat))) := fun j hj => by simp [refsV, List.getElem?_range hj, refV]
  have hsz := refsV_size q
  have hoc := refsV_one q
  clear S hq ht
  generalize refsV q = A at *
  go_enter Tryd.func77, Tryd.ntmps77
  go_wp2
  have HL : Hid (ByteAt ((w.alloc (.cells A 134)).alloc (.cells zeroB 124)) ((w.alloc (.cells A 134)).alloc (.cells zeroB 124)) (w.heap.size + 1) (laidTo q 0)) := by
    refine ⟨fun k hk => ?_, fun o => ?_, Mod.refl _ _⟩
    · rw [World.cell?_alloc_at _ _ _ _ (by simp)]; simp [zeroB, hk, laidTo]
    · exact World.frozen?_alloc_at _ _ _ _ (by simp)
  have HC : Hid (∀ j, j < 16 → ((w.alloc (.cells A 134)).alloc (.cells zeroB 124)).cell? ⟨w.heap.size, j, none⟩ = some (.int .i64 (q j : Nat))) := fun j hj => by
    rw [World.cell?_alloc_past _ _ _ (by simp), World.cell?_alloc_at _ _ _ _ rfl]; exact HA.out j hj
  have HW : Hid (Mod (fun _ => False) w ((w.alloc (.cells A 134)).alloc (.cells zeroB 124))) := ((Mod.refl (fun _ => False) w).alloc _).alloc _
  have HZ : Hid (w.heap.size + 1 < ((w.alloc (.cells A 134)).alloc (.cells zeroB 124)).heap.size) := by show _ < _; simp
  generalize hw1 : ((w.alloc (.cells A 134)).alloc (.cells zeroB 124)) = w1 at *
  clear hw1
  go_loopw [9] (fun x wr => ∃ i : Nat, i ≤ 16 ∧ x = .int .i64 i ∧ Hid (ByteAt w1 wr (w.heap.size + 1) (laidTo q (4 * i)))) (fun x _ => 16 - (intOf x).toNat)
  case atStart => exact ⟨0, by omega, rfl, HL⟩
  case round =>
    obtain ⟨i, hi, rfl, HI⟩ := hrel
    by_cases hlt : i < 16
    · go_wp2
      go_loopw [12] (fun x wr => ∃ j : Nat, j ≤ 4 ∧ x = .int .i64 j ∧ Hid (ByteAt w1 wr (w.heap.size + 1) (laidTo q (4 * i + j)))) (fun x _ => 4 - (intOf x).toNat)
      case atStart => exact ⟨0, by omega, rfl, HI⟩
      case round =>
        obtain ⟨j, hj, rfl, HJ⟩ := hrel
        by_cases hlj : j < 4
        · have hp := HJ.out.at_ (i * 4 + j) (by omega)
          have hf := HJ.out.fr (i * 4 + j)
          have hgr := (HJ.out.mod.cell (p := ⟨w.heap.size, i, none⟩) (block_lt_of_cell (HC.out i hlt)) (by show ¬ w.heap.size = w.heap.size + 1; omega)).trans (HC.out i hlt)
          have HP : Hid (ByteAt w1 (wr.setCell ⟨w.heap.size + 1, i * 4 + j, none⟩ (.int .u8 (leAt q (i * 4 + j) : Nat))) (w.heap.size + 1) (laidTo q (4 * i + (j + 1)))) :=
            (HJ.out.set (i * 4 + j) _).congr (fun k _ => by
              unfold upd laidTo
              by_cases e : k = i * 4 + j
              · rw [if_pos e, if_pos (by omega), e]
              · rw [if_neg e]
                by_cases e' : k < 4 * i + j
                · rw [if_pos e', if_pos (by omega)]
                · rw [if_neg e', if_neg (by omega)])
          have hb := HQ.out i
          have HX : Hid (leAt q (i * 4 + j) = q i / 2 ^ (8 * j) % 256) := by
            show _ = _
            unfold leAt; rw [show (i * 4 + j) / 4 = i by omega, show (i * 4 + j) % 4 = j by omega]
          generalize q i = y at *
          obtain rfl | rfl | rfl | rfl : j = 0 ∨ j = 1 ∨ j = 2 ∨ j = 3 := by omega
          all_goals try simp only [Nat.add_zero] at hp hf
          all_goals go_wp2
          · have h := HP.out
            rw [HX.out, show ((y / 2 ^ (8 * 0) % 256 : Nat) : Int) = (y : Int) % 256 by omega] at h
            exact ⟨⟨1, by omega, rfl, h⟩, by simp [intOf]⟩
          · have h := HP.out
            rw [HX.out, show ((y / 2 ^ (8 * 1) % 256 : Nat) : Int) = (y : Int) / 256 % 256 by omega] at h
            exact ⟨⟨2, by omega, rfl, h⟩, by simp [intOf]⟩
          · have h := HP.out
            rw [HX.out, show ((y / 2 ^ (8 * 2) % 256 : Nat) : Int) = (y : Int) / 65536 % 256 by omega] at h
            exact ⟨⟨3, by omega, rfl, h⟩, by simp [intOf]⟩
          · have h := HP.out
            rw [HX.out, show ((y / 2 ^ (8 * 3) % 256 : Nat) : Int) = (y : Int) / 16777216 by omega] at h
            exact ⟨⟨4, by omega, rfl, h⟩, by simp [intOf]⟩
        · go_wp2
          exact ⟨⟨i + 1, by omega, by go_num, by rw [show 4 * (i + 1) = 4 * i + j by omega]; exact HJ⟩, by simp [intOf]; omega⟩
    · have HE : Hid (laidTo q (4 * i) = laidTo q 64) := by show _ = _; rw [show 4 * i = 64 by omega]
      have hT' := (HI.out.mod.cell (p := ⟨t, 0, none⟩) (Nat.lt_of_lt_of_le htl HW.out.size) (by show ¬ t = w.heap.size + 1; omega)).trans ((HW.out.cell (p := ⟨t, 0, none⟩) htl (fun h => h)).trans HT.out)
      have HS' : Hid (St wr b c n u D) := (HS.out.mod HW.out (fun h => h) (fun h => h) (fun h => h)).mod HI.out.mod (by show ¬ 0 = w.heap.size + 1; have := HS.out.tab.lt; omega) (by show ¬ b = w.heap.size + 1; have := HS.out.lt_b; omega) (by show ¬ c = w.heap.size + 1; have := HS.out.lt_c; omega)
      have HG : Hid (∀ j v, ((leB q).map byteV)[j]? = some v → wr.cell? ((⟨w.heap.size + 1, 0, none⟩ : Addr).add j) = some v) := fun j v hv => by
        rw [Addr.add_mid, Nat.zero_add]
        have hj : j < 64 := by
          rw [List.getElem?_map, Option.map_eq_some_iff] at hv
          obtain ⟨x, hx, _⟩ := hv
          have := (List.getElem?_eq_some_iff.mp hx).1
          rwa [leB_len] at this
        rw [List.getElem?_map, leB_at q j hj] at hv
        rw [HI.out.at_ j hj, HE.out, laidTo, if_pos hj]; exact hv
      have HX : Hid (Mod (fun _ => False) w wr) := ⟨HI.out.mod.os.trans HW.out.os, HI.out.mod.tape.trans HW.out.tape, HI.out.mod.output.trans HW.out.output, Nat.le_trans HW.out.size HI.out.mod.size, fun k hk _ =>
        (HI.out.mod.block k (Nat.lt_of_lt_of_le hk HW.out.size) (by show ¬ k = w.heap.size + 1; omega)).trans (HW.out.block k hk (fun h => h))⟩
      clear HC HL HI HZ
      have HT' : Hid (wr.cell? ⟨t, 0, none⟩ = some (.pointer (some ⟨b, 0, none⟩))) := hT'
      clear hT'
      by_cases hUu : r ≠ 0 ∧ u (r - 1) = true
      · have hr0 : Hid (r ≠ 0) := hUu.1
        have HU : Hid (u (r - 1) = true) := hUu.2
        have hrn : r - 1 < n := Nat.lt_of_not_le fun h => by have := HU.out; rw [HS'.out.out _ h] at this; exact absurd this (by simp)
        have hr1 : (r : Int) - 1 = ((r - 1 : Nat) : Int) := by have := hr0.out; omega
        clear hUu
        go_wp2_with fail
        go_region_held (fun W' => W'.cell? ⟨t, 0, none⟩ = some (.pointer (some ⟨b, 0, none⟩))) (first | exact HT'.out | exact hS1) (first | (go_at_call 62; refine (block_any r _ (by omega)).mono ?_; rintro e w2 ⟨rfl, rfl⟩; rw [hr1]) | (go_at_call 64; refine ((HS'.out.drewN 1).write_ok (r - 1) 0 _ 64 64 (leB q) hrn HU.out (by omega) (leB_len q) (leB_lt q) (fun _ => ⟨_, rfl, HG.out⟩)).mono ?_; rintro e w2 ⟨rfl, H2, M2, -⟩; have hS1 : w2.cell? ⟨t, 0, none⟩ = some (.pointer (some ⟨b, 0, none⟩)) := (M2.cell (p := ⟨t, 0, none⟩) (block_lt_of_cell (w := wr) HT'.out) (fun h => HTC.out h)).trans HT'.out; have HS2 : Hid (St w2 b c n u (over D ((r - 1) * 64 + 0) (leB q))) := H2; have HM2 : Hid (Mod (fun k => k = c) wr w2) := ((Mod.refl _ wr).drewN 1).trans M2; clear H2 M2))
        go_wp2
        exact ⟨rfl, _, results_none rfl _ _ _, rfl, by rw [saved, if_pos ⟨hr0.out, HU.out⟩]; exact HS2.out, (HX.out.mono (fun _ _ h => h.elim)).trans HM2.out⟩
      · have HU : Hid (Unfit n u ((r : Int) - 1)) := unfit_of hUu
        have HN : Hid (¬ (r ≠ 0 ∧ u (r - 1) = true)) := hUu
        clear hUu
        go_wp2_with fail
        go_region_held (fun W' => W'.cell? ⟨t, 0, none⟩ = some (.pointer (some ⟨b, 0, none⟩))) (first | exact HT'.out) (first | (go_at_call 62; refine (block_any r _ (by omega)).mono ?_; rintro e w2 ⟨rfl, rfl⟩) | (go_at_call 64; refine ((HS'.out.drewN 1).write_not _ 0 _ 64 64 (by unfold maxLen; omega) (.inl HU.out)).mono ?_; rintro e w2 ⟨rfl, m, rfl⟩))
        go_wp2
        exact ⟨rfl, _, results_none rfl _ _ _, rfl, by rw [saved, if_neg HN.out]; exact HS'.out.drewN _, (HX.out.mono (fun _ _ h => h.elim)).drewN _⟩
end
end Go.Proofs.YtgplmgliockbcaaDoor
/- The walk of look: what a place leads to. Conditions: the store lies in memory as 'St' says, the table's first cell leads to it. -/
namespace Go.Proofs.YtgplmgliockbcaaDoor
open Go.RowKit
/-- What place k below ref r leads to, l levels down. -/
def lk : Nat → (Nat → Bool) → (Nat → Nat) → Nat → Nat → Nat
  | 0, _, _, r, _ => r
  | l + 1, u, D, r, k => lk l u D (ptr u D r (k / 16 ^ l)) (k % 16 ^ l)
theorem ptr_zero (u : Nat → Bool) (D : Nat → Nat) (j : Nat) : ptr u D 0 j = 0 := by simp [ptr]
theorem lk_zero (u : Nat → Bool) (D : Nat → Nat) : ∀ l k, lk l u D 0 k = 0
  | 0, _ => rfl
  | l + 1, k => by simp only [lk, ptr_zero]; exact lk_zero u D l _
theorem run_indexP (A : Array Value) (i : Int) (k x : Nat) (hi : i = (k : Nat)) (hk : k < 16) (hA : A[k]? = some (.int .i64 x)) (W : World) : (Instr.index 134 (.agg A) (.int .i64 i)).run Tryd.prog W = .ok (.int .i64 x) W := by
  subst hi
  simp [Instr.index, go_sem]
  rw [if_pos hk, hA]; rfl
section
variable {w : World} {b c n : Nat} {u : Nat → Bool} {D : Nat → Nat}
theorem load_row (S : St w b c n u D) (t r : Nat) (ht : w.cell? ⟨t, 0, none⟩ = some (.pointer (some ⟨b, 0, none⟩))) (hr : r < 4294967296) :
    Calls Tryd.prog 71 #[.pointer (some ⟨t, 0, none⟩), .int .i64 r] w fun e w' => ∃ A, e = .returned (.agg A) ∧ A.size = 16 ∧ Hid (A = refsV (ptr u D r)) ∧ Hid (A.all (·.oneCell') = true) ∧ Hid (∀ j, j < 16 → A[j]? = some (.int .i64 (ptr u D r j : Nat))) ∧ Hid (Mod (fun _ => False) w w') :=
  (load_any S t r ht hr).mono fun e w' ⟨he, hM⟩ => ⟨_, he, refsV_size _, rfl, refsV_one _, fun j hj => by simp [refsV, List.getElem?_range hj, refV], hM⟩
theorem look_one (r k t : Nat) (w : World) : Calls Tryd.prog 60 #[.pointer (some ⟨t, 0, none⟩), .int .i64 r, .int .i64 1, .int .i64 k] w fun e w' => e = .returned (.int .i64 r) ∧ w' = w := by
  by_cases h0 : ((r : Int) == 0) = true
  · go_enter Tryd.func60, Tryd.ntmps60
    go_wp2
    go_ret
    exact ⟨by simp, rfl⟩
  · have h1 : ((r : Int) == 0) = false := by simpa using h0
    clear h0
    go_enter Tryd.func60, Tryd.ntmps60
    go_wp2
    go_ret
    exact ⟨by simp, rfl⟩
theorem look_none (k p t : Nat) (w : World) : Calls Tryd.prog 60 #[.pointer (some ⟨t, 0, none⟩), .int .i64 0, .int .i64 p, .int .i64 k] w fun e w' => e = .returned (.int .i64 0) ∧ w' = w := by
  go_enter Tryd.func60, Tryd.ntmps60
  go_wp2
  go_ret
  exact ⟨by simp, rfl⟩
theorem look0 (u : Nat → Bool) (D : Nat → Nat) (w : World) (t r k : Nat) : Calls Tryd.prog 60 #[.pointer (some ⟨t, 0, none⟩), .int .i64 r, .int .i64 1, .int .i64 k] w fun e w' => e = .returned (.int .i64 (lk 0 u D r k : Nat)) ∧ Mod (fun _ => False) w w' :=
  (look_one r k t w).mono fun _ _ ⟨h1, h2⟩ => ⟨h1, h2 ▸ Mod.refl _ _⟩

set_option maxRecDepth 8000 in
set_option maxHeartbeats 1000000 in
theorem look1 (S : St w b c n u D) (t r k : Nat) (ht : w.cell? ⟨t, 0, none⟩ = some (.pointer (some ⟨b, 0, none⟩))) (hr : r < 4294967296) (hk : k < 16) : Calls Tryd.prog 60 #[.pointer (some ⟨t, 0, none⟩), .int .i64 r, .int .i64 16, .int .i64 k] w fun e w' => e = .returned (.int .i64 (lk 1 u D r k : Nat)) ∧ Mod (fun _ => False) w w' := by
  by_cases h0 : r = 0
  · subst h0
    rw [lk_zero]
    exact (look_none k 16 t w).mono fun _ _ ⟨h1, h2⟩ => ⟨h1, h2 ▸ Mod.refl _ _⟩
  · have h1 : ((r : Int) == 0) = false := by simpa using h0
    have hx := ptr_lt u D S.dl r (k)
    have HX : Hid (lk 1 u D r k = ptr u D r k) := by show _ = _; simp [lk]
    have HS : Hid (St (w.drewN 1) b c n u D) := S.drewN 1
    have HT : Hid ((w.drewN 1).cell? ⟨t, 0, none⟩ = some (.pointer (some ⟨b, 0, none⟩))) := ht
    obtain ⟨x, hxe⟩ : ∃ x, x = ptr u D r (k) := ⟨_, rfl⟩
    have HE : Hid (x = ptr u D r (k)) := hxe
    rw [← hxe] at hx
    have hw1 : IntKind.i64.wrap (k : Int) = k := by rw [IntKind.wrap_i64]; omega
    clear S ht h0 hxe
    go_enter Tryd.func60, Tryd.ntmps60
    go_wp2_with fail
    go_region_held (fun W' => W'.cell? ⟨t, 0, none⟩ = some (.pointer (some ⟨b, 0, none⟩))) (first | exact hS2 | exact hS1 | exact HT.out) (first | (go_at_call 71; refine (load_row HS.out t r HT.out hr).mono ?_; rintro e w1 ⟨A, rfl, hsz, HA, -, HJ, HM⟩; have hix := run_indexP A _ k x rfl hk ((HJ.out _ (by omega)).trans (by rw [HE.out])); have hS1 := (HM.out.cell (p := ⟨t, 0, none⟩) (block_lt_of_cell (w := w) HT.out) (fun h => h)).trans HT.out) | (go_at_call 60; refine (look_one x 0 t w1).mono ?_; rintro e w2 ⟨rfl, hw2⟩; rw [hw2]; clear hw2 w2))
    go_wp2
    go_ret
    exact ⟨by simp [HX.out, HE.out], ((Mod.refl (fun _ => False) w).drewN 1).trans (HM.out)⟩

set_option maxRecDepth 8000 in
set_option maxHeartbeats 1000000 in
theorem look2 (S : St w b c n u D) (t r k : Nat) (ht : w.cell? ⟨t, 0, none⟩ = some (.pointer (some ⟨b, 0, none⟩))) (hr : r < 4294967296) (hk : k < 256) : Calls Tryd.prog 60 #[.pointer (some ⟨t, 0, none⟩), .int .i64 r, .int .i64 256, .int .i64 k] w fun e w' => e = .returned (.int .i64 (lk 2 u D r k : Nat)) ∧ Mod (fun _ => False) w w' := by
  by_cases h0 : r = 0
  · subst h0
    rw [lk_zero]
    exact (look_none k 256 t w).mono fun _ _ ⟨h1, h2⟩ => ⟨h1, h2 ▸ Mod.refl _ _⟩
  · have h1 : ((r : Int) == 0) = false := by simpa using h0
    have hx := ptr_lt u D S.dl r (k / 16)
    have HX : Hid (lk 2 u D r k = lk 1 u D (ptr u D r (k / 16)) (k % 16)) := by show _ = _; simp [lk]
    have HS : Hid (St (w.drewN 1) b c n u D) := S.drewN 1
    have HT : Hid ((w.drewN 1).cell? ⟨t, 0, none⟩ = some (.pointer (some ⟨b, 0, none⟩))) := ht
    obtain ⟨x, hxe⟩ : ∃ x, x = ptr u D r (k / 16) := ⟨_, rfl⟩
    have HE : Hid (x = ptr u D r (k / 16)) := hxe
    rw [← hxe] at hx
    have hw2 : IntKind.i64.wrap ((k : Int) / 16) = (k : Int) / 16 := by rw [IntKind.wrap_i64]; omega
    have HTM : Hid ((k : Int).tmod 16 = ((k % 16 : Nat) : Int)) := by show _ = _; rw [Int.tmod_eq_emod_of_nonneg (by omega)]; omega
    have hw1 : IntKind.i64.wrap (k : Int) = k := by rw [IntKind.wrap_i64]; omega
    clear S ht h0 hxe
    go_enter Tryd.func60, Tryd.ntmps60
    go_wp2_with fail
    go_region_held (fun W' => W'.cell? ⟨t, 0, none⟩ = some (.pointer (some ⟨b, 0, none⟩))) (first | exact hS2 | exact hS1 | exact HT.out) (first | (go_at_call 71; refine (load_row HS.out t r HT.out hr).mono ?_; rintro e w1 ⟨A, rfl, hsz, HA, -, HJ, HM⟩; have hix := run_indexP A ((k : Int) / 16) (k / 16) x (by omega) (by omega) ((HJ.out _ (by omega)).trans (by rw [HE.out])); have hS1 := (HM.out.cell (p := ⟨t, 0, none⟩) (block_lt_of_cell (w := w) HT.out) (fun h => h)).trans HT.out) | (go_at_call 60; rw [HTM.out]; refine (look1 (HS.out.mod HM.out (fun h => h) (fun h => h) (fun h => h)) t x (k % 16) ((HM.out.cell (p := ⟨t, 0, none⟩) (block_lt_of_cell (w := w) HT.out) (fun h => h)).trans HT.out) hx (by omega)).mono ?_; rintro e w2 ⟨rfl, M2⟩; have hS2 := (M2.cell (p := ⟨t, 0, none⟩) (block_lt_of_cell hS1) (fun h => h)).trans hS1; have HM2 : Hid (Mod (fun _ => False) w1 w2) := M2; clear M2))
    go_wp2
    go_ret
    exact ⟨by simp [HX.out, HE.out], ((Mod.refl (fun _ => False) w).drewN 1).trans (HM.out.trans HM2.out)⟩
end
end Go.Proofs.YtgplmgliockbcaaDoor
