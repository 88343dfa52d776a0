/- A table of inodes where it lies: its store, its nodes' cells and the clock. Conditions: none but what 'Tb' says. -/
import Derived.Test.YtgplmgliockbcaaDoorTake1
import Derived.Laws.ResultCell
namespace Go.Proofs.YtgplmgliockbcaaDoor
open Go.RowKit
/-- A table at t: nodes at q (N of them: the first nine cells F, then eight refs R), a store at b and c (n blocks, in use u, bytes D). -/
structure Tb (w : World) (t q b c n N : Nat) (clk : Int) (F : Nat → Nat → Int) (R : Nat → Nat → Nat) (u : Nat → Bool) (D : Nat → Nat) : Prop where
  S : St w b c n u D
  N1 : 1 ≤ N
  N2 : N ≤ 4096
  c0 : w.cell? ⟨t, 0, none⟩ = some (.pointer (some ⟨b, 0, none⟩))
  c1 : ∃ cp, w.cell? ⟨t, 1, none⟩ = some (.slice (some ⟨q, 0, none⟩) N cp)
  c2 : w.cell? ⟨t, 2, none⟩ = some (.int .i64 clk)
  ft : ∀ o, w.frozen? ⟨t, o, none⟩ = false
  cf : ∀ i o, i < N → o < 9 → w.cell? ⟨q, i * 17 + o, none⟩ = some (.int .i64 (F i o))
  cr : ∀ i k, i < N → k < 8 → w.cell? ⟨q, i * 17 + 9 + k, none⟩ = some (.int .i64 (R i k : Nat))
  fq : ∀ o, w.frozen? ⟨q, o, none⟩ = false
  rl : ∀ i k, R i k < 4294967296
  sz : ∀ i, 0 ≤ F i 5 ∧ F i 5 ≤ 17792
  t0 : t ≠ 0
  q0 : q ≠ 0
  tq : t ≠ q
  tb : t ≠ b
  tc : t ≠ c
  qb : q ≠ b
  qc : q ≠ c
section
variable {w w' : World} {t q b c n N : Nat} {clk : Int} {F : Nat → Nat → Int} {R : Nat → Nat → Nat} {u : Nat → Bool} {D : Nat → Nat}
theorem Tb.lt_t (T : Tb w t q b c n N clk F R u D) : t < w.heap.size := block_lt_of_cell T.c0
theorem Tb.lt_q (T : Tb w t q b c n N clk F R u D) : q < w.heap.size := block_lt_of_cell (T.cf 0 0 (by have := T.N1; omega) (by omega))
/-- The store's state may turn, the rest is as it was. -/
theorem Tb.store (T : Tb w t q b c n N clk F R u D) {s : Nat → Prop} (h : Mod s w w') {u' : Nat → Bool} {D' : Nat → Nat} (hS : St w' b c n u' D') (ht : ¬ s t) (hq : ¬ s q) : Tb w' t q b c n N clk F R u' D' where
  S := hS
  N1 := T.N1
  N2 := T.N2
  c0 := (h.cell (p := ⟨t, 0, none⟩) T.lt_t ht).trans T.c0
  c1 := by obtain ⟨cp, e⟩ := T.c1; exact ⟨cp, (h.cell (p := ⟨t, 1, none⟩) T.lt_t ht).trans e⟩
  c2 := (h.cell (p := ⟨t, 2, none⟩) T.lt_t ht).trans T.c2
  ft o := (h.frozen (p := ⟨t, o, none⟩) T.lt_t ht).trans (T.ft o)
  cf i o hi ho := (h.cell (p := ⟨q, i * 17 + o, none⟩) T.lt_q hq).trans (T.cf i o hi ho)
  cr i k hi hk := (h.cell (p := ⟨q, i * 17 + 9 + k, none⟩) T.lt_q hq).trans (T.cr i k hi hk)
  fq o := (h.frozen (p := ⟨q, o, none⟩) T.lt_q hq).trans (T.fq o)
  rl := T.rl
  sz := T.sz
  t0 := T.t0
  q0 := T.q0
  tq := T.tq
  tb := T.tb
  tc := T.tc
  qb := T.qb
  qc := T.qc
theorem Tb.mod (T : Tb w t q b c n N clk F R u D) {s : Nat → Prop} (h : Mod s w w') (h0 : ¬ s 0) (hb : ¬ s b) (hc : ¬ s c) (ht : ¬ s t) (hq : ¬ s q) : Tb w' t q b c n N clk F R u D :=
  T.store h (T.S.mod h h0 hb hc) ht hq
theorem Tb.new (T : Tb w t q b c n N clk F R u D) (h : Mod (fun _ => False) w w') : Tb w' t q b c n N clk F R u D := T.mod h (fun h => h) (fun h => h) (fun h => h) (fun h => h) (fun h => h)
/-- One inode's cells may turn too. -/
def upd2 {α : Type} (F : Nat → Nat → α) (i o : Nat) (v : α) : Nat → Nat → α := fun j k => if j = i ∧ k = o then v else F j k
theorem Tb.setF (T : Tb w t q b c n N clk F R u D) (i o : Nat) (ho : o < 9) (v : Int) (hv : o = 5 → 0 ≤ v ∧ v ≤ 17792) : Tb (w.setCell ⟨q, i * 17 + o, none⟩ (.int .i64 v)) t q b c n N clk (upd2 F i o v) R u D where
  S := T.S.set q _ _ T.q0 T.qb T.qc
  N1 := T.N1
  N2 := T.N2
  c0 := (setCell_out _ _ _ _ _ (fun e => absurd e T.tq)).trans T.c0
  c1 := by obtain ⟨cp, e⟩ := T.c1; exact ⟨cp, (setCell_out _ _ _ _ _ (fun e => absurd e T.tq)).trans e⟩
  c2 := (setCell_out _ _ _ _ _ (fun e => absurd e T.tq)).trans T.c2
  ft o := (setCell_frozen _ _ _ _ _).trans (T.ft o)
  cf j k hj hk := by
    unfold upd2
    by_cases e : j = i ∧ k = o
    · obtain ⟨rfl, rfl⟩ := e
      rw [if_pos ⟨rfl, rfl⟩]; exact setCell_in _ _ _ _ _ (T.cf j k hj hk)
    · rw [if_neg e, setCell_out _ _ _ _ _ (fun _ => by show j * 17 + k ≠ i * 17 + o; omega)]; exact T.cf j k hj hk
  cr j k hj hk := by rw [setCell_out _ _ _ _ _ (fun _ => by show j * 17 + 9 + k ≠ i * 17 + o; omega)]; exact T.cr j k hj hk
  fq o := (setCell_frozen _ _ _ _ _).trans (T.fq o)
  rl := T.rl
  sz j := by
    unfold upd2
    by_cases e : j = i ∧ 5 = o
    · rw [if_pos e]; exact hv e.2.symm
    · rw [if_neg e]; exact T.sz j
  t0 := T.t0
  q0 := T.q0
  tq := T.tq
  tb := T.tb
  tc := T.tc
  qb := T.qb
  qc := T.qc
/-- A ref of inode i and the store have turned, as Fr says. -/
theorem Tb.fr (T : Tb w t q b c n N clk F R u D) (i k r' : Nat) (hk : k < 8) (h : Fr b c q (i * 17 + 9 + k) w w') {u' : Nat → Bool} {D' : Nat → Nat} (hS : St w' b c n u' D') (hr : r' < 4294967296)
    (hc : w'.cell? ⟨q, i * 17 + 9 + k, none⟩ = some (.int .i64 (r' : Nat))) : Tb w' t q b c n N clk F (upd2 R i k r') u' D' :=
  have ht : ¬ (t = b ∨ t = c ∨ t = q) := fun e => e.elim T.tb (fun e => e.elim T.tc T.tq)
  { S := hS
    N1 := T.N1
    N2 := T.N2
    c0 := (h.mod.cell (p := ⟨t, 0, none⟩) T.lt_t ht).trans T.c0
    c1 := by obtain ⟨cp, e⟩ := T.c1; exact ⟨cp, (h.mod.cell (p := ⟨t, 1, none⟩) T.lt_t ht).trans e⟩
    c2 := (h.mod.cell (p := ⟨t, 2, none⟩) T.lt_t ht).trans T.c2
    ft := fun o => (h.mod.frozen (p := ⟨t, o, none⟩) T.lt_t ht).trans (T.ft o)
    cf := fun j o hj ho => (h.cell _ (by omega)).trans (T.cf j o hj ho)
    cr := fun j o hj ho => by
      unfold upd2
      by_cases e : j = i ∧ o = k
      · obtain ⟨rfl, rfl⟩ := e
        rw [if_pos ⟨rfl, rfl⟩]; exact hc
      · rw [if_neg e]; exact (h.cell _ (by omega)).trans (T.cr j o hj ho)
    fq := fun o => (h.frz o).trans (T.fq o)
    rl := fun j o => by unfold upd2; split; exact hr; exact T.rl j o
    sz := T.sz
    t0 := T.t0
    q0 := T.q0
    tq := T.tq
    tb := T.tb
    tc := T.tc
    qb := T.qb
    qc := T.qc }
theorem Tb.apart (T : Tb w t q b c n N clk F R u D) : Apart b c t q := ⟨T.q0, T.qb, T.qc, T.tb, T.tc, T.tq⟩
end
/-- Place k: which of the eight refs, how many levels down, which place there. -/
def rt (k : Nat) : Nat := if k < 6 then k else if k < 22 then 6 else 7
def lv (k : Nat) : Nat := if k < 6 then 0 else if k < 22 then 1 else 2
def kk (k : Nat) : Nat := if k < 6 then 0 else if k < 22 then k - 6 else k - 22
theorem rt_lt (k : Nat) : rt k < 8 := by unfold rt; split; omega; split <;> omega
set_option maxHeartbeats 1000000 in
theorem place_at (nb no k : Nat) (w : World) (hk : k < 278) : Calls Tryd.prog 59 #[.pointer (some ⟨nb, no, none⟩), .int .i64 k] w fun e w' =>
    e = .returned (.tuple #[.agg #[.pointer (some ⟨nb, no + 9 + rt k, none⟩), .int .i64 (16 ^ lv k : Nat)], .int .i64 (kk k : Nat)]) ∧ Mod (fun _ => False) w w' := by
  have hM : ∀ vs, Mod (fun _ => False) w (w.alloc (.cells vs 110)) := fun vs => (Mod.refl _ w).alloc _
  by_cases h1 : k < 6
  · rw [show rt k = k by simp [rt, h1], show lv k = 0 by simp [lv, h1], show kk k = 0 by simp [kk, h1]]
    have HM : Hid (∀ vs, Mod (fun _ => False) w (w.alloc (.cells vs 110))) := hM
    clear hM
    go_enter Tryd.func59, Tryd.ntmps59
    go_wp2
    refine bodyPost_ret (v := .tuple #[.agg #[.pointer (some ⟨nb, no + 9 + k, none⟩), .int .i64 1], .int .i64 0]) ?_ rfl ⟨rfl, HM.out _⟩
    rw [results_cell_tmp (fn := Tryd.f59) (p := 4) (ty := 110) (u := 5) rfl]
    simp [go_sem]
  · by_cases h2 : k < 22
    · rw [show rt k = 6 by simp [rt, h1, h2], show lv k = 1 by simp [lv, h1, h2], show kk k = k - 6 by simp [kk, h1, h2]]
      have HM : Hid (∀ vs, Mod (fun _ => False) w (w.alloc (.cells vs 110))) := hM
      clear hM
      go_enter Tryd.func59, Tryd.ntmps59
      go_wp2
      refine bodyPost_ret (v := .tuple #[.agg #[.pointer (some ⟨nb, no + 15, none⟩), .int .i64 16], .int .i64 ((k : Int) - 6)]) ?_ rfl ⟨by rw [show ((k - 6 : Nat) : Int) = (k : Int) - 6 by omega]; rfl, HM.out _⟩
      rw [results_cell_tmp (fn := Tryd.f59) (p := 4) (ty := 110) (u := 5) rfl]
      simp [go_sem]
    · rw [show rt k = 7 by simp [rt, h1, h2], show lv k = 2 by simp [lv, h1, h2], show kk k = k - 22 by simp [kk, h1, h2]]
      have HM : Hid (∀ vs, Mod (fun _ => False) w (w.alloc (.cells vs 110))) := hM
      clear hM
      go_enter Tryd.func59, Tryd.ntmps59
      go_wp2
      refine bodyPost_ret (v := .tuple #[.agg #[.pointer (some ⟨nb, no + 16, none⟩), .int .i64 256], .int .i64 ((k : Int) - 6 - 16)]) ?_ rfl ⟨by rw [show ((k - 22 : Nat) : Int) = (k : Int) - 6 - 16 by omega]; rfl, HM.out _⟩
      rw [results_cell_tmp (fn := Tryd.f59) (p := 4) (ty := 110) (u := 5) rfl]
      simp [go_sem]
end Go.Proofs.YtgplmgliockbcaaDoor
