/- Several texts of this claim, one behind the other, in their order. -/
import Derived.Test.YtpcbpikhiooafaaGreatDoorM5
import Derived.Laws.ResultCell
/- A table of inodes where it lies: its store, its nodes' cells and the clock. Conditions: none but what 'Tb' says. -/
namespace Go.Proofs.YtpcbpikhiooafaaGreatDoor
open Go.RowKit
/-- A table at t: nodes at q (N of them: the first nine cells F, then eight refs R), a store at b and c (n blocks, in use u, bytes D). -/
structure Tb (w : World) (t q b c n N : Nat) (clk : Int) (F : Nat → Nat → Int) (R : Nat → Nat → Nat) (u : Nat → Bool) (D : Nat → Nat) : Prop where
  S : St w b c n u D
  N1 : 1 ≤ N
  N2 : N ≤ 4096
  c0 : w.cell? ⟨t, 0, none⟩ = some (.pointer (some ⟨b, 0, none⟩))
  c1 : ∃ cp, w.cell? ⟨t, 1, none⟩ = some (.slice (some ⟨q, 0, none⟩) N cp)
  c2 : w.cell? ⟨t, 2, none⟩ = some (.int .i64 clk)
  ft : ∀ o, w.frozen? ⟨t, o, none⟩ = false
  cf : ∀ i o, i < N → o < 9 → w.cell? ⟨q, i * 17 + o, none⟩ = some (.int .i64 (F i o))
  cr : ∀ i k, i < N → k < 8 → w.cell? ⟨q, i * 17 + 9 + k, none⟩ = some (.int .i64 (R i k : Nat))
  fq : ∀ o, w.frozen? ⟨q, o, none⟩ = false
  rl : ∀ i k, R i k < 4294967296
  sz : ∀ i, 0 ≤ F i 5 ∧ F i 5 ≤ 17792
  t0 : t ≠ 1
  q0 : q ≠ 1
  tq : t ≠ q
  tb : t ≠ b
  tc : t ≠ c
  qb : q ≠ b
  qc : q ≠ c
section
variable {w w' : World} {t q b c n N : Nat} {clk : Int} {F : Nat → Nat → Int} {R : Nat → Nat → Nat} {u : Nat → Bool} {D : Nat → Nat}
theorem Tb.lt_t (T : Tb w t q b c n N clk F R u D) : t < w.heap.size := block_lt_of_cell T.c0
theorem Tb.lt_q (T : Tb w t q b c n N clk F R u D) : q < w.heap.size := block_lt_of_cell (T.cf 0 0 (by have := T.N1; omega) (by omega))
/-- The store's state may turn, the rest is as it was. -/
theorem Tb.store (T : Tb w t q b c n N clk F R u D) {s : Nat → Prop} (h : Mod s w w') {u' : Nat → Bool} {D' : Nat → Nat} (hS : St w' b c n u' D') (ht : ¬ s t) (hq : ¬ s q) : Tb w' t q b c n N clk F R u' D' where
  S := hS
  N1 := T.N1
  N2 := T.N2
  c0 := (h.cell (p := ⟨t, 0, none⟩) T.lt_t ht).trans T.c0
  c1 := by obtain ⟨cp, e⟩ := T.c1; exact ⟨cp, (h.cell (p := ⟨t, 1, none⟩) T.lt_t ht).trans e⟩
  c2 := (h.cell (p := ⟨t, 2, none⟩) T.lt_t ht).trans T.c2
  ft o := (h.frozen (p := ⟨t, o, none⟩) T.lt_t ht).trans (T.ft o)
  cf i o hi ho := (h.cell (p := ⟨q, i * 17 + o, none⟩) T.lt_q hq).trans (T.cf i o hi ho)
  cr i k hi hk := (h.cell (p := ⟨q, i * 17 + 9 + k, none⟩) T.lt_q hq).trans (T.cr i k hi hk)
  fq o := (h.frozen (p := ⟨q, o, none⟩) T.lt_q hq).trans (T.fq o)
  rl := T.rl
  sz := T.sz
  t0 := T.t0
  q0 := T.q0
  tq := T.tq
  tb := T.tb
  tc := T.tc
  qb := T.qb
  qc := T.qc
theorem Tb.mod (T : Tb w t q b c n N clk F R u D) {s : Nat → Prop} (h : Mod s w w') (h0 : ¬ s 1) (hb : ¬ s b) (hc : ¬ s c) (ht : ¬ s t) (hq : ¬ s q) : Tb w' t q b c n N clk F R u D :=
  T.store h (T.S.mod h h0 hb hc) ht hq
theorem Tb.new (T : Tb w t q b c n N clk F R u D) (h : Mod (fun _ => False) w w') : Tb w' t q b c n N clk F R u D := T.mod h (fun h => h) (fun h => h) (fun h => h) (fun h => h) (fun h => h)
/-- One inode's cells may turn too. -/
def upd2 {α : Type} (F : Nat → Nat → α) (i o : Nat) (v : α) : Nat → Nat → α := fun j k => if j = i ∧ k = o then v else F j k
theorem Tb.setF (T : Tb w t q b c n N clk F R u D) (i o : Nat) (ho : o < 9) (v : Int) (hv : o = 5 → 0 ≤ v ∧ v ≤ 17792) : Tb (w.setCell ⟨q, i * 17 + o, none⟩ (.int .i64 v)) t q b c n N clk (upd2 F i o v) R u D where
  S := T.S.set q _ _ T.q0 T.qb T.qc
  N1 := T.N1
  N2 := T.N2
  c0 := (setCell_out _ _ _ _ _ (fun e => absurd e T.tq)).trans T.c0
  c1 := by obtain ⟨cp, e⟩ := T.c1; exact ⟨cp, (setCell_out _ _ _ _ _ (fun e => absurd e T.tq)).trans e⟩
  c2 := (setCell_out _ _ _ _ _ (fun e => absurd e T.tq)).trans T.c2
  ft o := (setCell_frozen _ _ _ _ _).trans (T.ft o)
  cf j k hj hk := by
    unfold upd2
    by_cases e : j = i ∧ k = o
    · obtain ⟨rfl, rfl⟩ := e
      rw [if_pos ⟨rfl, rfl⟩]; exact setCell_in _ _ _ _ _ (T.cf j k hj hk)
    · rw [if_neg e, setCell_out _ _ _ _ _ (fun _ => by show j * 17 + k ≠ i * 17 + o; omega)]; exact T.cf j k hj hk
  cr j k hj hk := by rw [setCell_out _ _ _ _ _ (fun _ => by show j * 17 + 9 + k ≠ i * 17 + o; omega)]; exact T.cr j k hj hk
  fq o := (setCell_frozen _ _ _ _ _).trans (T.fq o)
  rl := T.rl
  sz j := by
    unfold upd2
    by_cases e : j = i ∧ 5 = o
    · rw [if_pos e]; exact hv e.2.symm
    · rw [if_neg e]; exact T.sz j
  t0 := T.t0
  q0 := T.q0
  tq := T.tq
  tb := T.tb
  tc := T.tc
  qb := T.qb
  qc := T.qc
/-- A ref of inode i and the store have turned, as Fr says. -/
theorem Tb.fr (T : Tb w t q b c n N clk F R u D) (i k r' : Nat) (hk : k < 8) (h : Fr b c q (i * 17 + 9 + k) w w') {u' : Nat → Bool} {D' : Nat → Nat} (hS : St w' b c n u' D') (hr : r' < 4294967296)
    (hc : w'.cell? ⟨q, i * 17 + 9 + k, none⟩ = some (.int .i64 (r' : Nat))) : Tb w' t q b c n N clk F (upd2 R i k r') u' D' :=
  have ht : ¬ (t = b ∨ t = c ∨ t = q) := fun e => e.elim T.tb (fun e => e.elim T.tc T.tq)
  { S := hS
    N1 := T.N1
    N2 := T.N2
    c0 := (h.mod.cell (p := ⟨t, 0, none⟩) T.lt_t ht).trans T.c0
    c1 := by obtain ⟨cp, e⟩ := T.c1; exact ⟨cp, (h.mod.cell (p := ⟨t, 1, none⟩) T.lt_t ht).trans e⟩
    c2 := (h.mod.cell (p := ⟨t, 2, none⟩) T.lt_t ht).trans T.c2
    ft := fun o => (h.mod.frozen (p := ⟨t, o, none⟩) T.lt_t ht).trans (T.ft o)
    cf := fun j o hj ho => (h.cell _ (by omega)).trans (T.cf j o hj ho)
    cr := fun j o hj ho => by
      unfold upd2
      by_cases e : j = i ∧ o = k
      · obtain ⟨rfl, rfl⟩ := e
        rw [if_pos ⟨rfl, rfl⟩]; exact hc
      · rw [if_neg e]; exact (h.cell _ (by omega)).trans (T.cr j o hj ho)
    fq := fun o => (h.frz o).trans (T.fq o)
    rl := fun j o => by unfold upd2; split; exact hr; exact T.rl j o
    sz := T.sz
    t0 := T.t0
    q0 := T.q0
    tq := T.tq
    tb := T.tb
    tc := T.tc
    qb := T.qb
    qc := T.qc }
theorem Tb.apart (T : Tb w t q b c n N clk F R u D) : Apart b c t q := ⟨T.q0, T.qb, T.qc, T.tb, T.tc, T.tq⟩
end
/-- Place k: which of the eight refs, how many levels down, which place there. -/
def rt (k : Nat) : Nat := if k < 6 then k else if k < 22 then 6 else 7
def lv (k : Nat) : Nat := if k < 6 then 0 else if k < 22 then 1 else 2
def kk (k : Nat) : Nat := if k < 6 then 0 else if k < 22 then k - 6 else k - 22
theorem rt_lt (k : Nat) : rt k < 8 := by unfold rt; split; omega; split <;> omega
set_option maxHeartbeats 1000000 in
theorem place_at (nb no k : Nat) (w : World) (hk : k < 278) : Calls Tryz.prog 100 #[.pointer (some ⟨nb, no, none⟩), .int .i64 k] w fun e w' =>
    e = .returned (.tuple #[.agg #[.pointer (some ⟨nb, no + 9 + rt k, none⟩), .int .i64 (16 ^ lv k : Nat)], .int .i64 (kk k : Nat)]) ∧ Mod (fun _ => False) w w' := by
  have hM : ∀ vs, Mod (fun _ => False) w (w.alloc (.cells vs 171)) := fun vs => (Mod.refl _ w).alloc _
  by_cases h1 : k < 6
  · rw [show rt k = k by simp [rt, h1], show lv k = 0 by simp [lv, h1], show kk k = 0 by simp [kk, h1]]
    have HM : Hid (∀ vs, Mod (fun _ => False) w (w.alloc (.cells vs 171))) := hM
    clear hM
    go_enter Tryz.func100, Tryz.ntmps100
    go_wp2
    refine bodyPost_ret (v := .tuple #[.agg #[.pointer (some ⟨nb, no + 9 + k, none⟩), .int .i64 1], .int .i64 0]) ?_ rfl ⟨rfl, HM.out _⟩
    rw [results_cell_tmp (fn := Tryz.f100) (p := 4) (ty := 171) (u := 5) rfl]
    simp [go_sem]
  · by_cases h2 : k < 22
    · rw [show rt k = 6 by simp [rt, h1, h2], show lv k = 1 by simp [lv, h1, h2], show kk k = k - 6 by simp [kk, h1, h2]]
      have HM : Hid (∀ vs, Mod (fun _ => False) w (w.alloc (.cells vs 171))) := hM
      clear hM
      go_enter Tryz.func100, Tryz.ntmps100
      go_wp2
      refine bodyPost_ret (v := .tuple #[.agg #[.pointer (some ⟨nb, no + 15, none⟩), .int .i64 16], .int .i64 ((k : Int) - 6)]) ?_ rfl ⟨by rw [show ((k - 6 : Nat) : Int) = (k : Int) - 6 by omega]; rfl, HM.out _⟩
      rw [results_cell_tmp (fn := Tryz.f100) (p := 4) (ty := 171) (u := 5) rfl]
      simp [go_sem]
    · rw [show rt k = 7 by simp [rt, h1, h2], show lv k = 2 by simp [lv, h1, h2], show kk k = k - 22 by simp [kk, h1, h2]]
      have HM : Hid (∀ vs, Mod (fun _ => False) w (w.alloc (.cells vs 171))) := hM
      clear hM
      go_enter Tryz.func100, Tryz.ntmps100
      go_wp2
      refine bodyPost_ret (v := .tuple #[.agg #[.pointer (some ⟨nb, no + 16, none⟩), .int .i64 256], .int .i64 ((k : Int) - 6 - 16)]) ?_ rfl ⟨by rw [show ((k - 22 : Nat) : Int) = (k : Int) - 6 - 16 by omega]; rfl, HM.out _⟩
      rw [results_cell_tmp (fn := Tryz.f100) (p := 4) (ty := 171) (u := 5) rfl]
      simp [go_sem]
end Go.Proofs.YtpcbpikhiooafaaGreatDoor
/- The walks of the table's small calls: made, used, find, inPlace, touch, New. Conditions: the table lies in memory as 'Tb' says. -/
namespace Go.Proofs.YtpcbpikhiooafaaGreatDoor
open Go.RowKit
section
variable {w w' : World} {t q b c n N : Nat} {clk : Int} {F : Nat → Nat → Int} {R : Nat → Nat → Nat} {u : Nat → Bool} {D : Nat → Nat}
theorem tmade_yes (t b : Nat) (w : World) (h : w.cell? ⟨t, 0, none⟩ = some (.pointer (some ⟨b, 0, none⟩))) : Calls Tryz.prog 30 #[.pointer (some ⟨t, 0, none⟩)] w fun e w' => e = .returned (.bool true) ∧ w' = w := by
  go_enter Tryz.func30, Tryz.ntmps30
  go_wp2
  go_ret
  exact ⟨by simp, rfl⟩
theorem tmade_nil (w : World) : Calls Tryz.prog 30 #[.pointer none] w fun e w' => e = .returned (.bool false) ∧ w' = w := by
  go_enter Tryz.func30, Tryz.ntmps30
  go_wp2
  go_ret
  exact ⟨by simp, rfl⟩
theorem tmade_zero (t : Nat) (w : World) (h : w.cell? ⟨t, 0, none⟩ = some (.pointer none)) : Calls Tryz.prog 30 #[.pointer (some ⟨t, 0, none⟩)] w fun e w' => e = .returned (.bool false) ∧ w' = w := by
  go_enter Tryz.func30, Tryz.ntmps30
  go_wp2
  go_ret
  exact ⟨by simp, rfl⟩
theorem used_node (q o : Nat) (m : Int) (w : World) (h : w.cell? ⟨q, o, none⟩ = some (.int .i64 m)) : Calls Tryz.prog 32 #[.pointer (some ⟨q, o, none⟩)] w fun e w' => e = .returned (.bool (m != 0)) ∧ w' = w := by
  go_enter Tryz.func32, Tryz.ntmps32
  go_wp2
  go_ret
  exact ⟨by simp, rfl⟩
theorem find_none (p : Value) (i : Int) (w : World) (h : Calls Tryz.prog 30 #[p] w fun e w' => e = .returned (.bool false) ∧ w' = w) : Calls Tryz.prog 37 #[p, .int .i64 i] w fun e w' => e = .returned (.tuple #[.pointer none, .int .i64 14]) ∧ w' = w := by
  go_enter Tryz.func37, Tryz.ntmps37
  go_wp2_with (go_at_call 30; refine h.mono ?_; rintro e w1 ⟨rfl, hw1⟩; rw [hw1]; clear hw1 w1)
  go_ret2
  exact ⟨by simp, rfl⟩
set_option maxHeartbeats 1000000 in
theorem find_ok (T : Tb w t q b c n N clk F R u D) (i : Nat) (hi : i < N) (hm : F i 0 ≠ 0) : Calls Tryz.prog 37 #[.pointer (some ⟨t, 0, none⟩), .int .i64 ((i : Int) + 1)] w fun e w' => e = .returned (.tuple #[.pointer (some ⟨q, i * 17, none⟩), .int .i64 0]) ∧ w' = w := by
  have h0 := T.c0
  obtain ⟨cp, h1⟩ := T.c1
  have hf := T.cf i 0 hi (by omega)
  rw [Nat.add_zero] at hf
  have hN := T.N2
  have hb : (F i 0 != 0) = true := by simpa using hm
  have HB : Hid ((F i 0 != 0) = true) := hb
  clear T hm hb
  go_enter Tryz.func37, Tryz.ntmps37
  go_wp2_with (first | (go_at_call 30; refine (tmade_yes t b w h0).mono ?_; rintro e w1 ⟨rfl, hw1⟩; rw [hw1]; clear hw1 w1) | (go_at_call 32; refine (used_node q _ _ _ hf).mono ?_; rw [HB.out]; rintro e w1 ⟨rfl, hw1⟩; rw [hw1]; clear hw1 w1))
  go_ret2
  exact ⟨by simp, rfl⟩
set_option maxHeartbeats 1000000 in
theorem find_not (T : Tb w t q b c n N clk F R u D) (i : Int) (hi : i < 1 ∨ N < i ∨ F (i - 1).toNat 0 = 0) : Calls Tryz.prog 37 #[.pointer (some ⟨t, 0, none⟩), .int .i64 i] w fun e w' => e = .returned (.tuple #[.pointer none, .int .i64 2]) ∧ w' = w := by
  have h0 := T.c0
  obtain ⟨cp, h1⟩ := T.c1
  have hN := T.N2
  by_cases ha : i < 1
  · clear T hi
    go_enter Tryz.func37, Tryz.ntmps37
    go_wp2_with (first | (go_at_call 30; refine (tmade_yes t b w h0).mono ?_; rintro e w1 ⟨rfl, hw1⟩; rw [hw1]; clear hw1 w1))
    go_ret2
    exact ⟨by simp, rfl⟩
  · by_cases hb : (N : Int) < i
    · clear T hi
      have ha' : 1 ≤ i := by omega
      go_enter Tryz.func37, Tryz.ntmps37
      go_wp2_with (first | (go_at_call 30; refine (tmade_yes t b w h0).mono ?_; rintro e w1 ⟨rfl, hw1⟩; rw [hw1]; clear hw1 w1))
      go_ret2
      exact ⟨by simp, rfl⟩
    · obtain ⟨k, hk⟩ := Int.eq_ofNat_of_zero_le (show 0 ≤ i - 1 by omega)
      obtain rfl : i = (k : Int) + 1 := by omega
      have hm : F k 0 = 0 := by
        rcases hi with h | h | h
        · omega
        · omega
        · simpa using h
      have hkN : k < N := by omega
      have hf := T.cf k 0 hkN (by omega)
      rw [Nat.add_zero, hm] at hf
      clear T hi hm hk ha hb
      go_enter Tryz.func37, Tryz.ntmps37
      go_wp2_with (first | (go_at_call 30; refine (tmade_yes t b w h0).mono ?_; rintro e w1 ⟨rfl, hw1⟩; rw [hw1]; clear hw1 w1) | (go_at_call 32; refine (used_node q _ _ _ hf).mono ?_; rintro e w1 ⟨rfl, hw1⟩; rw [hw1]; clear hw1 w1))
      go_ret2
      exact ⟨by simp, rfl⟩
theorem inPlace_any (o m : Nat) (w : World) (ho : o < 9223372036854775808) : Calls Tryz.prog 105 #[.int .i64 o, .int .i64 m] w fun e w' => e = .returned (.int .i64 (min m (64 - o % 64) : Nat)) ∧ w' = w := by
  by_cases h : m < 64 - o % 64
  · have h' : (m : Int) < 64 - (o : Int) % 64 := by omega
    have HM : Hid (min m (64 - o % 64) = m) := by show _ = _; omega
    go_enter Tryz.func105, Tryz.ntmps105
    go_wp2
    all_goals go_ret
    all_goals refine ⟨?_, rfl⟩
    all_goals rw [HM.out]
    all_goals simp
    all_goals omega
  · have h' : ¬ (m : Int) < 64 - (o : Int) % 64 := by omega
    have HM : Hid (min m (64 - o % 64) = 64 - o % 64) := by show _ = _; omega
    go_enter Tryz.func105, Tryz.ntmps105
    go_wp2
    all_goals go_ret
    all_goals refine ⟨?_, rfl⟩
    all_goals rw [HM.out]
    all_goals simp
    all_goals omega
end
def zeroN : Array Value := Array.replicate 17 (.int .i64 0)
theorem infoN : ∃ i, Tryz.prog.info? 92 = some i ∧ i.zero = some (.agg zeroN) ∧ i.size = 17 ∧ i.bytes = 136 := info_of (by kernel_rfl)
theorem undN : Tryz.prog.underlying 85 = some (.slice 92) := by kernel_rfl
theorem mk_nodes (n : Nat) (hn : n ≤ 4096) (w : World) : (Instr.makeSlice 85 (.int .i64 n) (.int .i64 n)).run Tryz.prog w = .ok (.slice (some ⟨w.heap.size, 0, none⟩) n n) (w.alloc (.cells (madeCells zeroN (n * 17)) 92)) := by
  obtain ⟨i, h1, h2, h3, h4⟩ := infoN
  have := run_make (P := Tryz.prog) w 85 92 i _ undN h1 h2 .i64 .i64 n n (by omega) (by omega) (by rw [h4]; omega) (by omega)
  rw [h3] at this
  simpa [Value.cells] using this
theorem madeN_at (n j : Nat) (hj : j < n * 17) : (madeCells zeroN (n * 17))[j]? = some (.int .i64 0) := by
  have hz : ∀ k, k < 17 → zeroN[k]! = .int .i64 0 := by
    intro k hk
    rw [getElem!_pos zeroN k (by simpa [zeroN] using hk)]
    simp only [zeroN, Array.getElem_replicate]
  simp only [madeCells, Array.getElem?_map, show zeroN.size = 17 from rfl]
  rw [Array.getElem?_eq_getElem (by simpa using hj)]
  simp only [Array.getElem_range, Option.map_some]
  rw [hz _ (Nat.mod_lt _ (by omega))]
set_option maxHeartbeats 1000000 in
theorem tnew_ok (n N : Nat) (w : World) (hn : 1 ≤ n) (hn2 : n ≤ 4096) (hN : 1 ≤ N) (hN2 : N ≤ 4096) (hT : TabIs w) : Calls Tryz.prog 13 #[.int .i64 n, .int .i64 N] w fun e w' => ∃ t q b c, e = .returned (.tuple #[.pointer (some ⟨t, 0, none⟩), .int .i64 0]) ∧
    Tb w' t q b c n N 0 (fun _ _ => 0) (fun _ _ => 0) (fun _ => false) (fun _ => 0) ∧ Mod (fun _ => False) w w' ∧ w.heap.size ≤ t ∧ w.heap.size ≤ q ∧ w.heap.size ≤ b ∧ w.heap.size ≤ c := by
  have hm := mk_nodes N hN2
  have HT : Hid (TabIs w) := hT
  have hN' : ¬ (N : Int) < 1 := by omega
  clear hT
  go_enter Tryz.func13, Tryz.ntmps13
  go_wp2_with (go_at_call 29; refine (St.new n w hn hn2 HT.out).mono ?_; rintro e w1 ⟨rfl, H1, M1, Z1⟩; have HS : Hid (St w1 (w.heap.size + 1) w.heap.size n (fun _ => false) (fun _ => 0)) := H1; have HM : Hid (Mod (fun _ => False) w w1) := M1; have HZ : Hid (w1.heap.size = w.heap.size + 2) := Z1; clear H1 M1 Z1)
  go_ret2
  have hz := HZ.out
  have hlb := HS.out.lt_b
  have hq0 : (w1.alloc (.cells (madeCells zeroN (N * 17)) 92)).heap.size = w1.heap.size + 1 := by simp
  have hM : Mod (fun _ => False) w1 ((w1.alloc (.cells (madeCells zeroN (N * 17)) 92)).alloc (.cells #[.pointer (some ⟨w.heap.size + 1, 0, none⟩), .slice (some ⟨w1.heap.size, 0, none⟩) N N, .int .i64 0] 87)) := ((Mod.refl _ w1).alloc _).alloc _
  refine ⟨w1.heap.size + 1, w1.heap.size, w.heap.size + 1, w.heap.size, by simp, ?_, HM.out.trans hM, by omega, by omega, by omega, by omega⟩
  exact {
    S := HS.out.mod hM (fun h => h) (fun h => h) (fun h => h)
    N1 := hN
    N2 := hN2
    c0 := by rw [World.cell?_alloc_at _ _ _ _ hq0.symm]; rfl
    c1 := ⟨N, by rw [World.cell?_alloc_at _ _ _ _ hq0.symm]; rfl⟩
    c2 := by rw [World.cell?_alloc_at _ _ _ _ hq0.symm]; rfl
    ft := fun o => World.frozen?_alloc_at _ _ _ _ hq0.symm
    cf := fun i o hi ho => by rw [World.cell?_alloc_past _ _ _ (by rw [hq0]; exact Nat.lt_succ_self _), World.cell?_alloc_at _ _ _ _ rfl]; exact madeN_at N _ (by omega)
    cr := fun i k hi hk => by rw [World.cell?_alloc_past _ _ _ (by rw [hq0]; exact Nat.lt_succ_self _), World.cell?_alloc_at _ _ _ _ rfl]; exact madeN_at N _ (by omega)
    fq := fun o => by rw [World.frozen?_alloc_past _ _ _ (by rw [hq0]; exact Nat.lt_succ_self _)]; exact World.frozen?_alloc_at _ _ _ _ rfl
    rl := fun _ _ => by omega
    sz := fun _ => by omega
    t0 := by omega
    q0 := by omega
    tq := by omega
    tb := by omega
    tc := by omega
    qb := by omega
    qc := by omega }
theorem tnew_bad (n N : Int) (w : World) (h : n < 1 ∨ 4096 < n ∨ N < 1 ∨ 4096 < N) (hT : TabIs w) : Calls Tryz.prog 13 #[.int .i64 n, .int .i64 N] w fun e w' => e = .returned (.tuple #[.pointer none, .int .i64 22]) ∧ Mod (fun _ => False) w w' := by
  by_cases hn : n < 1 ∨ 4096 < n
  · have HN : Hid (n < 1 ∨ 4096 < n) := hn
    clear hn h hT
    go_enter Tryz.func13, Tryz.ntmps13
    go_wp2_with (go_at_call 29; refine (new_bad n w HN.out).mono ?_; rintro e w1 ⟨rfl, hw1⟩; rw [hw1]; clear hw1 w1)
    go_ret2
    exact ⟨by simp, Mod.refl _ _⟩
  · obtain ⟨k, rfl⟩ := Int.eq_ofNat_of_zero_le (show 0 ≤ n by omega)
    have HT : Hid (TabIs w) := hT
    have hk1 : 1 ≤ k := by omega
    have hk2 : k ≤ 4096 := by omega
    have h' : N < 1 ∨ 4096 < N := by omega
    clear h hn hT
    rcases h' with h' | h'
    · go_enter Tryz.func13, Tryz.ntmps13
      go_wp2_with (go_at_call 29; refine (St.new k w hk1 hk2 HT.out).mono ?_; rintro e w1 ⟨rfl, -, M1, -⟩; have HM : Hid (Mod (fun _ => False) w w1) := M1; clear M1)
      go_ret2
      exact ⟨by simp, HM.out⟩
    · go_enter Tryz.func13, Tryz.ntmps13
      go_wp2_with (go_at_call 29; refine (St.new k w hk1 hk2 HT.out).mono ?_; rintro e w1 ⟨rfl, -, M1, -⟩; have HM : Hid (Mod (fun _ => False) w w1) := M1; clear M1)
      go_ret2
      exact ⟨by simp, HM.out⟩
end Go.Proofs.YtpcbpikhiooafaaGreatDoor
/- The walks of touch, fit and Alloc. Conditions: the table lies in memory as 'Tb' says. -/
namespace Go.Proofs.YtpcbpikhiooafaaGreatDoor
open Go.RowKit
def fitB (m : Int) : Bool := bits .andNot .i64 m 4095 == 32768 || bits .andNot .i64 m 4095 == 16384 || bits .andNot .i64 m 4095 == 40960
theorem fit_any (m : Int) (w : World) : Calls Tryz.prog 31 #[.int .i64 m] w fun e w' => e = .returned (.bool (fitB m)) ∧ w' = w := by
  unfold fitB
  generalize hx : bits .andNot .i64 m 4095 = x
  cases h1 : x == 32768
  · cases h2 : x == 16384
    · cases h3 : x == 40960
      all_goals
        go_enter Tryz.func31, Tryz.ntmps31
        go_wp2_with (simp only [hx, h1, h2, h3])
        go_ret
        exact ⟨by simp, rfl⟩
    · go_enter Tryz.func31, Tryz.ntmps31
      go_wp2_with (simp only [hx, h1, h2])
      go_ret
      exact ⟨by simp, rfl⟩
  · go_enter Tryz.func31, Tryz.ntmps31
    go_wp2_with (simp only [hx, h1])
    go_ret
    exact ⟨by simp, rfl⟩
section
variable {w w' : World} {t q b c n N : Nat} {clk : Int} {F : Nat → Nat → Int} {R : Nat → Nat → Nat} {u : Nat → Bool} {D : Nat → Nat}
theorem Tb.drewN (T : Tb w t q b c n N clk F R u D) (m : Nat) : Tb (w.drewN m) t q b c n N clk F R u D := T.new ((Mod.refl _ w).drewN m)
set_option maxHeartbeats 1000000 in
theorem touch_any (T : Tb w t q b c n N clk F R u D) (i : Nat) (hi : i < N) : Calls Tryz.prog 85 #[.pointer (some ⟨t, 0, none⟩), .pointer (some ⟨q, i * 17, none⟩)] w fun e w' => e = .returned (.tuple #[]) ∧
    Tb w' t q b c n N clk (upd2 (upd2 F i 7 clk) i 8 clk) R u D ∧ Mod (fun k => k = q) w w' := by
  have HT : Hid (Tb w t q b c n N clk F R u D) := T
  have h2 := T.c2
  have h7 := T.cf i 7 hi (by omega)
  have h8 := T.cf i 8 hi (by omega)
  have f7 := T.fq (i * 17 + 7)
  have f8 := T.fq (i * 17 + 8)
  have htq := T.tq
  have h2' : (w.drew.setCell ⟨q, i * 17 + 7, none⟩ (.int .i64 clk)).cell? ⟨t, 2, none⟩ = some (.int .i64 clk) := ((T.drewN 1).setF i 7 (by omega) clk (by omega)).c2
  clear T
  go_enter Tryz.func85, Tryz.ntmps85
  go_wp2
  go_region
  go_wp2
  exact ⟨rfl, _, results_none rfl _ _ _, rfl, ((HT.out.setF i 7 (by omega) clk (by omega)).setF i 8 (by omega) clk (by omega)).drewN 1, (((Mod.refl (fun k => k = q) w).setCell _ _ rfl).setCell _ _ rfl).drewN 1⟩
/-- A fresh inode's cells. -/
def freshF (m uid gid clk : Int) (o : Nat) : Int := if o = 0 then m else if o = 1 then uid else if o = 2 then gid else if o < 6 then 0 else clk
def setN {α : Type} (F : Nat → Nat → α) (i : Nat) (f : Nat → α) : Nat → Nat → α := fun j o => if j = i then f o else F j o
theorem Tb.setNode (T : Tb w t q b c n N clk F R u D) (i : Nat) (hi : i < N) (f : Nat → Int) (g : Nat → Nat) (hg : ∀ k, g k < 4294967296) (hf : 0 ≤ f 5 ∧ f 5 ≤ 17792) (vs : List Value) (hl : vs.length = 17) (h1 : ∀ o, o < 9 → vs[o]? = some (.int .i64 (f o))) (h2 : ∀ k, k < 8 → vs[9 + k]? = some (.int .i64 (g k : Nat))) :
    Tb (w.setCells q (i * 17) vs) t q b c n N clk (setN F i f) (setN R i g) u D :=
  have hM : Mod (fun k => k = q) w (w.setCells q (i * 17) vs) := Mod.setCells (s := fun k => k = q) q rfl vs _ (Mod.refl (fun k => k = q) w)
  have hT : w.there q (i * 17) vs.length := fun j hj => by
    refine ⟨?_, T.fq _⟩
    rw [hl] at hj
    by_cases h9 : j < 9
    · rw [T.cf i j hi h9]; rfl
    · have := T.cr i (j - 9) hi (by omega)
      rw [show i * 17 + 9 + (j - 9) = i * 17 + j by omega] at this
      rw [this]; rfl
  have hin := World.rangeAt_setCells_same w q (i * 17) vs hT
  have hout : ∀ o, (o < i * 17 ∨ i * 17 + 17 ≤ o) → (w.setCells q (i * 17) vs).cell? ⟨q, o, none⟩ = w.cell? ⟨q, o, none⟩ := fun o ho => World.cell?_setCells_out q vs (i * 17) w ⟨q, o, none⟩ (fun _ _ => by show o < i * 17 ∨ i * 17 + vs.length ≤ o; rw [hl]; exact ho)
  { S := T.S.mod hM T.q0.symm T.qb.symm T.qc.symm
    N1 := T.N1
    N2 := T.N2
    c0 := (hM.cell (p := ⟨t, 0, none⟩) T.lt_t T.tq).trans T.c0
    c1 := by obtain ⟨cp, e⟩ := T.c1; exact ⟨cp, (hM.cell (p := ⟨t, 1, none⟩) T.lt_t T.tq).trans e⟩
    c2 := (hM.cell (p := ⟨t, 2, none⟩) T.lt_t T.tq).trans T.c2
    ft := fun o => (hM.frozen (p := ⟨t, o, none⟩) T.lt_t T.tq).trans (T.ft o)
    cf := fun j o hj ho => by
      unfold setN
      by_cases e : j = i
      · subst e; rw [if_pos rfl]; exact hin o _ (h1 o ho)
      · rw [if_neg e, hout _ (by omega)]; exact T.cf j o hj ho
    cr := fun j k hj hk => by
      unfold setN
      by_cases e : j = i
      · subst e; rw [if_pos rfl, Nat.add_assoc]; exact hin (9 + k) _ (h2 k hk)
      · rw [if_neg e, hout _ (by omega)]; exact T.cr j k hj hk
    fq := fun o => (World.frozen?_setCells q vs _ w _).trans (T.fq o)
    rl := fun j k => by unfold setN; split; exact hg k; exact T.rl j k
    sz := fun j => by unfold setN; split; exact hf; exact T.sz j
    t0 := T.t0
    q0 := T.q0
    tq := T.tq
    tb := T.tb
    tc := T.tc
    qb := T.qb
    qc := T.qc }
theorem Tb.there (T : Tb w t q b c n N clk F R u D) (i : Nat) (hi : i < N) : w.there q (i * 17) 17 := fun j hj => by
  refine ⟨?_, T.fq _⟩
  by_cases h9 : j < 9
  · rw [T.cf i j hi h9]; rfl
  · have := T.cr i (j - 9) hi (by omega)
    rw [show i * 17 + 9 + (j - 9) = i * 17 + j by omega] at this
    rw [this]; rfl
theorem infN17 : (Tryz.prog.info? 92).map (·.size) = some 17 := by kernel_rfl
theorem talloc_none (p : Value) (m uid gid : Int) (w : World) (h : Calls Tryz.prog 30 #[p] w fun e w' => e = .returned (.bool false) ∧ w' = w) : Calls Tryz.prog 14 #[p, .int .i64 m, .int .i64 uid, .int .i64 gid] w fun e w' => e = .returned (.tuple #[.int .i64 0, .int .i64 14]) ∧ w' = w := by
  go_enter Tryz.func14, Tryz.ntmps14
  go_wp2_with (go_at_call 30; refine h.mono ?_; rintro e w1 ⟨rfl, hw1⟩; rw [hw1]; clear hw1 w1)
  go_ret2
  exact ⟨by simp, rfl⟩
set_option maxRecDepth 8000 in
set_option maxHeartbeats 1000000 in
theorem talloc_ok (T : Tb w t q b c n N clk F R u D) (m uid gid : Int) (i : Nat) (hm : fitB m = true) (hu : 0 ≤ uid) (hg : 0 ≤ gid) (hi : i < N) (h0 : F i 0 = 0) (hl : ∀ j, j < i → F j 0 ≠ 0) :
    Calls Tryz.prog 14 #[.pointer (some ⟨t, 0, none⟩), .int .i64 m, .int .i64 uid, .int .i64 gid] w fun e w' => e = .returned (.tuple #[.int .i64 ((i : Int) + 1), .int .i64 0]) ∧
      Tb w' t q b c n N clk (setN F i (freshF m uid gid clk)) (setN R i (fun _ => 0)) u D ∧ Mod (fun k => k = q) w w' := by
  have HT : Hid (Tb w t q b c n N clk F R u D) := T
  have h0' := T.c0
  obtain ⟨cp, h1⟩ := T.c1
  have h2 := T.c2
  have hN := T.N2
  have HL : Hid (∀ j, j < i → F j 0 ≠ 0) := hl
  have HM : Hid (fitB m = true) := hm
  have HZ : Hid (F i 0 = 0) := h0
  have HC : Hid (∀ j, j < N → w.cell? ⟨q, j * 17, none⟩ = some (.int .i64 (F j 0))) := fun j hj => T.cf j 0 hj (by omega)
  have hu' : ¬ uid < 0 := by omega
  have hg' : ¬ gid < 0 := by omega
  clear T hl hm h0
  go_enter Tryz.func14, Tryz.ntmps14
  go_wp2_with (first | (go_at_call 30; refine (tmade_yes t b w h0').mono ?_; rintro e w1 ⟨rfl, hw1⟩; rw [hw1]; clear hw1 w1) | (go_at_call 31; refine (fit_any m w).mono ?_; rw [HM.out]; rintro e w1 ⟨rfl, hw1⟩; rw [hw1]; clear hw1 w1))
  go_loop [30] (fun x => ∃ k : Nat, k ≤ i ∧ x = .int .i64 k) (fun x => N - (intOf x).toNat)
  case atStart => exact ⟨0, by omega, rfl⟩
  case round =>
    obtain ⟨k, hk, rfl⟩ := hrel
    by_cases hlt : k < i
    · have hc := HC.out k (by omega)
      have HB : Hid ((F k 0 != 0) = true) := by show _ = _; simpa using HL.out k hlt
      go_wp2_with (go_at_call 32; refine (used_node q _ _ _ hc).mono ?_; rw [HB.out]; rintro e w1 ⟨rfl, hw1⟩; rw [hw1]; clear hw1 w1)
      exact ⟨⟨k + 1, by omega, by go_num⟩, by simp [intOf]; omega⟩
    · obtain rfl : k = i := by omega
      have hc := HC.out k (by omega)
      have HB : Hid ((F k 0 != 0) = false) := by show _ = _; rw [HZ.out]; rfl
      have d1 := HT.out.cf k 1 hi (by omega)
      have d2 := HT.out.cf k 2 hi (by omega)
      have d3 := HT.out.cf k 3 hi (by omega)
      have d4 := HT.out.cf k 4 hi (by omega)
      have d5 := HT.out.cf k 5 hi (by omega)
      have d6 := HT.out.cf k 6 hi (by omega)
      have d7 := HT.out.cf k 7 hi (by omega)
      have d8 := HT.out.cf k 8 hi (by omega)
      have d9 := HT.out.cr k 0 hi (by omega)
      have d10 := HT.out.cr k 1 hi (by omega)
      have d11 := HT.out.cr k 2 hi (by omega)
      have d12 := HT.out.cr k 3 hi (by omega)
      have d13 := HT.out.cr k 4 hi (by omega)
      have d14 := HT.out.cr k 5 hi (by omega)
      have d15 := HT.out.cr k 6 hi (by omega)
      have d16 := HT.out.cr k 7 hi (by omega)
      have e1 := HT.out.fq (k * 17 + 1)
      have e2 := HT.out.fq (k * 17 + 2)
      have e3 := HT.out.fq (k * 17 + 3)
      have e4 := HT.out.fq (k * 17 + 4)
      have e5 := HT.out.fq (k * 17 + 5)
      have e6 := HT.out.fq (k * 17 + 6)
      have e7 := HT.out.fq (k * 17 + 7)
      have e8 := HT.out.fq (k * 17 + 8)
      have e9 := HT.out.fq (k * 17 + 9)
      have e10 := HT.out.fq (k * 17 + 10)
      have e11 := HT.out.fq (k * 17 + 11)
      have e12 := HT.out.fq (k * 17 + 12)
      have e13 := HT.out.fq (k * 17 + 13)
      have e14 := HT.out.fq (k * 17 + 14)
      have e15 := HT.out.fq (k * 17 + 15)
      have e16 := HT.out.fq (k * 17 + 16)
      have e0 := HT.out.fq (k * 17)
      simp only [Nat.add_assoc, Nat.reduceAdd] at d9 d10 d11 d12 d13 d14 d15 d16
      go_wp2_with (go_at_call 32; refine (used_node q _ _ _ hc).mono ?_; rw [HB.out]; rintro e w1 ⟨rfl, hw1⟩; rw [hw1]; clear hw1 w1)
      go_region
      go_wp2
      go_ret2
      have hS := HT.out.setNode k hi (freshF m uid gid clk) (fun _ => 0) (fun _ => by omega) (by simp [freshF]) [.int .i64 m, .int .i64 uid, .int .i64 gid, .int .i64 0, .int .i64 0, .int .i64 0, .int .i64 clk, .int .i64 clk, .int .i64 clk, .int .i64 0, .int .i64 0, .int .i64 0, .int .i64 0, .int .i64 0, .int .i64 0, .int .i64 0, .int .i64 0] rfl
        (fun o ho => by match o, ho with | 0, _ => rfl | 1, _ => rfl | 2, _ => rfl | 3, _ => rfl | 4, _ => rfl | 5, _ => rfl | 6, _ => rfl | 7, _ => rfl | 8, _ => rfl)
        (fun o ho => by match o, ho with | 0, _ => rfl | 1, _ => rfl | 2, _ => rfl | 3, _ => rfl | 4, _ => rfl | 5, _ => rfl | 6, _ => rfl | 7, _ => rfl)
      exact ⟨by simp, hS.drewN 1, (Mod.setCells (s := fun k => k = q) q rfl [.int .i64 m, .int .i64 uid, .int .i64 gid, .int .i64 0, .int .i64 0, .int .i64 0, .int .i64 clk, .int .i64 clk, .int .i64 clk, .int .i64 0, .int .i64 0, .int .i64 0, .int .i64 0, .int .i64 0, .int .i64 0, .int .i64 0, .int .i64 0] (k * 17) (Mod.refl (fun k => k = q) w)).drewN 1⟩
set_option maxHeartbeats 1000000 in
theorem talloc_full (T : Tb w t q b c n N clk F R u D) (m uid gid : Int) (hm : fitB m = true) (hu : 0 ≤ uid) (hg : 0 ≤ gid) (hl : ∀ j, j < N → F j 0 ≠ 0) :
    Calls Tryz.prog 14 #[.pointer (some ⟨t, 0, none⟩), .int .i64 m, .int .i64 uid, .int .i64 gid] w fun e w' => e = .returned (.tuple #[.int .i64 0, .int .i64 28]) ∧ w' = w := by
  have h0' := T.c0
  obtain ⟨cp, h1⟩ := T.c1
  have hN := T.N2
  have HL : Hid (∀ j, j < N → F j 0 ≠ 0) := hl
  have HM : Hid (fitB m = true) := hm
  have HC : Hid (∀ j, j < N → w.cell? ⟨q, j * 17, none⟩ = some (.int .i64 (F j 0))) := fun j hj => T.cf j 0 hj (by omega)
  have hu' : ¬ uid < 0 := by omega
  have hg' : ¬ gid < 0 := by omega
  clear T hl hm
  go_enter Tryz.func14, Tryz.ntmps14
  go_wp2_with (first | (go_at_call 30; refine (tmade_yes t b w h0').mono ?_; rintro e w1 ⟨rfl, hw1⟩; rw [hw1]; clear hw1 w1) | (go_at_call 31; refine (fit_any m w).mono ?_; rw [HM.out]; rintro e w1 ⟨rfl, hw1⟩; rw [hw1]; clear hw1 w1))
  go_loop [30] (fun x => ∃ k : Nat, k ≤ N ∧ x = .int .i64 k) (fun x => N - (intOf x).toNat)
  case atStart => exact ⟨0, by omega, rfl⟩
  case round =>
    obtain ⟨k, hk, rfl⟩ := hrel
    by_cases hlt : k < N
    · have hc := HC.out k (by omega)
      have HB : Hid ((F k 0 != 0) = true) := by show _ = _; simpa using HL.out k hlt
      go_wp2_with (go_at_call 32; refine (used_node q _ _ _ hc).mono ?_; rw [HB.out]; rintro e w1 ⟨rfl, hw1⟩; rw [hw1]; clear hw1 w1)
      exact ⟨⟨k + 1, by omega, by go_num⟩, by simp [intOf]; omega⟩
    · obtain rfl : k = N := by omega
      go_wp2
      go_ret2
      exact ⟨by simp, rfl⟩
theorem talloc_bad (T : Tb w t q b c n N clk F R u D) (m uid gid : Int) (h : fitB m = false ∨ uid < 0 ∨ gid < 0) :
    Calls Tryz.prog 14 #[.pointer (some ⟨t, 0, none⟩), .int .i64 m, .int .i64 uid, .int .i64 gid] w fun e w' => e = .returned (.tuple #[.int .i64 0, .int .i64 22]) ∧ w' = w := by
  have h0' := T.c0
  cases hm : fitB m
  · have HM : Hid (fitB m = false) := hm
    clear T hm h
    go_enter Tryz.func14, Tryz.ntmps14
    go_wp2_with (first | (go_at_call 30; refine (tmade_yes t b w h0').mono ?_; rintro e w1 ⟨rfl, hw1⟩; rw [hw1]; clear hw1 w1) | (go_at_call 31; refine (fit_any m w).mono ?_; rw [HM.out]; rintro e w1 ⟨rfl, hw1⟩; rw [hw1]; clear hw1 w1))
    go_ret2
    exact ⟨by simp, rfl⟩
  · have HM : Hid (fitB m = true) := hm
    have h' : uid < 0 ∨ gid < 0 := by rcases h with h | h; rw [hm] at h; exact absurd h (by simp); exact h
    clear T hm h
    by_cases hu : uid < 0
    · clear h'
      go_enter Tryz.func14, Tryz.ntmps14
      go_wp2_with (first | (go_at_call 30; refine (tmade_yes t b w h0').mono ?_; rintro e w1 ⟨rfl, hw1⟩; rw [hw1]; clear hw1 w1) | (go_at_call 31; refine (fit_any m w).mono ?_; rw [HM.out]; rintro e w1 ⟨rfl, hw1⟩; rw [hw1]; clear hw1 w1))
      go_ret2
      exact ⟨by simp, rfl⟩
    · have hg : gid < 0 := by omega
      clear h'
      go_enter Tryz.func14, Tryz.ntmps14
      go_wp2_with (first | (go_at_call 30; refine (tmade_yes t b w h0').mono ?_; rintro e w1 ⟨rfl, hw1⟩; rw [hw1]; clear hw1 w1) | (go_at_call 31; refine (fit_any m w).mono ?_; rw [HM.out]; rintro e w1 ⟨rfl, hw1⟩; rw [hw1]; clear hw1 w1))
      go_ret2
      exact ⟨by simp, rfl⟩
end
end Go.Proofs.YtpcbpikhiooafaaGreatDoor
