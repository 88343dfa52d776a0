/- The walks of the table's small calls: made, used, find, inPlace, touch, New. Conditions: the table lies in memory as 'Tb' says. -/
import Derived.Test.YtgplmgliockbcaaDoorTab
namespace Go.Proofs.YtgplmgliockbcaaDoor
open Go.RowKit
section
variable {w w' : World} {t q b c n N : Nat} {clk : Int} {F : Nat → Nat → Int} {R : Nat → Nat → Nat} {u : Nat → Bool} {D : Nat → Nat}
theorem tmade_yes (t b : Nat) (w : World) (h : w.cell? ⟨t, 0, none⟩ = some (.pointer (some ⟨b, 0, none⟩))) : Calls Tryd.prog 36 #[.pointer (some ⟨t, 0, none⟩)] w fun e w' => e = .returned (.bool true) ∧ w' = w := by
  go_enter Tryd.func36, Tryd.ntmps36
  go_wp2
  go_ret
  exact ⟨by simp, rfl⟩
theorem tmade_nil (w : World) : Calls Tryd.prog 36 #[.pointer none] w fun e w' => e = .returned (.bool false) ∧ w' = w := by
  go_enter Tryd.func36, Tryd.ntmps36
  go_wp2
  go_ret
  exact ⟨by simp, rfl⟩
theorem tmade_zero (t : Nat) (w : World) (h : w.cell? ⟨t, 0, none⟩ = some (.pointer none)) : Calls Tryd.prog 36 #[.pointer (some ⟨t, 0, none⟩)] w fun e w' => e = .returned (.bool false) ∧ w' = w := by
  go_enter Tryd.func36, Tryd.ntmps36
  go_wp2
  go_ret
  exact ⟨by simp, rfl⟩
theorem used_node (q o : Nat) (m : Int) (w : World) (h : w.cell? ⟨q, o, none⟩ = some (.int .i64 m)) : Calls Tryd.prog 40 #[.pointer (some ⟨q, o, none⟩)] w fun e w' => e = .returned (.bool (m != 0)) ∧ w' = w := by
  go_enter Tryd.func40, Tryd.ntmps40
  go_wp2
  go_ret
  exact ⟨by simp, rfl⟩
theorem find_none (p : Value) (i : Int) (w : World) (h : Calls Tryd.prog 36 #[p] w fun e w' => e = .returned (.bool false) ∧ w' = w) : Calls Tryd.prog 41 #[p, .int .i64 i] w fun e w' => e = .returned (.tuple #[.pointer none, .int .i64 14]) ∧ w' = w := by
  go_enter Tryd.func41, Tryd.ntmps41
  go_wp2_with (go_at_call 36; refine h.mono ?_; rintro e w1 ⟨rfl, hw1⟩; rw [hw1]; clear hw1 w1)
  go_ret2
  exact ⟨by simp, rfl⟩
set_option maxHeartbeats 1000000 in
theorem find_ok (T : Tb w t q b c n N clk F R u D) (i : Nat) (hi : i < N) (hm : F i 0 ≠ 0) : Calls Tryd.prog 41 #[.pointer (some ⟨t, 0, none⟩), .int .i64 ((i : Int) + 1)] w fun e w' => e = .returned (.tuple #[.pointer (some ⟨q, i * 17, none⟩), .int .i64 0]) ∧ w' = w := by
  have h0 := T.c0
  obtain ⟨cp, h1⟩ := T.c1
  have hf := T.cf i 0 hi (by omega)
  rw [Nat.add_zero] at hf
  have hN := T.N2
  have hb : (F i 0 != 0) = true := by simpa using hm
  have HB : Hid ((F i 0 != 0) = true) := hb
  clear T hm hb
  go_enter Tryd.func41, Tryd.ntmps41
  go_wp2_with (first | (go_at_call 36; refine (tmade_yes t b w h0).mono ?_; rintro e w1 ⟨rfl, hw1⟩; rw [hw1]; clear hw1 w1) | (go_at_call 40; refine (used_node q _ _ _ hf).mono ?_; rw [HB.out]; rintro e w1 ⟨rfl, hw1⟩; rw [hw1]; clear hw1 w1))
  go_ret2
  exact ⟨by simp, rfl⟩
set_option maxHeartbeats 1000000 in
theorem find_not (T : Tb w t q b c n N clk F R u D) (i : Int) (hi : i < 1 ∨ N < i ∨ F (i - 1).toNat 0 = 0) : Calls Tryd.prog 41 #[.pointer (some ⟨t, 0, none⟩), .int .i64 i] w fun e w' => e = .returned (.tuple #[.pointer none, .int .i64 2]) ∧ w' = w := by
  have h0 := T.c0
  obtain ⟨cp, h1⟩ := T.c1
  have hN := T.N2
  by_cases ha : i < 1
  · clear T hi
    go_enter Tryd.func41, Tryd.ntmps41
    go_wp2_with (first | (go_at_call 36; refine (tmade_yes t b w h0).mono ?_; rintro e w1 ⟨rfl, hw1⟩; rw [hw1]; clear hw1 w1))
    go_ret2
    exact ⟨by simp, rfl⟩
  · by_cases hb : (N : Int) < i
    · clear T hi
      have ha' : 1 ≤ i := by omega
      go_enter Tryd.func41, Tryd.ntmps41
      go_wp2_with (first | (go_at_call 36; refine (tmade_yes t b w h0).mono ?_; rintro e w1 ⟨rfl, hw1⟩; rw [hw1]; clear hw1 w1))
      go_ret2
      exact ⟨by simp, rfl⟩
    · obtain ⟨k, hk⟩ := Int.eq_ofNat_of_zero_le (show 0 ≤ i - 1 by omega)
      obtain rfl : i = (k : Int) + 1 := by omega
      have hm : F k 0 = 0 := by
        rcases hi with h | h | h
        · omega
        · omega
        · simpa using h
      have hkN : k < N := by omega
      have hf := T.cf k 0 hkN (by omega)
      rw [Nat.add_zero, hm] at hf
      clear T hi hm hk ha hb
      go_enter Tryd.func41, Tryd.ntmps41
      go_wp2_with (first | (go_at_call 36; refine (tmade_yes t b w h0).mono ?_; rintro e w1 ⟨rfl, hw1⟩; rw [hw1]; clear hw1 w1) | (go_at_call 40; refine (used_node q _ _ _ hf).mono ?_; rintro e w1 ⟨rfl, hw1⟩; rw [hw1]; clear hw1 w1))
      go_ret2
      exact ⟨by simp, rfl⟩
theorem inPlace_any (o m : Nat) (w : World) (ho : o < 9223372036854775808) : Calls Tryd.prog 42 #[.int .i64 o, .int .i64 m] w fun e w' => e = .returned (.int .i64 (min m (64 - o % 64) : Nat)) ∧ w' = w := by
  by_cases h : m < 64 - o % 64
  · have h' : (m : Int) < 64 - (o : Int) % 64 := by omega
    have HM : Hid (min m (64 - o % 64) = m) := by show _ = _; omega
    go_enter Tryd.func42, Tryd.ntmps42
    go_wp2
    all_goals go_ret
    all_goals refine ⟨?_, rfl⟩
    all_goals rw [HM.out]
    all_goals simp
    all_goals omega
  · have h' : ¬ (m : Int) < 64 - (o : Int) % 64 := by omega
    have HM : Hid (min m (64 - o % 64) = 64 - o % 64) := by show _ = _; omega
    go_enter Tryd.func42, Tryd.ntmps42
    go_wp2
    all_goals go_ret
    all_goals refine ⟨?_, rfl⟩
    all_goals rw [HM.out]
    all_goals simp
    all_goals omega
end
def zeroN : Array Value := Array.replicate 17 (.int .i64 0)
theorem infoN : ∃ i, Tryd.prog.info? 90 = some i ∧ i.zero = some (.agg zeroN) ∧ i.size = 17 ∧ i.bytes = 136 := info_of (by kernel_rfl)
theorem undN : Tryd.prog.underlying 41 = some (.slice 90) := by kernel_rfl
theorem mk_nodes (n : Nat) (hn : n ≤ 4096) (w : World) : (Instr.makeSlice 41 (.int .i64 n) (.int .i64 n)).run Tryd.prog w = .ok (.slice (some ⟨w.heap.size, 0, none⟩) n n) (w.alloc (.cells (madeCells zeroN (n * 17)) 90)) := by
  obtain ⟨i, h1, h2, h3, h4⟩ := infoN
  have := run_make (P := Tryd.prog) w 41 90 i _ undN h1 h2 .i64 .i64 n n (by omega) (by omega) (by rw [h4]; omega) (by omega)
  rw [h3] at this
  simpa [Value.cells] using this
theorem madeN_at (n j : Nat) (hj : j < n * 17) : (madeCells zeroN (n * 17))[j]? = some (.int .i64 0) := by
  have hz : ∀ k, k < 17 → zeroN[k]! = .int .i64 0 := by
    intro k hk
    rw [getElem!_pos zeroN k (by simpa [zeroN] using hk)]
    simp only [zeroN, Array.getElem_replicate]
  simp only [madeCells, Array.getElem?_map, show zeroN.size = 17 from rfl]
  rw [Array.getElem?_eq_getElem (by simpa using hj)]
  simp only [Array.getElem_range, Option.map_some]
  rw [hz _ (Nat.mod_lt _ (by omega))]
set_option maxHeartbeats 1000000 in
theorem tnew_ok (n N : Nat) (w : World) (hn : 1 ≤ n) (hn2 : n ≤ 4096) (hN : 1 ≤ N) (hN2 : N ≤ 4096) (hT : TabIs w) : Calls Tryd.prog 10 #[.int .i64 n, .int .i64 N] w fun e w' => ∃ t q b c, e = .returned (.tuple #[.pointer (some ⟨t, 0, none⟩), .int .i64 0]) ∧
    Tb w' t q b c n N 0 (fun _ _ => 0) (fun _ _ => 0) (fun _ => false) (fun _ => 0) ∧ Mod (fun _ => False) w w' ∧ w.heap.size ≤ t ∧ w.heap.size ≤ q ∧ w.heap.size ≤ b ∧ w.heap.size ≤ c := by
  have hm := mk_nodes N hN2
  have HT : Hid (TabIs w) := hT
  have hN' : ¬ (N : Int) < 1 := by omega
  clear hT
  go_enter Tryd.func10, Tryd.ntmps10
  go_wp2_with (go_at_call 33; refine (St.new n w hn hn2 HT.out).mono ?_; rintro e w1 ⟨rfl, H1, M1, Z1⟩; have HS : Hid (St w1 (w.heap.size + 1) w.heap.size n (fun _ => false) (fun _ => 0)) := H1; have HM : Hid (Mod (fun _ => False) w w1) := M1; have HZ : Hid (w1.heap.size = w.heap.size + 2) := Z1; clear H1 M1 Z1)
  go_ret2
  have hz := HZ.out
  have hlb := HS.out.lt_b
  have hq0 : (w1.alloc (.cells (madeCells zeroN (N * 17)) 90)).heap.size = w1.heap.size + 1 := by simp
  have hM : Mod (fun _ => False) w1 ((w1.alloc (.cells (madeCells zeroN (N * 17)) 90)).alloc (.cells #[.pointer (some ⟨w.heap.size + 1, 0, none⟩), .slice (some ⟨w1.heap.size, 0, none⟩) N N, .int .i64 0] 43)) := ((Mod.refl _ w1).alloc _).alloc _
  refine ⟨w1.heap.size + 1, w1.heap.size, w.heap.size + 1, w.heap.size, by simp, ?_, HM.out.trans hM, by omega, by omega, by omega, by omega⟩
  exact {
    S := HS.out.mod hM (fun h => h) (fun h => h) (fun h => h)
    N1 := hN
    N2 := hN2
    c0 := by rw [World.cell?_alloc_at _ _ _ _ hq0.symm]; rfl
    c1 := ⟨N, by rw [World.cell?_alloc_at _ _ _ _ hq0.symm]; rfl⟩
    c2 := by rw [World.cell?_alloc_at _ _ _ _ hq0.symm]; rfl
    ft := fun o => World.frozen?_alloc_at _ _ _ _ hq0.symm
    cf := fun i o hi ho => by rw [World.cell?_alloc_past _ _ _ (by rw [hq0]; exact Nat.lt_succ_self _), World.cell?_alloc_at _ _ _ _ rfl]; exact madeN_at N _ (by omega)
    cr := fun i k hi hk => by rw [World.cell?_alloc_past _ _ _ (by rw [hq0]; exact Nat.lt_succ_self _), World.cell?_alloc_at _ _ _ _ rfl]; exact madeN_at N _ (by omega)
    fq := fun o => by rw [World.frozen?_alloc_past _ _ _ (by rw [hq0]; exact Nat.lt_succ_self _)]; exact World.frozen?_alloc_at _ _ _ _ rfl
    rl := fun _ _ => by omega
    sz := fun _ => by omega
    t0 := by omega
    q0 := by omega
    tq := by omega
    tb := by omega
    tc := by omega
    qb := by omega
    qc := by omega }
theorem tnew_bad (n N : Int) (w : World) (h : n < 1 ∨ 4096 < n ∨ N < 1 ∨ 4096 < N) (hT : TabIs w) : Calls Tryd.prog 10 #[.int .i64 n, .int .i64 N] w fun e w' => e = .returned (.tuple #[.pointer none, .int .i64 22]) ∧ Mod (fun _ => False) w w' := by
  by_cases hn : n < 1 ∨ 4096 < n
  · have HN : Hid (n < 1 ∨ 4096 < n) := hn
    clear hn h hT
    go_enter Tryd.func10, Tryd.ntmps10
    go_wp2_with (go_at_call 33; refine (new_bad n w HN.out).mono ?_; rintro e w1 ⟨rfl, hw1⟩; rw [hw1]; clear hw1 w1)
    go_ret2
    exact ⟨by simp, Mod.refl _ _⟩
  · obtain ⟨k, rfl⟩ := Int.eq_ofNat_of_zero_le (show 0 ≤ n by omega)
    have HT : Hid (TabIs w) := hT
    have hk1 : 1 ≤ k := by omega
    have hk2 : k ≤ 4096 := by omega
    have h' : N < 1 ∨ 4096 < N := by omega
    clear h hn hT
    rcases h' with h' | h'
    · go_enter Tryd.func10, Tryd.ntmps10
      go_wp2_with (go_at_call 33; refine (St.new k w hk1 hk2 HT.out).mono ?_; rintro e w1 ⟨rfl, -, M1, -⟩; have HM : Hid (Mod (fun _ => False) w w1) := M1; clear M1)
      go_ret2
      exact ⟨by simp, HM.out⟩
    · go_enter Tryd.func10, Tryd.ntmps10
      go_wp2_with (go_at_call 33; refine (St.new k w hk1 hk2 HT.out).mono ?_; rintro e w1 ⟨rfl, -, M1, -⟩; have HM : Hid (Mod (fun _ => False) w w1) := M1; clear M1)
      go_ret2
      exact ⟨by simp, HM.out⟩
end Go.Proofs.YtgplmgliockbcaaDoor
