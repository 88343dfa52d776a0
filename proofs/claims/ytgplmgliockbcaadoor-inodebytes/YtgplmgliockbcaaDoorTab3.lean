/- The walks of touch, fit and Alloc. Conditions: the table lies in memory as 'Tb' says. -/
import Derived.Test.YtgplmgliockbcaaDoorM6
namespace Go.Proofs.YtgplmgliockbcaaDoor
open Go.RowKit
def fitB (m : Int) : Bool := bits .andNot .i64 m 4095 == 32768 || bits .andNot .i64 m 4095 == 16384 || bits .andNot .i64 m 4095 == 40960
theorem fit_any (m : Int) (w : World) : Calls Tryd.prog 39 #[.int .i64 m] w fun e w' => e = .returned (.bool (fitB m)) ∧ w' = w := by
  unfold fitB
  generalize hx : bits .andNot .i64 m 4095 = x
  cases h1 : x == 32768
  · cases h2 : x == 16384
    · cases h3 : x == 40960
      all_goals
        go_enter Tryd.func39, Tryd.ntmps39
        go_wp2_with (simp only [hx, h1, h2, h3])
        go_ret
        exact ⟨by simp, rfl⟩
    · go_enter Tryd.func39, Tryd.ntmps39
      go_wp2_with (simp only [hx, h1, h2])
      go_ret
      exact ⟨by simp, rfl⟩
  · go_enter Tryd.func39, Tryd.ntmps39
    go_wp2_with (simp only [hx, h1])
    go_ret
    exact ⟨by simp, rfl⟩
section
variable {w w' : World} {t q b c n N : Nat} {clk : Int} {F : Nat → Nat → Int} {R : Nat → Nat → Nat} {u : Nat → Bool} {D : Nat → Nat}
theorem Tb.drewN (T : Tb w t q b c n N clk F R u D) (m : Nat) : Tb (w.drewN m) t q b c n N clk F R u D := T.new ((Mod.refl _ w).drewN m)
set_option maxHeartbeats 1000000 in
theorem touch_any (T : Tb w t q b c n N clk F R u D) (i : Nat) (hi : i < N) : Calls Tryd.prog 45 #[.pointer (some ⟨t, 0, none⟩), .pointer (some ⟨q, i * 17, none⟩)] w fun e w' => e = .returned (.tuple #[]) ∧
    Tb w' t q b c n N clk (upd2 (upd2 F i 7 clk) i 8 clk) R u D ∧ Mod (fun k => k = q) w w' := by
  have HT : Hid (Tb w t q b c n N clk F R u D) := T
  have h2 := T.c2
  have h7 := T.cf i 7 hi (by omega)
  have h8 := T.cf i 8 hi (by omega)
  have f7 := T.fq (i * 17 + 7)
  have f8 := T.fq (i * 17 + 8)
  have htq := T.tq
  have h2' : (w.drew.setCell ⟨q, i * 17 + 7, none⟩ (.int .i64 clk)).cell? ⟨t, 2, none⟩ = some (.int .i64 clk) := ((T.drewN 1).setF i 7 (by omega) clk (by omega)).c2
  clear T
  go_enter Tryd.func45, Tryd.ntmps45
  go_wp2
  go_region
  go_wp2
  exact ⟨rfl, _, results_none rfl _ _ _, rfl, ((HT.out.setF i 7 (by omega) clk (by omega)).setF i 8 (by omega) clk (by omega)).drewN 1, (((Mod.refl (fun k => k = q) w).setCell _ _ rfl).setCell _ _ rfl).drewN 1⟩
/-- A fresh inode's cells. -/
def freshF (m uid gid clk : Int) (o : Nat) : Int := if o = 0 then m else if o = 1 then uid else if o = 2 then gid else if o < 6 then 0 else clk
def setN {α : Type} (F : Nat → Nat → α) (i : Nat) (f : Nat → α) : Nat → Nat → α := fun j o => if j = i then f o else F j o
theorem Tb.setNode (T : Tb w t q b c n N clk F R u D) (i : Nat) (hi : i < N) (f : Nat → Int) (g : Nat → Nat) (hg : ∀ k, g k < 4294967296) (hf : 0 ≤ f 5 ∧ f 5 ≤ 17792) (vs : List Value) (hl : vs.length = 17) (h1 : ∀ o, o < 9 → vs[o]? = some (.int .i64 (f o))) (h2 : ∀ k, k < 8 → vs[9 + k]? = some (.int .i64 (g k : Nat))) :
    Tb (w.setCells q (i * 17) vs) t q b c n N clk (setN F i f) (setN R i g) u D :=
  have hM : Mod (fun k => k = q) w (w.setCells q (i * 17) vs) := Mod.setCells (s := fun k => k = q) q rfl vs _ (Mod.refl (fun k => k = q) w)
  have hT : w.there q (i * 17) vs.length := fun j hj => by
    refine ⟨?_, T.fq _⟩
    rw [hl] at hj
    by_cases h9 : j < 9
    · rw [T.cf i j hi h9]; rfl
    · have := T.cr i (j - 9) hi (by omega)
      rw [show i * 17 + 9 + (j - 9) = i * 17 + j by omega] at this
      rw [this]; rfl
  have hin := World.rangeAt_setCells_same w q (i * 17) vs hT
  have hout : ∀ o, (o < i * 17 ∨ i * 17 + 17 ≤ o) → (w.setCells q (i * 17) vs).cell? ⟨q, o, none⟩ = w.cell? ⟨q, o, none⟩ := fun o ho => World.cell?_setCells_out q vs (i * 17) w ⟨q, o, none⟩ (fun _ _ => by show o < i * 17 ∨ i * 17 + vs.length ≤ o; rw [hl]; exact ho)
  { S := T.S.mod hM T.q0.symm T.qb.symm T.qc.symm
    N1 := T.N1
    N2 := T.N2
    c0 := (hM.cell (p := ⟨t, 0, none⟩) T.lt_t T.tq).trans T.c0
    c1 := by obtain ⟨cp, e⟩ := T.c1; exact ⟨cp, (hM.cell (p := ⟨t, 1, none⟩) T.lt_t T.tq).trans e⟩
    c2 := (hM.cell (p := ⟨t, 2, none⟩) T.lt_t T.tq).trans T.c2
    ft := fun o => (hM.frozen (p := ⟨t, o, none⟩) T.lt_t T.tq).trans (T.ft o)
    cf := fun j o hj ho => by
      unfold setN
      by_cases e : j = i
      · subst e; rw [if_pos rfl]; exact hin o _ (h1 o ho)
      · rw [if_neg e, hout _ (by omega)]; exact T.cf j o hj ho
    cr := fun j k hj hk => by
      unfold setN
      by_cases e : j = i
      · subst e; rw [if_pos rfl, Nat.add_assoc]; exact hin (9 + k) _ (h2 k hk)
      · rw [if_neg e, hout _ (by omega)]; exact T.cr j k hj hk
    fq := fun o => (World.frozen?_setCells q vs _ w _).trans (T.fq o)
    rl := fun j k => by unfold setN; split; exact hg k; exact T.rl j k
    sz := fun j => by unfold setN; split; exact hf; exact T.sz j
    t0 := T.t0
    q0 := T.q0
    tq := T.tq
    tb := T.tb
    tc := T.tc
    qb := T.qb
    qc := T.qc }
theorem Tb.there (T : Tb w t q b c n N clk F R u D) (i : Nat) (hi : i < N) : w.there q (i * 17) 17 := fun j hj => by
  refine ⟨?_, T.fq _⟩
  by_cases h9 : j < 9
  · rw [T.cf i j hi h9]; rfl
  · have := T.cr i (j - 9) hi (by omega)
    rw [show i * 17 + 9 + (j - 9) = i * 17 + j by omega] at this
    rw [this]; rfl
theorem infN17 : (Tryd.prog.info? 90).map (·.size) = some 17 := by kernel_rfl
theorem talloc_none (p : Value) (m uid gid : Int) (w : World) (h : Calls Tryd.prog 36 #[p] w fun e w' => e = .returned (.bool false) ∧ w' = w) : Calls Tryd.prog 16 #[p, .int .i64 m, .int .i64 uid, .int .i64 gid] w fun e w' => e = .returned (.tuple #[.int .i64 0, .int .i64 14]) ∧ w' = w := by
  go_enter Tryd.func16, Tryd.ntmps16
  go_wp2_with (go_at_call 36; refine h.mono ?_; rintro e w1 ⟨rfl, hw1⟩; rw [hw1]; clear hw1 w1)
  go_ret2
  exact ⟨by simp, rfl⟩
set_option maxRecDepth 8000 in
set_option maxHeartbeats 1000000 in
theorem talloc_ok (T : Tb w t q b c n N clk F R u D) (m uid gid : Int) (i : Nat) (hm : fitB m = true) (hu : 0 ≤ uid) (hg : 0 ≤ gid) (hi : i < N) (h0 : F i 0 = 0) (hl : ∀ j, j < i → F j 0 ≠ 0) :
    Calls Tryd.prog 16 #[.pointer (some ⟨t, 0, none⟩), .int .i64 m, .int .i64 uid, .int .i64 gid] w fun e w' => e = .returned (.tuple #[.int .i64 ((i : Int) + 1), .int .i64 0]) ∧
      Tb w' t q b c n N clk (setN F i (freshF m uid gid clk)) (setN R i (fun _ => 0)) u D ∧ Mod (fun k => k = q) w w' := by
  have HT : Hid (Tb w t q b c n N clk F R u D) := T
  have h0' := T.c0
  obtain ⟨cp, h1⟩ := T.c1
  have h2 := T.c2
  have hN := T.N2
  have HL : Hid (∀ j, j < i → F j 0 ≠ 0) := hl
  have HM : Hid (fitB m = true) := hm
  have HZ : Hid (F i 0 = 0) := h0
  have HC : Hid (∀ j, j < N → w.cell? ⟨q, j * 17, none⟩ = some (.int .i64 (F j 0))) := fun j hj => T.cf j 0 hj (by omega)
  have hu' : ¬ uid < 0 := by omega
  have hg' : ¬ gid < 0 := by omega
  clear T hl hm h0
  go_enter Tryd.func16, Tryd.ntmps16
  go_wp2_with (first | (go_at_call 36; refine (tmade_yes t b w h0').mono ?_; rintro e w1 ⟨rfl, hw1⟩; rw [hw1]; clear hw1 w1) | (go_at_call 39; refine (fit_any m w).mono ?_; rw [HM.out]; rintro e w1 ⟨rfl, hw1⟩; rw [hw1]; clear hw1 w1))
  go_loop [30] (fun x => ∃ k : Nat, k ≤ i ∧ x = .int .i64 k) (fun x => N - (intOf x).toNat)
  case atStart => exact ⟨0, by omega, rfl⟩
  case round =>
    obtain ⟨k, hk, rfl⟩ := hrel
    by_cases hlt : k < i
    · have hc := HC.out k (by omega)
      have HB : Hid ((F k 0 != 0) = true) := by show _ = _; simpa using HL.out k hlt
      go_wp2_with (go_at_call 40; refine (used_node q _ _ _ hc).mono ?_; rw [HB.out]; rintro e w1 ⟨rfl, hw1⟩; rw [hw1]; clear hw1 w1)
      exact ⟨⟨k + 1, by omega, by go_num⟩, by simp [intOf]; omega⟩
    · obtain rfl : k = i := by omega
      have hc := HC.out k (by omega)
      have HB : Hid ((F k 0 != 0) = false) := by show _ = _; rw [HZ.out]; rfl
      have d1 := HT.out.cf k 1 hi (by omega)
      have d2 := HT.out.cf k 2 hi (by omega)
      have d3 := HT.out.cf k 3 hi (by omega)
      have d4 := HT.out.cf k 4 hi (by omega)
      have d5 := HT.out.cf k 5 hi (by omega)
      have d6 := HT.out.cf k 6 hi (by omega)
      have d7 := HT.out.cf k 7 hi (by omega)
      have d8 := HT.out.cf k 8 hi (by omega)
      have d9 := HT.out.cr k 0 hi (by omega)
      have d10 := HT.out.cr k 1 hi (by omega)
      have d11 := HT.out.cr k 2 hi (by omega)
      have d12 := HT.out.cr k 3 hi (by omega)
      have d13 := HT.out.cr k 4 hi (by omega)
      have d14 := HT.out.cr k 5 hi (by omega)
      have d15 := HT.out.cr k 6 hi (by omega)
      have d16 := HT.out.cr k 7 hi (by omega)
      have e1 := HT.out.fq (k * 17 + 1)
      have e2 := HT.out.fq (k * 17 + 2)
      have e3 := HT.out.fq (k * 17 + 3)
      have e4 := HT.out.fq (k * 17 + 4)
      have e5 := HT.out.fq (k * 17 + 5)
      have e6 := HT.out.fq (k * 17 + 6)
      have e7 := HT.out.fq (k * 17 + 7)
      have e8 := HT.out.fq (k * 17 + 8)
      have e9 := HT.out.fq (k * 17 + 9)
      have e10 := HT.out.fq (k * 17 + 10)
      have e11 := HT.out.fq (k * 17 + 11)
      have e12 := HT.out.fq (k * 17 + 12)
      have e13 := HT.out.fq (k * 17 + 13)
      have e14 := HT.out.fq (k * 17 + 14)
      have e15 := HT.out.fq (k * 17 + 15)
      have e16 := HT.out.fq (k * 17 + 16)
      have e0 := HT.out.fq (k * 17)
      simp only [Nat.add_assoc, Nat.reduceAdd] at d9 d10 d11 d12 d13 d14 d15 d16
      go_wp2_with (go_at_call 40; refine (used_node q _ _ _ hc).mono ?_; rw [HB.out]; rintro e w1 ⟨rfl, hw1⟩; rw [hw1]; clear hw1 w1)
      go_region
      go_wp2
      go_ret2
      have hS := HT.out.setNode k hi (freshF m uid gid clk) (fun _ => 0) (fun _ => by omega) (by simp [freshF]) [.int .i64 m, .int .i64 uid, .int .i64 gid, .int .i64 0, .int .i64 0, .int .i64 0, .int .i64 clk, .int .i64 clk, .int .i64 clk, .int .i64 0, .int .i64 0, .int .i64 0, .int .i64 0, .int .i64 0, .int .i64 0, .int .i64 0, .int .i64 0] rfl
        (fun o ho => by match o, ho with | 0, _ => rfl | 1, _ => rfl | 2, _ => rfl | 3, _ => rfl | 4, _ => rfl | 5, _ => rfl | 6, _ => rfl | 7, _ => rfl | 8, _ => rfl)
        (fun o ho => by match o, ho with | 0, _ => rfl | 1, _ => rfl | 2, _ => rfl | 3, _ => rfl | 4, _ => rfl | 5, _ => rfl | 6, _ => rfl | 7, _ => rfl)
      exact ⟨by simp, hS.drewN 1, (Mod.setCells (s := fun k => k = q) q rfl [.int .i64 m, .int .i64 uid, .int .i64 gid, .int .i64 0, .int .i64 0, .int .i64 0, .int .i64 clk, .int .i64 clk, .int .i64 clk, .int .i64 0, .int .i64 0, .int .i64 0, .int .i64 0, .int .i64 0, .int .i64 0, .int .i64 0, .int .i64 0] (k * 17) (Mod.refl (fun k => k = q) w)).drewN 1⟩
set_option maxHeartbeats 1000000 in
theorem talloc_full (T : Tb w t q b c n N clk F R u D) (m uid gid : Int) (hm : fitB m = true) (hu : 0 ≤ uid) (hg : 0 ≤ gid) (hl : ∀ j, j < N → F j 0 ≠ 0) :
    Calls Tryd.prog 16 #[.pointer (some ⟨t, 0, none⟩), .int .i64 m, .int .i64 uid, .int .i64 gid] w fun e w' => e = .returned (.tuple #[.int .i64 0, .int .i64 28]) ∧ w' = w := by
  have h0' := T.c0
  obtain ⟨cp, h1⟩ := T.c1
  have hN := T.N2
  have HL : Hid (∀ j, j < N → F j 0 ≠ 0) := hl
  have HM : Hid (fitB m = true) := hm
  have HC : Hid (∀ j, j < N → w.cell? ⟨q, j * 17, none⟩ = some (.int .i64 (F j 0))) := fun j hj => T.cf j 0 hj (by omega)
  have hu' : ¬ uid < 0 := by omega
  have hg' : ¬ gid < 0 := by omega
  clear T hl hm
  go_enter Tryd.func16, Tryd.ntmps16
  go_wp2_with (first | (go_at_call 36; refine (tmade_yes t b w h0').mono ?_; rintro e w1 ⟨rfl, hw1⟩; rw [hw1]; clear hw1 w1) | (go_at_call 39; refine (fit_any m w).mono ?_; rw [HM.out]; rintro e w1 ⟨rfl, hw1⟩; rw [hw1]; clear hw1 w1))
  go_loop [30] (fun x => ∃ k : Nat, k ≤ N ∧ x = .int .i64 k) (fun x => N - (intOf x).toNat)
  case atStart => exact ⟨0, by omega, rfl⟩
  case round =>
    obtain ⟨k, hk, rfl⟩ := hrel
    by_cases hlt : k < N
    · have hc := HC.out k (by omega)
      have HB : Hid ((F k 0 != 0) = true) := by show _ = _; simpa using HL.out k hlt
      go_wp2_with (go_at_call 40; refine (used_node q _ _ _ hc).mono ?_; rw [HB.out]; rintro e w1 ⟨rfl, hw1⟩; rw [hw1]; clear hw1 w1)
      exact ⟨⟨k + 1, by omega, by go_num⟩, by simp [intOf]; omega⟩
    · obtain rfl : k = N := by omega
      go_wp2
      go_ret2
      exact ⟨by simp, rfl⟩
theorem talloc_bad (T : Tb w t q b c n N clk F R u D) (m uid gid : Int) (h : fitB m = false ∨ uid < 0 ∨ gid < 0) :
    Calls Tryd.prog 16 #[.pointer (some ⟨t, 0, none⟩), .int .i64 m, .int .i64 uid, .int .i64 gid] w fun e w' => e = .returned (.tuple #[.int .i64 0, .int .i64 22]) ∧ w' = w := by
  have h0' := T.c0
  cases hm : fitB m
  · have HM : Hid (fitB m = false) := hm
    clear T hm h
    go_enter Tryd.func16, Tryd.ntmps16
    go_wp2_with (first | (go_at_call 36; refine (tmade_yes t b w h0').mono ?_; rintro e w1 ⟨rfl, hw1⟩; rw [hw1]; clear hw1 w1) | (go_at_call 39; refine (fit_any m w).mono ?_; rw [HM.out]; rintro e w1 ⟨rfl, hw1⟩; rw [hw1]; clear hw1 w1))
    go_ret2
    exact ⟨by simp, rfl⟩
  · have HM : Hid (fitB m = true) := hm
    have h' : uid < 0 ∨ gid < 0 := by rcases h with h | h; rw [hm] at h; exact absurd h (by simp); exact h
    clear T hm h
    by_cases hu : uid < 0
    · clear h'
      go_enter Tryd.func16, Tryd.ntmps16
      go_wp2_with (first | (go_at_call 36; refine (tmade_yes t b w h0').mono ?_; rintro e w1 ⟨rfl, hw1⟩; rw [hw1]; clear hw1 w1) | (go_at_call 39; refine (fit_any m w).mono ?_; rw [HM.out]; rintro e w1 ⟨rfl, hw1⟩; rw [hw1]; clear hw1 w1))
      go_ret2
      exact ⟨by simp, rfl⟩
    · have hg : gid < 0 := by omega
      clear h'
      go_enter Tryd.func16, Tryd.ntmps16
      go_wp2_with (first | (go_at_call 36; refine (tmade_yes t b w h0').mono ?_; rintro e w1 ⟨rfl, hw1⟩; rw [hw1]; clear hw1 w1) | (go_at_call 39; refine (fit_any m w).mono ?_; rw [HM.out]; rintro e w1 ⟨rfl, hw1⟩; rw [hw1]; clear hw1 w1))
      go_ret2
      exact ⟨by simp, rfl⟩
end
end Go.Proofs.YtgplmgliockbcaaDoor
