/- The walks of roots and cut: an inode's places from keep on are holes. Condition: the table lies in memory as 'Tb' says. -/
import Derived.Test.YtpcbpikhiooafaaGreatDoorWr
import Derived.Test.YtpcbpikhiooafaaGreatDoorM9
import Derived.Test.YtpcbpikhiooafaaGreatDoorM2
namespace Go.Proofs.YtpcbpikhiooafaaGreatDoor
open Go.RowKit
/-- Root j: its first place, how many places it leads to, how many levels down they lie. -/
def kOf (j : Nat) : Nat := if j ≤ 6 then j else if j = 7 then 22 else 278
def plOf (j : Nat) : Nat := if j < 6 then 1 else if j = 6 then 16 else 256
def lwOf (j : Nat) : Nat := if j < 6 then 0 else if j = 6 then 1 else 2
theorem kOf_next : ∀ j, j < 8 → kOf j + plOf j = kOf (j + 1) := by decide
theorem kOf_lt : ∀ j, j < 8 → kOf j < 278 := by decide
theorem kOf_rt : ∀ j, j < 8 → rt (kOf j) = j ∧ 16 ^ lv (kOf j) = plOf j := by decide
def rtV (q no j : Nat) : List Value := [.pointer (some ⟨q, no + 9 + j, none⟩), .int .i64 (plOf j : Nat)]
def rootsL (q no : Nat) : Nat → List Value
  | 0 => []
  | j + 1 => rootsL q no j ++ rtV q no j
theorem rootsL_len (q no : Nat) : ∀ j, (rootsL q no j).length = j * 2
  | 0 => rfl
  | j + 1 => by rw [rootsL, List.length_append, rootsL_len q no j]; simp [rtV]; omega
theorem rootsL_at (q no : Nat) : ∀ m j, j < m → (rootsL q no m)[j * 2]? = some (.pointer (some ⟨q, no + 9 + j, none⟩)) ∧ (rootsL q no m)[j * 2 + 1]? = some (.int .i64 (plOf j : Nat))
  | 0, j, h => by omega
  | m + 1, j, h => by
    rw [rootsL]
    have hl := rootsL_len q no m
    by_cases e : j = m
    · subst e
      rw [List.getElem?_append_right (by omega), List.getElem?_append_right (by omega), hl]
      simp [rtV]
    · rw [List.getElem?_append_left (by omega), List.getElem?_append_left (by omega)]
      exact rootsL_at q no m j (by omega)
theorem owns_mod {w w' : World} {B e sz n : Nat} {v : Value} {xs : List Value} (h : w.ownsRow B e sz v n xs) (hM : Mod (fun _ => False) w w') : w'.ownsRow B e sz v n xs := by
  refine ⟨h.1, ?_⟩
  rcases h.2 with h | ⟨g, cap, cur, h1, h2, h3, h4⟩
  · exact .inl h
  · refine .inr ⟨g, cap, cur, h1, h2, ?_, h4⟩
    rw [hM.block g (by rcases Nat.lt_or_ge g w.heap.size with h | h; exact h; rw [Array.getElem?_eq_none h] at h3; exact absurd h3 (by simp)) (fun h => h)]
    exact h3
theorem owns_cells {w : World} {B e sz n : Nat} {v : Value} {xs : List Value} (h : w.ownsRow B e sz v (n + 1) xs) : ∃ g cap, v = .slice (some ⟨g, 0, none⟩) (n + 1) cap ∧ B ≤ g ∧ (∀ k x, xs[k]? = some x → w.cell? ⟨g, k, none⟩ = some x) ∧ n + 1 ≤ cap := by
  rcases h.2 with ⟨_, h⟩ | ⟨g, cap, cur, h1, h2, h3, h4, _, _, h6⟩
  · omega
  · refine ⟨g, cap, h1, h2, fun k x hx => ?_, h4⟩
    rw [cell_of_row w g k cur e (0, 0) h3]
    rw [← h6, List.getElem?_take] at hx
    split at hx
    · rw [Array.getElem?_toList] at hx; exact hx
    · exact absurd hx (by simp)
theorem infoRt : ∃ i, Tryz.prog.info? 171 = some i ∧ i.zero = some (.agg #[.pointer none, .int .i64 0]) ∧ i.size = 2 ∧ i.bytes = 16 := info_of (by kernel_rfl)
theorem undRt : Tryz.prog.underlying 167 = some (.slice 171) := by kernel_rfl
set_option maxRecDepth 8000 in
set_option maxHeartbeats 2000000 in
theorem roots_any (w : World) (q no : Nat) : Calls Tryz.prog 87 #[.pointer (some ⟨q, no, none⟩)] w fun e w' => ∃ v, e = .returned v ∧ w'.ownsRow w.heap.size 171 2 v 8 (rootsL q no 8) ∧ Mod (fun _ => False) w w' := by
  obtain ⟨i1, hi, hz0, hz1, hz2⟩ := infoRt
  have HI : Hid (Tryz.prog.info? 171 = some i1 ∧ i1.zero = some (.agg #[.pointer none, .int .i64 0]) ∧ i1.size = 2 ∧ i1.bytes = 16) := ⟨hi, hz0, hz1, hz2⟩
  clear hi hz0 hz1 hz2
  go_enter Tryz.func87, Tryz.ntmps87
  go_wp2
  go_loopw [3, 4] (fun v x wx => ∃ j : Nat, j ≤ 8 ∧ x = .int .i64 (kOf j : Nat) ∧ Hid (wx.ownsRow w.heap.size 171 2 v j (rootsL q no j)) ∧ Hid (Mod (fun _ => False) w wx)) (fun _ x _ => 278 - (intOf x).toNat)
  case atStart => exact ⟨0, by omega, rfl, World.ownsRow_nil _ _ _ _, Mod.refl _ _⟩
  case round =>
    obtain ⟨j, hj, rfl, hown, hmod⟩ := hrel
    by_cases hlt : j < 8
    · have hk := kOf_lt j hlt
      have hlk : ((kOf j : Nat) : Int) < 278 := by omega
      have HN : Hid (kOf j + plOf j = kOf (j + 1) ∧ rt (kOf j) = j ∧ 16 ^ lv (kOf j) = plOf j) := ⟨kOf_next j hlt, kOf_rt j hlt⟩
      have hpp : plOf j ≤ 256 ∧ 1 ≤ plOf j := by unfold plOf; split; omega; split <;> omega
      generalize hK : kOf j = K at *
      go_wp2_with (first | (go_at_call 100; (refine (place_any2 q no K _ hk).mono ?_; rintro e w1 ⟨o, P, K1, rfl, HP, HM1⟩; obtain ⟨rfl, rfl⟩ : o = no + 9 + j ∧ P = plOf j := ⟨HP.out.1.trans (congrArg (fun z => no + 9 + z) HN.out.2.1), HP.out.2.1.trans HN.out.2.2⟩; have HO1 : Hid (((w1.alloc (.cells #[.pointer (some ⟨q, no + 9 + j, none⟩), .int .i64 (plOf j : Nat)] 171)).alloc (.cells #[.pointer (some ⟨q, no + 9 + j, none⟩), .int .i64 (plOf j : Nat)] 171)).ownsRow w.heap.size 171 2 u3 j (rootsL q no j)) := ((owns_mod hown.out HM1.out).alloc _).alloc _; have hsz := Nat.le_trans hmod.out.size HM1.out.size)) | (at_builtin; refine wpList_append_own _ rfl _ _ 167 rfl w.heap.size 171 i1 (.agg #[.pointer none, .int .i64 0]) 2 16 undRt HI.out.1 HI.out.2.1 HI.out.2.2.1 HI.out.2.2.2 rfl (by decide) _ _ _ rfl HO1.out ⟨w1.heap.size + 1, 0, none⟩ 1 1 [.pointer (some ⟨q, no + 9 + j, none⟩), .int .i64 (plOf j : Nat)] rfl rfl ?c1 ?c2 ?c3 ?c4 ?c5 ?_))
      case c1 =>
        intro k x hx
        rw [Addr.add_mid, Nat.zero_add, World.cell?_alloc_at _ _ _ _ (by simp)]
        simpa using hx
      case c2 => intro x hx; simp at hx; rcases hx with rfl | rfl <;> rfl
      case c3 => unfold maxLen; omega
      case c4 => omega
      case c5 => simp; omega
      intro v' w2 hown' hgrow _
      have hO' : Hid (w2.ownsRow w.heap.size 171 2 v' (j + 1) (rootsL q no (j + 1))) := hown'
      have HM0 : Hid (Mod (fun _ => False) w ((w1.alloc (.cells #[.pointer (some ⟨q, no + 9 + j, none⟩), .int .i64 (plOf j : Nat)] 171)).alloc (.cells #[.pointer (some ⟨q, no + 9 + j, none⟩), .int .i64 (plOf j : Nat)] 171))) := ((hmod.out.trans HM1.out).alloc _).alloc _
      have hM' : Hid (Mod (fun _ => False) w w2) := HM0.out.grown hgrow (fun k hk => (HO1.out.lt k hk).1)
      have hc5 : w2.cell? ⟨w1.heap.size, 1, none⟩ = some (.int .i64 (plOf j : Nat)) := by
        have hlt2 : w1.heap.size < ((w1.alloc (.cells #[.pointer (some ⟨q, no + 9 + j, none⟩), .int .i64 (plOf j : Nat)] 171)).alloc (.cells #[.pointer (some ⟨q, no + 9 + j, none⟩), .int .i64 (plOf j : Nat)] 171)).heap.size := by simp; omega
        have h0 : ((w1.alloc (.cells #[.pointer (some ⟨q, no + 9 + j, none⟩), .int .i64 (plOf j : Nat)] 171)).alloc (.cells #[.pointer (some ⟨q, no + 9 + j, none⟩), .int .i64 (plOf j : Nat)] 171)).cell? ⟨w1.heap.size, 1, none⟩ = some (.int .i64 (plOf j : Nat)) := by
          rw [World.cell?_alloc_past _ _ _ (by simp), World.cell?_alloc_at _ _ _ _ rfl]; rfl
        exact (World.cell?_of_block (a := ⟨w1.heap.size, 1, none⟩) (hgrow.block w1.heap.size hlt2 (fun e => by have := (hown.out.lt _ e.symm).2; have := HM1.out.size; omega))).trans h0
      clear hown' hgrow
      have hn1 : K + plOf j = kOf (j + 1) := HN.out.1
      have hn2 : (K : Int) + (plOf j : Nat) = (kOf (j + 1) : Nat) := by omega
      have HN2 : Hid ((K : Int) + (plOf j : Nat) = (kOf (j + 1) : Nat)) := hn2
      clear hn1 hn2
      go_wp2
      have hm : ((j + 1 ≤ 8) ∧ Hid (w2.ownsRow w.heap.size 171 2 v' (j + 1) (rootsL q no (j + 1))) ∧ Hid (Mod (fun _ => False) w w2)) := ⟨by omega, hO', hM'⟩
      first | exact ⟨⟨j + 1, hm.1, by rw [HN2.out], hm.2.1, hm.2.2⟩, by simp [intOf]; omega⟩ | ((repeat apply Exists.intro); refine ⟨?rel, ?act⟩; case act => rfl; case rel => exact ⟨j + 1, hm.1, by rw [HN2.out], hm.2.1, hm.2.2⟩)
    · obtain rfl : j = 8 := by omega
      have h278 : ((kOf 8 : Nat) : Int) = 278 := rfl
      rw [h278]
      go_wp2
      go_ret
      exact ⟨_, by simp, hown.out, hmod.out⟩
/-- cut, by its words: the first j roots are pruned. -/
def cutS (keep : Int) (u : Nat → Bool) (D : Nat → Nat) (R : Nat → Nat) : Nat → (Nat → Bool) × (Nat → Nat) × (Nat → Nat)
  | 0 => (u, D, R)
  | j + 1 => ((pr (lwOf j) (cutS keep u D R j).1 (cutS keep u D R j).2.1 ((cutS keep u D R j).2.2 j) (keep - (kOf j : Nat))).1, (pr (lwOf j) (cutS keep u D R j).1 (cutS keep u D R j).2.1 ((cutS keep u D R j).2.2 j) (keep - (kOf j : Nat))).2.1,
      upd (cutS keep u D R j).2.2 j (pr (lwOf j) (cutS keep u D R j).1 (cutS keep u D R j).2.1 ((cutS keep u D R j).2.2 j) (keep - (kOf j : Nat))).2.2)
theorem root_kept {wr w3 : World} {t q b c n N : Nat} {clk : Int} {F : Nat → Nat → Int} {R : Nat → Nat → Nat} {u : Nat → Bool} {D : Nat → Nat} {o : Nat} {p : Addr} {P : Nat} {ty : TypeId} (T : Tb wr t q b c n N clk F R u D) (hF : Fr b c q o (wr.alloc (.cells #[.pointer (some p), .int .i64 (P : Nat)] ty)) w3) : w3.cell? ⟨wr.heap.size, 1, none⟩ = some (.int .i64 (P : Nat)) := by
  have hb := T.S.lt_b
  have hc := T.S.lt_c
  have hq := T.lt_q
  rw [hF.mod.cell (p := ⟨wr.heap.size, 1, none⟩) (by simp) (fun h => by rcases h with h | h | h <;> (have h' : wr.heap.size = _ := h; omega)), World.cell?_alloc_at _ _ _ _ rfl]; rfl
section
variable {w w' : World} {t q b c n N : Nat} {clk : Int} {F : Nat → Nat → Int} {R : Nat → Nat → Nat} {u : Nat → Bool} {D : Nat → Nat}
theorem pruneAt (T : Tb w t q b c n N clk F R u D) (i j : Nat) (keep : Int) (hi : i < N) (hj : j < 8) (hk : -30000 ≤ keep) :
    Calls Tryz.prog 88 #[.pointer (some ⟨t, 0, none⟩), .pointer (some ⟨q, i * 17 + 9 + j, none⟩), .int .i64 (plOf j : Nat), .int .i64 keep] w (PrPost b c n t q (i * 17 + 9 + j) w (pr (lwOf j) u D (R i j) keep)) := by
  have ha := T.cr i j hi hj
  have hf := T.fq (i * 17 + 9 + j)
  by_cases h1 : j < 6
  · have e1 : plOf j = 1 := by simp [plOf, h1]
    have e2 : lwOf j = 0 := by simp [lwOf, h1]
    rw [e1, e2]; exact prune0 T.S t q _ _ keep T.c0 ha hf T.apart (T.rl _ _)
  · by_cases h2 : j = 6
    · have e1 : plOf j = 16 := by simp [plOf, h2]
      have e2 : lwOf j = 1 := by simp [lwOf, h2]
      rw [e1, e2]; exact prune1 T.S t q _ _ keep T.c0 ha hf T.apart (T.rl _ _) (by omega)
    · have e1 : plOf j = 256 := by simp [plOf, h1, h2]
      have e2 : lwOf j = 2 := by simp [lwOf, h1, h2]
      rw [e1, e2]; exact prune2 T.S t q _ _ keep T.c0 ha hf T.apart (T.rl _ _) (by omega)
set_option maxRecDepth 8000 in
set_option maxHeartbeats 4000000 in
theorem cut_any (T : Tb w t q b c n N clk F R u D) (i : Nat) (keep : Int) (hi : i < N) (hk : -20000 ≤ keep) (hk2 : keep ≤ 20000) (y : (Nat → Bool) × (Nat → Nat) × (Nat → Nat)) (hy : cutS keep u D (R i) 8 = y) :
    Calls Tryz.prog 65 #[.pointer (some ⟨t, 0, none⟩), .pointer (some ⟨q, i * 17, none⟩), .int .i64 keep] w fun e w' => e = .returned (.tuple #[]) ∧ Tb w' t q b c n N clk F (setN R i y.2.2) y.1 y.2.1 ∧ Mod (fun k => k = b ∨ k = c ∨ k = q) w w' := by
  have HT : Hid (Tb w t q b c n N clk F (setN R i (R i)) u D) := by show Tb _ _ _ _ _ _ _ _ _ _ _ _; rw [setN_self]; exact T
  have HY : Hid (cutS keep u D (R i) 8 = y) := hy
  have HB : Hid (b < w.heap.size ∧ c < w.heap.size ∧ q < w.heap.size) := ⟨T.S.lt_b, T.S.lt_c, T.lt_q⟩
  clear T hy
  go_enter Tryz.func65, Tryz.ntmps65
  go_wp2_with (go_at_call 87; refine (roots_any w q (i * 17)).mono ?_; rintro e w1 ⟨v, rfl, O1, M1⟩; obtain ⟨g, cap, rfl, hg, hcell, hcap⟩ := owns_cells (n := 7) O1; have HC : Hid (∀ j, j < 8 → w1.cell? ⟨g, j * 2, none⟩ = some (.pointer (some ⟨q, i * 17 + 9 + j, none⟩)) ∧ w1.cell? ⟨g, j * 2 + 1, none⟩ = some (.int .i64 (plOf j : Nat))) := fun j hj => ⟨hcell _ _ (rootsL_at q (i * 17) 8 j hj).1, hcell _ _ (rootsL_at q (i * 17) 8 j hj).2⟩; have HG : Hid (w.heap.size ≤ g) := hg; have HM1 : Hid (Mod (fun _ => False) w w1) := M1; clear O1 M1 hcell hg)
  have HT1 : Hid (Tb w1 t q b c n N clk F (setN R i (R i)) u D) := HT.out.new HM1.out
  have hgl : g < w1.heap.size := block_lt_of_cell (HC.out 0 (by omega)).1
  have HGN : Hid (¬ (g = b ∨ g = c ∨ g = q)) := by have := HB.out; have := HG.out; intro h; rcases h with h | h | h <;> omega
  go_loopw [2, 11] (fun kv x wx => ∃ j : Nat, j ≤ 8 ∧ x = .int .i64 j ∧ kv = .int .i64 (keep - (kOf j : Nat)) ∧ ∃ (us : Nat → Bool) (Ds Rs : Nat → Nat), Hid (Tb wx t q b c n N clk F (setN R i Rs) us Ds) ∧ Hid (Mod (fun k => k = b ∨ k = c ∨ k = q) w1 wx) ∧ Hid (cutS keep u D (R i) j = (us, Ds, Rs))) (fun _ x _ => 8 - (intOf x).toNat)
  case atStart => exact ⟨0, by omega, rfl, by simp [kOf], u, D, R i, HT1, Mod.refl _ _, rfl⟩
  case round =>
    obtain ⟨j, hj, rfl, rfl, us, Ds, Rs, HTj, HMj, HEj⟩ := hrel
    by_cases hlt : j < 8
    · have hc0 := (HMj.out.cell (p := ⟨g, j * 2, none⟩) hgl HGN.out).trans (HC.out j hlt).1
      have hc1 := (HMj.out.cell (p := ⟨g, j * 2 + 1, none⟩) hgl HGN.out).trans (HC.out j hlt).2
      have hkl := kOf_lt j hlt
      have HN : Hid (kOf j + plOf j = kOf (j + 1)) := kOf_next j hlt
      have hpp : plOf j ≤ 256 := by unfold plOf; split; omega; split <;> omega
      go_wp2_with (go_at_call 88; refine (pruneAt (HTj.out.new ((Mod.refl _ wr).alloc _)) i j (keep - (kOf j : Nat)) hi hlt (by omega)).mono ?_; rintro e w3 ⟨rfl, H3, C3, F3, T3⟩; rw [setN_at] at H3 C3; have HT3 : Hid (Tb w3 t q b c n N clk F (setN R i (upd Rs j (pr (lwOf j) us Ds (Rs j) (keep - (kOf j : Nat))).2.2)) (pr (lwOf j) us Ds (Rs j) (keep - (kOf j : Nat))).1 (pr (lwOf j) us Ds (Rs j) (keep - (kOf j : Nat))).2.1) := (by have h := (HTj.out.new ((Mod.refl _ wr).alloc (.cells #[.pointer (some ⟨q, i * 17 + 9 + j, none⟩), .int .i64 (plOf j : Nat)] 171))).fr i j _ hlt F3 H3 (Nat.lt_of_le_of_lt (pr_le _ _ _ _ _) (by have := HTj.out.rl i j; rwa [setN_at] at this)) C3; rwa [upd2_setN] at h); have HM3 : Hid (Mod (fun k => k = b ∨ k = c ∨ k = q) w1 w3) := (HMj.out.alloc _).trans F3.mod; have hr3 : w3.cell? ⟨wr.heap.size, 1, none⟩ = some (.int .i64 (plOf j : Nat)) := root_kept HTj.out F3; clear H3 C3 F3 T3)
      have HE : Hid (cutS keep u D (R i) (j + 1) = ((pr (lwOf j) us Ds (Rs j) (keep - (kOf j : Nat))).1, (pr (lwOf j) us Ds (Rs j) (keep - (kOf j : Nat))).2.1, upd Rs j (pr (lwOf j) us Ds (Rs j) (keep - (kOf j : Nat))).2.2)) := by
        show _ = _
        rw [cutS, HEj.out]
      have HK : Hid (keep - (kOf j : Nat) - (plOf j : Nat) = keep - (kOf (j + 1) : Nat)) := by show _ = _; have := HN.out; omega
      go_wp2
      exact ⟨⟨j + 1, by omega, by go_num, by rw [HK.out], _, _, _, HT3, HM3, HE⟩, by simp [intOf]; omega⟩
    · have HYj : Hid (y = (us, Ds, Rs)) := by show _ = _; rw [← HY.out, ← HEj.out, show j = 8 by omega]
      go_wp2
      refine ⟨rfl, _, results_none rfl _ _ _, rfl, ?_, (HM1.out.mono (fun _ _ h => h.elim)).trans HMj.out⟩
      rw [HYj.out]; exact HTj.out
end
end Go.Proofs.YtpcbpikhiooafaaGreatDoor
