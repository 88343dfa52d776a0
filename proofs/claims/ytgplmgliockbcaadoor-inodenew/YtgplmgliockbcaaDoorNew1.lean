/- The walks of Now, Blocks and Used of a fresh table. Condition: the table lies in memory as 'Tb' says. -/
import Derived.Test.YtgplmgliockbcaaDoorRefN
namespace Go.Proofs.YtgplmgliockbcaaDoor
open Go.RowKit Go.Shelf
attribute [local go_sem] Oper.semAt_some
section
variable {w : World} {t q b c n N : Nat} {clk : Int} {F : Nat → Nat → Int} {R : Nat → Nat → Nat} {u : Nat → Bool} {D : Nat → Nat}
theorem tnow (T : Tb w t q b c n N clk F R u D) : Calls Tryd.prog 13 #[.pointer (some ⟨t, 0, none⟩)] w fun e w' => e = .returned (.int .i64 clk) ∧ w' = w := by
  have h0 := T.c0
  have h2 := T.c2
  clear T
  go_enter Tryd.func13, Tryd.ntmps13
  go_wp2_with (first | (go_at_call 36; refine (tmade_yes t b w h0).mono ?_; rintro e w1 ⟨rfl, hw1⟩; rw [hw1]; clear hw1 w1))
  go_ret
  exact ⟨by simp, rfl⟩
theorem tblocks (T : Tb w t q b c n N clk F R u D) : Calls Tryd.prog 15 #[.pointer (some ⟨t, 0, none⟩)] w fun e w' => ∃ v, e = .returned v ∧ w'.ownsRow w.heap.size 3 1 v (usedL u n).length ((usedL u n).map intV) ∧ Mod (fun _ => False) w w' := by
  have h0 := T.c0
  have HS : Hid (St w b c n u D) := T.S
  clear T
  go_enter Tryd.func15, Tryd.ntmps15
  go_wp2_with (first | (go_at_call 36; refine (tmade_yes t b w h0).mono ?_; rintro e w1 ⟨rfl, hw1⟩; rw [hw1]; clear hw1 w1) | (go_at_call 38; refine (used_any HS.out).mono ?_; rintro e w1 ⟨v, rfl, O1, M1⟩; have HO := Hid.intr O1; have HM := Hid.intr M1; clear O1 M1))
  go_ret
  exact ⟨v, by simp, HO.out, HM.out⟩
theorem owns_none {w : World} {B e sz : Nat} {v : Value} (h : w.ownsRow B e sz v 0 []) : ∃ a cap, v = .slice a 0 cap := by
  rcases h.2 with ⟨h1, _⟩ | ⟨g, cap, _, h1, _⟩
  · exact ⟨none, 0, h1⟩
  · exact ⟨_, cap, h1⟩
set_option maxRecDepth 100000 in
set_option maxHeartbeats 4000000 in
theorem tused0 (T : Tb w t q b c n N clk F R u D) (he : inL F N = []) : Calls Tryd.prog 14 #[.pointer (some ⟨t, 0, none⟩)] w fun e w' => e = .returned (.slice none 0 0) ∧ Below w.heap.size w w' := by
  have HT : Hid (Tb w t q b c n N clk F R u D) := T
  have h0 := T.c0
  obtain ⟨cp, h1⟩ := T.c1
  have htl := T.lt_t
  have hN := T.N2
  clear T
  refine (callsIn_wide (n := 6)).1 ?_
  refine callsIn_of_wp_marks Tryd.func14 rfl trivial ?_ rfl
  simp only [Tryd.ntmps14, List.size_toArray, List.length_cons, List.length_nil, Nat.reduceAdd, Nat.reduceSub, Array.replicate_succ, Array.replicate_zero, List.push_toArray, List.append_toArray, List.nil_append, List.cons_append]
  refine wpIn_wide.2 ?_
  go_wp2_with (first | (go_at_call 36; refine (tmade_yes t b w h0).mono ?_; rintro e w1 ⟨rfl, hw1⟩; rw [hw1]; clear hw1 w1) | (go_at_call 37; refine (inUse_any t _).mono ?_; rintro e w1 ⟨rfl, rfl⟩))
  have hL := cell_new_r w (.slice none 0 0) 33
  have hBn := cell_new_r (w.alloc (.cells #[.slice none 0 0] 33)) (.pointer (some ⟨t, 0, none⟩)) 25
  rw [World.size_alloc] at hBn
  have hB0 : Below w.heap.size w ((w.alloc (.cells #[.slice none 0 0] 33)).alloc (.cells #[.pointer (some ⟨t, 0, none⟩)] 25)) := ((Below.refl _ w).alloc (Nat.le_refl _) _).alloc (by simp) _
  have hS : SeqAt ((w.alloc (.cells #[.slice none 0 0] 33)).alloc (.cells #[.pointer (some ⟨t, 0, none⟩)] 25)) (w.heap.size + 1) t q N cp F := ⟨hBn.1, (hB0.cell (p := ⟨t, 1, none⟩) htl).trans h1, fun i hi => by have hc := HT.out.cf i 0 hi (by omega); rw [Nat.add_zero] at hc; exact (hB0.cell (p := ⟨q, i * 17, none⟩) HT.out.lt_q).trans hc⟩
  have hqt : q < w.heap.size := HT.out.lt_q
  refine (wpIn_wide (n := 6)).1 ?_
  refine wpIn_rangeFunc_ownF rfl (by omega) (gf := 56) (lb := #[.pointer (some ⟨w.heap.size + 1, 0, none⟩)]) rfl trivial (enters_of Tryd.func56 (by kernel_rfl) rfl)
    (inUse_stops (6 - 1) (by omega) (w.heap.size + 1) t q N cp F hN (KpR (w.heap.size + 2) w.heap.size) (fun W W' hk h => ⟨(hk ⟨w.heap.size + 1, 0, none⟩ (by show w.heap.size + 1 < _; omega) (by show w.heap.size + 1 ≠ _; omega)).trans h.bn, (hk ⟨t, 1, none⟩ (by show t < _; omega) (by show t ≠ _; omega)).trans h.c1, fun i hi => (hk ⟨q, i * 17, none⟩ (by show q < _; omega) (by show q ≠ _; omega)).trans (h.cf i hi)⟩) _ hS)
    (fun h k x hx hn => (k x hx hn).trans (h x hx hn)) (fun W l o o' hl h h2 h3 x hx _ => (belowK_b (n₀ := w.heap.size + 2) (w := ((w.alloc (.cells #[.slice none 0 0] 33)).alloc (.cells #[.pointer (some ⟨t, 0, none⟩)] 25))) (by simp) W l o o' hl h h2 h3).cell hx) (Below.refl _ _) (fun _ => rfl)
    (fun _ W => (W.cell? ⟨w.heap.size, 0, none⟩ = some (.slice none 0 0) ∧ W.frozen? ⟨w.heap.size, 0, none⟩ = false) ∧ Below w.heap.size w W)
    (fun _ _ _ => False)
    (OwnFrom.and (Own.from (fun s A B row hs hg hr => ⟨cell_kept hs.1 hg hr, (frozen_kept hs.1 hg hr).trans hs.2⟩) _) (ownFrom_below (Nat.le_refl _) (by simp; omega)))
    (fun _ _ _ _ _ hs _ _ => hs)
    ⟨⟨by rw [World.cell?_alloc_past _ _ _ (by simp)]; exact hL.1, by rw [World.frozen?_alloc_past _ _ _ (by simp)]; exact hL.2⟩, hB0⟩
    (fun x => { tmps := #[.pointer (some ⟨t, 0, none⟩), undef, .slice none 0 0, .pointer (some ⟨w.heap.size, 0, none⟩), .int .i64 x, .pointer (some ⟨t, 0, none⟩), .bool true, .bool false, .pointer (some ⟨t, 0, none⟩), .func (.func 56) #[] #[.pointer (some ⟨w.heap.size + 1, 0, none⟩)], .int .i64 x, undef, undef, undef, undef, undef], defers := [] }) ?assign ?body ?done ?stop
  case assign =>
    intro l x W K hK
    gi_wp2
    exact hK
  case body =>
    rintro l pre x W _ hlt
    rw [he] at hlt
    exact absurd hlt (by simp)
  case done =>
    rintro DD ys W hD rfl ⟨⟨hc, hf⟩, hB⟩ hK
    have HB : Hid (Below w.heap.size w W ∧ W.heap[DD]? = some (.deferred (some [])) ∧ w.heap.size ≤ DD) := ⟨hB, hK, by simp at hD; omega⟩
    clear hf hB hK hD
    go_wp2
    refine ⟨by simp, .inl ⟨_, _, rfl, run_takeDeferred HB.out.2.1, ?_⟩⟩
    exact ⟨_, results_tmp rfl _ _ _, by simp, HB.out.1.trans (belowK_b (w := w) (Nat.le_refl _) W DD _ _ HB.out.2.2 HB.out.2.1 rfl rfl)⟩
  case stop =>
    rintro D c pre W _ _ h _
    exact h.elim
end
end Go.Proofs.YtgplmgliockbcaaDoor
