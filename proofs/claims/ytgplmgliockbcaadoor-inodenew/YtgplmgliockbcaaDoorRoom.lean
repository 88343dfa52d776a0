/- The walk of Room. Condition: the table lies in memory as 'Tb' says. -/
import Derived.Test.YtgplmgliockbcaaDoorSeq
import Derived.Test.YtgplmgliockbcaaDoorNone1
namespace Go.Proofs.YtgplmgliockbcaaDoor
open Go.RowKit Go.Shelf
attribute [local go_sem] Oper.semAt_some
/-- What a round of Room keeps: all that lay when the loop began, but for the count at L. -/
def KpR (n₁ L : Nat) (W W' : World) : Prop := ∀ x : Addr, x.block < n₁ → x.block ≠ L → W'.cell? x = W.cell? x
theorem cell_new_r (W : World) (v : Value) (t : TypeId) : (W.alloc (.cells #[v] t)).cell? ⟨W.heap.size, 0, none⟩ = some v ∧ (W.alloc (.cells #[v] t)).frozen? ⟨W.heap.size, 0, none⟩ = false :=
  ⟨by rw [World.cell?_alloc_at _ _ _ _ rfl]; rfl, World.frozen?_alloc_at _ _ _ _ rfl⟩
section
variable {w : World} {t q b c n N : Nat} {clk : Int} {F : Nat → Nat → Int} {R : Nat → Nat → Nat} {u : Nat → Bool} {D : Nat → Nat}
set_option maxRecDepth 100000 in
set_option maxHeartbeats 4000000 in
theorem troom (T : Tb w t q b c n N clk F R u D) : Calls Tryd.prog 21 #[.pointer (some ⟨t, 0, none⟩)] w fun e w' =>
    e = .returned (.tuple #[.int .i64 n, .int .i64 ((n : Int) - (Bt.cnt u n : Nat)), .int .i64 N, .int .i64 ((N : Int) - ((inL F N).length : Nat))]) ∧ Below w.heap.size w w' := by
  have HT : Hid (Tb w t q b c n N clk F R u D) := T
  have h0 := T.c0
  obtain ⟨cp, h1⟩ := T.c1
  have htl := T.lt_t
  have hN := T.N2
  clear T
  refine (callsIn_wide (n := 6)).1 ?_
  refine callsIn_of_wp_marks Tryd.func21 rfl trivial ?_ rfl
  simp only [Tryd.ntmps21, List.size_toArray, List.length_cons, List.length_nil, Nat.reduceAdd, Nat.reduceSub, Array.replicate_succ, Array.replicate_zero, List.push_toArray, List.append_toArray, List.nil_append, List.cons_append]
  refine wpIn_wide.2 ?_
  go_wp2_with (first | (go_at_call 36; refine (tmade_yes t b w h0).mono ?_; rintro e w1 ⟨rfl, hw1⟩; rw [hw1]; clear hw1 w1) | (go_at_call 37; refine (inUse_any t _).mono ?_; rintro e w1 ⟨rfl, rfl⟩))
  have hL := cell_new_r w (.int .i64 N) 3
  have hBn := cell_new_r (w.alloc (.cells #[.int .i64 N] 3)) (.pointer (some ⟨t, 0, none⟩)) 25
  rw [World.size_alloc] at hBn
  have hB0 : Below w.heap.size w ((w.alloc (.cells #[.int .i64 N] 3)).alloc (.cells #[.pointer (some ⟨t, 0, none⟩)] 25)) := ((Below.refl _ w).alloc (Nat.le_refl _) _).alloc (by simp) _
  have hS : SeqAt ((w.alloc (.cells #[.int .i64 N] 3)).alloc (.cells #[.pointer (some ⟨t, 0, none⟩)] 25)) (w.heap.size + 1) t q N cp F := ⟨hBn.1, (hB0.cell (p := ⟨t, 1, none⟩) htl).trans h1, fun i hi => by have hc := HT.out.cf i 0 hi (by omega); rw [Nat.add_zero] at hc; exact (hB0.cell (p := ⟨q, i * 17, none⟩) HT.out.lt_q).trans hc⟩
  have hqt : q < w.heap.size := HT.out.lt_q
  refine (wpIn_wide (n := 6)).1 ?_
  refine wpIn_rangeFunc_ownF rfl (by omega) (gf := 56) (lb := #[.pointer (some ⟨w.heap.size + 1, 0, none⟩)]) rfl trivial (enters_of Tryd.func56 (by kernel_rfl) rfl)
    (inUse_stops (6 - 1) (by omega) (w.heap.size + 1) t q N cp F hN (KpR (w.heap.size + 2) w.heap.size) (fun W W' hk h => ⟨(hk ⟨w.heap.size + 1, 0, none⟩ (by show w.heap.size + 1 < _; omega) (by show w.heap.size + 1 ≠ _; omega)).trans h.bn, (hk ⟨t, 1, none⟩ (by show t < _; omega) (by show t ≠ _; omega)).trans h.c1, fun i hi => (hk ⟨q, i * 17, none⟩ (by show q < _; omega) (by show q ≠ _; omega)).trans (h.cf i hi)⟩) _ hS)
    (fun h k x hx hn => (k x hx hn).trans (h x hx hn)) (fun W l o o' hl h h2 h3 x hx _ => (belowK_b (n₀ := w.heap.size + 2) (w := ((w.alloc (.cells #[.int .i64 N] 3)).alloc (.cells #[.pointer (some ⟨t, 0, none⟩)] 25))) (by simp) W l o o' hl h h2 h3).cell hx) (Below.refl _ _) (fun _ => rfl)
    (fun pre W => (W.cell? ⟨w.heap.size, 0, none⟩ = some (.int .i64 ((N : Int) - (pre.length : Nat))) ∧ W.frozen? ⟨w.heap.size, 0, none⟩ = false) ∧ Below w.heap.size w W)
    (fun _ _ _ => False)
    (OwnFrom.and (Own.from (fun s A B row hs hg hr => ⟨cell_kept hs.1 hg hr, (frozen_kept hs.1 hg hr).trans hs.2⟩) _) (ownFrom_below (Nat.le_refl _) (by simp; omega)))
    (fun _ _ _ _ _ hs _ _ => hs)
    ⟨⟨by rw [World.cell?_alloc_past _ _ _ (by simp)]; simp, by rw [World.frozen?_alloc_past _ _ _ (by simp)]; exact hL.2⟩, hB0⟩
    (fun x => { tmps := #[.pointer (some ⟨t, 0, none⟩), undef, .int .i64 0, .int .i64 0, .int .i64 0, .int .i64 0, .pointer (some ⟨w.heap.size, 0, none⟩), .pointer (some ⟨t, 0, none⟩), .bool true, .bool false, .pointer (some ⟨t, 0, none⟩), .pointer (some ⟨t, 0, none⟩), .pointer (some ⟨t, 1, none⟩), .slice (some ⟨q, 0, none⟩) N cp, .int .i64 N, .pointer (some ⟨t, 0, none⟩), .func (.func 56) #[] #[.pointer (some ⟨w.heap.size + 1, 0, none⟩)], .int .i64 x, undef, undef, undef, undef, undef, undef, undef, undef, undef, undef, undef, undef, undef, undef, undef, undef, undef, undef], defers := [] }) ?assign ?body ?done ?stop
  case assign =>
    intro l x W K hK
    gi_wp2
    exact hK
  case body =>
    rintro l pre x W ⟨⟨hc, hf⟩, hB⟩ hlt
    have hle := inL_le F N
    gi_wp2
    exact ⟨KeepsOthers.setCell _ _ _, fun y _ hn => setCell_out _ _ _ _ _ (fun e => absurd e hn), ⟨by rw [List.length_append]; have := setCell_in W w.heap.size 0 (.int .i64 ((N : Int) - (pre.length : Nat) - 1)) _ hc; simpa [Int.sub_sub] using this, by rw [World.frozen?_setCell]; exact hf⟩, hB.setCell (p := ⟨w.heap.size, 0, none⟩) (Nat.le_refl _) _⟩
  case done =>
    rintro DD ys W hD rfl ⟨⟨hc, hf⟩, hB⟩ hK
    have HM : Hid (Mod (fun _ => False) w W) := ⟨hB.os, hB.tape, hB.output, hB.size, fun k hk _ => hB.block k hk⟩
    have HTr : Hid (Tb W t q b c n N clk F R u D) := HT.out.new HM.out
    have hW1 : W.cell? ⟨t, 1, none⟩ = some (.slice (some ⟨q, 0, none⟩) N cp) := (hB.cell (p := ⟨t, 1, none⟩) htl).trans h1
    have HB : Hid (Below w.heap.size w W ∧ W.heap[DD]? = some (.deferred (some [])) ∧ w.heap.size ≤ DD) := ⟨hB, hK, by simp at hD; omega⟩
    clear hf hB hK hD HM
    have k0 := HTr.out.c0
    go_wp2_with fail
    go_quiet (first | (go_at_call 47; refine Calls.quiet_of_same ((HTr.out.S.drewN _).total)) | (go_at_call 48; refine Calls.quiet_of_same ((HTr.out.S.drewN _).left)))
    go_wp2
    have hKd : (W.drewN nq).heap[DD]? = some (.deferred (some [])) := HB.out.2.1
    have hBd : Below w.heap.size w (W.drewN nq) := ⟨HB.out.1.os, HB.out.1.tape, HB.out.1.output, HB.out.1.size, HB.out.1.block⟩
    refine ⟨by simp, .inl ⟨_, _, rfl, run_takeDeferred hKd, ?_⟩⟩
    exact ⟨_, results_tmp4 rfl _ _ _, rfl, hBd.trans (belowK_b (w := w) (Nat.le_refl _) (W.drewN nq) DD _ _ HB.out.2.2 hKd rfl rfl)⟩
  case stop =>
    rintro D c pre W _ _ h _
    exact h.elim
end
end Go.Proofs.YtgplmgliockbcaaDoor
