/- The walks of the library's Grow of nothing, Repeat of one text, Concat of two lists. Conditions: lengths that fit; lists' cells as said. -/
import Derived.Test.YteggjpogaljafaaDoorPb5
import Derived.Lib.AppendZerosOnto
import Derived.Laws.CopyOwn
namespace Go.Proofs.YteggjpogaljafaaDoor
open Go.RowKit
attribute [local go_sem] ext_eq app_eq get_eq toL_eq
set_option maxRecDepth 100000 in
set_option maxHeartbeats 2000000 in
theorem pGrow (n : Nat) (w : World) (hn : n ≤ 2 ^ 41) : Calls Tryd.prog 60 #[.slice none 0 0, .int .i64 n] w fun e w' => ∃ v, e = .returned v ∧ w'.ownsRow w.heap.size 9 1 v 0 [] ∧ Below w.heap.size w w' := by
  obtain ⟨i0, hi, hz0, hz1, hz2⟩ := info_parts info9
  by_cases h0 : n = 0
  · subst h0
    go_enter Tryd.func60, Tryd.ntmps60
    go_wp2
    go_ret
    exact ⟨_, rfl, World.ownsRow_nil _ _ _ _, Below.refl _ _⟩
  · have hrz : ∀ ty, (Builtin.append_ #[22, 3] ty #[.slice none 0 0, .int .i64 (n : Int)]).run Tryd.prog w =
      .ok (.slice (some ⟨w.heap.size, 0, none⟩) n (grownCap w n 0 9)) (w.drew.alloc (.cells (#[] ++ Builtin.zeroCells (Value.string ⟨#[]⟩).cells n ++ Builtin.zeroCells (Value.string ⟨#[]⟩).cells (grownCap w n 0 9 - n)) 9)) := fun ty => by
      have h := Lib.run_append_grow_zeros w 22 3 ty 9 i0 (.string ⟨#[]⟩) .i64 .i64 Tryd.underlying22 Tryd.underlying3 hi hz0 none 0 0 [] (run_firstCells_none w.drew i0.size 0 0 0) n (by omega) (by omega) (by omega) (by omega)
        (by rw [hz2]; omega)
        (by rw [Nat.zero_add]; exact growslice_fits (by omega) (by rw [hz2]; omega))
      rw [Nat.zero_add] at h
      exact h
    have hGn : n ≤ grownCap w n 0 9 := grownCap_ge w _ _ _
    have hGm : grownCap w n 0 9 ≤ maxLen := grownCap_le_maxLen w n 0 9 (by unfold maxLen; omega)
    obtain ⟨G, hG⟩ : ∃ G, G = grownCap w n 0 9 := ⟨_, rfl⟩
    rw [← hG] at hrz hGn hGm
    clear hG
    have HM : Hid (G ≤ maxLen) := hGm
    unfold maxLen at hGm
    have hnp : 0 < n := by omega
    clear h0
    go_enter Tryd.func60, Tryd.ntmps60
    go_wp2_with (at_builtin; refine Lib.wpList_append_run _ rfl _ _ _ _ rfl _ _ rfl rfl _ _ (hrz _) ?_)
    go_ret
    refine ⟨_, rfl, ?_, ?_⟩
    · exact World.ownsRow_made w.drew _ G (Nat.le_refl _) HM.out (by simp [Builtin.zeroCells]; omega)
    · exact ((Below.refl w.heap.size w).drew).alloc (Nat.le_refl _) _
theorem sMul (n : Nat) (w : World) (hn : n ≤ 2 ^ 41) : Calls Tryd.prog 61 #[.int .u64 1, .int .u64 n] w fun e w' => e = .returned (.tuple #[.int .u64 0, .int .u64 n]) ∧ w' = w := by
  have h := Tryd.bits_Mul 1 n (by omega) (by omega) w
  rw [Nat.one_mul, Nat.div_eq_of_lt (by omega), Nat.mod_eq_of_lt (by omega)] at h
  exact h
theorem size9 : (Tryd.prog.info? 9).map (·.size) = some 1 := by kernel_rfl
theorem row_of {W : World} {base g n : Nat} {e : TypeId} {xs : List Value} (h : W.ownsRow base e 1 (.slice (some ⟨g, 0, none⟩) n n) n xs) : ∃ Z : List Value, Hid (W.heap[g]? = some (.cells Z.toArray e (0, 0))) ∧ Z.length = n := by
  rcases h.2 with ⟨h1, _⟩ | ⟨g', cap, cur, h1, _, hg, _, _, hs, _⟩
  · simp at h1
  · simp only [Value.slice.injEq, Option.some.injEq, Addr.mk.injEq, and_true, true_and] at h1
    obtain ⟨rfl, rfl⟩ := h1
    exact ⟨cur.toList, by show _ = _; simpa using hg, by simpa using hs⟩
theorem below_none {W W' : World} (hg : W.grownBy W' none) : Below W.heap.size W W' := ⟨hg.os, hg.tape, hg.output, hg.size, fun k hk => hg.block k hk (by simp)⟩
theorem reps_cells (n m : Nat) (t : List UInt8) : ∀ v ∈ (List.replicate n (sv t)).take m, v.oneCell' = true := by
  intro v hv
  have := List.mem_of_mem_take hv
  rw [List.mem_replicate] at this
  rw [this.2]; rfl
theorem one_src {W W' : World} {bk o n : Nat} (t : List UInt8) (h : ∀ o, W'.cell? ⟨bk, o, none⟩ = W.cell? ⟨bk, o, none⟩) (hc : W.cell? ⟨bk, o, none⟩ = some (.string ⟨t.toArray⟩)) : ∀ j v, ((List.replicate n (sv t)).take 1)[j]? = some v → W'.cell? ((⟨bk, o, none⟩ : Addr).add j) = some v := by
  intro j v hv
  have hj : j < 1 := by have := (List.getElem?_eq_some_iff.1 hv).1; simp at this; omega
  obtain rfl : j = 0 := by omega
  have hadd : (⟨bk, o, none⟩ : Addr).add 0 = ⟨bk, o, none⟩ := by unfold Addr.add; split <;> simp_all
  rw [hadd, h, hc]
  have := List.mem_of_mem_take (List.mem_of_getElem? hv)
  rw [List.mem_replicate] at this
  rw [this.2]; rfl
theorem next_rep {t : List UInt8} {R : List Value} {m n q : Nat} (hq : m + q ≤ n) (hR : R.length = n) (hT : R.take m = List.replicate m (sv t)) : (splice R m (List.replicate q (sv t))).length = n ∧ (splice R m (List.replicate q (sv t))).take (m + q) = List.replicate (m + q) (sv t) := by
  refine ⟨by rw [length_splice _ _ _ (by simp; omega)]; exact hR, ?_⟩
  rw [splice, hT, ← List.append_assoc, List.replicate_append_replicate, List.take_append_of_le_length (by simp)]
  exact List.take_of_length_le (by simp)
theorem rep_src {W : World} {g m q : Nat} {e : TypeId} {R : List Value} {t : List UInt8} (hg : W.heap[g]? = some (.cells R.toArray e (0, 0))) (hT : R.take m = List.replicate m (sv t)) (hq : q ≤ m) : ∀ j v, (List.replicate q (sv t))[j]? = some v → W.cell? ((⟨g, 0, none⟩ : Addr).add j) = some v := by
  intro j v hv
  have hj : j < m := by have := (List.getElem?_eq_some_iff.1 hv).1; simp at this; omega
  have hadd : (⟨g, 0, none⟩ : Addr).add j = ⟨g, j, none⟩ := by unfold Addr.add; split <;> simp_all
  rw [hadd, cell_of_row W g j R.toArray e (0, 0) hg]
  have h2 : (R.take m)[j]? = some (sv t) := by rw [hT, List.getElem?_replicate, if_pos hj]
  rw [List.getElem?_take, if_pos hj] at h2
  have := List.mem_of_getElem? hv
  rw [List.mem_replicate] at this
  rw [this.2]
  simpa using h2
theorem reps_cells' (q : Nat) (t : List UInt8) : ∀ v ∈ List.replicate q (sv t), v.oneCell' = true := by
  intro v hv
  rw [List.mem_replicate] at hv
  rw [hv.2]; rfl
theorem own_full {W : World} {base g n : Nat} {e : TypeId} {R xs : List Value} (hg : W.heap[g]? = some (.cells R.toArray e (0, 0))) (hR : R.length = n) (hn : n ≤ maxLen) (hx : R = xs) (hb : base ≤ g) : W.ownsRow base e 1 (.slice (some ⟨g, 0, none⟩) n n) n xs := by
  subst hx
  exact ⟨by omega, .inr ⟨g, n, R.toArray, rfl, hb, hg, Nat.le_refl _, hn, by simpa using hR, by rw [Nat.mul_one]; exact List.take_of_length_le (by simp; omega)⟩⟩
set_option maxRecDepth 100000 in
set_option maxHeartbeats 2000000 in
theorem pRepeat (t : List UInt8) (bk o c n : Nat) (w : World) (hb : bk < w.heap.size) (hcell : w.cell? ⟨bk, o, none⟩ = some (.string ⟨t.toArray⟩)) (hn : n ≤ 2 ^ 40) :
    Calls Tryd.prog 45 #[.slice (some ⟨bk, o, none⟩) 1 c, .int .i64 n] w fun e w' => ∃ v, e = .returned v ∧ w'.ownsRow w.heap.size 9 1 v n (List.replicate n (sv t)) ∧ Below w.heap.size w w' := by
  obtain ⟨i0, hi, hz0, hz1, hz2⟩ := info_parts info9
  have hbig : decide ((9223372036854775807 : Int) < (n : Int)) = false := by simp; omega
  have HM := sMul n w (by omega)
  have HM : Hid (Calls Tryd.prog 61 #[.int .u64 1, .int .u64 n] w fun e w' => e = .returned (.tuple #[.int .u64 0, .int .u64 n]) ∧ w' = w) := HM
  go_enter Tryd.func45, Tryd.ntmps45
  go_wp2_with fail
  refine HM.out.mono ?_
  rintro e w1 ⟨rfl, rfl⟩
  go_wp2_with (first | (at_make; refine wpList_make_full _ rfl _ _ 22 rfl w1.heap.size 9 i0 (.string ⟨#[]⟩) 1 Tryd.underlying22 hi hz0 hz1 _ _ _ _ n rfl rfl rfl rfl (by rw [hz2]; omega) (by unfold maxLen; omega) (Nat.le_refl _) ?_; intro w2 hown hgrow; obtain ⟨Z, HZ, hZl⟩ := row_of hown; have hB2 := below_none hgrow; clear hown hgrow) | (refine wpList_copy_splice rfl _ _ 22 22 rfl 9 Tryd.underlying22 size9 _ _ _ _ _ _ rfl rfl w1.heap.size 0 Z 9 HZ.out ((List.replicate n (sv t)).take 1) (by simp) (fun _ => ⟨rfl, _, rfl, one_src t (fun o => hB2.cell (p := ⟨bk, o, none⟩) hb) hcell⟩) (by simp; omega) (reps_cells _ _ _) w1.heap.size w1 hB2 (Nat.le_refl _) ?_; intro w3 HG3 hB3))
  have hcl : ((List.replicate n (sv t)).take 1).length = min 1 n := by simp
  have HR0 : Hid ((splice Z 0 ((List.replicate n (sv t)).take 1)).length = n) := by show _ = _; rw [length_splice _ _ _ (by simp; omega)]; exact hZl
  have HT0 : Hid ((splice Z 0 ((List.replicate n (sv t)).take 1)).take (min 1 n) = List.replicate (min 1 n) (sv t)) := by
    show _ = _
    simp [splice]
  generalize splice Z 0 ((List.replicate n (sv t)).take 1) = R0 at HG3 HR0 HT0
  go_loopw [8] (fun i W => ∃ (m : Nat) (R : List Value), m ≤ n ∧ i = .int .i64 m ∧ (0 < n → 0 < m) ∧ Hid (W.heap[w1.heap.size]? = some (.cells R.toArray 9 (0, 0))) ∧ R.length = n ∧ Hid (R.take m = List.replicate m (sv t)) ∧ Below w1.heap.size w1 W) (fun i _ => n - (intOf i).toNat)
  case atStart => exact ⟨min 1 n, R0, by omega, by go_num, by omega, HG3, HR0.out, HT0, hB3⟩
  case round =>
    obtain ⟨m, R, hm, rfl, hpos, HG, hR, HT, hB⟩ := hrel
    by_cases hlt : m < n
    · have hm0 : 0 < m := hpos (by omega)
      obtain ⟨q, HQ⟩ : ∃ q, Hid (q = Nat.min m (n - m)) := ⟨_, rfl⟩
      have hq1 : q ≤ m := by rw [HQ.out]; exact Nat.min_le_left _ _
      have hq2 : m + q ≤ n := by have : q ≤ n - m := by rw [HQ.out]; exact Nat.min_le_right _ _
                                 omega
      have hq0 : 0 < q := by rw [HQ.out]; exact Nat.lt_min.2 ⟨hm0, by omega⟩
      have HN : Hid ((splice R m (List.replicate q (sv t))).length = n ∧ (splice R m (List.replicate q (sv t))).take (m + q) = List.replicate (m + q) (sv t)) := next_rep hq2 hR HT.out
      have HNM : Hid (¬ n = m) := by show ¬ _; omega
      have HL : Hid ((List.replicate q (sv t)).length = Nat.min m (n - m)) := by show _ = _; rw [List.length_replicate]; exact HQ.out
      have HF : Hid (m + (List.replicate q (sv t)).length ≤ R.length) := by show _ ≤ _; simp; omega
      go_wp2
      go_region_law (refine step_copy_splice rfl (.tmp 41) (.tmp 44) 22 22 rfl 9 Tryd.underlying22 size9 (if n = m then some ⟨w1.heap.size, 0, none⟩ else some ⟨w1.heap.size, m, none⟩) (some ⟨w1.heap.size, 0, none⟩) (n - m) (n - m) m n (by simp [Act.eval, Act.put]) (by simp [Act.eval, Act.put]) w1.heap.size m R 9 HG.out (List.replicate q (sv t)) HL.out (fun _ => ⟨if_neg HNM.out, _, rfl, rep_src (W := wr.drew) HG.out HT.out hq1⟩) HF.out (reps_cells' _ _) w1.heap.size w1 hB.drew (Nat.le_refl _) ?_; intro w4 HG4 hB4)
      have hwr : IntKind.i64.wrap ((m : Int) + (q : Int)) = (m : Int) + (q : Int) := by rw [IntKind.wrap_i64]; omega
      simp only [hwr]
      go_wp2
      exact ⟨⟨m + q, hq2, by omega, fun _ => by omega, _, HG4, HN.out.1, HN.out.2⟩, by simp [intOf]; omega⟩
    · obtain rfl : m = n := by omega
      go_wp2
      go_ret
      refine ⟨_, rfl, ?_, hB⟩
      exact own_full HG.out hR (by unfold maxLen; omega) (by rw [← HT.out, List.take_of_length_le (by omega)]) (Nat.le_refl _)
end Go.Proofs.YteggjpogaljafaaDoor
