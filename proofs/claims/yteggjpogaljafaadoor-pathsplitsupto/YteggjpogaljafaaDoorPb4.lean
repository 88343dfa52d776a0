/- The walk of the program's left. Condition: a length that fits. -/
import Derived.Test.YteggjpogaljafaaDoorPb3
namespace Go.Proofs.YteggjpogaljafaaDoor
open Go.RowKit Go.Shelf
attribute [local go_sem] ext_eq app_eq get_eq toL_eq
attribute [local go_sem] Oper.semAt_some
/-- What a round keeps: all that lay when the loop began, but for one box. -/
def KpB (n₁ L : Nat) (W W' : World) : Prop := ∀ x : Addr, x.block < n₁ → x.block ≠ L → W'.cell? x = W.cell? x
theorem KpB.nm {n₁ L Bn : Nat} {l : List UInt8} (h1 : Bn < n₁) (h2 : Bn ≠ L) : ∀ W W', KpB n₁ L W W' → NmAt W Bn l → NmAt W' Bn l := fun _ _ hk h => (hk ⟨Bn, 0, none⟩ h1 h2).trans h
theorem own_mono {w : World} {base base' : Nat} {e : TypeId} {size : Nat} {v : Value} {n : Nat} {xs : List Value} (h : w.ownsRow base e size v n xs) (hb : base' ≤ base) : w.ownsRow base' e size v n xs := by
  refine ⟨h.1, ?_⟩
  rcases h.2 with h | ⟨g, cap, cur, h1, h2, h3⟩
  · exact .inl h
  · exact .inr ⟨g, cap, cur, h1, Nat.le_trans hb h2, h3⟩
theorem boxed_app {W w1 : World} {n₀ n₁ B : Nat} {t e : TypeId} {v v' : Value} {k m : Nat} {xs ys : List Value} {tmp : Obj}
    (hv : Boxed W B t v) (hB : B < n₁) (hn : n₁ ≤ W.heap.size) (h0 : n₀ ≤ B) (hrow : W.ownsRow n₁ e 1 v k xs) (hown' : w1.ownsRow n₁ e 1 v' m ys) (hgrow : (W.alloc tmp).grownBy w1 v.ownBlock) :
    Boxed w1 B t v ∧ Boxed (w1.setCell ⟨B, 0, none⟩ v') B t v' ∧ (w1.setCell ⟨B, 0, none⟩ v').ownsRow n₁ e 1 v' m ys ∧ KeepsOthers W (w1.setCell ⟨B, 0, none⟩ v') ∧ KpB n₁ B W (w1.setCell ⟨B, 0, none⟩ v') ∧ Below n₀ W (w1.setCell ⟨B, 0, none⟩ v') := by
  have hne : some B ≠ v.ownBlock := fun e' => by have := (hrow.lt B e'.symm).1; omega
  have hne' : some B ≠ v'.ownBlock := fun e' => by have := (hown'.lt B e'.symm).1; omega
  have hv1 : Boxed w1 B t v := (hv.alloc tmp).kept hgrow hne
  refine ⟨hv1, hv1.set v', hown'.kept (grownBy_setCell' w1 B v') (.inr hne'.symm), ?_, ?_, ?_⟩
  · refine ((KeepsOthers.alloc W tmp).trans (KeepsOthers.of_grownBy hgrow fun j o ej hj => ?_)).trans (KeepsOthers.setCell _ _ _)
    rcases (hrow.alloc tmp).2 with ⟨rfl, _⟩ | ⟨g, cap, cur, rfl, _, hgb, _⟩
    · simp [Value.ownBlock] at ej
    · obtain rfl : g = j := by simpa [Value.ownBlock] using ej
      rw [hgb] at hj; cases hj; rfl
  · intro x hx hxB
    rw [World.cell?_of_block (Below.heap_setCell _ _ _ x.block hxB)]
    have h1 : (W.alloc tmp).cell? x = W.cell? x := World.cell?_of_block (Below.heap_alloc W tmp x.block (by omega))
    rw [← h1]
    exact World.cell?_of_block (hgrow.block x.block (by simp; omega) (fun e' => by have := (hrow.lt x.block e'.symm).1; omega))
  · refine (((Below.refl n₀ W).alloc (by omega) tmp).grown hgrow (by simp; omega) fun j ej => ?_).setCell (p := ⟨B, 0, none⟩) h0 v'
    have := (hrow.lt j ej).1; omega
set_option maxRecDepth 100000 in
set_option maxHeartbeats 4000000 in
theorem pLeft (l : List UInt8) (w : World) (hl : l.length ≤ 2 ^ 40) : Calls Tryd.prog 35 #[.string ⟨l.toArray⟩] w fun e w' => ∃ v, e = .returned v ∧ w'.ownsRow w.heap.size 9 1 v (Pa.lft l).length ((Pa.lft l).map sv) ∧ Below w.heap.size w w' := by
  obtain ⟨i0, hi, hz0, hz1, hz2⟩ := info_parts info9
  refine (callsIn_wide (n := 6)).1 ?_
  refine callsIn_of_wp_marks Tryd.func35 rfl trivial ?_ rfl
  simp only [Tryd.ntmps35, List.size_toArray, List.length_cons, List.length_nil, Nat.reduceAdd, Nat.reduceSub, Array.replicate_succ, Array.replicate_zero, List.push_toArray, List.append_toArray, List.nil_append, List.cons_append]
  refine wpIn_wide.2 ?_
  go_wp2_with (go_at_call 27; refine (names_any l _).mono ?_; rintro e w1 ⟨rfl, rfl⟩)
  have hsz3 : (((w.alloc (.cells #[.string ⟨l.toArray⟩] 9)).alloc (.cells #[.slice none 0 0] 22)).alloc (.cells #[.string ⟨l.toArray⟩] 9)).heap.size = w.heap.size + 3 := by simp
  have hB0 : Below w.heap.size w (((w.alloc (.cells #[.string ⟨l.toArray⟩] 9)).alloc (.cells #[.slice none 0 0] 22)).alloc (.cells #[.string ⟨l.toArray⟩] 9)) := (((Below.refl _ w).alloc (Nat.le_refl _) _).alloc (by simp) _).alloc (by simp; omega) _
  have hbx : Boxed (((w.alloc (.cells #[.string ⟨l.toArray⟩] 9)).alloc (.cells #[.slice none 0 0] 22)).alloc (.cells #[.string ⟨l.toArray⟩] 9)) (w.heap.size + 1) 22 (.slice none 0 0) := by
    have := (Boxed.new (w.alloc (.cells #[.string ⟨l.toArray⟩] 9)) 22 (.slice none 0 0)).alloc (.cells #[.string ⟨l.toArray⟩] 9)
    rw [World.size_alloc] at this; exact this
  have hcs : (((w.alloc (.cells #[.string ⟨l.toArray⟩] 9)).alloc (.cells #[.slice none 0 0] 22)).alloc (.cells #[.string ⟨l.toArray⟩] 9)).cell? ⟨w.heap.size, 0, none⟩ = some (.string ⟨l.toArray⟩) := ((Boxed.new w 9 (.string ⟨l.toArray⟩)).alloc _ |>.alloc _).cell
  have hnm : NmAt (((w.alloc (.cells #[.string ⟨l.toArray⟩] 9)).alloc (.cells #[.slice none 0 0] 22)).alloc (.cells #[.string ⟨l.toArray⟩] 9)) (w.heap.size + 1 + 1) l := by
    have := (Boxed.new ((w.alloc (.cells #[.string ⟨l.toArray⟩] 9)).alloc (.cells #[.slice none 0 0] 22)) 9 (.string ⟨l.toArray⟩)).cell
    rw [World.size_alloc, World.size_alloc] at this; exact this
  refine (wpIn_wide (n := 6)).1 ?_
  refine wpIn_rangeFunc_ownF rfl (by omega) (gf := 46) (lb := #[.pointer (some ⟨w.heap.size + 1 + 1, 0, none⟩)]) rfl trivial (enters_of Tryd.func46 (by kernel_rfl) rfl)
    (names_stops (6 - 1) (by omega) (w.heap.size + 1 + 1) l hl (KpB (w.heap.size + 3) (w.heap.size + 1)) (KpB.nm (by omega) (by omega)) _ hnm)
    (fun h k x hx hn => (k x hx hn).trans (h x hx hn)) (fun W lq o o' hq h h2 h3 x hx _ => (belowK_b (n₀ := w.heap.size + 3) (w := (((w.alloc (.cells #[.string ⟨l.toArray⟩] 9)).alloc (.cells #[.slice none 0 0] 22)).alloc (.cells #[.string ⟨l.toArray⟩] 9))) (by simp) W lq o o' hq h h2 h3).cell hx) (Below.refl _ _) (fun _ => rfl)
    (fun pre W => ((∃ v, Boxed W (w.heap.size + 1) 22 v ∧ W.ownsRow (w.heap.size + 3) 9 1 v (Pa.cl (Pa.absB l) (pre.map (·.2))).length ((Pa.cl (Pa.absB l) (pre.map (·.2))).map sv) ∧ True) ∧ W.cell? ⟨w.heap.size, 0, none⟩ = some (.string ⟨l.toArray⟩)) ∧ Below w.heap.size w W ∧ w.heap.size + 3 ≤ W.heap.size)
    (fun _ _ _ => False)
    (OwnFrom.and (OwnFrom.and (Own.from (holdsRow_own (w.heap.size + 3) (w.heap.size + 1) 22 9 1 (fun pre : List NmX => (Pa.cl (Pa.absB l) (pre.map (·.2))).length) (fun pre => (Pa.cl (Pa.absB l) (pre.map (·.2))).map sv) (fun _ _ => True)) _) (Own.from (fun s A B row hs hg hr => cell_kept hs hg hr) _)) (OwnFrom.and (ownFrom_below (Nat.le_refl _) (by simp; omega)) (Own.from (fun s A B row hs hg hr => Nat.le_trans hs hg.size) _)))
    (fun _ _ _ _ _ hs _ _ => hs)
    ⟨⟨⟨_, hbx, World.ownsRow_nil _ _ _ _, trivial⟩, hcs⟩, hB0, by rw [hsz3]; exact Nat.le_refl _⟩
    (fun x => { tmps := #[.string ⟨l.toArray⟩, .pointer (some ⟨w.heap.size, 0, none⟩), .slice none 0 0, .pointer (some ⟨w.heap.size + 1, 0, none⟩), undef, .string ⟨x.2.toArray⟩, undef, .string ⟨l.toArray⟩, .func (.func 46) #[] #[.pointer (some ⟨w.heap.size + 1 + 1, 0, none⟩)], .int .i64 x.1, .string ⟨x.2.toArray⟩, undef, undef, undef, undef, undef, undef, undef, undef, undef, undef, undef, undef, undef, undef, undef, undef, undef, undef, undef, undef, undef, undef, undef, undef, undef, undef, undef, undef], defers := [] }) ?assign ?body ?done ?stop
  case assign =>
    intro lp x W K hK
    dsimp only [nmEnc]
    gi_wp2
    exact hK
  case body =>
    rintro lp pre ⟨pos, x⟩ W ⟨⟨⟨v, hv, hrow, -⟩, hc⟩, hB, hsz⟩ hlt
    have hle := cl_le (Pa.absB l) (pre.map (·.2))
    have hnl := Pa.nms_length l
    rw [List.length_map] at hle
    have HF : Hid (Pa.cl (Pa.absB l) ((pre ++ [(pos, x)]).map (·.2)) = Pa.clStep (Pa.absB l) (Pa.cl (Pa.absB l) (pre.map (·.2))) x) := by show _ = _; rw [List.map_append]; exact cl_snoc _ _ _
    generalize Pa.cl (Pa.absB l) (pre.map (·.2)) = out at hrow HF hle
    have hvc := hv.cell
    have hvf := hv.frozen
    by_cases h1 : x = [46]
    · subst h1
      gi_wp2
      refine ⟨KeepsOthers.refl _, fun _ _ _ => rfl, ⟨⟨⟨v, hv, ?_, trivial⟩, hc⟩, hB, hsz⟩⟩
      rw [HF.out]; simpa [Pa.clStep] using hrow
    · have h1' : (x == [46]) = false := by simp [h1]
      by_cases h2 : x = Pa.dd
      · subst h2
        rcases nil_or_snoc out with rfl | ⟨ys, y, rfl⟩
        · obtain ⟨a', cap', rfl⟩ := own_form hrow
          rcases Bool.eq_false_or_eq_true (Pa.absB l) with hab | hab
          · have HX : Hid (Pa.clStep (Pa.absB l) [] Pa.dd = []) := by show _ = _; rw [hab]; simp [Pa.clStep, Pa.dd]
            have HA : Hid (Pa.absB l = true) := hab
            clear hab
            gi_wp2_with (refine ⟨trivial, ?_⟩; gi_at_call 29; refine (CallsIn.inRound lp (callsIn_wide.2 (pAbs l _))).mono ?_; rw [HA.out]; rintro e w1 ⟨rfl, hw1⟩; rw [hw1]; clear hw1 w1)
            refine ⟨KeepsOthers.refl _, fun _ _ _ => rfl, ⟨⟨⟨_, hv, ?_, trivial⟩, hc⟩, hB, hsz⟩⟩
            rw [HF.out, HX.out]; simpa using hrow
          · have HX : Hid (Pa.clStep (Pa.absB l) [] Pa.dd = [] ++ [Pa.dd]) := by show _ = _; rw [hab]; simp [Pa.clStep, Pa.dd]
            have HA : Hid (Pa.absB l = false) := hab
            clear hab
            gi_wp2_with (first | (refine ⟨trivial, ?_⟩; gi_at_call 29; refine (CallsIn.inRound lp (callsIn_wide.2 (pAbs l _))).mono ?_; rw [HA.out]; rintro e w1 ⟨rfl, hw1⟩; rw [hw1]; clear hw1 w1) | (gi_at_builtin; refine wpListIn_append_own _ rfl _ _ 22 rfl (w.heap.size + 3) 9 i0 (.string ⟨#[]⟩) 1 16 Tryd.underlying22 hi hz0 hz1 hz2 rfl (by decide) _ _ _ rfl (hrow.alloc _) ⟨W.heap.size, 0, none⟩ 1 1 [.string ⟨[46, 46].toArray⟩] rfl rfl (cell_one_new _ _ _) (one_cell _) (by unfold maxLen; omega) (by omega) (by simp; omega) ?_; intro v' w1 hown' hgrow _; obtain ⟨g', cap', rfl⟩ := ownsRow_succ hown'; obtain ⟨hv1, hv2, hr2, hk2, hp2, hb2⟩ := boxed_app (n₀ := w.heap.size) hv (by omega) (by omega) (by omega) hrow hown' hgrow; have hc1 := hv1.cell; have hf1 := hv1.frozen))
            refine ⟨hk2, hp2, ⟨⟨⟨_, hv2, ?_, trivial⟩, (hp2 ⟨w.heap.size, 0, none⟩ (by show w.heap.size < _; omega) (by show w.heap.size ≠ _; omega)).trans hc⟩, hB.trans hb2, Nat.le_trans hsz hb2.size⟩⟩
            rw [HF.out, HX.out]; simpa [sv, Pa.dd] using hr2
        · have hlen : (ys ++ [y]).length = ys.length + 1 := by simp
          rw [hlen] at hrow hle
          obtain ⟨g, cap', rfl, hgc, hgm⟩ := own_slice hrow (by omega)
          have hgl := (hrow.lt g rfl).1
          have hy : W.cell? ⟨g, ys.length, none⟩ = some (.string ⟨y.toArray⟩) := by rw [hrow.cellAt ys.length (by omega)]; simp [sv]
          clear hlen
          unfold maxLen at hgm
          by_cases hd : y = Pa.dd
          · subst hd
            have hy' : W.cell? ⟨g, ys.length, none⟩ = some (.string ⟨[46, 46].toArray⟩) := hy
            clear hy
            rcases Bool.eq_false_or_eq_true (Pa.absB l) with hab | hab
            · have HX : Hid (Pa.clStep (Pa.absB l) (ys ++ [Pa.dd]) Pa.dd = (ys ++ [Pa.dd])) := by show _ = _; rw [hab]; simp [Pa.clStep, Pa.dd]
              have HA : Hid (Pa.absB l = true) := hab
              clear hab
              gi_wp2_with (refine ⟨trivial, ?_⟩; gi_at_call 29; refine (CallsIn.inRound lp (callsIn_wide.2 (pAbs l _))).mono ?_; rw [HA.out]; rintro e w1 ⟨rfl, hw1⟩; rw [hw1]; clear hw1 w1)
              refine ⟨KeepsOthers.refl _, fun _ _ _ => rfl, ⟨⟨⟨_, hv, ?_, trivial⟩, hc⟩, hB, hsz⟩⟩
              rw [HF.out, HX.out]; simpa using hrow
            · have HX : Hid (Pa.clStep (Pa.absB l) (ys ++ [Pa.dd]) Pa.dd = (ys ++ [Pa.dd]) ++ [Pa.dd]) := by show _ = _; rw [hab]; simp [Pa.clStep, Pa.dd]
              have HA : Hid (Pa.absB l = false) := hab
              clear hab
              gi_wp2_with (first | (refine ⟨trivial, ?_⟩; gi_at_call 29; refine (CallsIn.inRound lp (callsIn_wide.2 (pAbs l _))).mono ?_; rw [HA.out]; rintro e w1 ⟨rfl, hw1⟩; rw [hw1]; clear hw1 w1) | (gi_at_builtin; refine wpListIn_append_own _ rfl _ _ 22 rfl (w.heap.size + 3) 9 i0 (.string ⟨#[]⟩) 1 16 Tryd.underlying22 hi hz0 hz1 hz2 rfl (by decide) _ _ _ rfl (hrow.alloc _) ⟨W.heap.size, 0, none⟩ 1 1 [.string ⟨[46, 46].toArray⟩] rfl rfl (cell_one_new _ _ _) (one_cell _) (by unfold maxLen; omega) (by omega) (by simp; omega) ?_; intro v' w1 hown' hgrow _; obtain ⟨g', cap', rfl⟩ := ownsRow_succ hown'; obtain ⟨hv1, hv2, hr2, hk2, hp2, hb2⟩ := boxed_app (n₀ := w.heap.size) hv (by omega) (by omega) (by omega) hrow hown' hgrow; have hc1 := hv1.cell; have hf1 := hv1.frozen))
              refine ⟨hk2, hp2, ⟨⟨⟨_, hv2, ?_, trivial⟩, (hp2 ⟨w.heap.size, 0, none⟩ (by show w.heap.size < _; omega) (by show w.heap.size ≠ _; omega)).trans hc⟩, hB.trans hb2, Nat.le_trans hsz hb2.size⟩⟩
              rw [HF.out, HX.out]; simpa [sv, Pa.dd] using hr2
          · have hd' : (y == [46, 46]) = false := by simpa [Pa.dd] using hd
            have HX : Hid (Pa.clStep (Pa.absB l) (ys ++ [y]) Pa.dd = ys) := by show _ = _; simp [Pa.clStep, hd]; simp [Pa.dd]
            clear hd
            gi_wp2
            refine ⟨KeepsOthers.setCell _ _ _, fun z _ hz => World.cell?_of_block (Below.heap_setCell _ _ _ z.block hz), ⟨⟨⟨_, hv.set _, ?_, trivial⟩, (World.cell?_of_block (Below.heap_setCell _ _ _ w.heap.size (by show w.heap.size ≠ w.heap.size + 1; omega))).trans hc⟩, hB.setCell (p := ⟨w.heap.size + 1, 0, none⟩) (by show w.heap.size ≤ w.heap.size + 1; omega) _, by simpa using hsz⟩⟩
            rw [HF.out, HX.out]
            exact (ownsRow_pop (by simp) (by simpa using hrow)).kept (grownBy_setCell' W (w.heap.size + 1) _) (.inr (by show some g ≠ some (w.heap.size + 1); intro e; cases e; omega))
      · have h2' : (x == [46, 46]) = false := by simpa [Pa.dd] using h2
        have HX : Hid (Pa.clStep (Pa.absB l) out x = out ++ [x]) := by show _ = _; simp [Pa.clStep, h1, h2]
        clear h1 h2
        gi_wp2_with (gi_at_builtin; refine wpListIn_append_own _ rfl _ _ 22 rfl (w.heap.size + 3) 9 i0 (.string ⟨#[]⟩) 1 16 Tryd.underlying22 hi hz0 hz1 hz2 rfl (by decide) _ _ _ rfl (hrow.alloc _) ⟨W.heap.size, 0, none⟩ 1 1 [.string ⟨x.toArray⟩] rfl rfl (cell_one_new _ _ _) (one_cell _) (by unfold maxLen; omega) (by omega) (by simp; omega) ?_; intro v' w1 hown' hgrow _; obtain ⟨g', cap', rfl⟩ := ownsRow_succ hown'; obtain ⟨hv1, hv2, hr2, hk2, hp2, hb2⟩ := boxed_app (n₀ := w.heap.size) hv (by omega) (by omega) (by omega) hrow hown' hgrow; have hc1 := hv1.cell; have hf1 := hv1.frozen)
        refine ⟨hk2, hp2, ⟨⟨⟨_, hv2, ?_, trivial⟩, (hp2 ⟨w.heap.size, 0, none⟩ (by show w.heap.size < _; omega) (by show w.heap.size ≠ _; omega)).trans hc⟩, hB.trans hb2, Nat.le_trans hsz hb2.size⟩⟩
        rw [HF.out, HX.out]; simpa [sv] using hr2
  case done =>
    rintro DD ys W hD hys ⟨⟨⟨v, hv, hrow, -⟩, hc⟩, hB, hsz⟩ hK
    rw [hys] at hrow
    have hvc := hv.cell
    go_wp2
    refine ⟨by simp, .inl ⟨_, _, rfl, run_takeDeferred hK, ?_⟩⟩
    refine ⟨_, results_tmp rfl _ _ _, v, rfl, ?_, ?_⟩
    · exact own_mono (ownsRow_putObj hrow _ hK rfl) (by omega)
    · exact hB.trans (belowK_b (w := w) (Nat.le_refl _) W DD _ _ (by simp at hD; omega) hK rfl rfl)
  case stop =>
    rintro D c pre W _ _ h _
    exact h.elim
end Go.Proofs.YteggjpogaljafaaDoor
