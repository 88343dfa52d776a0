/- Several texts of this claim, one behind the other, in their order. -/
import Derived.Test.YtplnojohlbbalaaM12
/- slices.Insert of one byte, walked. Condition: a length that fits. -/
namespace Go.Proofs.Ytplnojohlbbalaa
open Go.RowKit
attribute [local go_sem] ext_eq app_eq get_eq
theorem own_heap {B n : Nat} {v : Value} {xs : List Value} {w W : World} (h : w.ownsRow B 5 1 v n xs) (e : W.heap = w.heap) : W.ownsRow B 5 1 v n xs := by
  unfold World.ownsRow at h ⊢
  rw [e]; exact h
set_option maxRecDepth 100000 in
set_option maxHeartbeats 4000000 in
theorem oInsEnd (p : List UInt8) (v : Value) (B : Nat) (hp : p.length ≤ 2 ^ 45) (w0 : World) (hO : By B w0 v p) (hB : B ≤ w0.heap.size) : Calls Try.prog 48 #[v, .int .i64 p.length, .slice (some ⟨w0.heap.size, 0, none⟩) 1 1] (w0.alloc (.cells #[.int .u8 10] 5)) fun e w' => ∃ v', e = .returned v' ∧ By B w' v' (put10 p p.length) ∧ Below B w0 w' ∧ Km none w0 v w' v' := by
  obtain ⟨iB, hiB, hb0, hb1, hb2⟩ := infoB
  have HO := hidA hO.own
  have HB := hidA hB
  have HP : Hid (put10 p p.length = p ++ [10]) := by show _ = _; unfold put10; rw [List.take_length, List.drop_length, List.append_nil]
  obtain ⟨a, c, hv⟩ := hO.slice
  subst hv
  have hpc := hO.sr.le
  have hnil := hO.sr.nil
  clear hO hB
  cases a with
  | none =>
    obtain rfl := hnil rfl
    obtain rfl : p = [] := List.length_eq_zero_iff.1 (by omega)
    go_enter Try.func48, Try.ntmps48
    go_wp2_with (at_builtin; refine wpList_append_own_at _ rfl _ _ 22 rfl B 5 iB (.int .u8 0) 1 1 Try.underlying22 hiB hb0 hb1 hb2 rfl (by decide) _ _ _ rfl (HO.out.alloc _) ⟨w0.heap.size, 0, none⟩ 1 1 [.int .u8 10] rfl rfl (cell_one_new _ _ _) (one_u8 _) (by decide) (by decide) (by have := HB.out; simp; omega) ?_; intro v' w2 hown hg2 _ hat; have HO2 := hidA (By.app1 (x := 10) hown); have HB2 : Hid (Below B w0 w2) := ((Below.refl B w0).alloc HB.out _).grown hg2 (by have := HB.out; simp; omega) (fun k hk => (HO.out.lt k hk).1); have HK2 := hidA ((Km.alloc none w0 _ _).trans (Km.grown none hg2 hat)); clear hown hg2 hat)
    go_ret
    exact ⟨v', rfl, (by rw [show put10 ([] : List UInt8) 0 = [10] from rfl]; exact HO2.out), HB2.out, HK2.out⟩
  | some ad =>
    obtain ⟨g, go, sp⟩ := ad
    by_cases hcp : c = p.length
    · subst hcp
      go_enter Try.func48, Try.ntmps48
      go_wp2_with (at_builtin; refine wpList_append_own_at _ rfl _ _ 22 rfl B 5 iB (.int .u8 0) 1 1 Try.underlying22 hiB hb0 hb1 hb2 rfl (by decide) _ _ _ rfl (HO.out.alloc _) ⟨w0.heap.size, 0, none⟩ 1 1 [.int .u8 10] rfl rfl (cell_one_new _ _ _) (one_u8 _) (by unfold maxLen; omega) (by omega) (by have := HB.out; simp; omega) ?_; intro v' w2 hown hg2 _ hat; have HO2 := hidA (By.app1 (x := 10) hown); have HB2 : Hid (Below B w0 w2) := ((Below.refl B w0).alloc HB.out _).grown hg2 (by have := HB.out; simp; omega) (fun k hk => (HO.out.lt k hk).1); have HK2 := hidA ((Km.alloc none w0 _ _).trans (Km.grown none hg2 hat)); clear hown hg2 hat)
      all_goals
        go_ret
        exact ⟨v', rfl, (by rw [HP.out]; exact HO2.out), HB2.out, HK2.out⟩
    · clear hnil
      go_enter Try.func48, Try.ntmps48
      go_wp2_with (at_builtin; refine wpList_append_own_at _ rfl _ _ 22 rfl B 5 iB (.int .u8 0) 1 1 Try.underlying22 hiB hb0 hb1 hb2 rfl (by decide) _ _ _ rfl (HO.out.alloc _) ⟨w0.heap.size, 0, none⟩ 1 1 [.int .u8 10] rfl rfl (cell_one_new _ _ _) (one_u8 _) (by unfold maxLen; omega) (by omega) (by have := HB.out; simp; omega) ?_; intro v' w2 hown hg2 _ hat; have HO2 := hidA (By.app1 (x := 10) hown); have HB2 : Hid (Below B w0 w2) := ((Below.refl B w0).alloc HB.out _).grown hg2 (by have := HB.out; simp; omega) (fun k hk => (HO.out.lt k hk).1); have HK2 := hidA ((Km.alloc none w0 _ _).trans (Km.grown none hg2 hat)); clear hown hg2 hat)
      all_goals
        go_ret
        exact ⟨v', rfl, (by rw [HP.out]; exact HO2.out), HB2.out, HK2.out⟩
set_option maxRecDepth 100000 in
set_option maxHeartbeats 4000000 in
theorem oInsRoom (p : List UInt8) (i g c : Nat) (B : Nat) (hi : i < p.length) (hp : p.length ≤ 2 ^ 45) (hc : p.length + 1 ≤ c) (w0 : World) (hO : By B w0 (.slice (some ⟨g, 0, none⟩) p.length c) p) (hB : B ≤ w0.heap.size) : Calls Try.prog 48 #[.slice (some ⟨g, 0, none⟩) p.length c, .int .i64 i, .slice (some ⟨w0.heap.size, 0, none⟩) 1 1] (w0.alloc (.cells #[.int .u8 10] 5)) fun e w' => ∃ v', e = .returned v' ∧ By B w' v' (put10 p i) ∧ Below B w0 w' ∧ Km none w0 (.slice (some ⟨g, 0, none⟩) p.length c) w' v' := by
  obtain ⟨W, hW⟩ : ∃ W, W = w0.alloc (.cells #[.int .u8 10] 5) := ⟨_, rfl⟩
  have hb0 : Below w0.heap.size w0 W := by rw [hW]; exact (Below.refl _ _).alloc (Nat.le_refl _) _
  obtain ⟨hBg, hgw, _, hcm, k, hsb, hk⟩ := own_room (own_grow hO.own hb0)
  rw [hk] at hsb
  clear hk
  have hgw0 : g < w0.heap.size := (hO.own.lt g rfl).2
  obtain ⟨u, hx⟩ := own_more (own_grow hO.own hb0) hc
  have hx1 := own_grow hx (bl_drew1 W)
  have hdl : (bCs (p.drop i)).length = p.length - i := by rw [bCs_len, List.length_drop]
  have hcp1 : ∀ ty dc sc, (Builtin.copy_ #[22, 22] ty #[.slice (some ⟨g, i + 1, none⟩) (p.length - i) dc, .slice (some ⟨g, i, none⟩) (p.length + 1 - i) sc]).run Try.prog W.drew = .ok (goInt (bCs (p.drop i)).length) (W.drew.setCells g (i + 1) (bCs (p.drop i))) := fun ty dc sc =>
    copy_own hx1 ty (i + 1) (p.length - i) dc ⟨g, i, none⟩ (p.length + 1 - i) sc (bCs (p.drop i)) (by rw [hdl]; simp only [Nat.min_def]; split <;> omega) (fun j x hj => by
      have hj2 : j < (bCs (p.drop i)).length := (List.getElem?_eq_some_iff.1 hj).1
      have := hx1.cells (g := g) rfl (i + j) x (by
        rw [List.getElem?_append_left (by rw [bCs_len]; omega)]
        rw [← hj]
        simp [bCs, List.getElem?_drop])
      rw [add0] at this
      rw [Addr.add_lit]
      exact this) (by rw [hdl]; omega) (bCs_one _)
  obtain ⟨W1, hW1⟩ : ∃ W1, W1 = W.drew.setCells g (i + 1) (bCs (p.drop i)) := ⟨_, rfl⟩
  have s1 := own_setCells (bCs (p.drop i)) (bCs p ++ [u]) (i + 1) W.drew hx1
  rw [← hW1] at hcp1 s1
  have hne : w0.heap.size ≠ g := by omega
  have hc10 : W1.cell? ⟨w0.heap.size, 0, none⟩ = some (.int .u8 10) := by
    have e1 : W.drew.cell? ⟨w0.heap.size, 0, none⟩ = some (.int .u8 10) := by rw [hW]; exact World.cell?_alloc_at _ _ _ _ rfl
    rw [← e1]
    have h5 := s1.2.block w0.heap.size (by rw [hW]; simp) (by simp; omega)
    simp only [World.cell?, h5]
  have hcp2 : ∀ ty dc, (Builtin.copy_ #[22, 22] ty #[.slice (some ⟨g, i, none⟩) (p.length + 1 - i) dc, .slice (some ⟨w0.heap.size, 0, none⟩) 1 1]).run Try.prog W1 = .ok (goInt 1) (W1.setCells g i [.int .u8 10]) := fun ty dc =>
    copy_own s1.1 ty i (p.length + 1 - i) dc ⟨w0.heap.size, 0, none⟩ 1 1 [.int .u8 10] (by simp only [Nat.min_def]; split <;> simp <;> omega) (fun j x hj => by
      cases j with
      | zero => simp at hj; subst hj; rw [add0]; exact hc10
      | succ j => simp at hj) (by simp; omega) (one_u8 _)
  have s2 := own_setCells [Value.int .u8 10] _ i W1 s1.1
  rw [ov_room p i hi u] at s2
  have HF : Hid (By B (W1.setCells g i [.int .u8 10]) (.slice (some ⟨g, 0, none⟩) (p.length + 1) c) (put10 p i) ∧ Below B w0 (W1.setCells g i [.int .u8 10]) ∧ Km none w0 (.slice (some ⟨g, 0, none⟩) p.length c) (W1.setCells g i [.int .u8 10]) (.slice (some ⟨g, 0, none⟩) (p.length + 1) c)) := by
    have hg3 := s1.2.trans s2.2
    refine ⟨?_, (((hb0.mono hB).trans ((bl_drew1 W).mono (Nat.le_trans hB hb0.size))).grown hg3 (Nat.le_trans hB hb0.size) (fun k hk => by injection hk with hk; omega)), ?_⟩
    · unfold By; rw [put10_len (Nat.le_of_lt hi)]; exact s2.1
    · refine ⟨fun b hb hr _ => (hg3.block b (Nat.lt_of_lt_of_le hb hb0.size) hr).trans (hb0.block b hb), .inl rfl, Nat.le_trans hb0.size hg3.size⟩
  have hov : ∀ lb cb, (callFunc 56 #[.slice (some ⟨w0.heap.size, 0, none⟩) 1 1, .slice (some ⟨g, i + 1, none⟩) lb cb]).run Try.prog W = .ok (.value (.bool false)) W := fun lb cb => by
    obtain ⟨iB, hiB, hz0, hz1, hz2⟩ := infoB
    rw [run_callFunc_extern Try.func56 (by kernel_rfl) (by kernel_rfl) (by kernel_rfl) (e := Extern.SlicesOverlaps.overlaps #[22, 22] #[4]) (by kernel_rfl),
      Lib.run_overlaps_apart W 22 4 5 Try.underlying22 1 (fun w => by simp [sizeOf, typeInfo, hiB, hz1]) ⟨w0.heap.size, 0, none⟩ ⟨g, i + 1, none⟩ 1 1 lb cb hne 5 5 1 _ (by rw [hW]; unfold World.shape?; rw [heap_alloc_new]; rfl) hsb (by omega) (by rw [hW]; exact World.frozen?_alloc_at _ _ _ _ rfl) (by rw [hW]; exact World.frozen?_alloc_at _ _ _ _ rfl)]
    rfl
  rw [← hW]
  have hz2 : ¬ ((i : Int) = (p.length : Int)) := by omega
  have hw1 : IntKind.i64.wrap ((i : Int) + 1) = (i : Int) + 1 := by rw [IntKind.wrap_i64]; omega
  have hw2 : IntKind.i64.wrap ((p.length : Int) + 1) = (p.length : Int) + 1 := by rw [IntKind.wrap_i64]; omega
  have htn : ((i : Int) + 1).toNat = i + 1 := by omega
  have htn2 : ((p.length : Int) + 1).toNat = p.length + 1 := by omega
  have hb2 : ¬ (c = i + 1) := by omega
  have hb3 : (i : Int) ≤ (p.length : Int) + 1 := by omega
  have hb4 : ¬ (c = i) := by omega
  have hb5 : ¬ ((c : Int) < (p.length : Int) + 1) := by omega
  have hb6 : (p.length : Int) + 1 ≤ (c : Int) := by omega
  have hb7 : (i : Int) + 1 ≤ (p.length : Int) + 1 := by omega
  have hb8 : (0 : Int) ≤ (i : Int) + 1 := by omega
  have hb9 : (i : Int) ≤ (p.length : Int) := by omega
  have hb10 : (0 : Int) ≤ (p.length : Int) + 1 := by omega
  have hc63 : c ≤ 9223372036854775807 := by unfold maxLen at hcm; omega
  clear hO hB hx hx1 s1 s2 hb0 hc10 hdl hsb hW hW1
  generalize bCs (p.drop i) = us at *
  generalize p.length = n at *
  go_enter Try.func48, Try.ntmps48
  have mixed := Try.checked.mixed
  go_wp2_with (simp only [hov])
  go_region_law_o (refine stepCp rfl _ _ rfl _ _ (by simp [Act.eval, Act.put]) (by simp [Act.eval, Act.put]) (hcp1 _ _ _) ?_)
  go_wp2_with (at_builtin; refine wpList_cp rfl _ _ rfl _ _ rfl rfl (hcp2 _ _) ?_)
  go_ret
  exact ⟨_, rfl, HF.out⟩
end Go.Proofs.Ytplnojohlbbalaa
/- slices.Insert of one byte into a row without room; all ways together. Condition: a length that fits. -/
namespace Go.Proofs.Ytplnojohlbbalaa
open Go.RowKit
attribute [local go_sem] ext_eq app_eq get_eq
set_option maxRecDepth 100000 in
set_option maxHeartbeats 4000000 in
theorem oInsGrow (p : List UInt8) (i g : Nat) (B : Nat) (hi : i < p.length) (hp : p.length ≤ 2 ^ 45) (w0 : World) (hO : By B w0 (.slice (some ⟨g, 0, none⟩) p.length p.length) p) (hB : B ≤ w0.heap.size) : Calls Try.prog 48 #[.slice (some ⟨g, 0, none⟩) p.length p.length, .int .i64 i, .slice (some ⟨w0.heap.size, 0, none⟩) 1 1] (w0.alloc (.cells #[.int .u8 10] 5)) fun e w' => ∃ v', e = .returned v' ∧ By B w' v' (put10 p i) ∧ Below B w0 w' ∧ Km none w0 (.slice (some ⟨g, 0, none⟩) p.length p.length) w' v' := by
  obtain ⟨iB, hiB, hz0, hz1, hzb⟩ := infoB
  obtain ⟨W, hW⟩ : ∃ W, W = w0.alloc (.cells #[.int .u8 10] 5) := ⟨_, rfl⟩
  have hb0 : Below w0.heap.size w0 W := by rw [hW]; exact (Below.refl _ _).alloc (Nat.le_refl _) _
  have hwz : W.heap.size = w0.heap.size + 1 := by rw [hW]; simp
  have hOw := own_grow hO.own hb0
  have hgw0 : g < w0.heap.size := (hO.own.lt g rfl).2
  have hgc : ∀ j (hj : j < p.length), W.cell? ⟨g, j, none⟩ = some (.int .u8 (p[j]).toNat) := fun j hj => by
    have := hOw.cells (g := g) rfl j (.int .u8 (p[j]).toNat) (by simp [bCs, List.getElem?_map, List.getElem?_eq_getElem hj])
    rw [add0] at this
    exact this
  have hold : (Builtin.firstCells iB.size i (.slice (some ⟨g, 0, none⟩) i p.length)).run Try.prog W.drew = .ok (bCs (p.take i)).toArray W.drew := by
    rw [hz1]
    refine run_firstCells_some W.drew 1 i ⟨g, 0, none⟩ i p.length (bCs (p.take i)) (by rw [bCs_len, List.length_take]; omega) (fun j v hj => ?_)
    rw [add0]
    have hj2 : j < (p.take i).length := by have := (List.getElem?_eq_some_iff.1 hj).1; rwa [bCs_len] at this
    have hj3 : j < p.length := by rw [List.length_take] at hj2; omega
    have e : v = .int .u8 (p[j]).toNat := by
      simp only [bCs, List.getElem?_map, List.getElem?_eq_getElem hj2, Option.map_some, Option.some.injEq] at hj
      rw [← hj, List.getElem_take]
    rw [e]
    exact hgc j hj3
  have hkk : (p.length : Int) + 1 - (i : Int) = ((p.length + 1 - i : Nat) : Int) := by omega
  have hik : i + (p.length + 1 - i) = p.length + 1 := by omega
  obtain ⟨G, hG⟩ : ∃ G, G = grownCap W (p.length + 1) p.length 5 := ⟨_, rfl⟩
  have hGn : p.length + 1 ≤ G := by rw [hG]; exact grownCap_ge W _ _ _
  have hGm : G ≤ maxLen := by rw [hG]; exact grownCap_le_maxLen W (p.length + 1) p.length 5 (by unfold maxLen; omega)
  obtain ⟨ZZ, hZZ⟩ : ∃ ZZ : Array Value, ZZ = Builtin.zeroCells (Value.int .u8 0).cells (p.length + 1 - i) := ⟨_, rfl⟩
  obtain ⟨Z2, hZ2⟩ : ∃ Z2 : Array Value, Z2 = Builtin.zeroCells (Value.int .u8 0).cells (G - (p.length + 1)) := ⟨_, rfl⟩
  have hZs : ZZ.size = p.length + 1 - i := by rw [hZZ, size_zeroCells]; simp [Value.cells]
  have hZl : ZZ.toList.length = p.length + 1 - i := hZs
  have hZ2s : Z2.size = G - (p.length + 1) := by rw [hZ2, size_zeroCells]; simp [Value.cells]
  obtain ⟨W1, hW1⟩ : ∃ W1, W1 = W.drew.alloc (.cells ((bCs (p.take i)).toArray ++ ZZ ++ Z2) 5) := ⟨_, rfl⟩
  have hrz : ∀ ty, (Builtin.append_ #[22, 3] ty #[.slice (some ⟨g, 0, none⟩) i p.length, .int .i64 ((p.length : Int) + 1 - (i : Int))]).run Try.prog W = .ok (.slice (some ⟨W.heap.size, 0, none⟩) (p.length + 1) G) W1 := fun ty => by
    have h := Lib.run_append_grow_zeros (P := Try.prog) W 22 3 ty 5 iB _ .i64 .i64 Try.underlying22 Try.underlying3 hiB hz0 (some ⟨g, 0, none⟩) i p.length (bCs (p.take i)) hold (p.length + 1 - i) (by omega) (by omega) (by omega) (by omega) (by rw [hzb]; omega) (by rw [hzb, hik]; exact growslice_fits (by omega) (by omega))
    rw [hik, ← hG, ← hZZ, ← hZ2, ← hW1] at h
    rw [hkk]
    exact h
  have hb1 : Below w0.heap.size w0 W1 := by
    rw [hW1]
    exact ((hb0.trans ((bl_drew1 W).mono hb0.size)).alloc (Nat.le_trans hb0.size (bl_drew1 W).size) _)
  have hown1 : W1.ownsRow w0.heap.size 5 1 (.slice (some ⟨W.heap.size, 0, none⟩) (p.length + 1) G) (p.length + 1) (bCs (p.take i) ++ ZZ.toList) := by
    have hl : (bCs (p.take i)).length = i := by rw [bCs_len, List.length_take]; omega
    refine ⟨by rw [List.length_append, hl, hZl]; omega, .inr ⟨W.heap.size, G, _, rfl, hb0.size, by rw [hW1]; exact heap_alloc_new W.drew _, hGn, hGm, ?_, ?_⟩⟩
    · simp only [Array.size_append, List.size_toArray, hl, hZs, hZ2s]; omega
    · simp only [Array.toList_append]
      rw [show (p.length + 1) * 1 = (bCs (p.take i) ++ ZZ.toList).length by rw [List.length_append, hl, hZl]; omega]
      exact List.take_left
  have hNw : W.heap.size < W1.heap.size := by rw [hW1]; simp
  have hc10 : W1.cell? ⟨w0.heap.size, 0, none⟩ = some (.int .u8 10) := by
    have e1 : W.cell? ⟨w0.heap.size, 0, none⟩ = some (.int .u8 10) := by rw [hW]; exact World.cell?_alloc_at _ _ _ _ rfl
    rw [← e1, hW1]
    exact World.cell?_alloc_past (w := W.drew) _ w0.heap.size 0 (by show w0.heap.size < W.heap.size; omega)
  have hcpA : ∀ ty dc, (Builtin.copy_ #[22, 22] ty #[.slice (some ⟨W.heap.size, i, none⟩) (p.length + 1 - i) dc, .slice (some ⟨w0.heap.size, 0, none⟩) 1 1]).run Try.prog W1 = .ok (goInt 1) (W1.setCells W.heap.size i [.int .u8 10]) := fun ty dc =>
    copy_own hown1 ty i (p.length + 1 - i) dc ⟨w0.heap.size, 0, none⟩ 1 1 [.int .u8 10] (by simp only [Nat.min_def]; split <;> simp <;> omega) (fun j x hj => by
      cases j with
      | zero => simp at hj; subst hj; rw [add0]; exact hc10
      | succ j => simp at hj) (by simp; omega) (one_u8 _)
  have s1 := own_setCells [Value.int .u8 10] _ i W1 hown1
  obtain ⟨W2, hW2⟩ : ∃ W2, W2 = W1.setCells W.heap.size i [.int .u8 10] := ⟨_, rfl⟩
  rw [← hW2] at hcpA s1
  have hb2 : Below w0.heap.size w0 W2 := hb1.grown s1.2 hb1.size (fun k hk => by injection hk with hk; omega)
  have hown2 := own_grow s1.1 (bl_drew1 W2)
  have hdl : (bCs (p.drop i)).length = p.length - i := by rw [bCs_len, List.length_drop]
  have hcpB : ∀ ty dc sc, (Builtin.copy_ #[22, 22] ty #[.slice (some ⟨W.heap.size, i + 1, none⟩) (p.length - i) dc, .slice (some ⟨g, i, none⟩) (p.length - i) sc]).run Try.prog W2.drew = .ok (goInt (bCs (p.drop i)).length) (W2.drew.setCells W.heap.size (i + 1) (bCs (p.drop i))) := fun ty dc sc =>
    copy_own hown2 ty (i + 1) (p.length - i) dc ⟨g, i, none⟩ (p.length - i) sc (bCs (p.drop i)) (by rw [hdl]; simp) (fun j x hj => by
      have hj2 : j < (p.drop i).length := by have := (List.getElem?_eq_some_iff.1 hj).1; rwa [bCs_len] at this
      have hj3 : i + j < p.length := by rw [List.length_drop] at hj2; omega
      have e : x = .int .u8 (p[i + j]).toNat := by
        simp only [bCs, List.getElem?_map, List.getElem?_eq_getElem hj2, Option.map_some, Option.some.injEq] at hj
        rw [← hj, List.getElem_drop]
      rw [Addr.add_lit, e]
      have h1 := (hO.own.cells (g := g) rfl (i + j) (.int .u8 (p[i + j]).toNat) (by simp [bCs, List.getElem?_map, List.getElem?_eq_getElem hj3]))
      rw [add0] at h1
      have h2 : W2.drew.heap[g]? = w0.heap[g]? := hb2.block g hgw0
      rw [← h1]
      simp only [World.cell?, h2]) (by rw [hdl]; omega) (bCs_one _)
  have s2 := own_setCells (bCs (p.drop i)) _ (i + 1) W2.drew hown2
  rw [ov_grow p i hi ZZ.toList hZl] at s2
  obtain ⟨W3, hW3⟩ : ∃ W3, W3 = W2.drew.setCells W.heap.size (i + 1) (bCs (p.drop i)) := ⟨_, rfl⟩
  rw [← hW3] at hcpB s2
  have hb3 : Below w0.heap.size w0 W3 := (hb2.trans ((bl_drew1 W2).mono hb2.size)).grown s2.2 (Nat.le_trans hb2.size (bl_drew1 W2).size) (fun k hk => by injection hk with hk; omega)
  have HF : Hid (By B W3 (.slice (some ⟨W.heap.size, 0, none⟩) (p.length + 1) G) (put10 p i) ∧ Below B w0 W3 ∧ Km none w0 (.slice (some ⟨g, 0, none⟩) p.length p.length) W3 (.slice (some ⟨W.heap.size, 0, none⟩) (p.length + 1) G)) := by
    refine ⟨?_, hb3.mono hB, ⟨fun b hb _ _ => hb3.block b hb, .inr ⟨W.heap.size, hb0.size, rfl⟩, hb3.size⟩⟩
    have h5 : By w0.heap.size W3 (.slice (some ⟨W.heap.size, 0, none⟩) (p.length + 1) G) (put10 p i) := by unfold By; rw [put10_len (Nat.le_of_lt hi)]; exact s2.1
    exact h5.mono hB
  rw [← hW]
  have hz2 : ¬ ((i : Int) = (p.length : Int)) := by omega
  have hw1 : IntKind.i64.wrap ((i : Int) + 1) = (i : Int) + 1 := by rw [IntKind.wrap_i64]; omega
  have hw2 : IntKind.i64.wrap ((p.length : Int) + 1) = (p.length : Int) + 1 := by rw [IntKind.wrap_i64]; omega
  have hw3 : IntKind.i64.wrap ((p.length : Int) + 1 - (i : Int)) = (p.length : Int) + 1 - (i : Int) := by rw [IntKind.wrap_i64]; omega
  have htn : ((i : Int) + 1).toNat = i + 1 := by omega
  have hci : ¬ (p.length = i) := by omega
  have hGi : ¬ (G = i) := by omega
  have hGim : ¬ (G = i + 1) := by omega
  have hq1 : (p.length : Int) < (p.length : Int) + 1 := by omega
  have hq2 : (i : Int) ≤ (p.length : Int) + 1 := by omega
  have hq3 : (i : Int) + 1 ≤ (p.length : Int) + 1 := by omega
  have hq4 : (0 : Int) ≤ (i : Int) + 1 := by omega
  have hq5 : (i : Int) ≤ (p.length : Int) := by omega
  have hin : i ≤ p.length := by omega
  have hG63 : G ≤ 9223372036854775807 := by unfold maxLen at hGm; omega
  clear hO hB hb0 hwz hOw hgc hold hkk hik hG hGm hZZ hZ2 hZs hZl hZ2s hW1 hb1 hown1 hNw hc10 s1 hW2 hb2 hown2 hdl s2 hW3 hb3 hW hgw0
  have mixed := Try.checked.mixed
  generalize bCs (p.drop i) = us at *
  generalize W.heap.size = N at *
  generalize p.length = n at *
  go_enter Try.func48, Try.ntmps48
  go_wp2_with (first
    | (at_builtin; refine Lib.wpList_append_run _ rfl _ _ _ _ rfl _ _ rfl rfl _ _ (hrz _) ?_)
    | (at_builtin; refine wpList_cp rfl _ _ rfl _ _ rfl rfl (hcpA _ _) ?_))
  go_region_law_o (refine stepCp rfl _ _ rfl _ _ (by simp [Act.eval, Act.put]) (by simp [Act.eval, Act.put]) (hcpB _ _ _) ?_)
  go_wp2
  go_ret
  exact ⟨_, rfl, HF.out⟩
/-- All ways. -/
theorem oInsert (p : List UInt8) (i : Nat) (v : Value) (B : Nat) (hi : i ≤ p.length) (hp : p.length ≤ 2 ^ 45) (w0 : World) (hO : By B w0 v p) (hB : B ≤ w0.heap.size) : Calls Try.prog 48 #[v, .int .i64 i, .slice (some ⟨w0.heap.size, 0, none⟩) 1 1] (w0.alloc (.cells #[.int .u8 10] 5)) fun e w' => ∃ v', e = .returned v' ∧ By B w' v' (put10 p i) ∧ Below B w0 w' ∧ Km none w0 v w' v' := by
  rcases Nat.lt_or_ge i p.length with h | h
  · rcases hO.own.2 with ⟨rfl, h0⟩ | ⟨g, cap, cur, rfl, hb, hg, hnc, hcm, hsz, ht⟩
    · omega
    · rcases Nat.lt_or_ge p.length cap with h2 | h2
      · exact oInsRoom p i g cap B h hp h2 w0 hO hB
      · obtain rfl : cap = p.length := by omega
        exact oInsGrow p i g B h hp w0 hO hB
  · obtain rfl : i = p.length := by omega
    exact oInsEnd p v B hp w0 hO hB
end Go.Proofs.Ytplnojohlbbalaa
