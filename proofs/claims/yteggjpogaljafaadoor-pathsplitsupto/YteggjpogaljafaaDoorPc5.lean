/- The walk of the plain answer Split. Condition: a length that fits. -/
import Derived.Test.YteggjpogaljafaaDoorPa5
import Derived.Test.YteggjpogaljafaaDoorPb9
namespace Go.Proofs.YteggjpogaljafaaDoor
open Go.RowKit
attribute [local go_sem] ext_eq app_eq get_eq toL_eq
theorem ret9 {W : World} {s : Nat} {a b c : Value} {n : Int} (h3 : Box3 W s 24 a b c) (tmps : Array Value) (h2 : tmps[2]?.getD undef = .pointer (some ⟨s, 0, none⟩)) (h4 : tmps[3]?.getD undef = .int .i64 n) :
    (results Tryd.f9 tmps).run Tryd.prog W = .ok (.tuple #[.agg #[a, b, c], .int .i64 n]) W := by
  obtain ⟨r0, r1, r2⟩ := h3.c0
  simp [results, Tryd.results9, go_sem, h2, h4, r0, r1, r2]
def zeroEnd (W : World) (s : Nat) : World := ((W.setCell ⟨s, 0, none⟩ (.bool false)).setCell ⟨s, 1, none⟩ (.slice none 0 0)).setCell ⟨s, 2, none⟩ (.bool false)
theorem byte_zero (c : UInt8) : (((c.toNat : Int) == 0)) = decide (c = 0) := byte_eq c 0
theorem refused {l : List UInt8} {w W : World} {n : Int} {a : Act} (hn : Pa.splC l = n) (h0 : n ≠ 0) (hb3 : Box3 W w.heap.size 24 (.bool false) (.slice none 0 0) (.bool false)) (hB : Below w.heap.size w W) (hd : a.defers = []) (h2 : a.tmps[2]?.getD undef = .pointer (some ⟨w.heap.size, 0, none⟩)) (h4 : a.tmps[3]?.getD undef = .int .i64 n) :
    bodyPost Tryd.prog Tryd.f9 (fun e w' => ∃ v, e = .returned (.tuple #[.agg #[.bool (Pa.splA l), v, .bool (Pa.splS l)], .int .i64 (Pa.splC l)]) ∧ w'.ownsRow w.heap.size 9 1 v (Pa.splN l).length ((Pa.splN l).map sv) ∧ Below w.heap.size w w') .ret a (zeroEnd W w.heap.size) := by
  refine bodyPost_ret (ret9 (hb3.set _ _ _) _ h2 h4) hd ⟨.slice none 0 0, ?_, ?_, ?_⟩
  · have : decide (Pa.splC l = 0) = false := by rw [hn]; simpa using h0
    rw [Pa.splA, Pa.splS, this, hn]; rfl
  · rw [Pa.splN, if_neg (by rw [hn]; exact h0)]; exact World.ownsRow_nil _ _ _ _
  · exact ((hB.setCell (p := ⟨w.heap.size, 0, none⟩) (Nat.le_refl _) _).setCell (p := ⟨w.heap.size, 1, none⟩) (Nat.le_refl _) _).setCell (p := ⟨w.heap.size, 2, none⟩) (Nat.le_refl _) _
set_option maxRecDepth 100000 in
set_option maxHeartbeats 1000000 in
theorem rSplit (l : List UInt8) (w : World) (hl : l.length ≤ 2 ^ 40) : Calls Tryd.prog 9 #[.string ⟨l.toArray⟩] w fun e w' => ∃ v, e = .returned (.tuple #[.agg #[.bool (Pa.splA l), v, .bool (Pa.splS l)], .int .i64 (Pa.splC l)]) ∧ w'.ownsRow w.heap.size 9 1 v (Pa.splN l).length ((Pa.splN l).map sv) ∧ Below w.heap.size w w' := by
  by_cases h0 : l = []
  · subst h0
    go_enter Tryd.func9, Tryd.ntmps9
    go_wp2
    exact bodyPost_ret (v := .tuple #[.agg #[.bool false, .slice none 0 0, .bool false], .int .i64 2]) (by simp [results, Tryd.results9, go_sem]) rfl ⟨_, rfl, World.ownsRow_nil _ _ _ _, (Below.refl _ w).alloc (Nat.le_refl _) _⟩
  · have h0' : l.isEmpty = false := by simp [h0]
    have HM : Hid (l.length ≤ maxLen) := by show _ ≤ _; unfold maxLen; omega
    have HL : Hid (¬ l = []) := h0
    have hnl := Pa.nms_length l
    clear h0
    go_enter Tryd.func9, Tryd.ntmps9
    go_wp2_with fail
    refine (rNames l _ hl).mono ?_
    rintro e w1 ⟨v, rfl, hv, HB1⟩
    have hb3 : Box3 w1 w.heap.size 24 (.bool false) (.slice none 0 0) (.bool false) := (HB1.block w.heap.size (by simp)).trans (World.alloc_heap_new w _)
    have hB : Below w.heap.size w w1 := ((Below.refl w.heap.size w).alloc (Nat.le_refl _) _).trans (HB1.mono (by simp))
    rw [World.size_alloc] at hv
    clear HB1
    obtain ⟨r0, r1, r2⟩ := hb3.c0
    obtain ⟨f0, f1, f2⟩ := hb3.fz
    obtain ⟨-, a1, c1, rfl, hc1, HS1, -⟩ := own_strs hv
    by_cases h1 : 255 < l.length
    · have h1' : decide ((255 : Int) < (l.length : Int)) = true := by simp; omega
      have HC : Hid (Pa.splC l = 36) := by show _ = _; rw [Pa.splC, if_neg HL.out, if_pos h1]
      go_wp2
      exact refused HC.out (by decide) hb3 hB rfl rfl rfl
    · have h1' : decide ((255 : Int) < (l.length : Int)) = false := by simp; omega
      go_wp2
      go_loop [19] (fun i => ∃ k : Nat, k ≤ (Pa.nms l).length ∧ i = .int .i64 k ∧ Hid (∀ n ∈ (Pa.nms l).take k, ¬ 27 < n.length)) (fun i => (Pa.nms l).length - (intOf i).toNat)
      case atStart => exact ⟨0, Nat.zero_le _, rfl, by intro n hn; simp at hn⟩
      case round =>
        obtain ⟨k, hk, rfl, HK⟩ := hrel
        by_cases hlt : k < (Pa.nms l).length
        · have HT : Hid ((Pa.nms l).take (k + 1) = (Pa.nms l).take k ++ [(Pa.nms l)[k]]) := take_getL _ k hlt
          have HME : Hid ((Pa.nms l)[k] ∈ Pa.nms l) := List.getElem_mem _
          obtain ⟨bk, o, rfl, hb, hcell⟩ := HS1 k (Pa.nms l)[k] (List.getElem?_eq_getElem hlt)
          generalize (Pa.nms l)[k] = x at *
          by_cases hx : 27 < x.length
          · have hx' : decide ((27 : Int) < (x.length : Int)) = true := by simp; omega
            have HC : Hid (Pa.splC l = 36) := by show _ = _; rw [Pa.splC, if_neg HL.out, if_neg h1, if_pos (List.any_eq_true.2 ⟨x, HME.out, by simpa using hx⟩)]
            go_wp2
            exact refused HC.out (by decide) hb3 hB rfl rfl rfl
          · have hx' : decide ((27 : Int) < (x.length : Int)) = false := by simp; omega
            have HX : Hid (¬ 27 < x.length) := hx
            go_wp2
            exact ⟨⟨k + 1, by omega, by go_num, by
              rw [HT.out]; intro n hn; rw [List.mem_append] at hn
              rcases hn with hn | hn
              · exact HK.out n hn
              · simp at hn; rw [hn]; exact HX.out⟩, by simp [intOf]; omega⟩
        · have HA : Hid ((Pa.nms l).any (fun n => decide (27 < n.length)) = false) := by
            show _ = _
            rw [List.any_eq_false]
            intro n hn
            have := HK.out n (by rw [List.take_of_length_le (by omega)]; exact hn)
            simpa using this
          go_wp2
          go_loop [7] (fun i => ∃ k : Nat, k ≤ l.length ∧ i = .int .i64 k ∧ Hid (0 ∉ l.take k)) (fun i => l.length - (intOf i).toNat)
          case atStart => exact ⟨0, Nat.zero_le _, rfl, by show _ ∉ _; simp⟩
          case round =>
            obtain ⟨j, hj, rfl, HJ⟩ := hrel
            by_cases hjl : j < l.length
            · have HT : Hid (l.take (j + 1) = l.take j ++ [l[j]]) := take_get l j hjl
              by_cases hz : l[j] = 0
              · have hz' : ((l[j].toNat : Int) == 0) = true := by rw [byte_zero]; simpa using hz
                have HC : Hid (Pa.splC l = 22) := by
                  show _ = _
                  rw [Pa.splC, if_neg HL.out, if_neg h1, if_neg (by simp [HA.out]), if_pos]
                  have : (0 : UInt8) ∈ l := hz ▸ List.getElem_mem _
                  simpa using this
                clear hz
                go_wp2
                exact refused HC.out (by decide) hb3 hB rfl rfl rfl
              · have hz' : ((l[j].toNat : Int) == 0) = false := by rw [byte_zero]; simpa using hz
                have HZ : Hid (¬ l[j] = 0) := hz
                clear hz
                go_wp2
                exact ⟨⟨j + 1, by omega, by go_num, by
                  show _ ∉ _
                  rw [HT.out, List.mem_append]
                  rintro (h | h)
                  · exact HJ.out h
                  · simp at h; exact HZ.out h.symm⟩, by simp [intOf]; omega⟩
            · have HC : Hid (Pa.splC l = 0) := by
                show _ = _
                rw [Pa.splC, if_neg HL.out, if_neg h1, if_neg (by simp [HA.out]), if_neg]
                have := HJ.out
                rw [List.take_of_length_le (by omega)] at this
                simpa using this
              have HVV : Hid (w1.ownsRow (w.heap.size + 1) 9 1 (.slice a1 (Pa.nms l).length c1) (Pa.nms l).length ((Pa.nms l).map sv)) := hv
              have hlp : 0 < l.length := List.length_pos_iff.2 HL.out
              have fin : ∀ (q : Bool) (a : Act), (decide (Pa.nms l ≠ []) && (l.getLast? == some 47)) = q → a.defers = [] → a.tmps[2]?.getD undef = .pointer (some ⟨w.heap.size, 0, none⟩) → a.tmps[3]?.getD undef = .int .i64 0 → bodyPost Tryd.prog Tryd.f9 (fun e w' => ∃ v, e = .returned (.tuple #[.agg #[.bool (Pa.splA l), v, .bool (Pa.splS l)], .int .i64 (Pa.splC l)]) ∧ w'.ownsRow w.heap.size 9 1 v (Pa.splN l).length ((Pa.splN l).map sv) ∧ Below w.heap.size w w') .ret a (((w1.setCell ⟨w.heap.size, 0, none⟩ (.bool (Pa.absB l))).setCell ⟨w.heap.size, 1, none⟩ (.slice a1 (Pa.nms l).length c1)).setCell ⟨w.heap.size, 2, none⟩ (.bool q)) := by
                intro q a hq hd h2 h4
                refine bodyPost_ret (ret9 (hb3.set _ _ _) _ h2 h4) hd ⟨.slice a1 (Pa.nms l).length c1, ?_, ?_, ?_⟩
                · rw [Pa.splA, Pa.splS, HC.out, hq]; rfl
                · rw [Pa.splN, HC.out, if_pos rfl]
                  exact own_mono (own_keep (own_keep (own_keep HVV.out (grow_set _ ⟨w.heap.size, 0, none⟩ _) (by show w.heap.size < _; omega)) (grow_set _ ⟨w.heap.size, 1, none⟩ _) (by show w.heap.size < _; omega)) (grow_set _ ⟨w.heap.size, 2, none⟩ _) (by show w.heap.size < _; omega)) (by omega)
                · exact ((hB.setCell (p := ⟨w.heap.size, 0, none⟩) (Nat.le_refl _) _).setCell (p := ⟨w.heap.size, 1, none⟩) (Nat.le_refl _) _).setCell (p := ⟨w.heap.size, 2, none⟩) (Nat.le_refl _) _
              have FIN : Hid (∀ (q : Bool) (a : Act), (decide (Pa.nms l ≠ []) && (l.getLast? == some 47)) = q → a.defers = [] → a.tmps[2]?.getD undef = .pointer (some ⟨w.heap.size, 0, none⟩) → a.tmps[3]?.getD undef = .int .i64 0 → bodyPost Tryd.prog Tryd.f9 (fun e w' => ∃ v, e = .returned (.tuple #[.agg #[.bool (Pa.splA l), v, .bool (Pa.splS l)], .int .i64 (Pa.splC l)]) ∧ w'.ownsRow w.heap.size 9 1 v (Pa.splN l).length ((Pa.splN l).map sv) ∧ Below w.heap.size w w') .ret a (((w1.setCell ⟨w.heap.size, 0, none⟩ (.bool (Pa.absB l))).setCell ⟨w.heap.size, 1, none⟩ (.slice a1 (Pa.nms l).length c1)).setCell ⟨w.heap.size, 2, none⟩ (.bool q))) := fin
              clear fin hv
              by_cases hn : Pa.nms l = []
              · have hn' : decide (0 < (Pa.nms l).length) = false := by simp [hn]
                have HQ : Hid ((decide (Pa.nms l ≠ []) && (l.getLast? == some 47)) = false) := by show _ = _; simp [hn]
                clear hn
                go_wp2_with (go_at_call 32; refine (rAbs l _ HM.out).mono ?_; rintro e w2 ⟨rfl, hw2⟩; rw [hw2]; clear hw2 w2)
                exact FIN.out _ _ HQ.out rfl rfl rfl
              · have hn' : 0 < (Pa.nms l).length := List.length_pos_iff.2 hn
                have HQ : Hid ((decide (Pa.nms l ≠ []) && (l.getLast? == some 47)) = ((l[l.length - 1].toNat : Int) == 47)) := by
                  show _ = _
                  rw [byte_slash, List.getLast?_eq_getElem?, List.getElem?_eq_getElem (by omega), Bool.eq_iff_iff]
                  simp [hn]
                clear hn
                go_wp2_with (go_at_call 32; refine (rAbs l _ HM.out).mono ?_; rintro e w2 ⟨rfl, hw2⟩; rw [hw2]; clear hw2 w2)
                exact FIN.out _ _ HQ.out rfl rfl rfl
end Go.Proofs.YteggjpogaljafaaDoor
