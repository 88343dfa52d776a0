/- The walks of the plain answer's Same (of the same ranges), and of the program's Has. Conditions: the ranges lie in memory as said. -/
import Derived.Test.YtgkjpfebjhhdkaaDoorNk2
import Derived.Laws.StructEq
namespace Go.Proofs.YtgkjpfebjhhdkaaDoor
open Go.RowKit
theorem egR (op : BinOp) (x y : Operand) (xs ys : Array Value) (W : World) : (eqGuard op 51 x y (.agg xs) (.agg ys)).run Tryd.prog W = .ok () W := run_eqGuard_agg W op 51 x y xs ys (by kernel_rfl)
theorem fR : Tryd.prog.underlying 51 = some (.struct (Tryd.prog.fieldsOf 51)) := by kernel_rfl
theorem fRl : (Tryd.prog.fieldsOf 51).toList.map (fun f => (f.type, f.offset, decide (f.name = "_"))) = [(3, 0, false), (3, 1, false)] := by kernel_rfl
theorem two_fields {fs : List Field} {t0 t1 : TypeId} (h : fs.map (fun f => (f.type, f.offset, decide (f.name = "_"))) = [(t0, 0, false), (t1, 1, false)]) : ∃ f0 f1, fs = [f0, f1] ∧ f0.type = t0 ∧ f0.offset = 0 ∧ f0.name ≠ "_" ∧ f1.type = t1 ∧ f1.offset = 1 ∧ f1.name ≠ "_" := by
  cases fs with
  | nil => exact absurd (congrArg List.length h) (by simp)
  | cons f0 r =>
    cases r with
    | nil => exact absurd (congrArg List.length h) (by simp)
    | cons f1 r =>
      cases r with
      | cons f2 r => exact absurd (congrArg List.length h) (by simp)
      | nil =>
        simp at h
        exact ⟨f0, f1, rfl, h.1.1, h.1.2.1, h.1.2.2, h.2.1, h.2.2.1, h.2.2.2⟩
theorem neqR (p1 p2 : Int) (W : World) : (binOp .neq 51 (.agg #[.int .i64 p1, .int .i64 p2]) (.agg #[.int .i64 p1, .int .i64 p2])).run Tryd.prog W = .ok (.bool false) W := by
  obtain ⟨f0, f1, hf, h1, h2, h3, h4, h5, h6⟩ := two_fields fRl
  rw [run_neq_struct, run_equalIn_agg W _ _ _ _ fR (by kernel_rfl), hf]
  have hu : Tryd.prog.underlying 3 = some (.int .i64) := Tryd.underlying3
  simp [Op.eqFields, h1, h2, h3, h4, h5, h6, part, go_sem]
set_option maxRecDepth 100000 in
set_option maxHeartbeats 1000000 in
theorem rSame (x : List Na.Rg) (a b : Option Addr) (c d : Nat) (w : World) (hx : Rgs w a x) (hy : Rgs w b x) (hlx : x.length ≤ 2 ^ 60) :
    Calls Tryd.prog 21 #[.slice a x.length c, .slice b x.length d] w fun e w' => e = .returned (.bool true) ∧ ∃ m, w' = w.drewN m := by
  have HX : Hid (Rgs w a x) := hx
  have HY : Hid (Rgs w b x) := hy
  clear hx hy
  go_enter Tryd.func21, Tryd.ntmps21
  go_wp2
  go_loopw [13] (fun i W => ∃ k m : Nat, k ≤ x.length ∧ i = .int .i64 k ∧ W = w.drewN m) (fun i _ => x.length - (intOf i).toNat)
  case atStart => exact ⟨0, 0, Nat.zero_le _, rfl, rfl⟩
  case round =>
    obtain ⟨k, m, hk, rfl, hw⟩ := hrel
    subst hw
    by_cases hlt : k < x.length
    · obtain ⟨b1, o1, ha1, hb1, hc1, hd1⟩ := HX.out k x[k] (List.getElem?_eq_getElem hlt)
      obtain ⟨b2, o2, ha2, hb2, hc2, hd2⟩ := HY.out k x[k] (List.getElem?_eq_getElem hlt)
      subst ha1
      subst ha2
      generalize x[k] = p at *
      obtain ⟨p1, p2⟩ := p
      dsimp only at hc1 hd1 hc2 hd2
      have hg := egR
      have hb := neqR p1 p2
      go_wp2_with (go_quiet (fail))
      exact ⟨⟨k + 1, _, by omega, by go_num, by first | rfl | exact World.drewN_drewN _ _ _⟩, by simp [intOf]; omega⟩
    · go_wp2
      go_ret
      exact ⟨rfl, _, rfl⟩
theorem hasP_take (l : List Na.Rg) (n : Int) (k : Nat) (hk : k < l.length) : Na.hasP (l.take (k + 1)) n = (Na.hasP (l.take k) n || (decide (l[k].1 ≤ n) && (decide (n ≤ l[k].2) || decide (l[k].2 = -1)))) := by
  unfold Na.hasP
  rw [List.take_succ_eq_append_getElem hk, List.any_append]
  simp
theorem hasP_mem (l : List Na.Rg) (n : Int) (k : Nat) (hk : k < l.length) (h : (decide (l[k].1 ≤ n) && (decide (n ≤ l[k].2) || decide (l[k].2 = -1))) = true) : Na.hasP l n = true := by
  unfold Na.hasP
  rw [List.any_eq_true]
  exact ⟨l[k], List.getElem_mem hk, h⟩
set_option maxRecDepth 100000 in
set_option maxHeartbeats 2000000 in
theorem nHas (x : List Na.Rg) (n : Int) (a : Option Addr) (c : Nat) (w : World) (hx : Rgs w a x) (hlx : x.length ≤ 2 ^ 60) :
    Calls Tryd.prog 22 #[.slice a x.length c, .int .i64 n] w fun e w' => e = .returned (.bool (Na.hasP x n)) ∧ Below w.heap.size w w' := by
  have HX : Hid (Rgs w a x) := hx
  have HB0 := hidA (Below.refl w.heap.size w)
  clear hx
  go_enter Tryd.func22, Tryd.ntmps22
  go_wp2
  go_loopw [9] (fun i W => ∃ k : Nat, k ≤ x.length ∧ i = .int .i64 k ∧ Hid (Below w.heap.size w W) ∧ Hid (Na.hasP (x.take k) n = false)) (fun i _ => x.length - (intOf i).toNat)
  case atStart => exact ⟨0, Nat.zero_le _, rfl, HB0, rfl⟩
  case round =>
    obtain ⟨k, hk, rfl, HB, HP⟩ := hrel
    rename_i wr
    have hsz : w.heap.size ≤ wr.heap.size := HB.out.size
    by_cases hlt : k < x.length
    · obtain ⟨b1, o1, rfl, hb1, hc1, hd1⟩ := HX.out k x[k] (List.getElem?_eq_getElem hlt)
      have d0 : wr.cell? ⟨b1, o1 + k * 2, none⟩ = some (.int .i64 x[k].1) := (HB.out.cell (p := ⟨b1, o1 + k * 2, none⟩) hb1).trans hc1
      have d1 : wr.cell? ⟨b1, o1 + k * 2 + 1, none⟩ = some (.int .i64 x[k].2) := (HB.out.cell (p := ⟨b1, o1 + k * 2 + 1, none⟩) hb1).trans hd1
      have HY : Hid ((decide (x[k].1 ≤ n) && (decide (n ≤ x[k].2) || decide (x[k].2 = -1))) = true → Na.hasP x n = true) := hasP_mem x n k hlt
      have HN : Hid ((decide (x[k].1 ≤ n) && (decide (n ≤ x[k].2) || decide (x[k].2 = -1))) = false → Na.hasP (x.take (k + 1)) n = false) := fun h => by rw [hasP_take x n k hlt, HP.out, h]; rfl
      have HB2 : Hid (∀ o, Below w.heap.size w (wr.alloc o)) := fun o => HB.out.alloc hsz o
      generalize x[k] = p at *
      obtain ⟨p1, p2⟩ := p
      dsimp only at d0 d1 HY HN
      clear hc1 hd1 HP
      by_cases h1 : p1 ≤ n
      · by_cases h2 : n ≤ p2
        · have HE := hidA (HY.out (by rw [decide_eq_true h1, decide_eq_true h2]; rfl))
          clear HY HN
          go_wp2
          go_ret
          exact ⟨by rw [HE.out]; rfl, HB2.out _⟩
        · by_cases h3 : p2 = -1
          · have HE := hidA (HY.out (by rw [decide_eq_true h1, decide_eq_true h3]; simp))
            have h3' : (p2 == -1) = true := by simpa using h3
            clear HY HN h3
            go_wp2
            go_ret
            exact ⟨by rw [HE.out]; rfl, HB2.out _⟩
          · have HE := hidA (HN.out (by rw [decide_eq_false h2, decide_eq_false h3]; simp))
            have h3' : (p2 == -1) = false := by simpa using h3
            clear HY HN h3
            go_wp2
            exact ⟨⟨k + 1, by omega, by go_num, HB2.out _, HE⟩, by simp [intOf]; omega⟩
      · have HE := hidA (HN.out (by rw [decide_eq_false h1]; rfl))
        clear HY HN
        go_wp2
        exact ⟨⟨k + 1, by omega, by go_num, HB2.out _, HE⟩, by simp [intOf]; omega⟩
    · have HE : Hid (Na.hasP x n = false) := by
        have := HP.out
        rw [List.take_of_length_le (by omega)] at this
        exact this
      go_wp2
      go_ret
      exact ⟨by rw [HE.out]; rfl, HB.out⟩
end Go.Proofs.YtgkjpfebjhhdkaaDoor
