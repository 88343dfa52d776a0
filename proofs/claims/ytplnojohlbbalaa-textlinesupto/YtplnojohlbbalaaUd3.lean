/- The plain answer's Whole. Condition: lengths that fit. -/
import Derived.Test.YtplnojohlbbalaaUd2
import Derived.Lib.Join
namespace Go.Proofs.Ytplnojohlbbalaa
open Go.RowKit
attribute [local go_sem] ext_eq app_eq get_eq
namespace Tl
/-- Lines written as bytes; e: the last one is ended, too. -/
def wh : List (List UInt8) → Bool → List UInt8
  | [], _ => []
  | x :: r, e => x ++ ((if r ≠ [] ∨ e = true then [10] else []) ++ wh r e)
theorem wh_len (e : Bool) : ∀ X : List (List UInt8), (wh X e).length ≤ X.flatten.length + X.length
  | [] => by simp [wh]
  | x :: r => by
    have ih := wh_len e r
    simp only [wh, List.length_append, List.flatten_cons, List.length_cons]
    split <;> simp only [List.length_cons, List.length_nil] <;> omega
theorem wh_join (e : Bool) : ∀ (r : List (List UInt8)), Lib.joinTail [10] r ++ (if e = true then [10] else []) = (if r ≠ [] ∨ e = true then [10] else []) ++ wh r e
  | [] => by cases e <;> simp [Lib.joinTail, wh]
  | y :: r => by
    have ih := wh_join e r
    have e1 : Lib.joinTail [10] (y :: r) = [10] ++ y ++ Lib.joinTail [10] r := by simp [Lib.joinTail]
    have e2 : (if (y :: r) ≠ [] ∨ e = true then [10] else ([] : List UInt8)) = [10] := if_pos (.inl (List.cons_ne_nil _ _))
    rw [e1, e2]
    simp only [wh, List.append_assoc]
    rw [ih]
theorem wh_all (e : Bool) (X : List (List UInt8)) : wh X e = Lib.join X [10] ++ (if e = true ∧ X ≠ [] then [10] else []) := by
  cases X with
  | nil => simp [wh, Lib.join_nil]
  | cons x r =>
    have h := wh_join e r
    simp only [wh]
    rw [← h, Lib.join_cons, List.append_assoc]
    by_cases he : e = true
    · rw [if_pos he, if_pos ⟨he, List.cons_ne_nil _ _⟩]
    · rw [if_neg he, if_neg (fun h => he h.1)]
/-- What the plain answer's Whole has behind k lines. -/
def Wh (X : List (List UInt8)) (e : Bool) (p : List UInt8) (k : Nat) : Prop := wh X e = p ++ wh (X.drop k) e
theorem Wh.zero (X : List (List UInt8)) (e : Bool) : Wh X e [] 0 := by simp [Wh]
theorem Wh.done {X : List (List UInt8)} {e : Bool} {p : List UInt8} {k : Nat} (h : Wh X e p k) (hk : ¬ k < X.length) : wh X e = p := by
  unfold Wh at h
  rw [List.drop_eq_nil_of_le (by omega)] at h
  simpa [wh] using h
theorem Wh.mid {X : List (List UInt8)} {e : Bool} {p : List UInt8} {k : Nat} (h : Wh X e p k) (hk : k < X.length) (hm : k + 1 < X.length ∨ e = true) : Wh X e (p ++ X[k] ++ [10]) (k + 1) := by
  unfold Wh at h ⊢
  rw [h, List.drop_eq_getElem_cons hk]
  simp only [wh]
  rw [if_pos (by
    rcases hm with hm | hm
    · exact .inl (by intro e9; have := congrArg List.length e9; simp at this; omega)
    · exact .inr hm)]
  simp [List.append_assoc]
theorem Wh.last {X : List (List UInt8)} {e : Bool} {p : List UInt8} {k : Nat} (h : Wh X e p k) (hk : k < X.length) (hm : ¬ (k + 1 < X.length ∨ e = true)) : Wh X e (p ++ X[k]) (k + 1) := by
  unfold Wh at h ⊢
  rw [h, List.drop_eq_getElem_cons hk]
  simp only [wh]
  rw [if_neg (by
    rintro (h9 | h9)
    · exact hm (.inl (by
        have : (X.drop (k + 1)).length ≠ 0 := fun e9 => h9 (List.length_eq_zero_iff.1 e9)
        rw [List.length_drop] at this; omega))
    · exact hm (.inr h9))]
  simp [List.append_assoc]
theorem Wh.le {X : List (List UInt8)} {e : Bool} {p : List UInt8} {k : Nat} (h : Wh X e p k) : p.length ≤ (wh X e).length := by
  unfold Wh at h
  rw [h, List.length_append]; omega
end Tl
set_option maxRecDepth 100000 in
set_option maxHeartbeats 4000000 in
theorem rWhole (X : List (List UInt8)) (e : Bool) (a : Option Addr) (c : Nat) (hX : X.length ≤ 2 ^ 40) (hF : (Tl.wh X e).length ≤ 2097155) (w : World) (hR : Rd w a X) : Calls Try.prog 12 #[.slice a X.length c, .bool e] w fun y w' => ∃ v, y = .returned v ∧ By w.heap.size w' v (Tl.wh X e) ∧ Below w.heap.size w w' := by
  obtain ⟨iB, hiB, hb0, hb1, hb2⟩ := infoB
  have HR := hidA hR
  have HB0 := hidA ((Below.refl w.heap.size w).alloc (Nat.le_refl _) (.cells #[] 5))
  have HO0 := hidA (By.fresh w w.heap.size (Nat.le_refl _))
  have HW0 := hidA (Tl.Wh.zero X e)
  clear hR
  go_enter Try.func12, Try.ntmps12
  go_wp2
  go_loopw [5, 11] (fun s5 s11 W => ∃ (k : Nat) (p : List UInt8), s11 = .int .i64 k ∧ k ≤ X.length ∧ Hid (Tl.Wh X e p k) ∧ Hid (By w.heap.size W s5 p) ∧ Hid (Below w.heap.size w W)) (fun _ s11 _ => X.length - (intOf s11).toNat)
  case atStart => exact ⟨0, [], rfl, Nat.zero_le _, HW0, HO0, HB0⟩
  case round =>
    obtain ⟨k, p, rfl, hk, HWh, HO, HB⟩ := hrel
    clear HB0 HO0 HW0
    obtain ⟨a3, c3, hv3⟩ := HO.out.slice
    subst hv3
    have hpc := HO.out.sr.le
    have hwsz := hidA HB.out.size
    by_cases hlt : k < X.length
    · obtain ⟨g, o, a', c', rfl, hg, hc0, hs⟩ := HR.out k hlt
      have hc : wr.cell? ⟨g, o + k, none⟩ = some (.slice a' X[k].length c') := (HB.out.cell (p := ⟨g, o + k, none⟩) hg).trans hc0
      have hgw : g < wr.heap.size := Nat.lt_of_lt_of_le hg hwsz.out
      have hw1 : IntKind.i64.wrap ((k : Int) + 1) = ((k + 1 : Nat) : Int) := by rw [IntKind.wrap_i64]; omega
      have hsub : IntKind.i64.wrap ((X.length : Int) - 1) = (X.length : Int) - 1 := by rw [IntKind.wrap_i64]; omega
      have HSx := hidA (hs.grow HB.out)
      have HO3 := hidA HO.out.own
      by_cases hm : k + 1 < X.length ∨ e = true
      · have HW2 := hidA (HWh.out.mid hlt hm)
        have hle := HW2.out.le
        simp only [List.length_append, List.length_singleton] at hle
        have hcond : decide ((k : Int) < (X.length : Int) - 1) = true ∨ (decide ((k : Int) < (X.length : Int) - 1) = false ∧ e = true) := by
          by_cases h9 : k + 1 < X.length
          · exact .inl (decide_eq_true (by omega))
          · exact .inr ⟨decide_eq_false (by omega), by rcases hm with h | h; exact absurd h h9; exact h⟩
        clear hc0 hs HR hm HWh
        generalize X[k] = x at *
        cases a' with
        | none =>
          have hx0 : x = [] := List.length_eq_zero_iff.1 (by have h1 := HSx.out.nil rfl; have h2 := HSx.out.le; omega)
          subst hx0
          have hc'0 := HSx.out.nil rfl
          subst hc'0
          have hc9 : wr.cell? ⟨g, o + k, none⟩ = some (.slice none 0 0) := hc
          rw [List.append_nil] at HW2
          clear hc HSx
          rcases hcond with hcd | ⟨hcd, rfl⟩ <;> cases a3
          all_goals
            go_wp2_with (at_builtin; refine wpList_append_own_at _ rfl _ _ 22 rfl w.heap.size 5 iB (.int .u8 0) 1 1 Try.underlying22 hiB hb0 hb1 hb2 rfl (by decide) _ _ _ rfl (HO3.out.alloc _) ⟨wr.heap.size, 0, none⟩ 1 1 [.int .u8 10] rfl rfl (cell_one_new _ _ _) (one_u8 _) (by unfold maxLen; omega) (by omega) (by have := hwsz.out; simp; omega) ?_; intro v' w2 hown hg2 _ hat; have HO2 := hidA (By.app1 (x := 10) hown); have HB2 : Hid (Below w.heap.size w w2) := (HB.out.alloc hwsz.out _).grown hg2 (by have := hwsz.out; simp; omega) (fun k hk => (HO3.out.lt k hk).1); clear hown hg2 hat)
            exact ⟨⟨k + 1, _, by first | rfl | go_num, hlt, HW2, HO2, HB2⟩, by simp [intOf]; omega⟩
        | some ad =>
          obtain ⟨q, hq⟩ : ∃ q, q = p ++ x := ⟨_, rfl⟩
          have hql : q.length + 1 ≤ 2097155 := by rw [hq, List.length_append]; omega
          rw [← hq] at HW2
          have HQ := hidA hq
          clear hq
          rcases hcond with hcd | ⟨hcd, rfl⟩
          all_goals
            go_wp2_with (first
              | (at_builtin; refine wpList_append_own_at _ rfl _ _ 22 rfl w.heap.size 5 iB (.int .u8 0) 1 1 Try.underlying22 hiB hb0 hb1 hb2 rfl (by decide) _ _ _ rfl HO3.out ad x.length c' (bCs x) rfl (by rw [bCs_len, Nat.mul_one]) (fun j u hj => HSx.out.src.cells_at j u hj) (bCs_one x) (by unfold maxLen; omega) (by omega) hwsz.out ?_; intro v2 w2 hown hg2 _ hat; have HO2 : Hid (By w.heap.size w2 v2 q) := (by rw [HQ.out]; exact By.of_app hown); have HB2 : Hid (Below w.heap.size w w2) := HB.out.grown hg2 hwsz.out (fun k hk => (HO3.out.lt k hk).1); obtain ⟨a4, c4, hv4⟩ := HO2.out.slice; subst hv4; have HO4 := hidA HO2.out.own; have hwsz2 := hidA HB2.out.size; clear hown hg2 hat HO3 HSx)
              | (at_builtin; refine wpList_append_own_at _ rfl _ _ 22 rfl w.heap.size 5 iB (.int .u8 0) 1 1 Try.underlying22 hiB hb0 hb1 hb2 rfl (by decide) _ _ _ rfl (HO4.out.alloc _) ⟨w2.heap.size, 0, none⟩ 1 1 [.int .u8 10] rfl rfl (cell_one_new _ _ _) (one_u8 _) (by unfold maxLen; omega) (by omega) (by have := hwsz2.out; simp; omega) ?_; intro v' w3 hown hg2 _ hat; have HO5 := hidA (By.app1 (x := 10) hown); have HB5 : Hid (Below w.heap.size w w3) := (HB2.out.alloc hwsz2.out _).grown hg2 (by have := hwsz2.out; simp; omega) (fun k hk => (HO4.out.lt k hk).1); clear hown hg2 hat))
            exact ⟨⟨k + 1, _, by first | rfl | go_num, hlt, HW2, HO5, HB5⟩, by simp [intOf]; omega⟩
      · have HW2 := hidA (HWh.out.last hlt hm)
        have hle := HW2.out.le
        simp only [List.length_append] at hle
        have he : e = false := by cases e; rfl; exact absurd (.inr rfl) hm
        subst he
        have hcd : decide ((k : Int) < (X.length : Int) - 1) = false := decide_eq_false (fun h => hm (.inl (by omega)))
        clear hc0 hs HR hm HWh
        generalize X[k] = x at *
        cases a' with
        | none =>
          have hx0 : x = [] := List.length_eq_zero_iff.1 (by have h1 := HSx.out.nil rfl; have h2 := HSx.out.le; omega)
          subst hx0
          have hc'0 := HSx.out.nil rfl
          subst hc'0
          have hc9 : wr.cell? ⟨g, o + k, none⟩ = some (.slice none 0 0) := hc
          rw [List.append_nil] at HW2
          clear hc HSx
          cases a3
          all_goals
            go_wp2_with fail
            exact ⟨⟨k + 1, _, by first | rfl | go_num, hlt, HW2, HO, HB⟩, by simp [intOf]; omega⟩
        | some ad =>
          go_wp2_with (at_builtin; refine wpList_append_own_at _ rfl _ _ 22 rfl w.heap.size 5 iB (.int .u8 0) 1 1 Try.underlying22 hiB hb0 hb1 hb2 rfl (by decide) _ _ _ rfl HO3.out ad x.length c' (bCs x) rfl (by rw [bCs_len, Nat.mul_one]) (fun j u hj => HSx.out.src.cells_at j u hj) (bCs_one x) (by unfold maxLen; omega) (by omega) hwsz.out ?_; intro v2 w2 hown hg2 _ hat; have HO2 := hidA (By.of_app hown); have HB2 : Hid (Below w.heap.size w w2) := HB.out.grown hg2 hwsz.out (fun k hk => (HO3.out.lt k hk).1); clear hown hg2 hat)
          exact ⟨⟨k + 1, _, by first | rfl | go_num, hlt, HW2, HO2, HB2⟩, by simp [intOf]; omega⟩
    · have HD := hidA (HWh.out.done hlt)
      go_wp2_with fail
      go_ret
      exact ⟨_, rfl, by rw [HD.out]; exact HO.out, HB.out⟩
end Go.Proofs.Ytplnojohlbbalaa
