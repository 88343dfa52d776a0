/- The plain answer's joined and pieces. Condition: lengths that fit. -/
import Derived.Test.YteponlikhaadkaaUb4
namespace Go.Proofs.Yteponlikhaadkaa
open Go.RowKit
attribute [local go_sem] ext_eq app_eq get_eq
namespace Tl
theorem prs_ended (n : Nat) : ∀ l : List UInt8, l.length ≤ n → ∀ i (h : i < (prs l).length), ((prs l)[i]).2 = (decide (i + 1 < (prs l).length) || eb l) := by
  induction n with
  | zero =>
    intro l h i hi
    have : l = [] := List.length_eq_zero_iff.1 (by omega)
    subst this; simp [prs_nil] at hi
  | succ n ih =>
    intro l h i hi
    by_cases h0 : l = []
    · subst h0; simp [prs_nil] at hi
    · by_cases hf : fx l < l.length
      · have e := prs_yes hf
        have ihr := ih (l.drop (fx l + 1)) (by rw [List.length_drop]; omega)
        have eE : eb l = eb (l.drop (fx l + 1)) := by unfold eb; rw [e]; simp
        rw [eE]
        cases i with
        | zero =>
          simp only [e, List.getElem_cons_zero, List.length_cons]
          cases hp : prs (l.drop (fx l + 1)) with
          | nil => simp [eb, hp]
          | cons x r => simp
        | succ i =>
          have hi' : i < (prs (l.drop (fx l + 1))).length := by rw [e, List.length_cons] at hi; omega
          have := ihr i hi'
          simp only [e, List.getElem_cons_succ, List.length_cons]
          rw [this]
          congr 1
          simp
      · have e := prs_no hf h0
        have hi0 : i = 0 := by rw [e] at hi; simp at hi; omega
        subst hi0
        unfold eb
        simp [e]
end Tl
/-- Rows of bytes that are read, told one behind the other. -/
def Rd (W : World) (a : Option Addr) (X : List (List UInt8)) : Prop := ∀ i (h : i < X.length), ∃ g o a' c', a = some ⟨g, o, none⟩ ∧ g < W.heap.size ∧ W.cell? ⟨g, o + i, none⟩ = some (.slice a' X[i].length c') ∧ Sr W a' c' X[i]
theorem Rd.grow {W W' : World} {a : Option Addr} {X : List (List UInt8)} (h : Rd W a X) (b : Below W.heap.size W W') : Rd W' a X := fun i hi => by
  obtain ⟨g, o, a', c', e, hg, hc, hs⟩ := h i hi
  exact ⟨g, o, a', c', e, Nat.lt_of_lt_of_le hg b.size, (b.cell (p := ⟨g, o + i, none⟩) hg).trans hc, hs.grow b⟩
theorem RR.rd {B : Nat} {W : World} {a : Option Addr} {n c : Nat} {X : List (List UInt8)} (h : RR B W (.slice a n c) X) : Rd W a X ∧ n = X.length ∧ n ≤ c ∧ (a = none → c = 0) := by
  obtain ⟨vs, h1, h2, h3, h4⟩ := h
  rcases h1.2 with ⟨e, h0⟩ | ⟨g, cap, cur, e, hb, hg, hnc, hcm, hsz, ht⟩
  · injection e with e1 e2 e3
    exact ⟨fun i hi => (by omega), by omega, by omega, fun _ => e3⟩
  · injection e with e1 e2 e3
    subst e1 e3
    refine ⟨fun i hi => ?_, by omega, by omega, fun e => by cases e⟩
    obtain ⟨a', c', ev, hs, _⟩ := (h4 i hi).sr
    refine ⟨g, 0, a', c', rfl, heap_lt hg, ?_, hs⟩
    have := h1.cells (g := g) (by rfl) i (vs[i]'(by omega)) (by simp [h2, hi])
    rw [show (⟨g, 0 + i, none⟩ : Addr) = (⟨g, 0, none⟩ : Addr).add i by simp [Addr.add], ← ev]; exact this
theorem Rd.pre {W : World} {a : Option Addr} {X : List (List UInt8)} (h : Rd W a X) (k : Nat) : Rd W a (X.take k) := fun i hi => by
  rw [List.length_take] at hi
  obtain ⟨g, o, a', c', e, hg, hc, hs⟩ := h i (by omega)
  exact ⟨g, o, a', c', e, hg, by rw [hc]; simp, by rw [List.getElem_take]; exact hs⟩
theorem Rd.suf {W : World} {a : Option Addr} {X : List (List UInt8)} {c : Nat} (h : Rd W a X) (hc : X.length ≤ c) (k : Nat) : Rd W (if c = k then a else a.map (·.add (k * 1))) (X.drop k) := fun i hi => by
  rw [List.length_drop] at hi
  obtain ⟨g, o, a', c', e, hg, hcell, hs⟩ := h (k + i) (by omega)
  rw [if_neg (by omega)]
  refine ⟨g, o + k, a', c', by rw [e]; simp [Addr.add], hg, ?_, by rw [List.getElem_drop]; exact hs⟩
  rw [show o + k + i = o + (k + i) by omega, hcell]; simp
theorem joined_take {X : List (List UInt8)} {k : Nat} (h : k < X.length) : (X.take (k + 1)).flatten = (X.take k).flatten ++ X[k] := by
  rw [List.take_succ_eq_append_getElem h, List.flatten_append]; simp
theorem flat_le {X : List (List UInt8)} {n : Nat} (h : X.flatten.length ≤ n) (k : Nat) : (X.take k).flatten.length ≤ n := by
  have e : X.flatten = (X.take k).flatten ++ (X.drop k).flatten := by rw [← List.flatten_append, List.take_append_drop]
  rw [e, List.length_append] at h; omega
set_option maxRecDepth 100000 in
set_option maxHeartbeats 4000000 in
theorem rJoined (X : List (List UInt8)) (a : Option Addr) (c : Nat) (hX : X.length ≤ 2 ^ 40) (hF : X.flatten.length ≤ 2097155) (w : World) (hR : Rd w a X) : Calls Try.prog 27 #[.slice a X.length c] w fun e w' => ∃ v, e = .returned v ∧ By w.heap.size w' v X.flatten ∧ Below w.heap.size w w' := by
  obtain ⟨iB, hiB, hb0, hb1, hb2⟩ := infoB
  have HR := hidA hR
  have HF := hidA hF
  have HB0 := hidA ((Below.refl w.heap.size w).alloc (Nat.le_refl _) (.cells #[] 5))
  have HO0 := hidA (By.fresh w w.heap.size (Nat.le_refl _))
  clear hR hF
  go_enter Try.func27, Try.ntmps27
  go_wp2
  go_loopw [3, 9] (fun s3 s9 W => ∃ (k : Nat), s9 = .int .i64 k ∧ k ≤ X.length ∧ Hid (By w.heap.size W s3 (X.take k).flatten) ∧ Hid (Below w.heap.size w W)) (fun _ s9 _ => X.length - (intOf s9).toNat)
  case atStart => exact ⟨0, rfl, Nat.zero_le _, HO0, HB0⟩
  case round =>
    obtain ⟨k, rfl, hk, HO, HB⟩ := hrel
    clear HB0 HO0
    obtain ⟨a3, c3, hv3⟩ := HO.out.slice
    subst hv3
    have hpc := HO.out.sr.le
    have hwsz := hidA HB.out.size
    by_cases hlt : k < X.length
    · obtain ⟨g, o, a', c', rfl, hg, hc0, hs⟩ := HR.out k hlt
      have hc : wr.cell? ⟨g, o + k, none⟩ = some (.slice a' X[k].length c') := (HB.out.cell (p := ⟨g, o + k, none⟩) hg).trans hc0
      have hgw : g < wr.heap.size := Nat.lt_of_lt_of_le hg hwsz.out
      have hw1 : IntKind.i64.wrap ((k : Int) + 1) = ((k + 1 : Nat) : Int) := by rw [IntKind.wrap_i64]; omega
      have HSx := hidA (hs.grow HB.out)
      have HO3 := hidA HO.out.own
      have HT := hidA (joined_take hlt)
      have hfl : (X.take k).flatten.length + X[k].length ≤ 2097155 := by
        have := flat_le HF.out (k + 1)
        rw [joined_take hlt, List.length_append] at this; exact this
      clear hc0 hs HR
      generalize X[k] = x at *
      generalize (X.take k).flatten = p at *
      cases a' with
      | none =>
        have hx0 : x = [] := List.length_eq_zero_iff.1 (by have h1 := HSx.out.nil rfl; have h2 := HSx.out.le; omega)
        subst hx0
        have hc'0 := HSx.out.nil rfl
        subst hc'0
        have hc9 : wr.cell? ⟨g, o + k, none⟩ = some (.slice none 0 0) := hc
        rw [List.append_nil] at HT
        clear hc HSx
        cases a3
        all_goals
          go_wp2_with fail
          exact ⟨⟨k + 1, by first | rfl | go_num, hlt, by rw [HT.out]; exact HO, HB⟩, by simp [intOf]; omega⟩
      | some ad =>
        go_wp2_with (at_builtin; refine wpList_append_own_at _ rfl _ _ 22 rfl w.heap.size 5 iB (.int .u8 0) 1 1 Try.underlying22 hiB hb0 hb1 hb2 rfl (by decide) _ _ _ rfl HO3.out ad x.length c' (bCs x) rfl (by rw [bCs_len, Nat.mul_one]) (fun j u hj => HSx.out.src.cells_at j u hj) (bCs_one x) (by unfold maxLen; omega) (by omega) hwsz.out ?_; intro v' w2 hown hg2 _ hat; have HO2 := hidA (By.of_app hown); have HB2 : Hid (Below w.heap.size w w2) := HB.out.grown hg2 hwsz.out (fun k hk => (HO3.out.lt k hk).1); clear hown hg2 hat)
        exact ⟨⟨k + 1, by first | rfl | go_num, hlt, by rw [HT.out]; exact HO2, HB2⟩, by simp [intOf]; omega⟩
    · have HT : Hid ((X.take k).flatten = X.flatten) := by show _ = _; rw [List.take_of_length_le (by omega)]
      go_wp2_with fail
      go_ret
      exact ⟨_, rfl, by rw [← HT.out]; exact HO.out, HB.out⟩
end Go.Proofs.Yteponlikhaadkaa
