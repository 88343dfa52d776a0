/- Arguments that are lists of texts or of options, opened: their cells, and how much they hold. No condition. -/
import Derived.Test.YtgbkgfmljcfhoaaRows
import Derived.Test.YtgbkgfmljcfhoaaGb2
import Derived.ProofKit
import Derived.OpenShut
namespace Go.Proofs.Ytgbkgfmljcfhoaa
open Go.ChangeShapes Go.WideShapes Go.ChangeAt Go.RowKit
theorem exists_list {α : Type} {Q : Nat → α → Prop} : ∀ n, (∀ i, i < n → ∃ x, Q i x) → ∃ l : List α, l.length = n ∧ ∀ i x, l[i]? = some x → Q i x
  | 0, _ => ⟨[], rfl, fun i x h => by simp at h⟩
  | n + 1, h => by
    obtain ⟨l, hl, hq⟩ := exists_list n (fun i hi => h i (by omega))
    obtain ⟨x, hx⟩ := h n (by omega)
    refine ⟨l ++ [x], by simp [hl], fun i y hy => ?_⟩
    by_cases hi : i < l.length
    · rw [List.getElem?_append_left hi] at hy; exact hq i y hy
    · rw [List.getElem?_append_right (by omega)] at hy
      by_cases he : i = n
      · subst he; rw [show i - l.length = 0 by omega] at hy; simp at hy; subst hy; exact hx
      · rw [List.getElem?_eq_none (by simp; omega)] at hy; cases hy
theorem spot_of_cell {w : World} {a : Addr} {v : Value} (h : w.cell? a = some v) : a.spot = none := by
  unfold World.cell? at h
  split at h
  · split at h
    · exact absurd h (by simp)
    · rename_i hs
      cases e : a.spot with
      | none => rfl
      | some x => rw [e] at hs; simp at hs
  · exact absurd h (by simp)
theorem add_add (a : Addr) (i j : Nat) : a.add (i + j) = (a.add i).add j := by
  obtain ⟨b, o, sp⟩ := a
  unfold Addr.add
  by_cases hi : i = 0
  · subst hi; simp
  · by_cases hj : j = 0
    · subst hj; simp [hi]
    · simp [hi, hj]; omega
theorem add_none (a : Addr) (h : (a.add 0).spot = none) : ∃ b o, a = ⟨b, o, none⟩ ∧ ∀ j, a.add j = ⟨b, o + j, none⟩ := by
  obtain ⟨b, o, sp⟩ := a
  cases sp with
  | none => exact ⟨b, o, rfl, fun j => by unfold Addr.add; split <;> simp_all⟩
  | some x => simp [Addr.add] at h
section
variable {H : Type} {enc : TypeId × Value → H} {W : World} {base : Nat} {spare : Nat → Bool} {held : Bool}
theorem bulk_app (l r : List (DataW H)) : Rows.uptoBulkAll (l ++ r) = Rows.uptoBulkAll l + Rows.uptoBulkAll r := by
  induction l with
  | nil => simp [Rows.uptoBulkAll]
  | cons x l ih => simp only [List.cons_append, Rows.uptoBulkAll, ih]; omega
theorem bulk_strs (ss : List (List UInt8)) : Rows.uptoBulkAll (ss.map (fun s => DataW.lit (H := H) (.string s))) = wt ss := by
  induction ss with
  | nil => rfl
  | cons x r ih => rw [List.map_cons, wt_cons]; simp only [Rows.uptoBulkAll, Rows.uptoBulk, ih]
def wtO (os : List Ga.Opt) : Nat := (os.map (fun o => o.1.length + o.2.length + 3)).sum
theorem wtO_cons (o : Ga.Opt) (os : List Ga.Opt) : wtO (o :: os) = o.1.length + o.2.length + 3 + wtO os := by simp [wtO]
theorem bulk_opts (os : List Ga.Opt) : Rows.uptoBulkAll (os.map (fun o => DataW.agg (H := H) [.lit (.string o.1), .lit (.string o.2)])) = wtO os := by
  induction os with
  | nil => rfl
  | cons x r ih => rw [List.map_cons, wtO_cons]; simp only [Rows.uptoBulkAll, Rows.uptoBulk, ih]; omega
theorem strs_open {fuel : Nat} {a : Option Addr} {len cap : Nat} {x : DataW H × List MemPlace} (h : DataW.trod enc Try.prog W base spare held fuel 22 [.slice a len cap] = some x) :
    ∃ ss : List (List UInt8), ss.length = len ∧ Strs W a ss ∧ (a = none → cap = 0 ∧ ss = []) ∧ len ≤ cap ∧ cap ≤ maxLen ∧ wt ss ≤ Rows.uptoBulk x.1 ∧ (∀ s ∈ ss, s.length ≤ maxLen) := by
  rcases DataW.trod_slice Try.underlying22 h with ⟨hc, hx⟩ | ⟨ad, len', cap', elems, rest, n, _, hc, hx, hb, hl, hm, hlen, hel, _, _⟩
  · simp at hc
    obtain ⟨rfl, rfl, rfl⟩ := hc
    exact ⟨[], rfl, Strs.nil _ _, fun _ => ⟨rfl, rfl⟩, Nat.le_refl _, Nat.zero_le _, by simp [wt], by simp⟩
  · simp at hc
    obtain ⟨rfl, rfl, rfl⟩ := hc
    have each : ∀ i, i < len → ∃ s : List UInt8, elems[i]? = some (.lit (.string s), []) ∧ W.cell? (ad.add i) = some (.string ⟨s.toArray⟩) ∧ s.length ≤ maxLen := by
      intro i hi
      have h1 := hel i hi
      rw [List.getElem?_eq_getElem (by omega), Option.bind_eq_some_iff] at h1
      obtain ⟨cs, hcs, hy⟩ := h1
      obtain ⟨s, rfl, hy2, hsz⟩ := DataW.trod_string Try.underlying9 hy
      rw [show Try.prog.cellsOf 9 = 1 by kernel_rfl, Nat.mul_one] at hcs
      refine ⟨s.data.toList, ?_, ?_, by rw [Array.length_toList]; exact hsz⟩
      · rw [List.getElem?_eq_getElem (by omega), hy2]
      · rw [cell_of_cells?_one hcs]
    obtain ⟨ss, hss, hq⟩ := exists_list len each
    have hmap : elems.map (·.1) = ss.map (fun s => DataW.lit (H := H) (.string s)) := by
      apply List.ext_getElem?
      intro i
      by_cases hi : i < len
      · have hi' : i < ss.length := by omega
        obtain ⟨q1, _, _⟩ := hq i ss[i] (List.getElem?_eq_getElem hi')
        rw [List.getElem?_map, List.getElem?_map, q1, List.getElem?_eq_getElem hi']; rfl
      · rw [List.getElem?_eq_none (by simp; omega), List.getElem?_eq_none (by simp; omega)]
    refine ⟨ss, hss, fun j s hs => ?_, fun e => (by cases e), hl, hm, ?_, fun s hs => ?_⟩
    · obtain ⟨_, q2, _⟩ := hq j s hs
      have hj := (List.getElem?_eq_some_iff.1 hs).1
      obtain ⟨_, _, q0, _⟩ := each 0 (by omega)
      obtain ⟨b, o, rfl, hadd⟩ := add_none ad (spot_of_cell q0)
      rw [hadd j] at q2
      exact ⟨b, o, rfl, World.block_lt_of_cell? _ _ q2, q2⟩
    · rw [hx]
      show _ ≤ Rows.uptoBulk (.slice (elems.map (·.1)) (rest.map (·.1)))
      rw [hmap]
      simp only [Rows.uptoBulk]
      rw [bulk_strs]; omega
    · obtain ⟨i, hi⟩ := List.mem_iff_getElem?.1 hs
      exact (hq i s hi).2.2
theorem opt_open {fuel : Nat} {cs : List Value} {y : DataW H × List MemPlace} (h : DataW.trod enc Try.prog W base spare held fuel 67 cs = some y) :
    ∃ s t : List UInt8, cs = [.string ⟨s.toArray⟩, .string ⟨t.toArray⟩] ∧ y.1 = .agg [.lit (.string s), .lit (.string t)] ∧ s.length ≤ maxLen ∧ t.length ≤ maxLen := by
  obtain ⟨f0, f1, hf, h1, h2, h3, h4, h5, h6⟩ := two_fields fOl
  obtain ⟨xs, n, _, hy, hcl, hxl, hfs⟩ := DataW.trod_struct fO h
  have hfa : Try.prog.fieldsOf 67 = #[f0, f1] := by rw [← hf]
  rw [hfa] at hxl hfs
  have k1 : Try.prog.cellsOf 9 = 1 := by kernel_rfl
  have k2 : Try.prog.cellsOf 67 = 2 := by kernel_rfl
  rw [k2] at hcl
  match cs, hcl with
  | [c0, c1], _ =>
    match xs, hxl with
    | [x0, x1], _ =>
      have g0 := hfs 0 f0 rfl
      have g1 := hfs 1 f1 rfl
      rw [h1, h2, k1] at g0
      rw [h4, h5, k1] at g1
      obtain ⟨s, e0, ex0, z0⟩ := DataW.trod_string Try.underlying9 (show DataW.trod enc Try.prog W base spare held n 9 [c0] = some x0 from g0)
      obtain ⟨t, e1, ex1, z1⟩ := DataW.trod_string Try.underlying9 (show DataW.trod enc Try.prog W base spare held n 9 [c1] = some x1 from g1)
      refine ⟨s.data.toList, t.data.toList, ?_, ?_, by rw [Array.length_toList]; exact z0, by rw [Array.length_toList]; exact z1⟩
      · simp at e0 e1; rw [e0, e1]
      · rw [hy, ex0, ex1]; rfl
theorem opts_open {fuel : Nat} {a : Option Addr} {len cap : Nat} {x : DataW H × List MemPlace} (h : DataW.trod enc Try.prog W base spare held fuel 23 [.slice a len cap] = some x) :
    ∃ os : List Ga.Opt, os.length = len ∧ Opts W a os ∧ (a = none → cap = 0 ∧ os = []) ∧ len ≤ cap ∧ cap ≤ maxLen ∧ wtO os ≤ Rows.uptoBulk x.1 ∧ (∀ o ∈ os, o.1.length ≤ maxLen ∧ o.2.length ≤ maxLen) := by
  rcases DataW.trod_slice Try.underlying23 h with ⟨hc, hx⟩ | ⟨ad, len', cap', elems, rest, n, _, hc, hx, hb, hl, hm, hlen, hel, _, _⟩
  · simp at hc
    obtain ⟨rfl, rfl, rfl⟩ := hc
    exact ⟨[], rfl, fun j x h => by simp at h, fun _ => ⟨rfl, rfl⟩, Nat.le_refl _, Nat.zero_le _, by simp [wtO], by simp⟩
  · simp at hc
    obtain ⟨rfl, rfl, rfl⟩ := hc
    have k2 : Try.prog.cellsOf 67 = 2 := by kernel_rfl
    have each : ∀ i, i < len → ∃ o : Ga.Opt, (elems[i]?.map (·.1) = some (.agg [.lit (.string o.1), .lit (.string o.2)])) ∧ W.cell? (ad.add (i * 2)) = some (.string ⟨o.1.toArray⟩) ∧ W.cell? (ad.add (i * 2 + 1)) = some (.string ⟨o.2.toArray⟩) ∧ o.1.length ≤ maxLen ∧ o.2.length ≤ maxLen := by
      intro i hi
      have h1 := hel i hi
      rw [List.getElem?_eq_getElem (by omega), Option.bind_eq_some_iff] at h1
      obtain ⟨cs, hcs, hy⟩ := h1
      obtain ⟨s, t, rfl, hy2, z0, z1⟩ := opt_open hy
      rw [k2] at hcs
      have hcc := World.cells?_some hcs
      refine ⟨(s, t), ?_, ?_, ?_, z0, z1⟩
      · rw [List.getElem?_eq_getElem (by omega), Option.map_some, hy2]
      · have q := hcc.2.2 0 (by omega)
        rw [← add_add _ _ 0] at q
        exact q
      · have q := hcc.2.2 1 (by omega)
        rw [← add_add _ _ 1] at q
        exact q
    obtain ⟨os, hss, hq⟩ := exists_list len each
    have hmap : elems.map (·.1) = os.map (fun o => DataW.agg (H := H) [.lit (.string o.1), .lit (.string o.2)]) := by
      apply List.ext_getElem?
      intro i
      by_cases hi : i < len
      · have hi' : i < os.length := by omega
        obtain ⟨q1, _⟩ := hq i os[i] (List.getElem?_eq_getElem hi')
        rw [List.getElem?_map, List.getElem?_map, q1, List.getElem?_eq_getElem hi']; rfl
      · rw [List.getElem?_eq_none (by simp; omega), List.getElem?_eq_none (by simp; omega)]
    refine ⟨os, hss, fun j o hs => ?_, fun e => (by cases e), hl, hm, ?_, fun o hs => ?_⟩
    · obtain ⟨_, q2, q3, _⟩ := hq j o hs
      have hj := (List.getElem?_eq_some_iff.1 hs).1
      obtain ⟨_, _, q0, _⟩ := each 0 (by omega)
      rw [Nat.zero_mul] at q0
      obtain ⟨b, oo, rfl, hadd⟩ := add_none ad (spot_of_cell q0)
      rw [hadd] at q2 q3
      exact ⟨b, oo, rfl, World.block_lt_of_cell? _ _ q2, q2, q3⟩
    · rw [hx]
      show _ ≤ Rows.uptoBulk (.slice (elems.map (·.1)) (rest.map (·.1)))
      rw [hmap]
      simp only [Rows.uptoBulk]
      rw [bulk_opts]; omega
    · obtain ⟨i, hi⟩ := List.mem_iff_getElem?.1 hs
      exact ⟨(hq i o hi).2.2.2.1, (hq i o hi).2.2.2.2⟩
end
end Go.Proofs.Ytgbkgfmljcfhoaa
