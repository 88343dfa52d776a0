/- Lines of bytes: the plain theory. No condition. -/
import Derived.Test.YtplnojohlbbalaaBa0
namespace Go.Proofs.Ytplnojohlbbalaa
namespace Tl
/-- Where the first line feed stands; the length, if there is none. -/
def fx : List UInt8 → Nat
  | [] => 0
  | c :: l => if c = 10 then 0 else fx l + 1
theorem fx_le : ∀ l : List UInt8, fx l ≤ l.length
  | [] => Nat.le_refl _
  | c :: l => by
    have := fx_le l
    simp only [fx, List.length_cons]
    split <;> omega
/-- The lines of bytes, each with: is it ended? (At most n of them.) -/
def prn : Nat → List UInt8 → List (List UInt8 × Bool)
  | 0, _ => []
  | n + 1, l => if l = [] then [] else if fx l < l.length then (l.take (fx l), true) :: prn n (l.drop (fx l + 1)) else [(l, false)]
theorem prn_more : ∀ (n m : Nat) (l : List UInt8), l.length ≤ n → l.length ≤ m → prn n l = prn m l
  | 0, 0, l, _, _ => rfl
  | 0, m + 1, l, h, _ => by
    have : l = [] := List.length_eq_zero_iff.1 (by omega)
    subst this; rfl
  | n + 1, 0, l, _, h => by
    have : l = [] := List.length_eq_zero_iff.1 (by omega)
    subst this; rfl
  | n + 1, m + 1, l, h1, h2 => by
    simp only [prn]
    split
    · rfl
    · split
      · rename_i hne hlt
        rw [prn_more n m (l.drop (fx l + 1)) (by rw [List.length_drop]; omega) (by rw [List.length_drop]; omega)]
      · rfl
def prs (l : List UInt8) : List (List UInt8 × Bool) := prn l.length l
theorem prs_nil : prs [] = [] := rfl
theorem prs_yes {l : List UInt8} (h : fx l < l.length) : prs l = (l.take (fx l), true) :: prs (l.drop (fx l + 1)) := by
  have hne : l ≠ [] := by intro e; subst e; simp at h
  obtain ⟨n, hn⟩ : ∃ n, l.length = n + 1 := ⟨l.length - 1, by omega⟩
  unfold prs
  rw [hn]
  simp only [prn]
  rw [if_neg hne, if_pos (by omega), prn_more n (l.drop (fx l + 1)).length _ (by rw [List.length_drop]; omega) (Nat.le_refl _)]
theorem prs_no {l : List UInt8} (h : ¬ fx l < l.length) (h0 : l ≠ []) : prs l = [(l, false)] := by
  obtain ⟨n, hn⟩ : ∃ n, l.length = n + 1 := ⟨l.length - 1, by have := List.length_pos_iff.2 h0; omega⟩
  unfold prs
  rw [hn]
  simp only [prn]
  rw [if_neg h0, if_neg (by omega)]
/-- A line with its end. -/
def pc (x : List UInt8 × Bool) : List UInt8 := x.1 ++ if x.2 then [10] else []
theorem fx_at : ∀ {l : List UInt8} (h : fx l < l.length), l[fx l] = 10
  | [], h => by simp [fx] at h
  | c :: l, h => by
    by_cases hc : c = 10
    · have e : fx (c :: l) = 0 := if_pos hc
      simp only [e, List.getElem_cons_zero]; exact hc
    · have e : fx (c :: l) = fx l + 1 := if_neg hc
      have h2 : fx l < l.length := by rw [e, List.length_cons] at h; omega
      simp only [e, List.getElem_cons_succ]
      exact fx_at h2
theorem flat (n : Nat) : ∀ l : List UInt8, l.length ≤ n → ((prs l).map pc).flatten = l := by
  induction n with
  | zero => intro l h; have : l = [] := List.length_eq_zero_iff.1 (by omega); subst this; rfl
  | succ n ih =>
    intro l h
    by_cases h0 : l = []
    · subst h0; rfl
    · by_cases hf : fx l < l.length
      · rw [prs_yes hf, List.map_cons, List.flatten_cons, ih _ (by rw [List.length_drop]; omega)]
        show l.take (fx l) ++ [10] ++ l.drop (fx l + 1) = l
        have e := List.take_append_drop (fx l) l
        rw [List.drop_eq_getElem_cons hf, fx_at hf] at e
        rw [List.append_assoc]; exact e
      · rw [prs_no hf h0]; simp [pc]
theorem flat_all (l : List UInt8) : ((prs l).map pc).flatten = l := flat l.length l (Nat.le_refl _)
/-- The place behind the first k lines. -/
def en (l : List UInt8) (k : Nat) : Nat := (((prs l).map pc).take k).flatten.length
theorem take_app {a b l : List UInt8} (h : a ++ b = l) : a = l.take a.length := by rw [← h]; simp
theorem drop_app {a b l : List UInt8} (h : a ++ b = l) : b = l.drop a.length := by rw [← h]; simp
theorem en_both (l : List UInt8) (k : Nat) : (((prs l).map pc).take k).flatten ++ (((prs l).map pc).drop k).flatten = l := by
  rw [← List.flatten_append, List.take_append_drop]; exact flat_all l
theorem en_take (l : List UInt8) (k : Nat) : (((prs l).map pc).take k).flatten = l.take (en l k) := take_app (en_both l k)
theorem en_drop (l : List UInt8) (k : Nat) : (((prs l).map pc).drop k).flatten = l.drop (en l k) := drop_app (en_both l k)
theorem en_le (l : List UInt8) (k : Nat) : en l k ≤ l.length := by
  have h := congrArg List.length (en_take l k)
  rw [List.length_take] at h
  unfold en at h ⊢
  omega
theorem prs_len (n : Nat) : ∀ l : List UInt8, l.length ≤ n → (prs l).length ≤ l.length := by
  induction n with
  | zero => intro l h; have : l = [] := List.length_eq_zero_iff.1 (by omega); subst this; exact Nat.le_refl _
  | succ n ih =>
    intro l h
    by_cases h0 : l = []
    · subst h0; exact Nat.le_refl _
    · by_cases hf : fx l < l.length
      · have := ih (l.drop (fx l + 1)) (by rw [List.length_drop]; omega)
        rw [List.length_drop] at this
        rw [prs_yes hf, List.length_cons]; omega
      · rw [prs_no hf h0]
        have := List.length_pos_iff.2 h0
        simp; omega
theorem fx_app : ∀ {c l : List UInt8}, (∀ x ∈ c, x ≠ 10) → fx (c ++ l) = c.length + fx l
  | [], l, _ => by simp
  | x :: c, l, h => by
    have hx : x ≠ 10 := h x (by simp)
    rw [List.cons_append, show fx (x :: (c ++ l)) = fx (c ++ l) + 1 from if_neg hx, fx_app (fun y hy => h y (by simp [hy])), List.length_cons]; omega
/-- What is read of the plain answer's Lines: 'cur' stands in the open line, r is left. -/
theorem prs_feed {cur r : List UInt8} (h : ∀ x ∈ cur, x ≠ 10) : prs (cur ++ 10 :: r) = (cur, true) :: prs r := by
  have e : fx (cur ++ 10 :: r) = cur.length := by rw [fx_app h]; simp [fx]
  rw [prs_yes (by rw [e]; simp), e]
  congr 1
  · simp
  · rw [← List.drop_drop, List.drop_left]; rfl
theorem prs_open {cur : List UInt8} (h : ∀ x ∈ cur, x ≠ 10) (h0 : cur ≠ []) : prs cur = [(cur, false)] := by
  have e : fx cur = cur.length := by have := fx_app (l := []) h; simpa [fx] using this
  exact prs_no (by omega) h0
end Tl
end Go.Proofs.Ytplnojohlbbalaa
