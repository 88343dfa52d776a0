/- Fields and numbers of lines: the plain theory. No condition. -/
import Derived.Test.YtplnojohlbbalaaBa0
namespace Go.Proofs.Ytplnojohlbbalaa
namespace Od
def bl (c : UInt8) : Bool := decide (c = 32) || decide (c = 9)
def nb (c : UInt8) : Bool := !bl c
def dg (c : UInt8) : Bool := decide (48 ≤ c.toNat) && decide (c.toNat ≤ 57)
/-- How many bytes of a kind a text begins with. -/
def lead (p : UInt8 → Bool) : List UInt8 → Nat
  | [] => 0
  | c :: l => if p c then lead p l + 1 else 0
theorem lead_le (p : UInt8 → Bool) : ∀ l : List UInt8, lead p l ≤ l.length
  | [] => Nat.le_refl _
  | c :: l => by
    have := lead_le p l
    simp only [lead, List.length_cons]
    split <;> omega
theorem lead_drop (p : UInt8 → Bool) : ∀ (k : Nat) (s : List UInt8), k ≤ lead p s → lead p s = k + lead p (s.drop k)
  | 0, s, _ => by simp
  | k + 1, [], h => by simp [lead] at h
  | k + 1, c :: s, h => by
    by_cases hc : p c = true
    · rw [show lead p (c :: s) = lead p s + 1 from if_pos hc] at h ⊢
      have := lead_drop p k s (by omega)
      rw [List.drop_succ_cons]; omega
    · rw [show lead p (c :: s) = 0 from if_neg hc] at h; omega
theorem lead_yes {p : UInt8 → Bool} {s : List UInt8} {k : Nat} (hk : k ≤ lead p s) (h : k < s.length) (hd : p s[k] = true) : k + 1 ≤ lead p s := by
  rw [lead_drop p k s hk, List.drop_eq_getElem_cons h, show lead p (s[k] :: s.drop (k + 1)) = lead p (s.drop (k + 1)) + 1 from if_pos hd]; omega
theorem lead_stop {p : UInt8 → Bool} {s : List UInt8} {k : Nat} (hk : k ≤ lead p s) (h : k < s.length) (hd : p s[k] = false) : lead p s = k := by
  rw [lead_drop p k s hk, List.drop_eq_getElem_cons h, show lead p (s[k] :: s.drop (k + 1)) = 0 from if_neg (by rw [hd]; simp)]; rfl
theorem lead_end {p : UInt8 → Bool} {s : List UInt8} {k : Nat} (hk : k ≤ lead p s) (h : ¬ k < s.length) : lead p s = k := by have := lead_le p s; omega
theorem lead_at {p : UInt8 → Bool} {s : List UInt8} {k : Nat} (hk : k < lead p s) : p (s[k]'(Nat.lt_of_lt_of_le hk (lead_le p s))) = true := by
  have h := Nat.lt_of_lt_of_le hk (lead_le p s)
  have e := lead_drop p k s (by omega)
  rw [List.drop_eq_getElem_cons h] at e
  by_cases hp : p s[k] = true
  · exact hp
  · rw [show lead p (s[k] :: s.drop (k + 1)) = 0 from if_neg hp] at e; omega
theorem lead_no {p : UInt8 → Bool} {s : List UInt8} (h : lead p s < s.length) : p (s[lead p s]'h) = false := by
  have e := lead_drop p (lead p s) s (Nat.le_refl _)
  rw [List.drop_eq_getElem_cons h] at e
  by_cases hp : p (s[lead p s]'h) = true
  · rw [show lead p (s[lead p s] :: s.drop (lead p s + 1)) = lead p (s.drop (lead p s + 1)) + 1 from if_pos hp] at e; omega
  · simpa using hp
/-- Where the byte 'c' first stands; the length, if it does not. -/
def ix (c : UInt8) (l : List UInt8) : Nat := lead (fun x => decide (x ≠ c)) l
/-- The length of the field that a text begins with. -/
def fe (sep : UInt8) (r : List UInt8) : Nat := if sep = 0 then lead bl r + lead nb (r.drop (lead bl r)) else ix sep r
theorem fe_le (sep : UInt8) (r : List UInt8) : fe sep r ≤ r.length := by
  unfold fe
  split
  · have h1 := lead_le bl r
    have h2 := lead_le nb (r.drop (lead bl r))
    rw [List.length_drop] at h2; omega
  · exact lead_le _ _
/-- Is a field parted from the one behind it ahead of the byte 'c', behind 'p'? -/
def cut (sep : UInt8) (p : Option UInt8) (c : UInt8) : Bool := if sep = 0 then (match p with | none => false | some p => bl c && nb p) else decide (c = sep)
/-- The fields of what is left, from 'from' on, at the place 'pos', behind the byte 'p'. -/
def ends (sep : UInt8) : Option UInt8 → Nat → Nat → List UInt8 → List (Nat × Nat)
  | _, pos, fr, [] => [(fr, pos)]
  | p, pos, fr, c :: r => if cut sep p c then (fr, pos) :: ends sep (some c) (pos + 1) (if sep = 0 then pos else pos + 1) r else ends sep (some c) (pos + 1) fr r
/-- Fields, as the plain answer tells them. -/
def fs (sep : UInt8) (l : List UInt8) : List (Nat × Nat) := ends sep none 0 0 l
/-- Likewise as the program goes on: from 'b' on. -/
def E (sep : UInt8) (b : Nat) (r : List UInt8) : List (Nat × Nat) := ends sep none b b r
theorem ends_sep {sep : UInt8} (hs : sep ≠ 0) : ∀ (r : List UInt8) (p q : Option UInt8) (pos fr : Nat), ends sep p pos fr r = ends sep q pos fr r
  | [], _, _, _, _ => rfl
  | c :: r, p, q, pos, fr => by simp only [ends, cut, if_neg hs]
/-- With a separator: the first field, and the ones behind it. -/
theorem E_sep {sep : UInt8} (hs : sep ≠ 0) : ∀ (r : List UInt8) (p : Option UInt8) (pos fr : Nat), ends sep p pos fr r = (fr, pos + ix sep r) :: (if ix sep r < r.length then E sep (pos + ix sep r + 1) (r.drop (ix sep r + 1)) else [])
  | [], p, pos, fr => by simp [ends, ix, lead]
  | c :: r, p, pos, fr => by
    by_cases h : c = sep
    · have e : ix sep (c :: r) = 0 := if_neg (by simp [h])
      rw [e, if_pos (by simp)]
      simp only [ends, cut, if_neg hs, h, decide_true, if_true]
      rw [show (sep :: r).drop (0 + 1) = r from rfl]
      simp only [Nat.add_zero]
      rw [E, ends_sep hs r (some sep) none]
    · have e : ix sep (c :: r) = ix sep r + 1 := if_pos (by simp [h])
      rw [e]
      simp only [ends, cut, if_neg hs, h, decide_false]
      rw [if_neg (by simp), E_sep hs r (some c) (pos + 1) fr]
      rw [show pos + 1 + ix sep r = pos + (ix sep r + 1) by omega, show (c :: r).drop (ix sep r + 1 + 1) = r.drop (ix sep r + 1) from rfl]
      simp only [List.length_cons, Nat.add_lt_add_iff_right]
theorem ends_words (fr : Nat) : ∀ (r : List UInt8) (p : UInt8) (pos : Nat), nb p = true → ends 0 (some p) pos fr r = (fr, pos + lead nb r) :: (if lead nb r < r.length then E 0 (pos + lead nb r) (r.drop (lead nb r)) else [])
  | [], p, pos, hp => by simp [ends, lead]
  | c :: r, p, pos, hp => by
    by_cases h : nb c = true
    · have e : lead nb (c :: r) = lead nb r + 1 := if_pos h
      have hb : bl c = false := by simpa [nb] using h
      rw [e]
      have hc : cut 0 (some p) c = false := by simp [cut, hb]
      simp only [ends, hc, Bool.false_eq_true, if_false]
      rw [ends_words fr r c (pos + 1) h, show pos + 1 + lead nb r = pos + (lead nb r + 1) by omega, show (c :: r).drop (lead nb r + 1) = r.drop (lead nb r) from rfl]
      simp only [List.length_cons, Nat.add_lt_add_iff_right]
    · have e : lead nb (c :: r) = 0 := if_neg h
      have hb : bl c = true := by simpa [nb] using h
      rw [e, if_pos (by simp)]
      have hc : cut 0 (some p) c = true := by simp [cut, hb, hp]
      simp only [ends, hc, if_true]
      rw [List.drop_zero, Nat.add_zero]
      simp [E, ends, cut]
theorem ends_blanks (fr : Nat) : ∀ (r : List UInt8) (p : Option UInt8) (pos : Nat), (∀ x, p = some x → nb x = false) → ends 0 p pos fr r = (fr, pos + fe 0 r) :: (if fe 0 r < r.length then E 0 (pos + fe 0 r) (r.drop (fe 0 r)) else [])
  | [], p, pos, hp => by simp [ends, fe, lead]
  | c :: r, p, pos, hp => by
    have hc : cut 0 p c = false := by
      cases p with
      | none => rfl
      | some x => simp [cut, hp x rfl]
    have e1 : ends 0 p pos fr (c :: r) = ends 0 (some c) (pos + 1) fr r := by simp only [ends, hc, Bool.false_eq_true, if_false]
    rw [e1]
    by_cases h : bl c = true
    · have e : fe 0 (c :: r) = fe 0 r + 1 := by
        unfold fe
        rw [if_pos rfl, if_pos rfl, show lead bl (c :: r) = lead bl r + 1 from if_pos h, List.drop_succ_cons]; omega
      rw [e, ends_blanks fr r (some c) (pos + 1) (fun x hx => by cases hx; simp [nb, h]), show pos + 1 + fe 0 r = pos + (fe 0 r + 1) by omega, show (c :: r).drop (fe 0 r + 1) = r.drop (fe 0 r) from rfl]
      simp only [List.length_cons, Nat.add_lt_add_iff_right]
    · have hn : nb c = true := by simp [nb, h]
      have e : fe 0 (c :: r) = lead nb r + 1 := by
        unfold fe
        rw [if_pos rfl, show lead bl (c :: r) = 0 from if_neg h, List.drop_zero, show lead nb (c :: r) = lead nb r + 1 from if_pos hn]; omega
      rw [e, ends_words fr r c (pos + 1) hn, show pos + 1 + lead nb r = pos + (lead nb r + 1) by omega, show (c :: r).drop (lead nb r + 1) = r.drop (lead nb r) from rfl]
      simp only [List.length_cons, Nat.add_lt_add_iff_right]
/-- The place of the field behind one that ends at 'e'. -/
def nx (sep : UInt8) (e : Nat) : Nat := if sep = 0 then e else e + 1
theorem E_step (sep : UInt8) (b : Nat) (l : List UInt8) (hb : b ≤ l.length) : E sep b (l.drop b) = (b, b + fe sep (l.drop b)) :: (if b + fe sep (l.drop b) < l.length then E sep (nx sep (b + fe sep (l.drop b))) (l.drop (nx sep (b + fe sep (l.drop b)))) else []) := by
  by_cases hs : sep = 0
  · subst hs
    rw [E, ends_blanks b (l.drop b) none b (fun x h => by cases h)]
    simp only [nx, if_true, List.drop_drop, List.length_drop]
    by_cases h : b + fe 0 (l.drop b) < l.length
    · rw [if_pos (by omega), if_pos h]
    · rw [if_neg (by omega), if_neg h]
  · have e : fe sep (l.drop b) = ix sep (l.drop b) := if_neg hs
    rw [E, E_sep hs (l.drop b) none b b, e]
    simp only [nx, if_neg hs, List.drop_drop, List.length_drop]
    by_cases h : b + ix sep (l.drop b) < l.length
    · rw [if_pos (by omega), if_pos h, Nat.add_assoc b]
    · rw [if_neg (by omega), if_neg h]
/-- A field by its number: where it begins and ends. -/
def fd (sep : UInt8) (l : List UInt8) (n : Int) : Nat × Nat := (fs sep l).getD (n - 1).toNat (l.length, l.length)
theorem fs_eq (sep : UInt8) (l : List UInt8) : fs sep l = E sep 0 (l.drop 0) := rfl
theorem ends_in (sep : UInt8) : ∀ (r : List UInt8) (p : Option UInt8) (pos fr : Nat), fr ≤ pos → ∀ q ∈ ends sep p pos fr r, fr ≤ q.1 ∧ q.1 ≤ q.2 ∧ q.2 ≤ pos + r.length
  | [], p, pos, fr, hf, q, hq => by simp [ends] at hq; subst hq; simp; omega
  | c :: r, p, pos, fr, hf, q, hq => by
    simp only [ends] at hq
    by_cases hc : cut sep p c = true
    · rw [if_pos hc] at hq
      rcases List.mem_cons.1 hq with rfl | hq
      · simp; omega
      · have := ends_in sep r (some c) (pos + 1) _ (by split <;> omega) q hq
        simp only [List.length_cons]
        split at this <;> omega
    · rw [if_neg hc] at hq
      have := ends_in sep r (some c) (pos + 1) fr (by omega) q hq
      simp only [List.length_cons]; omega
theorem fd_in (sep : UInt8) (l : List UInt8) (n : Int) : (fd sep l n).1 ≤ (fd sep l n).2 ∧ (fd sep l n).2 ≤ l.length := by
  unfold fd
  rw [List.getD_eq_getElem?_getD]
  cases h : (fs sep l)[(n - 1).toNat]? with
  | none => simp
  | some q =>
    have := ends_in sep l none 0 0 (Nat.le_refl _) q (List.mem_of_getElem? h)
    simp; omega
end Od
end Go.Proofs.Ytplnojohlbbalaa
