/- Several texts of this claim, one behind the other, in their order. -/
import Derived.Test.YtplnojohlbbalaaProg
import Derived.WalkKit
import Derived.WalkSpells
import Derived.WalkLawsBesides
import Derived.WalkMore
import Derived.ScopeJumps
import Derived.Handy
import Derived.Deep.QuietTactic
import Derived.BigQuiet
import Derived.Deep.RegionHeld3
import Derived.ProofKit
import Derived.Below
import Derived.Lib.OthersKept
import Derived.Lib.SlBytesConst
import Derived.Laws.Unary
/- What walks share: texts as lists, bytes, worlds. No condition. -/
namespace Go.Proofs.Ytplnojohlbbalaa
open Go.RowKit
theorem hidA {p : Prop} (h : p) : Hid p := h
theorem ext_eq (l : List UInt8) (a b : Nat) : (⟨l.toArray⟩ : ByteArray).extract a b = ⟨((l.take b).drop a).toArray⟩ := by
  apply ByteArray.ext
  simp [ByteArray.data_extract, List.drop_take]
theorem app_eq (a b : List UInt8) : (⟨a.toArray⟩ : ByteArray) ++ (⟨b.toArray⟩ : ByteArray) = ⟨(a ++ b).toArray⟩ := by
  apply ByteArray.ext
  simp [ByteArray.data_append]
theorem get_eq (l : List UInt8) (i : Nat) (h : i < (⟨l.toArray⟩ : ByteArray).size) : (⟨l.toArray⟩ : ByteArray)[i] = l[i]'(by simpa [ByteArray.size] using h) := rfl
theorem byte_eq (c d : UInt8) : (((c.toNat : Int) == (d.toNat : Int))) = decide (c = d) := by
  rw [Bool.eq_iff_iff]; simp [← UInt8.toNat_inj]; omega
theorem byte_no (c d : UInt8) (k : Int) (hk : (d.toNat : Int) = k) (h : c ≠ d) : (((c.toNat : Int) == k)) = false := by rw [← hk, byte_eq]; simpa using h
theorem byte_yes (c d : UInt8) (k : Int) (hk : (d.toNat : Int) = k) (h : c = d) : (((c.toNat : Int) == k)) = true := by rw [← hk, byte_eq]; simpa using h
theorem str_size (l : List UInt8) : (⟨l.toArray⟩ : ByteArray).size = l.length := by simp [ByteArray.size]
theorem ret_bool {a b : Bool} (h : a = b) : Ending.returned (.bool a) = .returned (.bool b) := by rw [h]
theorem ret_int {k : IntKind} {a b : Int} (h : a = b) : Ending.returned (.int k a) = .returned (.int k b) := by rw [h]
theorem ret_str {a b : List UInt8} (h : a = b) : Ending.returned (.string ⟨a.toArray⟩) = .returned (.string ⟨b.toArray⟩) := by rw [h]
theorem byte_lt (c : UInt8) : (c.toNat : Int) ≤ 255 := by have := c.toNat_lt; omega
theorem bl2 {w w1 w2 : World} (b1 : Below w.heap.size w w1) (b2 : Below w1.heap.size w1 w2) : Below w.heap.size w w2 := b1.trans (b2.mono b1.size)
theorem bl_drew (w : World) (m : Nat) : Below w.heap.size w (w.drewN m) := ⟨rfl, rfl, rfl, Nat.le_refl _, fun _ _ => rfl⟩
theorem info_of {t s b : Nat} {z : Option Value} (h : (Try.prog.info? t).map (fun i => (i.zero, i.size, i.bytes)) = some (z, s, b)) : ∃ i, Try.prog.info? t = some i ∧ i.zero = z ∧ i.size = s ∧ i.bytes = b := by
  cases hi : Try.prog.info? t with
  | none => rw [hi] at h; cases h
  | some i => rw [hi] at h; injection h with h; injection h with h1 h2; injection h2 with h2 h3; exact ⟨i, rfl, h1, h2, h3⟩
end Go.Proofs.Ytplnojohlbbalaa
/- Lines of bytes: the plain theory. No condition. -/
namespace Go.Proofs.Ytplnojohlbbalaa
namespace Tl
/-- Where the first line feed stands; the length, if there is none. -/
def fx : List UInt8 → Nat
  | [] => 0
  | c :: l => if c = 10 then 0 else fx l + 1
theorem fx_le : ∀ l : List UInt8, fx l ≤ l.length
  | [] => Nat.le_refl _
  | c :: l => by
    have := fx_le l
    simp only [fx, List.length_cons]
    split <;> omega
/-- The lines of bytes, each with: is it ended? (At most n of them.) -/
def prn : Nat → List UInt8 → List (List UInt8 × Bool)
  | 0, _ => []
  | n + 1, l => if l = [] then [] else if fx l < l.length then (l.take (fx l), true) :: prn n (l.drop (fx l + 1)) else [(l, false)]
theorem prn_more : ∀ (n m : Nat) (l : List UInt8), l.length ≤ n → l.length ≤ m → prn n l = prn m l
  | 0, 0, l, _, _ => rfl
  | 0, m + 1, l, h, _ => by
    have : l = [] := List.length_eq_zero_iff.1 (by omega)
    subst this; rfl
  | n + 1, 0, l, _, h => by
    have : l = [] := List.length_eq_zero_iff.1 (by omega)
    subst this; rfl
  | n + 1, m + 1, l, h1, h2 => by
    simp only [prn]
    split
    · rfl
    · split
      · rename_i hne hlt
        rw [prn_more n m (l.drop (fx l + 1)) (by rw [List.length_drop]; omega) (by rw [List.length_drop]; omega)]
      · rfl
def prs (l : List UInt8) : List (List UInt8 × Bool) := prn l.length l
theorem prs_nil : prs [] = [] := rfl
theorem prs_yes {l : List UInt8} (h : fx l < l.length) : prs l = (l.take (fx l), true) :: prs (l.drop (fx l + 1)) := by
  have hne : l ≠ [] := by intro e; subst e; simp at h
  obtain ⟨n, hn⟩ : ∃ n, l.length = n + 1 := ⟨l.length - 1, by omega⟩
  unfold prs
  rw [hn]
  simp only [prn]
  rw [if_neg hne, if_pos (by omega), prn_more n (l.drop (fx l + 1)).length _ (by rw [List.length_drop]; omega) (Nat.le_refl _)]
theorem prs_no {l : List UInt8} (h : ¬ fx l < l.length) (h0 : l ≠ []) : prs l = [(l, false)] := by
  obtain ⟨n, hn⟩ : ∃ n, l.length = n + 1 := ⟨l.length - 1, by have := List.length_pos_iff.2 h0; omega⟩
  unfold prs
  rw [hn]
  simp only [prn]
  rw [if_neg h0, if_neg (by omega)]
/-- A line with its end. -/
def pc (x : List UInt8 × Bool) : List UInt8 := x.1 ++ if x.2 then [10] else []
theorem fx_at : ∀ {l : List UInt8} (h : fx l < l.length), l[fx l] = 10
  | [], h => by simp [fx] at h
  | c :: l, h => by
    by_cases hc : c = 10
    · have e : fx (c :: l) = 0 := if_pos hc
      simp only [e, List.getElem_cons_zero]; exact hc
    · have e : fx (c :: l) = fx l + 1 := if_neg hc
      have h2 : fx l < l.length := by rw [e, List.length_cons] at h; omega
      simp only [e, List.getElem_cons_succ]
      exact fx_at h2
theorem flat (n : Nat) : ∀ l : List UInt8, l.length ≤ n → ((prs l).map pc).flatten = l := by
  induction n with
  | zero => intro l h; have : l = [] := List.length_eq_zero_iff.1 (by omega); subst this; rfl
  | succ n ih =>
    intro l h
    by_cases h0 : l = []
    · subst h0; rfl
    · by_cases hf : fx l < l.length
      · rw [prs_yes hf, List.map_cons, List.flatten_cons, ih _ (by rw [List.length_drop]; omega)]
        show l.take (fx l) ++ [10] ++ l.drop (fx l + 1) = l
        have e := List.take_append_drop (fx l) l
        rw [List.drop_eq_getElem_cons hf, fx_at hf] at e
        rw [List.append_assoc]; exact e
      · rw [prs_no hf h0]; simp [pc]
theorem flat_all (l : List UInt8) : ((prs l).map pc).flatten = l := flat l.length l (Nat.le_refl _)
/-- The place behind the first k lines. -/
def en (l : List UInt8) (k : Nat) : Nat := (((prs l).map pc).take k).flatten.length
theorem take_app {a b l : List UInt8} (h : a ++ b = l) : a = l.take a.length := by rw [← h]; simp
theorem drop_app {a b l : List UInt8} (h : a ++ b = l) : b = l.drop a.length := by rw [← h]; simp
theorem en_both (l : List UInt8) (k : Nat) : (((prs l).map pc).take k).flatten ++ (((prs l).map pc).drop k).flatten = l := by
  rw [← List.flatten_append, List.take_append_drop]; exact flat_all l
theorem en_take (l : List UInt8) (k : Nat) : (((prs l).map pc).take k).flatten = l.take (en l k) := take_app (en_both l k)
theorem en_drop (l : List UInt8) (k : Nat) : (((prs l).map pc).drop k).flatten = l.drop (en l k) := drop_app (en_both l k)
theorem en_le (l : List UInt8) (k : Nat) : en l k ≤ l.length := by
  have h := congrArg List.length (en_take l k)
  rw [List.length_take] at h
  unfold en at h ⊢
  omega
theorem prs_len (n : Nat) : ∀ l : List UInt8, l.length ≤ n → (prs l).length ≤ l.length := by
  induction n with
  | zero => intro l h; have : l = [] := List.length_eq_zero_iff.1 (by omega); subst this; exact Nat.le_refl _
  | succ n ih =>
    intro l h
    by_cases h0 : l = []
    · subst h0; exact Nat.le_refl _
    · by_cases hf : fx l < l.length
      · have := ih (l.drop (fx l + 1)) (by rw [List.length_drop]; omega)
        rw [List.length_drop] at this
        rw [prs_yes hf, List.length_cons]; omega
      · rw [prs_no hf h0]
        have := List.length_pos_iff.2 h0
        simp; omega
theorem fx_app : ∀ {c l : List UInt8}, (∀ x ∈ c, x ≠ 10) → fx (c ++ l) = c.length + fx l
  | [], l, _ => by simp
  | x :: c, l, h => by
    have hx : x ≠ 10 := h x (by simp)
    rw [List.cons_append, show fx (x :: (c ++ l)) = fx (c ++ l) + 1 from if_neg hx, fx_app (fun y hy => h y (by simp [hy])), List.length_cons]; omega
/-- What is read of the plain answer's Lines: 'cur' stands in the open line, r is left. -/
theorem prs_feed {cur r : List UInt8} (h : ∀ x ∈ cur, x ≠ 10) : prs (cur ++ 10 :: r) = (cur, true) :: prs r := by
  have e : fx (cur ++ 10 :: r) = cur.length := by rw [fx_app h]; simp [fx]
  rw [prs_yes (by rw [e]; simp), e]
  congr 1
  · simp
  · rw [← List.drop_drop, List.drop_left]; rfl
theorem prs_open {cur : List UInt8} (h : ∀ x ∈ cur, x ≠ 10) (h0 : cur ≠ []) : prs cur = [(cur, false)] := by
  have e : fx cur = cur.length := by have := fx_app (l := []) h; simpa [fx] using this
  exact prs_no (by omega) h0
end Tl
end Go.Proofs.Ytplnojohlbbalaa
/- Fields and numbers of lines: the plain theory. No condition. -/
namespace Go.Proofs.Ytplnojohlbbalaa
namespace Od
def bl (c : UInt8) : Bool := decide (c = 32) || decide (c = 9)
def nb (c : UInt8) : Bool := !bl c
def dg (c : UInt8) : Bool := decide (48 ≤ c.toNat) && decide (c.toNat ≤ 57)
/-- How many bytes of a kind a text begins with. -/
def lead (p : UInt8 → Bool) : List UInt8 → Nat
  | [] => 0
  | c :: l => if p c then lead p l + 1 else 0
theorem lead_le (p : UInt8 → Bool) : ∀ l : List UInt8, lead p l ≤ l.length
  | [] => Nat.le_refl _
  | c :: l => by
    have := lead_le p l
    simp only [lead, List.length_cons]
    split <;> omega
theorem lead_drop (p : UInt8 → Bool) : ∀ (k : Nat) (s : List UInt8), k ≤ lead p s → lead p s = k + lead p (s.drop k)
  | 0, s, _ => by simp
  | k + 1, [], h => by simp [lead] at h
  | k + 1, c :: s, h => by
    by_cases hc : p c = true
    · rw [show lead p (c :: s) = lead p s + 1 from if_pos hc] at h ⊢
      have := lead_drop p k s (by omega)
      rw [List.drop_succ_cons]; omega
    · rw [show lead p (c :: s) = 0 from if_neg hc] at h; omega
theorem lead_yes {p : UInt8 → Bool} {s : List UInt8} {k : Nat} (hk : k ≤ lead p s) (h : k < s.length) (hd : p s[k] = true) : k + 1 ≤ lead p s := by
  rw [lead_drop p k s hk, List.drop_eq_getElem_cons h, show lead p (s[k] :: s.drop (k + 1)) = lead p (s.drop (k + 1)) + 1 from if_pos hd]; omega
theorem lead_stop {p : UInt8 → Bool} {s : List UInt8} {k : Nat} (hk : k ≤ lead p s) (h : k < s.length) (hd : p s[k] = false) : lead p s = k := by
  rw [lead_drop p k s hk, List.drop_eq_getElem_cons h, show lead p (s[k] :: s.drop (k + 1)) = 0 from if_neg (by rw [hd]; simp)]; rfl
theorem lead_end {p : UInt8 → Bool} {s : List UInt8} {k : Nat} (hk : k ≤ lead p s) (h : ¬ k < s.length) : lead p s = k := by have := lead_le p s; omega
theorem lead_at {p : UInt8 → Bool} {s : List UInt8} {k : Nat} (hk : k < lead p s) : p (s[k]'(Nat.lt_of_lt_of_le hk (lead_le p s))) = true := by
  have h := Nat.lt_of_lt_of_le hk (lead_le p s)
  have e := lead_drop p k s (by omega)
  rw [List.drop_eq_getElem_cons h] at e
  by_cases hp : p s[k] = true
  · exact hp
  · rw [show lead p (s[k] :: s.drop (k + 1)) = 0 from if_neg hp] at e; omega
theorem lead_no {p : UInt8 → Bool} {s : List UInt8} (h : lead p s < s.length) : p (s[lead p s]'h) = false := by
  have e := lead_drop p (lead p s) s (Nat.le_refl _)
  rw [List.drop_eq_getElem_cons h] at e
  by_cases hp : p (s[lead p s]'h) = true
  · rw [show lead p (s[lead p s] :: s.drop (lead p s + 1)) = lead p (s.drop (lead p s + 1)) + 1 from if_pos hp] at e; omega
  · simpa using hp
/-- Where the byte 'c' first stands; the length, if it does not. -/
def ix (c : UInt8) (l : List UInt8) : Nat := lead (fun x => decide (x ≠ c)) l
/-- The length of the field that a text begins with. -/
def fe (sep : UInt8) (r : List UInt8) : Nat := if sep = 0 then lead bl r + lead nb (r.drop (lead bl r)) else ix sep r
theorem fe_le (sep : UInt8) (r : List UInt8) : fe sep r ≤ r.length := by
  unfold fe
  split
  · have h1 := lead_le bl r
    have h2 := lead_le nb (r.drop (lead bl r))
    rw [List.length_drop] at h2; omega
  · exact lead_le _ _
/-- Is a field parted from the one behind it ahead of the byte 'c', behind 'p'? -/
def cut (sep : UInt8) (p : Option UInt8) (c : UInt8) : Bool := if sep = 0 then (match p with | none => false | some p => bl c && nb p) else decide (c = sep)
/-- The fields of what is left, from 'from' on, at the place 'pos', behind the byte 'p'. -/
def ends (sep : UInt8) : Option UInt8 → Nat → Nat → List UInt8 → List (Nat × Nat)
  | _, pos, fr, [] => [(fr, pos)]
  | p, pos, fr, c :: r => if cut sep p c then (fr, pos) :: ends sep (some c) (pos + 1) (if sep = 0 then pos else pos + 1) r else ends sep (some c) (pos + 1) fr r
/-- Fields, as the plain answer tells them. -/
def fs (sep : UInt8) (l : List UInt8) : List (Nat × Nat) := ends sep none 0 0 l
/-- Likewise as the program goes on: from 'b' on. -/
def E (sep : UInt8) (b : Nat) (r : List UInt8) : List (Nat × Nat) := ends sep none b b r
theorem ends_sep {sep : UInt8} (hs : sep ≠ 0) : ∀ (r : List UInt8) (p q : Option UInt8) (pos fr : Nat), ends sep p pos fr r = ends sep q pos fr r
  | [], _, _, _, _ => rfl
  | c :: r, p, q, pos, fr => by simp only [ends, cut, if_neg hs]
/-- With a separator: the first field, and the ones behind it. -/
theorem E_sep {sep : UInt8} (hs : sep ≠ 0) : ∀ (r : List UInt8) (p : Option UInt8) (pos fr : Nat), ends sep p pos fr r = (fr, pos + ix sep r) :: (if ix sep r < r.length then E sep (pos + ix sep r + 1) (r.drop (ix sep r + 1)) else [])
  | [], p, pos, fr => by simp [ends, ix, lead]
  | c :: r, p, pos, fr => by
    by_cases h : c = sep
    · have e : ix sep (c :: r) = 0 := if_neg (by simp [h])
      rw [e, if_pos (by simp)]
      simp only [ends, cut, if_neg hs, h, decide_true, if_true]
      rw [show (sep :: r).drop (0 + 1) = r from rfl]
      simp only [Nat.add_zero]
      rw [E, ends_sep hs r (some sep) none]
    · have e : ix sep (c :: r) = ix sep r + 1 := if_pos (by simp [h])
      rw [e]
      simp only [ends, cut, if_neg hs, h, decide_false]
      rw [if_neg (by simp), E_sep hs r (some c) (pos + 1) fr]
      rw [show pos + 1 + ix sep r = pos + (ix sep r + 1) by omega, show (c :: r).drop (ix sep r + 1 + 1) = r.drop (ix sep r + 1) from rfl]
      simp only [List.length_cons, Nat.add_lt_add_iff_right]
theorem ends_words (fr : Nat) : ∀ (r : List UInt8) (p : UInt8) (pos : Nat), nb p = true → ends 0 (some p) pos fr r = (fr, pos + lead nb r) :: (if lead nb r < r.length then E 0 (pos + lead nb r) (r.drop (lead nb r)) else [])
  | [], p, pos, hp => by simp [ends, lead]
  | c :: r, p, pos, hp => by
    by_cases h : nb c = true
    · have e : lead nb (c :: r) = lead nb r + 1 := if_pos h
      have hb : bl c = false := by simpa [nb] using h
      rw [e]
      have hc : cut 0 (some p) c = false := by simp [cut, hb]
      simp only [ends, hc, Bool.false_eq_true, if_false]
      rw [ends_words fr r c (pos + 1) h, show pos + 1 + lead nb r = pos + (lead nb r + 1) by omega, show (c :: r).drop (lead nb r + 1) = r.drop (lead nb r) from rfl]
      simp only [List.length_cons, Nat.add_lt_add_iff_right]
    · have e : lead nb (c :: r) = 0 := if_neg h
      have hb : bl c = true := by simpa [nb] using h
      rw [e, if_pos (by simp)]
      have hc : cut 0 (some p) c = true := by simp [cut, hb, hp]
      simp only [ends, hc, if_true]
      rw [List.drop_zero, Nat.add_zero]
      simp [E, ends, cut]
theorem ends_blanks (fr : Nat) : ∀ (r : List UInt8) (p : Option UInt8) (pos : Nat), (∀ x, p = some x → nb x = false) → ends 0 p pos fr r = (fr, pos + fe 0 r) :: (if fe 0 r < r.length then E 0 (pos + fe 0 r) (r.drop (fe 0 r)) else [])
  | [], p, pos, hp => by simp [ends, fe, lead]
  | c :: r, p, pos, hp => by
    have hc : cut 0 p c = false := by
      cases p with
      | none => rfl
      | some x => simp [cut, hp x rfl]
    have e1 : ends 0 p pos fr (c :: r) = ends 0 (some c) (pos + 1) fr r := by simp only [ends, hc, Bool.false_eq_true, if_false]
    rw [e1]
    by_cases h : bl c = true
    · have e : fe 0 (c :: r) = fe 0 r + 1 := by
        unfold fe
        rw [if_pos rfl, if_pos rfl, show lead bl (c :: r) = lead bl r + 1 from if_pos h, List.drop_succ_cons]; omega
      rw [e, ends_blanks fr r (some c) (pos + 1) (fun x hx => by cases hx; simp [nb, h]), show pos + 1 + fe 0 r = pos + (fe 0 r + 1) by omega, show (c :: r).drop (fe 0 r + 1) = r.drop (fe 0 r) from rfl]
      simp only [List.length_cons, Nat.add_lt_add_iff_right]
    · have hn : nb c = true := by simp [nb, h]
      have e : fe 0 (c :: r) = lead nb r + 1 := by
        unfold fe
        rw [if_pos rfl, show lead bl (c :: r) = 0 from if_neg h, List.drop_zero, show lead nb (c :: r) = lead nb r + 1 from if_pos hn]; omega
      rw [e, ends_words fr r c (pos + 1) hn, show pos + 1 + lead nb r = pos + (lead nb r + 1) by omega, show (c :: r).drop (lead nb r + 1) = r.drop (lead nb r) from rfl]
      simp only [List.length_cons, Nat.add_lt_add_iff_right]
/-- The place of the field behind one that ends at 'e'. -/
def nx (sep : UInt8) (e : Nat) : Nat := if sep = 0 then e else e + 1
theorem E_step (sep : UInt8) (b : Nat) (l : List UInt8) (hb : b ≤ l.length) : E sep b (l.drop b) = (b, b + fe sep (l.drop b)) :: (if b + fe sep (l.drop b) < l.length then E sep (nx sep (b + fe sep (l.drop b))) (l.drop (nx sep (b + fe sep (l.drop b)))) else []) := by
  by_cases hs : sep = 0
  · subst hs
    rw [E, ends_blanks b (l.drop b) none b (fun x h => by cases h)]
    simp only [nx, if_true, List.drop_drop, List.length_drop]
    by_cases h : b + fe 0 (l.drop b) < l.length
    · rw [if_pos (by omega), if_pos h]
    · rw [if_neg (by omega), if_neg h]
  · have e : fe sep (l.drop b) = ix sep (l.drop b) := if_neg hs
    rw [E, E_sep hs (l.drop b) none b b, e]
    simp only [nx, if_neg hs, List.drop_drop, List.length_drop]
    by_cases h : b + ix sep (l.drop b) < l.length
    · rw [if_pos (by omega), if_pos h, Nat.add_assoc b]
    · rw [if_neg (by omega), if_neg h]
/-- A field by its number: where it begins and ends. -/
def fd (sep : UInt8) (l : List UInt8) (n : Int) : Nat × Nat := (fs sep l).getD (n - 1).toNat (l.length, l.length)
theorem fs_eq (sep : UInt8) (l : List UInt8) : fs sep l = E sep 0 (l.drop 0) := rfl
theorem ends_in (sep : UInt8) : ∀ (r : List UInt8) (p : Option UInt8) (pos fr : Nat), fr ≤ pos → ∀ q ∈ ends sep p pos fr r, fr ≤ q.1 ∧ q.1 ≤ q.2 ∧ q.2 ≤ pos + r.length
  | [], p, pos, fr, hf, q, hq => by simp [ends] at hq; subst hq; simp; omega
  | c :: r, p, pos, fr, hf, q, hq => by
    simp only [ends] at hq
    by_cases hc : cut sep p c = true
    · rw [if_pos hc] at hq
      rcases List.mem_cons.1 hq with rfl | hq
      · simp; omega
      · have := ends_in sep r (some c) (pos + 1) _ (by split <;> omega) q hq
        simp only [List.length_cons]
        split at this <;> omega
    · rw [if_neg hc] at hq
      have := ends_in sep r (some c) (pos + 1) fr (by omega) q hq
      simp only [List.length_cons]; omega
theorem fd_in (sep : UInt8) (l : List UInt8) (n : Int) : (fd sep l n).1 ≤ (fd sep l n).2 ∧ (fd sep l n).2 ≤ l.length := by
  unfold fd
  rw [List.getD_eq_getElem?_getD]
  cases h : (fs sep l)[(n - 1).toNat]? with
  | none => simp
  | some q =>
    have := ends_in sep l none 0 0 (Nat.le_refl _) q (List.mem_of_getElem? h)
    simp; omega
end Od
end Go.Proofs.Ytplnojohlbbalaa
