/- The plain theory of patterns: how a pattern's text is read into pieces. No condition. -/
import Derived.Test.YtncnmeidciailaaDoorLa1
namespace Go.Proofs.YtncnmeidciailaaDoor
namespace Gl
/-- A byte that is written, with a backslash or without; how long it is. -/
def one (f : Fl) : List UInt8 → UInt8 × Nat
  | [] => (0, 0)
  | [c] => (c, 1)
  | c :: d :: _ => if c = 92 && !f.plain then (d, 2) else (c, 1)
def nAlnum : List UInt8 := [97, 108, 110, 117, 109]
def nAlpha : List UInt8 := [97, 108, 112, 104, 97]
def nBlank : List UInt8 := [98, 108, 97, 110, 107]
def nCntrl : List UInt8 := [99, 110, 116, 114, 108]
def nDigit : List UInt8 := [100, 105, 103, 105, 116]
def nGraph : List UInt8 := [103, 114, 97, 112, 104]
def nLower : List UInt8 := [108, 111, 119, 101, 114]
def nPrint : List UInt8 := [112, 114, 105, 110, 116]
def nPunct : List UInt8 := [112, 117, 110, 99, 116]
def nSpace : List UInt8 := [115, 112, 97, 99, 101]
def nUpper : List UInt8 := [117, 112, 112, 101, 114]
def nXdigit : List UInt8 := [120, 100, 105, 103, 105, 116]
/-- The names of the classes. -/
def names : List (List UInt8) := [nAlnum, nAlpha, nBlank, nCntrl, nDigit, nGraph, nLower, nPrint, nPunct, nSpace, nUpper, nXdigit]
/-- The bytes of a class. -/
def inC (n : List UInt8) (c : UInt8) : Bool :=
  if n = nAlnum then let_ c || dg c
  else if n = nAlpha then let_ c
  else if n = nBlank then decide (c = 32) || decide (c = 9)
  else if n = nCntrl then decide (c.toNat < 32) || decide (c = 127)
  else if n = nDigit then dg c
  else if n = nGraph then gr c
  else if n = nLower then lo c
  else if n = nPrint then decide (c = 32) || gr c
  else if n = nPunct then gr c && !let_ c && !dg c
  else if n = nSpace then decide (c = 32) || decide (9 ≤ c.toNat) && decide (c.toNat ≤ 13)
  else if n = nUpper then up c
  else if n = nXdigit then dg c || decide (97 ≤ c.toNat) && decide (c.toNat ≤ 102) || decide (65 ≤ c.toNat) && decide (c.toNat ≤ 70)
  else false
/-- The name of the class that a text begins with. -/
def classAt (l : List UInt8) : Option (List UInt8) := if l.take 2 = [91, 58] then names.find? (fun n => (n ++ [58, 93]).isPrefixOf (l.drop 2)) else none
/-- A range of bytes. -/
def rng (c h : UInt8) (x : UInt8) : Bool := decide (c.toNat ≤ x.toNat) && decide (x.toNat ≤ h.toNat)
/-- Does a dash stand here that makes a range? -/
def dash (l : List UInt8) : Bool := match l with
  | a :: b :: _ => decide (a = 45) && decide (b ≠ 93)
  | _ => false
/-- An item of a bracket: its bytes, and how long it is. -/
def item (f : Fl) (l : List UInt8) : (UInt8 → Bool) × Nat :=
  match classAt l with
  | some n => (inC n, n.length + 4)
  | none => if dash (l.drop (one f l).2) then (rng (one f l).1 (one f (l.drop ((one f l).2 + 1))).1, (one f l).2 + 1 + (one f (l.drop ((one f l).2 + 1))).2)
    else (fun x => decide (x = (one f l).1), (one f l).2)
/-- The items up to the end; how long they are, with it. -/
def items (f : Fl) : Nat → Bool → List UInt8 → Option ((UInt8 → Bool) × Nat)
  | 0, _, _ => none
  | _ + 1, _, [] => none
  | n + 1, first, c :: r => if c = 93 && !first then some (fun _ => false, 1)
    else (items f n false ((c :: r).drop (item f (c :: r)).2)).map fun q => (fun x => (item f (c :: r)).1 x || q.1 x, (item f (c :: r)).2 + q.2)
/-- A letter in its other case. -/
def other (c : UInt8) : UInt8 := if lo c then c - 32 else if up c then c + 32 else c
/-- What a bracket of these items matches. -/
def fin (f : Fl) (neg : Bool) (g : UInt8 → Bool) (x : UInt8) : Bool := (if f.fold then g x || g (other x) else g x) != neg
def neg (l : List UInt8) : Bool := match l with
  | c :: _ => decide (c = 33) || decide (c = 94)
  | [] => false
def ngl (l : List UInt8) : Nat := if neg l then 1 else 0
/-- A bracket behind its first sign. -/
def bracket (f : Fl) (l : List UInt8) : Option ((UInt8 → Bool) × Nat) :=
  (items f (l.length + 1) true (l.drop (ngl l))).map fun q => (fin f (neg l) q.1, ngl l + q.2)
/-- The piece that a text begins with, and how long it is. -/
def piece (f : Fl) (l : List UInt8) : Pc × Nat :=
  match l with
  | [] => (.this 0, 0)
  | c :: r => if c = 42 then (.star, 1) else if c = 63 then (.any, 1) else
    match (if c = 91 then bracket f r else none) with
    | some (g, k) => (.some g, k + 1)
    | none => (.this (fold f (one f (c :: r)).1), (one f (c :: r)).2)
def rd (f : Fl) : Nat → List UInt8 → List Pc
  | 0, _ => []
  | _ + 1, [] => []
  | n + 1, c :: r => (piece f (c :: r)).1 :: rd f n ((c :: r).drop (piece f (c :: r)).2)
/-- The pieces of a pattern's text. -/
def pcs (f : Fl) (l : List UInt8) : List Pc := rd f l.length l
theorem one_pos (f : Fl) (l : List UInt8) (h : l ≠ []) : 1 ≤ (one f l).2 ∧ (one f l).2 ≤ l.length := by
  match l with
  | [] => exact absurd rfl h
  | [c] => exact ⟨Nat.le_refl _, Nat.le_refl _⟩
  | c :: d :: r =>
    show 1 ≤ (if (decide (c = 92) && !f.plain) = true then (d, 2) else (c, 1)).2 ∧ (if (decide (c = 92) && !f.plain) = true then (d, 2) else (c, 1)).2 ≤ _
    split
    · exact ⟨by simp, by simp⟩
    · exact ⟨by simp, by simp⟩
theorem classAt_len {l n : List UInt8} (h : classAt l = some n) : n.length + 4 ≤ l.length ∧ n ∈ names := by
  unfold classAt at h
  split at h
  · rename_i h2
    have hm := List.mem_of_find?_eq_some h
    have hp := List.find?_some h
    obtain ⟨t, ht⟩ := List.isPrefixOf_iff_prefix.1 hp
    have e := congrArg List.length ht
    have e2 := congrArg List.length h2
    simp at e e2
    exact ⟨by omega, hm⟩
  · cases h
theorem dash_len {l : List UInt8} (h : dash l = true) : 2 ≤ l.length := by
  match l with
  | [] => cases h
  | [_] => cases h
  | _ :: _ :: _ => simp
theorem item_pos (f : Fl) (l : List UInt8) (h : l ≠ []) : 1 ≤ (item f l).2 ∧ (item f l).2 ≤ l.length := by
  unfold item
  obtain ⟨h1, h2⟩ := one_pos f l h
  cases hc : classAt l with
  | some n => exact ⟨by simp, (classAt_len hc).1⟩
  | none =>
    simp only
    split
    · rename_i hd
      have hd2 := dash_len hd
      simp only [List.length_drop] at hd2
      obtain ⟨h3, h4⟩ := one_pos f (l.drop ((one f l).2 + 1)) (by intro e; have := congrArg List.length e; simp at this; omega)
      simp only [List.length_drop] at h4
      simp only
      omega
    · exact ⟨h1, h2⟩
theorem items_len {f : Fl} : ∀ {n : Nat} {first : Bool} {l : List UInt8} {q : (UInt8 → Bool) × Nat}, items f n first l = some q → 1 ≤ q.2 ∧ q.2 ≤ l.length := by
  intro n
  induction n with
  | zero => intro first l q h; cases h
  | succ n ih =>
    intro first l q h
    cases l with
    | nil => cases h
    | cons c r =>
      unfold items at h
      split at h
      · cases h; simp
      · obtain ⟨q', h1, rfl⟩ := Option.map_eq_some_iff.1 h
        have := ih h1
        obtain ⟨p1, p2⟩ := item_pos f (c :: r) (by simp)
        simp only [List.length_drop] at this
        simp only
        omega
theorem bracket_len {f : Fl} {l : List UInt8} {q : (UInt8 → Bool) × Nat} (h : bracket f l = some q) : q.2 ≤ l.length := by
  unfold bracket at h
  obtain ⟨q', h1, rfl⟩ := Option.map_eq_some_iff.1 h
  have := items_len h1
  simp only [List.length_drop] at this
  have hn : ngl l ≤ l.length := by
    cases l with
    | nil => exact Nat.le_refl _
    | cons c r => unfold ngl; split <;> simp
  simp only
  omega
theorem piece_pos (f : Fl) (l : List UInt8) (h : l ≠ []) : 1 ≤ (piece f l).2 ∧ (piece f l).2 ≤ l.length := by
  cases l with
  | nil => exact absurd rfl h
  | cons c r =>
    unfold piece
    simp only
    split
    · exact ⟨by decide, by simp⟩
    split
    · exact ⟨by decide, by simp⟩
    split
    · rename_i g k hb
      split at hb
      · have := bracket_len hb
        simp at this ⊢; omega
      · cases hb
    · exact one_pos f (c :: r) (by simp)
theorem rd_fuel (f : Fl) : ∀ (n m : Nat) (l : List UInt8), l.length ≤ n → l.length ≤ m → rd f n l = rd f m l := by
  intro n
  induction n with
  | zero => intro m l h1 h2; obtain rfl : l = [] := List.length_eq_zero_iff.1 (by omega); cases m <;> rfl
  | succ n ih =>
    intro m l h1 h2
    cases l with
    | nil => cases m <;> rfl
    | cons c r =>
      cases m with
      | zero => simp at h2
      | succ m =>
        unfold rd
        obtain ⟨p1, p2⟩ := piece_pos f (c :: r) (by simp)
        simp only [List.length_cons] at h1 h2
        rw [ih m _ (by simp only [List.length_drop, List.length_cons]; omega) (by simp only [List.length_drop, List.length_cons]; omega)]
theorem pcs_nil (f : Fl) : pcs f [] = [] := rfl
theorem pcs_step (f : Fl) (l : List UInt8) (h : l ≠ []) : pcs f l = (piece f l).1 :: pcs f (l.drop (piece f l).2) := by
  cases l with
  | nil => exact absurd rfl h
  | cons c r =>
    obtain ⟨p1, p2⟩ := piece_pos f (c :: r) h
    show rd f (r.length + 1) (c :: r) = _
    unfold rd
    rw [show pcs f ((c :: r).drop (piece f (c :: r)).2) = rd f ((c :: r).drop (piece f (c :: r)).2).length ((c :: r).drop (piece f (c :: r)).2) from rfl]
    rw [rd_fuel f r.length _ _ (by simp only [List.length_drop, List.length_cons]; omega) (Nat.le_refl _)]
theorem pcs_len (f : Fl) : ∀ (n : Nat) (l : List UInt8), (rd f n l).length ≤ l.length := by
  intro n
  induction n with
  | zero => intro l; simp [rd]
  | succ n ih =>
    intro l
    cases l with
    | nil => simp [rd]
    | cons c r =>
      unfold rd
      obtain ⟨p1, p2⟩ := piece_pos f (c :: r) (by simp)
      have := ih ((c :: r).drop (piece f (c :: r)).2)
      simp only [List.length_drop, List.length_cons] at this ⊢
      omega
/-- The places that the reading comes to. -/
inductive Reach (f : Fl) (l : List UInt8) : Nat → Prop
  | zero : Reach f l 0
  | next {k : Nat} : Reach f l k → k < l.length → Reach f l (k + (piece f (l.drop k)).2)
end Gl
end Go.Proofs.YtncnmeidciailaaDoor
