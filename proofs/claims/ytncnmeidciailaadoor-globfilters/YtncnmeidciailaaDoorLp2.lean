/- The plain theory of tr's sets: how a set's text is read into bytes. No condition. -/
import Derived.Test.YtncnmeidciailaaDoorLb2
namespace Go.Proofs.YtncnmeidciailaaDoor
namespace Gl
def oc (c : UInt8) : Bool := decide (48 ≤ c.toNat) && decide (c.toNat ≤ 55)
/-- At most so many octal digits: their number, and how many. -/
def ogo : Nat → Nat → List UInt8 → Nat × Nat
  | 0, n, _ => (n, 0)
  | _ + 1, n, [] => (n, 0)
  | m + 1, n, c :: r => if oc c then ((ogo m (n * 8 + (c.toNat - 48)) r).1, (ogo m (n * 8 + (c.toNat - 48)) r).2 + 1) else (n, 0)
def escd (d : UInt8) : UInt8 :=
  if d = 97 then 7 else if d = 98 then 8 else if d = 116 then 9 else if d = 110 then 10 else if d = 118 then 11 else if d = 102 then 12 else if d = 114 then 13 else d
/-- A byte of a set, with a backslash or without; how long it is. -/
def esc : List UInt8 → UInt8 × Nat
  | [] => (0, 0)
  | [c] => (c, 1)
  | c :: d :: r => if c ≠ 92 then (c, 1) else if oc d then (UInt8.ofNat ((ogo 3 0 (d :: r)).1 % 256), (ogo 3 0 (d :: r)).2 + 1) else (escd d, 2)
/-- The bytes ahead of the first end of a class. -/
def upTo : List UInt8 → Option (List UInt8)
  | [] => none
  | c :: r => if c = 58 && r.head? == some 93 then some [] else (upTo r).map (c :: ·)
/-- The name of a class that a set's text begins with. -/
def cls (l : List UInt8) : Option (List UInt8) := if l.take 2 = [91, 58] then upTo (l.drop 2) else none
/-- A byte in equal signs. -/
def eqv (l : List UInt8) : Option (UInt8 × Nat) :=
  if l.take 2 = [91, 61] ∧ 2 < l.length ∧ (l.drop (2 + (esc (l.drop 2)).2)).take 2 = [61, 93] then some ((esc (l.drop 2)).1, (esc (l.drop 2)).2 + 4) else none
/-- The leading digits. -/
def digs (l : List UInt8) : List UInt8 := l.takeWhile dg
def base (ds : List UInt8) : Nat := if ds.head? = some 48 then 8 else 10
/-- A number of digits, at most 4097. -/
def cnt (b : Nat) : Nat → List UInt8 → Nat
  | n, [] => n
  | n, c :: r => cnt b (min (n * b + (c.toNat - 48)) 4097) r
/-- A byte so many times: the byte, how often, how long it is. -/
def rep (l : List UInt8) : Option (UInt8 × Nat × Nat) :=
  let r := l.drop 1
  let t := r.drop (esc r).2
  let ds := digs (t.drop 1)
  if l.head? = some 91 ∧ 1 < l.length ∧ t.head? = some 42 ∧ (t.drop (1 + ds.length)).head? = some 93 ∧ ds.all (fun c => decide (c.toNat - 48 < base ds)) = true then some ((esc r).1, cnt (base ds) 0 ds, 1 + (esc r).2 + 1 + ds.length + 1) else none
/-- A byte, or a range of them: its ends, and how long it is. -/
def span (l : List UInt8) : UInt8 × UInt8 × Nat :=
  if (l.drop (esc l).2).head? = some 45 ∧ (esc l).2 + 1 < l.length then ((esc l).1, (esc (l.drop ((esc l).2 + 1))).1, (esc l).2 + 1 + (esc (l.drop ((esc l).2 + 1))).2) else ((esc l).1, (esc l).1, (esc l).2)
/-- The bytes from lo on, so many. -/
def from_ (lo : Nat) : Nat → List UInt8
  | 0 => []
  | n + 1 => from_ lo n ++ [UInt8.ofNat (lo + n)]
/-- What has been read of a set. -/
structure SS where
  out : List UInt8
  fil : Option (UInt8 × Nat)
def SS.add (s : SS) (l : List UInt8) : SS := ⟨s.out ++ l, s.fil⟩
/-- An item of a set: what has been read then, and how long it is; none: the text is no set. -/
def sItem (size : Int) (s : SS) (l : List UInt8) : Option (SS × Nat) :=
  match cls l with
  | some n => if n ∈ names then some (s.add (lst (inC n) 256), n.length + 4) else none
  | none =>
    match eqv l with
    | some (c, k) => some (s.add [c], k)
    | none =>
      match rep l with
      | some (c, n, k) => if n = 0 then (if size < 0 ∨ s.fil.isSome = true then none else some (⟨s.out, some (c, s.out.length)⟩, k)) else some (s.add (List.replicate n c), k)
      | none => if (span l).2.1.toNat < (span l).1.toNat then none else some (s.add (from_ (span l).1.toNat ((span l).2.1.toNat + 1 - (span l).1.toNat)), (span l).2.2)
def sRun (size : Int) : Nat → SS → List UInt8 → Option SS
  | 0, s, _ => some s
  | _ + 1, s, [] => some s
  | n + 1, s, c :: r => match sItem size s (c :: r) with
    | some (s', k) => sRun size n s' ((c :: r).drop k)
    | none => none
def sAll (size : Int) (s : SS) : Int := if s.fil.isSome then max s.out.length size else s.out.length
/-- The set when all of its text has been read. -/
def sFin (size : Int) (s : SS) : List UInt8 × Int :=
  if 4096 < sAll size s then ([], 34) else (s.out.take ((s.fil.getD (0, 0)).2) ++ List.replicate (sAll size s - s.out.length).toNat (s.fil.getD (0, 0)).1 ++ s.out.drop ((s.fil.getD (0, 0)).2), 0)
def setP (l : List UInt8) (size : Int) : List UInt8 × Int := match sRun size l.length ⟨[], none⟩ l with
  | some s => sFin size s
  | none => ([], 22)
theorem ogo_len : ∀ (m n : Nat) (l : List UInt8), (ogo m n l).2 ≤ l.length ∧ (ogo m n l).2 ≤ m
  | 0, n, l => ⟨Nat.zero_le _, Nat.le_refl _⟩
  | m + 1, n, [] => ⟨Nat.le_refl _, Nat.zero_le _⟩
  | m + 1, n, c :: r => by
    have := ogo_len m (n * 8 + (c.toNat - 48)) r
    unfold ogo
    split
    · simp; omega
    · simp
theorem esc_pos (l : List UInt8) (h : l ≠ []) : 1 ≤ (esc l).2 ∧ (esc l).2 ≤ l.length := by
  match l with
  | [] => exact absurd rfl h
  | [c] => exact ⟨Nat.le_refl _, Nat.le_refl _⟩
  | c :: d :: r =>
    have e : esc (c :: d :: r) = if c ≠ 92 then (c, 1) else if oc d then (UInt8.ofNat ((ogo 3 0 (d :: r)).1 % 256), (ogo 3 0 (d :: r)).2 + 1) else (escd d, 2) := rfl
    rw [e]
    split
    · simp
    split
    · have := ogo_len 3 0 (d :: r)
      simp only [List.length_cons] at this ⊢
      omega
    · simp
theorem upTo_len : ∀ {l n : List UInt8}, upTo l = some n → n.length + 2 ≤ l.length
  | [], n, h => by cases h
  | c :: r, n, h => by
    unfold upTo at h
    split at h
    · rename_i hc
      cases h
      cases r with
      | nil => simp at hc
      | cons d t => simp
    · obtain ⟨m, h1, rfl⟩ := Option.map_eq_some_iff.1 h
      have := upTo_len h1
      simp; omega
theorem cls_len {l n : List UInt8} (h : cls l = some n) : n.length + 4 ≤ l.length := by
  unfold cls at h
  split at h
  · have := upTo_len h
    rw [List.length_drop] at this
    omega
  · cases h
theorem span_pos (l : List UInt8) (h : l ≠ []) : 1 ≤ (span l).2.2 ∧ (span l).2.2 ≤ l.length := by
  obtain ⟨h1, h2⟩ := esc_pos l h
  unfold span
  split
  · rename_i hc
    obtain ⟨h3, h4⟩ := esc_pos (l.drop ((esc l).2 + 1)) (by intro e; have := congrArg List.length e; simp at this; omega)
    rw [List.length_drop] at h4
    simp only
    omega
  · exact ⟨h1, h2⟩
theorem sItem_pos {size : Int} {s s' : SS} {l : List UInt8} {k : Nat} (hl : l ≠ []) (h : sItem size s l = some (s', k)) : 1 ≤ k ∧ k ≤ l.length := by
  unfold sItem at h
  split at h
  · rename_i n hn
    split at h
    · cases h; have := cls_len hn; omega
    · cases h
  split at h
  · rename_i c k' he
    cases h
    unfold eqv at he
    split at he
    · rename_i hc
      cases he
      have e := congrArg List.length hc.2.2
      simp at e
      omega
    · cases he
  split at h
  · rename_i c n k' he
    have hk : 1 ≤ k' ∧ k' ≤ l.length := by
      unfold rep at he
      simp only at he
      split at he
      · rename_i hc
        cases he
        obtain ⟨_, h2, _, h4, _⟩ := hc
        have hlt : 1 + (esc (l.drop 1)).2 + (1 + (digs (((l.drop 1).drop (esc (l.drop 1)).2).drop 1)).length) < l.length := by
          rw [List.drop_drop, List.drop_drop, List.head?_drop] at h4
          obtain ⟨h5, _⟩ := List.getElem?_eq_some_iff.1 h4
          simp only [List.drop_drop] at h5 ⊢
          omega
        omega
      · cases he
    split at h
    · split at h
      · cases h
      · cases h; exact hk
    · cases h; exact hk
  · split at h
    · cases h
    · cases h; exact span_pos l hl
end Gl
end Go.Proofs.YtncnmeidciailaaDoor
