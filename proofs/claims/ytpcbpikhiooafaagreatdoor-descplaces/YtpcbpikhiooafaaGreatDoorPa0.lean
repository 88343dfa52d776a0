/- Plain facts on lists of bytes: names between slashes, clean paths, their texts. No condition. -/
import Derived.Lib.Strings
import Derived.Lib.Join
import Derived.Lib.Bytealg
import Derived.Shelf.Strings.Trim
namespace Go.Proofs.YtpcbpikhiooafaaGreatDoor
namespace Pa
/-- One byte more: the names so far, and the name that is being read. -/
def nmStep (st : List (List UInt8) × List UInt8) (c : UInt8) : List (List UInt8) × List UInt8 :=
  if c = 47 then (if st.2 = [] then st.1 else st.1 ++ [st.2], []) else (st.1, st.2 ++ [c])
def nmFold (l : List UInt8) : List (List UInt8) × List UInt8 := l.foldl nmStep ([], [])
/-- The names of a path: what stands between slashes. -/
def nms (l : List UInt8) : List (List UInt8) := if (nmFold l).2 = [] then (nmFold l).1 else (nmFold l).1 ++ [(nmFold l).2]
def absB (l : List UInt8) : Bool := l.head? == some 47
def dd : List UInt8 := [46, 46]
def clStep (a : Bool) (out : List (List UInt8)) (n : List UInt8) : List (List UInt8) :=
  if n = [46] then out
  else if n = dd then (if out ≠ [] ∧ out.getLast? ≠ some dd then out.dropLast else if a then out else out ++ [n])
  else out ++ [n]
/-- The names that are left when a path is clean. -/
def cl (a : Bool) (ns : List (List UInt8)) : List (List UInt8) := ns.foldl (clStep a) []
def lft (l : List UInt8) : List (List UInt8) := cl (absB l) (nms l)
def jn (ns : List (List UInt8)) : List UInt8 := Lib.join ns [47]
/-- The path of parts. -/
def strg (a : Bool) (ns : List (List UInt8)) (sl : Bool) : List UInt8 :=
  if ns = [] ∧ a = false then [46] else (if a then [47] else []) ++ jn ns ++ (if sl ∧ ns ≠ [] then [47] else [])
def clean (l : List UInt8) : List UInt8 := strg (absB l) (lft l) false
def some' (xs : List (List UInt8)) : List (List UInt8) := xs.filter (fun x => !x.isEmpty)
def join (xs : List (List UInt8)) : List UInt8 := if some' xs = [] then [] else clean (jn (some' xs))
def splC (l : List UInt8) : Int :=
  if l = [] then 2 else if 255 < l.length then 36 else if (nms l).any (fun n => decide (27 < n.length)) then 36 else if l.contains 0 then 22 else 0
def splA (l : List UInt8) : Bool := decide (splC l = 0) && absB l
def splN (l : List UInt8) : List (List UInt8) := if splC l = 0 then nms l else []
def splS (l : List UInt8) : Bool := decide (splC l = 0) && (decide (nms l ≠ []) && (l.getLast? == some 47))
theorem nmFold_snoc (l : List UInt8) (c : UInt8) : nmFold (l ++ [c]) = nmStep (nmFold l) c := by simp [nmFold]
theorem fold_first (r : List UInt8) : ∀ (p : List (List UInt8)) (q : List UInt8), r.foldl nmStep (p, q) = (p ++ (r.foldl nmStep ([], q)).1, (r.foldl nmStep ([], q)).2) := by
  induction r with
  | nil => intro p q; simp
  | cons c r ih =>
    intro p q
    simp only [List.foldl_cons]
    by_cases h : c = 47
    · by_cases hq : q = []
      · have e : ∀ p : List (List UInt8), nmStep (p, q) c = (p, []) := by intro p; simp [nmStep, h, hq]
        rw [e, e, ih]
      · have e : ∀ p : List (List UInt8), nmStep (p, q) c = (p ++ [q], []) := by intro p; simp [nmStep, h, hq]
        rw [e, e, ih, ih ([] ++ [q])]; simp
    · have e : ∀ p : List (List UInt8), nmStep (p, q) c = (p, q ++ [c]) := by intro p; simp [nmStep, h]
      rw [e, e, ih]
theorem fold_plain (s : List UInt8) (hs : 47 ∉ s) : ∀ (p : List (List UInt8)) (q : List UInt8), s.foldl nmStep (p, q) = (p, q ++ s) := by
  induction s with
  | nil => intro p q; simp
  | cons c s ih =>
    intro p q
    have hc : c ≠ 47 := fun e => hs (by simp [e])
    have hs' : 47 ∉ s := fun h => hs (by simp [h])
    simp [nmStep, hc, ih hs']
/-- No slash: one name, if it is not empty. -/
theorem nms_plain (s : List UInt8) (hs : 47 ∉ s) : nms s = if s = [] then [] else [s] := by
  have e : nmFold s = ([], s) := by rw [nmFold, fold_plain s hs]; simp
  rw [nms, e]; by_cases h : s = [] <;> simp [h]
/-- Up to the first slash, and behind it. -/
theorem nms_cut (s r : List UInt8) (hs : 47 ∉ s) : nms (s ++ 47 :: r) = (if s = [] then [] else [s]) ++ nms r := by
  have e : nmFold (s ++ 47 :: r) = ((if s = [] then [] else [s]) ++ (nmFold r).1, (nmFold r).2) := by
    rw [nmFold, List.foldl_append, fold_plain s hs, List.foldl_cons]
    by_cases h : s = []
    · simp only [nmStep, h, if_true, List.nil_append, List.append_nil]; rw [fold_first]; simp [nmFold]
    · have : nmStep ([], [] ++ s) 47 = ([s], []) := by simp [nmStep, h]
      rw [this, fold_first]; simp [h, nmFold]
  unfold nms; rw [e]; by_cases h : (nmFold r).2 = [] <;> simp [h]
theorem indexByte_cut (c : UInt8) : ∀ (l : List UInt8), (Lib.indexByte l c = -1 ∧ c ∉ l) ∨ (∃ k : Nat, Lib.indexByte l c = k ∧ k < l.length ∧ c ∉ l.take k ∧ l = l.take k ++ c :: l.drop (k + 1))
  | [] => .inl ⟨rfl, by simp⟩
  | b :: l => by
    by_cases h : b = c
    · subst h; exact .inr ⟨0, by simp [Lib.indexByte], by simp, by simp, by simp⟩
    · rcases indexByte_cut c l with ⟨e, hn⟩ | ⟨k, e, hk, hn, hl⟩
      · exact .inl ⟨by simp [Lib.indexByte, h, e], by simp [hn, Ne.symm h]⟩
      · refine .inr ⟨k + 1, ?_, by simp; omega, by simp [hn, Ne.symm h], ?_⟩
        · have : ((k : Int) == -1) = false := by rw [beq_eq_false_iff_ne]; omega
          simp [Lib.indexByte, h, e, this]
        · simp only [List.take_succ_cons, List.drop_succ_cons, List.cons_append]; rw [← hl]
theorem nms_nil : nms [] = [] := rfl
theorem nms_length_aux (n : Nat) : ∀ l : List UInt8, l.length ≤ n → (nms l).length ≤ l.length := by
  induction n with
  | zero => intro l h; have : l = [] := List.length_eq_zero_iff.1 (by omega); subst this; simp [nms_nil]
  | succ n ih =>
    intro l h
    rcases indexByte_cut 47 l with ⟨_, hn⟩ | ⟨k, _, hk, hn, hl⟩
    · rw [nms_plain l hn]; split
      · simp
      · rename_i hne; have := List.length_pos_iff.2 hne; simp; omega
    · rw [hl, nms_cut _ _ hn]
      have h2 := ih (l.drop (k + 1)) (by simp; omega)
      simp only [List.length_drop] at h2
      simp only [List.length_append, List.length_cons, List.length_take, List.length_drop]
      split
      · simp; omega
      · rename_i hne; have := List.length_pos_iff.2 hne; simp at this; simp; omega
theorem nms_length (l : List UInt8) : (nms l).length ≤ l.length := nms_length_aux _ l (Nat.le_refl _)
end Pa
end Go.Proofs.YtpcbpikhiooafaaGreatDoor
