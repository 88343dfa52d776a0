/- Keys of texts: the program's reading, the plain answer's, and that they are one. No condition. -/
import Derived.Test.YtladflfdpfpbpaaDoorBa0
namespace Go.Proofs.YtladflfdpfpbpaaDoor
namespace Ok
def dg (c : UInt8) : Bool := decide (48 ≤ c.toNat) && decide (c.toNat ≤ 57)
/-- How many digits a text begins with, and the number that they are. -/
def cnt : List UInt8 → Nat
  | [] => 0
  | c :: l => if dg c then cnt l + 1 else 0
def vl (l : List UInt8) : Nat := l.foldl (fun n c => n * 10 + (c.toNat - 48)) 0
/-- A letter's flag; 0: it is none. -/
def lf (c : UInt8) : Int := if c = 110 then 1 else if c = 114 then 2 else if c = 102 then 4 else if c = 98 then 8 else if c = 100 then 16 else 0
def lt (c : UInt8) : Bool := decide (c = 110) || (decide (c = 114) || (decide (c = 102) || (decide (c = 98) || decide (c = 100))))
def orI (a b : Int) : Int := bits .or .i64 a b
def fl (l : List UInt8) : Int := l.foldl (fun a c => orI a (lf c)) 0
def lc : List UInt8 → Nat
  | [] => 0
  | c :: l => if lt c then lc l + 1 else 0
def DG (s : List UInt8) : Nat × Nat := if cnt s ≤ 9 then (vl (s.take (cnt s)), cnt s) else (0, 0)
def LN (s : List UInt8) : Nat × List UInt8 × Bool := if cnt s ≤ 9 then (vl (s.take (cnt s)), s.drop (cnt s), decide (0 < cnt s)) else (0, [], false)
/-- The plain answer's half of a key. -/
def HFt (f : Nat) (c : Int) (k : Nat) (t : List UInt8) : Nat × Int × Int × Nat := (f, c, fl (t.take (lc t)), k + lc t)
def HF (s : List UInt8) : Nat × Int × Int × Nat :=
  if (DG s).2 = 0 ∨ (DG s).1 = 0 then (0, 0, 0, 0)
  else if (s.drop (DG s).2).head? = some 46 then
    (if (DG (s.drop (DG s).2).tail).2 = 0 then (0, 0, 0, 0) else HFt (DG s).1 (DG (s.drop (DG s).2).tail).1 ((DG s).2 + 1 + (DG (s.drop (DG s).2).tail).2) ((s.drop (DG s).2).tail.drop (DG (s.drop (DG s).2).tail).2))
  else HFt (DG s).1 (-1) (DG s).2 (s.drop (DG s).2)
/-- The program's end of a key. -/
def SPt (f : Nat) (c : Int) (t : List UInt8) : Nat × Int × Int × Bool := (f, c, if t.all lt then fl t else 0, t.all lt)
def SP (s : List UInt8) (c : Int) : Nat × Int × Int × Bool :=
  if (LN s).2.2 = false ∨ (LN s).1 = 0 then (0, 0, 0, false)
  else if (LN s).2.1.head? = some 46 then
    (if (LN (LN s).2.1.tail).2.2 = false then (0, 0, 0, false) else SPt (LN s).1 (LN (LN s).2.1.tail).1 (LN (LN s).2.1.tail).2.1)
  else SPt (LN s).1 c (LN s).2.1
theorem cnt_le : ∀ l : List UInt8, cnt l ≤ l.length
  | [] => Nat.le_refl _
  | c :: l => by
    have := cnt_le l
    simp only [cnt, List.length_cons]
    split <;> omega
theorem lc_le : ∀ l : List UInt8, lc l ≤ l.length
  | [] => Nat.le_refl _
  | c :: l => by
    have := lc_le l
    simp only [lc, List.length_cons]
    split <;> omega
theorem lc_all : ∀ l : List UInt8, l.all lt = true ↔ lc l = l.length
  | [] => ⟨fun _ => rfl, fun _ => rfl⟩
  | c :: l => by
    have ih := lc_all l
    by_cases h : lt c = true
    · have e : lc (c :: l) = lc l + 1 := if_pos h
      rw [e, List.all_cons, h, Bool.true_and, List.length_cons, ih]
      omega
    · have e : lc (c :: l) = 0 := if_neg h
      rw [e, List.all_cons, Bool.eq_false_iff.2 h, Bool.false_and, List.length_cons]
      exact ⟨fun h => (by cases h), fun h => (by omega)⟩
theorem cnt_lt9 {s : List UInt8} (h : ¬ cnt s ≤ 9) : DG s = (0, 0) ∧ LN s = (0, [], false) := ⟨if_neg h, if_neg h⟩
theorem SPt_HFt (f : Nat) (c c' : Int) (k n : Nat) (t : List UInt8) (hn : n = k + t.length) (hk : 0 < k) : (SPt f c t).2.2.2 = decide ((HFt f c' k t).2.2.2 ≠ 0 ∧ (HFt f c' k t).2.2.2 = n) ∧ ((SPt f c t).2.2.2 = true → SPt f c t = (f, c, (HFt f c' k t).2.2.1, true)) := by
  have h1 : (SPt f c t).2.2.2 = t.all lt := rfl
  have h2 : (HFt f c' k t).2.2.2 = k + lc t := rfl
  have h3 : (HFt f c' k t).2.2.1 = fl (t.take (lc t)) := rfl
  refine ⟨?_, fun h => ?_⟩
  · rw [h1, h2, Bool.eq_iff_iff, lc_all, decide_eq_true_iff]
    omega
  · rw [h1] at h
    have h4 := (lc_all t).1 h
    rw [h3, h4, List.take_length]
    show (f, c, (if t.all lt then fl t else 0), t.all lt) = _
    rw [h]; rfl
theorem SP_HF (s : List UInt8) (c : Int) : (SP s c).2.2.2 = decide ((HF s).2.2.2 ≠ 0 ∧ (HF s).2.2.2 = s.length) ∧ ((SP s c).2.2.2 = true → SP s c = ((HF s).1, (if (HF s).2.1 < 0 then c else (HF s).2.1), (HF s).2.2.1, true)) := by
  by_cases h9 : cnt s ≤ 9
  · have e1 : DG s = (vl (s.take (cnt s)), cnt s) := if_pos h9
    have e2 : LN s = (vl (s.take (cnt s)), s.drop (cnt s), decide (0 < cnt s)) := if_pos h9
    have hle := cnt_le s
    generalize vl (s.take (cnt s)) = f at *
    generalize cnt s = k at *
    by_cases h0 : k = 0 ∨ f = 0
    · have a1 : HF s = (0, 0, 0, 0) := by unfold HF; rw [e1]; exact if_pos h0
      have a2 : SP s c = (0, 0, 0, false) := by
        unfold SP; rw [e2]
        exact if_pos (h0.imp (fun h => by simp [h]) id)
      rw [a1, a2]
      exact ⟨by simp, fun h => (by cases h)⟩
    · have hk : 0 < k := by omega
      have n1 : ¬ ((decide (0 < k)) = false ∨ f = 0) := by simp; omega
      have hl : (s.drop k).length = s.length - k := List.length_drop
      by_cases h46 : (s.drop k).head? = some 46
      · obtain ⟨r, hr⟩ : ∃ r, s.drop k = 46 :: r := by
          cases h : s.drop k with
          | nil => rw [h] at h46; cases h46
          | cons a r => rw [h] at h46; injection h46 with h46; exact ⟨r, by rw [h46]⟩
        have hrl : s.length = k + 1 + r.length := by rw [hr, List.length_cons] at hl; omega
        have hle2 := cnt_le r
        have a1 : HF s = if (DG r).2 = 0 then (0, 0, 0, 0) else HFt f (DG r).1 (k + 1 + (DG r).2) (r.drop (DG r).2) := by
          unfold HF; rw [e1]
          show (if k = 0 ∨ f = 0 then _ else if (s.drop k).head? = some 46 then _ else _) = _
          rw [if_neg h0, if_pos h46, hr]; rfl
        have a2 : SP s c = if (LN r).2.2 = false then (0, 0, 0, false) else SPt f (LN r).1 (LN r).2.1 := by
          unfold SP; rw [e2]
          show (if (decide (0 < k)) = false ∨ f = 0 then _ else if (s.drop k).head? = some 46 then _ else _) = _
          rw [if_neg n1, if_pos h46, hr]; rfl
        by_cases h9' : cnt r ≤ 9
        · have b1 : DG r = (vl (r.take (cnt r)), cnt r) := if_pos h9'
          have b2 : LN r = (vl (r.take (cnt r)), r.drop (cnt r), decide (0 < cnt r)) := if_pos h9'
          rw [a1, a2, b1, b2]
          generalize vl (r.take (cnt r)) = g at *
          generalize cnt r = d at *
          by_cases hd : d = 0
          · subst hd
            exact ⟨rfl, fun h => (by cases h)⟩
          · have hd2 : ¬ (decide (0 < d) = false) := by simp; omega
            show (if decide (0 < d) = false then _ else _ : Nat × Int × Int × Bool).2.2.2 = decide ((if d = 0 then _ else _ : Nat × Int × Int × Nat).2.2.2 ≠ 0 ∧ (if d = 0 then _ else _ : Nat × Int × Int × Nat).2.2.2 = _) ∧ ((if decide (0 < d) = false then _ else _ : Nat × Int × Int × Bool).2.2.2 = true → (if decide (0 < d) = false then _ else _ : Nat × Int × Int × Bool) = ((if d = 0 then _ else _ : Nat × Int × Int × Nat).1, (if (if d = 0 then _ else _ : Nat × Int × Int × Nat).2.1 < 0 then _ else (if d = 0 then _ else _ : Nat × Int × Int × Nat).2.1), (if d = 0 then _ else _ : Nat × Int × Int × Nat).2.2.1, true))
            rw [if_neg hd, if_neg hd2]
            obtain ⟨c1, c2⟩ := SPt_HFt f g g (k + 1 + d) s.length (r.drop d) (by rw [List.length_drop]; omega) (by omega)
            refine ⟨c1, fun h => ?_⟩
            rw [c2 h]
            have : ¬ ((HFt f (g : Int) (k + 1 + d) (r.drop d)).2.1 < 0) := by show ¬ ((g : Int) < 0); omega
            rw [if_neg this]; rfl
        · obtain ⟨b1, b2⟩ := cnt_lt9 h9'
          rw [a1, a2, b1, b2]
          exact ⟨by simp, fun h => (by cases h)⟩
      · have a1 : HF s = HFt f (-1) k (s.drop k) := by
          unfold HF; rw [e1]
          show (if k = 0 ∨ f = 0 then _ else if (s.drop k).head? = some 46 then _ else _) = _
          rw [if_neg h0, if_neg h46]
        have a2 : SP s c = SPt f c (s.drop k) := by
          unfold SP; rw [e2]
          show (if (decide (0 < k)) = false ∨ f = 0 then _ else if (s.drop k).head? = some 46 then _ else _) = _
          rw [if_neg n1, if_neg h46]
        rw [a1, a2]
        obtain ⟨c1, c2⟩ := SPt_HFt f c (-1) k s.length (s.drop k) (by omega) hk
        refine ⟨c1, fun h => ?_⟩
        rw [c2 h]
        have : (HFt f (-1) k (s.drop k)).2.1 < 0 := by show (-1 : Int) < 0; omega
        rw [if_pos this]; rfl
  · obtain ⟨e1, e2⟩ := cnt_lt9 h9
    have a1 : HF s = (0, 0, 0, 0) := by unfold HF; rw [e1]; rfl
    have a2 : SP s c = (0, 0, 0, false) := by unfold SP; rw [e2]; rfl
    rw [a1, a2]
    exact ⟨by simp, fun h => (by cases h)⟩
end Ok
end Go.Proofs.YtladflfdpfpbpaaDoor
