/- Match with any pattern, brackets in it or none; what a star ahead of a pattern matches. Conditions: texts that fit; the table of names. -/
import Derived.Test.YtncnmeidciailaaDoorLd8
import Derived.Test.YtncnmeidciailaaDoorLa9
namespace Go.Proofs.YtncnmeidciailaaDoor
open Go.RowKit
theorem gMatchB (l s : List UInt8) (fl : Int) (hl : l.length ≤ 2 ^ 40) (hs : s.length ≤ 2 ^ 47) (w : World) (hc : CN w) :
    Calls Tryd.prog 12 #[.string ⟨l.toArray⟩, .string ⟨s.toArray⟩, .int .i64 fl] w fun e w' => ∃ b, e = .returned (.bool b) ∧ (b = true ↔ Gl.Mt (Gl.flOf fl) s (Gl.pcs (Gl.flOf fl) l) 0) ∧ Below w.heap.size w w' :=
  gMatch l s fl hl hs w (fun k hk _ h91 W sb rb hB hR => gBracket l fl rb sb k hk h91 hl W hR (hc.grow hB (Nat.le_refl _)))
namespace Gl
theorem pcs_star (f : Fl) (p : List UInt8) : pcs f (42 :: p) = .star :: pcs f p := by
  have h : piece f (42 :: p) = (.star, 1) := piece_star (f := f) (l := 42 :: p) (k := 0) (by simp) rfl
  rw [pcs_step _ _ (by simp), h]; rfl
theorem takes_shift {f : Fl} (h1 : f.path = false) (h2 : f.period = false) (a s : List UInt8) (x : Pc) (i : Nat) : takes f (a ++ s) x (a.length + i) = takes f s x i := by
  have e : (a ++ s)[a.length + i]? = s[i]? := by rw [List.getElem?_append_right (by omega)]; congr 1; omega
  cases x <;> simp only [takes, e, guard_none h1 h2]
theorem mt_shift {f : Fl} (h1 : f.path = false) (h2 : f.period = false) (a s : List UInt8) {ps : List Pc} {i : Nat} (h : Mt f s ps i) : Mt f (a ++ s) ps (a.length + i) := by
  induction h with
  | nil => have e : (a ++ s).length = a.length + s.length := List.length_append; rw [← e]; exact .nil
  | skip _ ih => exact .skip ih
  | more h3 _ _ ih => exact .more (by rw [List.length_append]; omega) (guard_none h1 h2) ih
  | one h3 h4 h5 _ ih => exact .one h3 (by rw [List.length_append]; omega) ((takes_shift h1 h2 a s _ _).trans h5) ih
theorem mt_back {f : Fl} (h1 : f.path = false) (h2 : f.period = false) (a s : List UInt8) {ps : List Pc} {j : Nat} (h : Mt f (a ++ s) ps j) : ∀ i, j = a.length + i → Mt f s ps i := by
  induction h with
  | nil => intro i e; rw [List.length_append] at e; obtain rfl : i = s.length := by omega
           exact .nil
  | skip _ ih => intro i e; exact .skip (ih i e)
  | more h3 _ _ ih => intro i e; subst e; rw [List.length_append] at h3; exact .more (by omega) (guard_none h1 h2) (ih (i + 1) (by omega))
  | one h3 h4 h5 _ ih => intro i e; subst e; rw [List.length_append] at h4; exact .one h3 (by omega) ((takes_shift h1 h2 a s _ _).symm.trans h5) (ih (i + 1) (by omega))
/-- A star ahead of a pattern that matches an end of the text. -/
theorem star_end {f : Fl} (h1 : f.path = false) (h2 : f.period = false) (a s p : List UInt8) (h : Mt f s (pcs f p) 0) : Mt f (a ++ s) (pcs f (42 :: p)) 0 := by
  rw [pcs_star]
  exact mt_star_iff.2 ⟨a.length, Nat.zero_le _, fun _ _ _ => guard_none h1 h2, mt_shift h1 h2 a s h⟩
theorem star_iff {f : Fl} (h1 : f.path = false) (h2 : f.period = false) (s p : List UInt8) : Mt f s (pcs f (42 :: p)) 0 ↔ ∃ i, i ≤ s.length ∧ Mt f (s.drop i) (pcs f p) 0 := by
  rw [pcs_star, mt_star_iff]
  constructor
  · rintro ⟨t, _, _, h⟩
    have hl := h.le
    refine ⟨t, hl, ?_⟩
    have e : s.take t ++ s.drop t = s := List.take_append_drop t s
    rw [← e] at h
    exact mt_back h1 h2 (s.take t) (s.drop t) h 0 (by rw [List.length_take]; omega)
  · rintro ⟨i, hi, h⟩
    have := mt_shift h1 h2 (s.take i) (s.drop i) h
    rw [List.take_append_drop, List.length_take, Nat.min_eq_left hi] at this
    exact ⟨i, Nat.zero_le _, fun _ _ _ => guard_none h1 h2, this⟩
end Gl
end Go.Proofs.YtncnmeidciailaaDoor
