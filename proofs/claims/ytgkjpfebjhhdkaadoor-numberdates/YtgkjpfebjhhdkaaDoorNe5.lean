/- Dates, plain: a day has one year and one month; what Date and Stamp tell is one; Date's text as the plain answer parts it. -/
import Derived.Test.YtgkjpfebjhhdkaaDoorNk4
namespace Go.Proofs.YtgkjpfebjhhdkaaDoor
open Go.RowKit
namespace Na
theorem mb_mono (y : Int) {i j : Nat} (hij : i ≤ j) (hj : j < 13) : mb y i ≤ mb y j := by
  have h := leapN_le y
  have hd : ∀ L : Fin 2, ∀ b : Fin 13, ∀ a : Fin 13, a.val ≤ b.val → daTab.getD (L.val * 13 + a.val) 0 ≤ daTab.getD (L.val * 13 + b.val) 0 := by decide
  exact hd ⟨leapN y, by omega⟩ ⟨j, hj⟩ ⟨i, by omega⟩ hij
theorem yb_le {a b : Int} (h : a ≤ b) : yb a ≤ yb b := by unfold yb; omega
theorem Cv.one {D y y' : Int} {j j' : Nat} (h : Cv D y j) (h' : Cv D y' j') : y = y' ∧ j = j' := by
  have e : y = y' := by
    rcases Int.lt_trichotomy y y' with g | g | g
    · have := yb_le (show y + 1 ≤ y' by omega); have := h.hi; have := h'.lo; omega
    · exact g
    · have := yb_le (show y' + 1 ≤ y by omega); have := h'.hi; have := h.lo; omega
  subst e
  refine ⟨rfl, ?_⟩
  rcases Nat.lt_trichotomy j j' with g | g | g
  · have := mb_mono y (show j + 1 ≤ j' by omega) (by have := h'.j1; omega); have := h.mh; have := h'.ml; omega
  · exact g
  · have := mb_mono y (show j' + 1 ≤ j by omega) (by have := h.j1; omega); have := h'.mh; have := h.ml; omega
theorem behind_app {m : UInt8} : ∀ (A B : List UInt8), has m A = true → B.length ≤ (behind m (A ++ B)).length
  | [], B, h => by simp [has] at h
  | c :: A, B, h => by
    unfold behind
    rw [List.cons_append, List.dropWhile_cons]
    by_cases hc : c = m
    · simp [hc]
    · rw [if_pos (by simp [hc])]
      have h2 : has m A = true := by unfold has at h ⊢; simpa [hc] using h
      have := behind_app A B h2
      unfold behind at this
      exact this
theorem has_pl {l : List UInt8} (h : has 46 l = true) : pl 10 l = false := by
  cases hp : pl 10 l with
  | false => rfl
  | true =>
    have ha : l.all (dig 10) = true := by unfold pl at hp; rw [Bool.and_eq_true] at hp; exact hp.1
    rw [has_not (no_has (m := 46) (by decide) ha)] at h
    cases h
theorem has_mem {m : UInt8} {l : List UInt8} (h : has m l = false) : ∀ x ∈ l, x ≠ m := by
  intro x hx e
  have : has m l = true := by unfold has; rw [List.any_eq_true]; exact ⟨x, hx, by simpa using e⟩
  rw [this] at h; cases h
theorem has_parts {m : UInt8} : ∀ {l : List UInt8}, has m l = true → l = ahead m l ++ m :: behind m l
  | [], h => by simp [has] at h
  | c :: l, h => by
    by_cases hc : c = m
    · subst hc; simp [ahead, behind]
    · have h2 : has m l = true := by unfold has at h ⊢; simpa [hc] using h
      have := has_parts h2
      have e1 : ahead m (c :: l) = c :: ahead m l := by unfold ahead; rw [List.takeWhile_cons, if_pos (by simp [hc])]
      have e2 : behind m (c :: l) = behind m l := by unfold behind; rw [List.dropWhile_cons, if_pos (by simp [hc])]
      rw [e1, e2, List.cons_append, ← this]
end Na
theorem Yn.one {now : Int} {Y Y' : Option Int} (h : Yn now Y) (h' : Yn now Y') : Y = Y' := by
  unfold Yn at h h'
  split at h
  · rename_i hb; rw [if_pos hb] at h'; rw [h, h']
  · rename_i hb
    rw [if_neg hb] at h'
    obtain ⟨y, j, hc, rfl⟩ := h
    obtain ⟨y', j', hc', rfl⟩ := h'
    rw [(hc.one hc').1]
theorem Yr.one {l : List UInt8} {now : Int} {Y Y' : Option Int} (h : Yr l now Y) (h' : Yr l now Y') : Y = Y' := by
  unfold Yr at h h'
  by_cases h8 : l.length = 8
  · rw [if_pos h8] at h h'; exact h.one h'
  · rw [if_neg h8] at h h'
    by_cases h10 : l.length = 10
    · rw [if_pos h10] at h h'; rw [h, h']
    · rw [if_neg h10] at h h'
      by_cases h12 : l.length = 12
      · rw [if_pos h12] at h h'; rw [h, h']
      · rw [if_neg h12] at h h'; rw [h, h']
theorem DtR.one {s : List UInt8} {now : Int} {v v' : Int × Int} (h : DtR s now v) (h' : DtR s now v') : v = v' := by
  unfold DtR at h h'
  split at h
  · rename_i hb
    rw [if_pos hb] at h'
    obtain ⟨Y, hY, rfl⟩ := h
    obtain ⟨Y', hY', rfl⟩ := h'
    rw [hY.one hY']
  · rename_i hb
    rw [if_neg hb] at h'
    rw [h, h']
theorem OutS.one {t : Int} {e e' : Ending} (h : OutS t e) (h' : OutS t e') : e = e' := by
  unfold OutS at h h'
  split at h
  · rename_i hb; rw [if_pos hb] at h'; rw [h, h']
  · rename_i hb
    rw [if_neg hb] at h'
    obtain ⟨y, j, hc, rfl⟩ := h
    obtain ⟨y', j', hc', rfl⟩ := h'
    obtain ⟨rfl, rfl⟩ := hc.one hc'
    rfl
/-- What the plain answer tells, once the seconds are off. -/
def Core (A q : List UInt8) (now : Int) (v : Int × Int) : Prop :=
  if Na.pl 10 A = true then ∃ Y, Yr A now Y ∧ v = (match Y with | none => (0, 22) | some y => Na.dRes y (A.drop (A.length - 8)) q) else v = (0, 22)
theorem dtr_dot {A q : List UInt8} {now : Int} {v : Int × Int} (hq : q.length = 2) (h : if Na.pl 10 q = true then Core A q now v else v = (0, 22)) : DtR (A ++ 46 :: q) now v := by
  unfold DtR
  cases ha : Na.has 46 A with
  | true =>
    have hlen := Na.behind_app A (46 :: q) ha
    have hh : Na.has 46 (A ++ 46 :: q) = true := by unfold Na.has; simp
    have hsec : Na.secOf (A ++ 46 :: q) = Na.behind 46 (A ++ 46 :: q) := by unfold Na.secOf; rw [hh]; rfl
    have hv : v = (0, 22) := by
      split at h
      · unfold Core at h; rw [Na.has_pl ha] at h; simpa using h
      · exact h
    rw [if_neg (by rw [hsec]; simp at hlen ⊢; omega)]
    exact hv
  | false =>
    obtain ⟨c1, c2, c3⟩ := Na.cut_at (B := q) (Na.has_mem ha)
    have hsec : Na.secOf (A ++ 46 :: q) = q := by unfold Na.secOf; rw [c3, if_pos rfl, c2]
    rw [hsec, c1]
    by_cases hp : Na.pl 10 q = true
    · rw [if_pos hp] at h
      unfold Core at h
      by_cases hA : Na.pl 10 A = true
      · rw [if_pos hA] at h; rw [if_pos ⟨hq, hp, hA⟩]; exact h
      · rw [if_neg hA] at h; rw [if_neg (fun x => hA x.2.2)]; exact h
    · rw [if_neg hp] at h; rw [if_neg (fun x => hp x.2.1)]; exact h
theorem dtr_plain {s : List UInt8} {now : Int} {v : Int × Int} (hn : ¬ (3 ≤ s.length ∧ s[s.length - 3]? = some 46)) (h : Core s [48, 48] now v) : DtR s now v := by
  unfold DtR
  cases ha : Na.has 46 s with
  | true =>
    have e := Na.has_parts ha
    have hsec : Na.secOf s = Na.behind 46 s := by unfold Na.secOf; rw [ha]; rfl
    have hv : v = (0, 22) := by unfold Core at h; rw [Na.has_pl ha] at h; simpa using h
    rw [if_neg ?_]
    · exact hv
    · rw [hsec]
      rintro ⟨h2, -, -⟩
      apply hn
      have hl : s.length = (Na.ahead 46 s).length + 3 := by
        have := congrArg List.length e
        rw [List.length_append, List.length_cons, h2] at this
        omega
      refine ⟨by omega, ?_⟩
      have hi : s.length - 3 = (Na.ahead 46 s).length := by omega
      rw [hi]
      have : (Na.ahead 46 s ++ 46 :: Na.behind 46 s)[(Na.ahead 46 s).length]? = some 46 := by simp
      rw [← e] at this
      exact this
  | false =>
    have hsec : Na.secOf s = [48, 48] := by unfold Na.secOf; rw [ha]; rfl
    rw [hsec, (has_no ha).1]
    unfold Core at h
    have p0 : Na.pl 10 [48, 48] = true := by decide
    by_cases hA : Na.pl 10 s = true
    · rw [if_pos hA] at h; rw [if_pos ⟨rfl, p0, hA⟩]; exact h
    · rw [if_neg hA] at h; rw [if_neg (fun x => hA x.2.2)]; exact h
end Go.Proofs.YtgkjpfebjhhdkaaDoor
