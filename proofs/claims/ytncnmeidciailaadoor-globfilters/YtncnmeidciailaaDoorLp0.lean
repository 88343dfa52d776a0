/- The plain theory of patterns: what a pattern's pieces match, and that going back to the last star alone finds it. No condition. -/
import Derived.Test.YtncnmeidciailaaDoorProg
namespace Go.Proofs.YtncnmeidciailaaDoor
namespace Gl
/-- The flags that are looked at. -/
structure Fl where
  path : Bool
  period : Bool
  plain : Bool
  fold : Bool
/-- A piece of a pattern. -/
inductive Pc where
  | star
  | any
  | this (c : UInt8)
  | some (g : UInt8 → Bool)
/-- A byte as it is held against others. -/
def fold (f : Fl) (c : UInt8) : UInt8 := if f.fold && decide (65 ≤ c.toNat) && decide (c.toNat ≤ 90) then c + 32 else c
/-- A byte that only the same byte of a pattern matches. -/
def guard (f : Fl) (s : List UInt8) (i : Nat) : Bool :=
  if s[i]? = some 47 then f.path
  else if s[i]? = some 46 then f.period && (decide (i = 0) || f.path && decide (s[i - 1]? = some 47))
  else false
/-- A piece that is no star matches the byte at a place. -/
def takes (f : Fl) (s : List UInt8) : Pc → Nat → Bool
  | .this c, i => (s[i]?.map (fold f)) == some c
  | .some g, i => (s[i]?.map g == some true) && !guard f s i
  | .any, i => s[i]?.isSome && !guard f s i
  | .star, i => s[i]?.isSome && !guard f s i
def Pc.isStar : Pc → Bool
  | .star => true
  | _ => false
/-- The pieces match s from a place on. -/
inductive Mt (f : Fl) (s : List UInt8) : List Pc → Nat → Prop
  | nil : Mt f s [] s.length
  | skip {ps i} : Mt f s ps i → Mt f s (.star :: ps) i
  | more {ps i} : i < s.length → guard f s i = false → Mt f s (.star :: ps) (i + 1) → Mt f s (.star :: ps) i
  | one {x ps i} : x.isStar = false → i < s.length → takes f s x i = true → Mt f s ps (i + 1) → Mt f s (x :: ps) i
variable {f : Fl} {s : List UInt8}
theorem Mt.le {ps : List Pc} {i : Nat} (h : Mt f s ps i) : i ≤ s.length := by
  induction h with
  | nil => exact Nat.le_refl _
  | skip _ ih => exact ih
  | more h _ _ _ => omega
  | one _ h _ _ _ => omega
theorem mt_nil {i : Nat} : Mt f s [] i ↔ i = s.length := ⟨fun h => by cases h; rfl, fun h => by rw [h]; exact .nil⟩
theorem mt_one {x : Pc} {ps : List Pc} {i : Nat} (hx : x.isStar = false) : Mt f s (x :: ps) i ↔ i < s.length ∧ takes f s x i = true ∧ Mt f s ps (i + 1) := by
  constructor
  · intro h
    cases h with
    | skip _ => cases hx
    | more _ _ _ => cases hx
    | one _ h1 h2 h3 => exact ⟨h1, h2, h3⟩
  · rintro ⟨h1, h2, h3⟩; exact .one hx h1 h2 h3
/-- A star that takes at least one byte from t on. -/
def More (f : Fl) (s : List UInt8) (ps : List Pc) (t : Nat) : Prop := t < s.length ∧ guard f s t = false ∧ Mt f s (.star :: ps) (t + 1)
theorem mt_star {ps : List Pc} {i : Nat} : Mt f s (.star :: ps) i ↔ Mt f s ps i ∨ More f s ps i := by
  constructor
  · intro h
    cases h with
    | skip h => exact .inl h
    | more h1 h2 h3 => exact .inr ⟨h1, h2, h3⟩
    | one h _ _ _ => cases h
  · rintro (h | ⟨h1, h2, h3⟩)
    · exact .skip h
    · exact .more h1 h2 h3
/-- A star leads to a place, over bytes that are not guarded. -/
theorem mt_star_iff {ps : List Pc} {i : Nat} : Mt f s (.star :: ps) i ↔ ∃ t, i ≤ t ∧ (∀ x, i ≤ x → x < t → guard f s x = false) ∧ Mt f s ps t := by
  constructor
  · intro h
    generalize hq : (Pc.star :: ps) = q at h
    induction h with
    | nil => cases hq
    | skip h _ => cases hq; exact ⟨_, Nat.le_refl _, fun x h1 h2 => by omega, h⟩
    | @more ps' i h1 h2 h3 ih =>
      cases hq
      obtain ⟨t, a, b, c⟩ := ih rfl
      exact ⟨t, by omega, fun x hx hy => by
        by_cases e : x = i
        · subst e; exact h2
        · exact b x (by omega) hy, c⟩
    | one h _ _ _ => cases hq; cases h
  · rintro ⟨t, h1, h2, h3⟩
    obtain ⟨k, rfl⟩ : ∃ k, t = i + k := ⟨t - i, by omega⟩
    clear h1
    induction k generalizing i with
    | zero => exact .skip h3
    | succ k ih =>
      have hl := h3.le
      refine .more (by omega) (h2 i (Nat.le_refl _) (by omega)) (ih (fun x hx hy => h2 x (by omega) (by omega)) ?_)
      rw [show i + 1 + k = i + (k + 1) by omega]; exact h3
/-- Pieces without a star, byte by byte. -/
def Seg (f : Fl) (s : List UInt8) : List Pc → Nat → Prop
  | [], i => i ≤ s.length
  | x :: q, i => x.isStar = false ∧ i < s.length ∧ takes f s x i = true ∧ Seg f s q (i + 1)
theorem mt_seg {q ps : List Pc} (hq : ∀ x ∈ q, x.isStar = false) : ∀ {i : Nat}, Mt f s (q ++ ps) i ↔ Seg f s q i ∧ Mt f s ps (i + q.length) := by
  induction q with
  | nil => intro i; exact ⟨fun h => ⟨h.le, h⟩, fun h => h.2⟩
  | cons x q ih =>
    intro i
    have hx := hq x (by simp)
    rw [List.cons_append, mt_one hx, ih (fun y hy => hq y (by simp [hy]))]
    simp only [Seg, List.length_cons]
    rw [show i + 1 + q.length = i + (q.length + 1) by omega]
    constructor
    · rintro ⟨a, b, c, d⟩; exact ⟨⟨hx, a, b, c⟩, d⟩
    · rintro ⟨⟨_, a, b, c⟩, d⟩; exact ⟨a, b, c, d⟩
theorem Seg.at {q : List Pc} : ∀ {i : Nat}, Seg f s q i → ∀ j x, q[j]? = some x → i + j < s.length ∧ takes f s x (i + j) = true := by
  induction q with
  | nil => intro i _ j x h; simp at h
  | cons y q ih =>
    rintro i ⟨_, h2, h3, h4⟩ j x h
    cases j with
    | zero => simp at h; subst h; exact ⟨h2, h3⟩
    | succ j =>
      have := ih h4 j x (by simpa using h)
      rw [show i + (j + 1) = i + 1 + j by omega]; exact this
theorem fold_slash {c : UInt8} (d : UInt8) (hd : d = 47 ∨ d = 46) : fold f c = d ↔ c = d := by
  have h : ∀ b : Bool, ∀ c d : UInt8, (d = 47 ∨ d = 46) → ((if b && decide (65 ≤ c.toNat) && decide (c.toNat ≤ 90) then c + 32 else c) = d ↔ c = d) := by
    intro b c d hd
    split
    · rename_i hc
      simp only [Bool.and_eq_true, decide_eq_true_eq] at hc
      have e : (c + 32).toNat = c.toNat + 32 := by rw [UInt8.toNat_add]; show (c.toNat + 32) % 256 = _; omega
      constructor
      · intro h; exfalso
        have := congrArg UInt8.toNat h
        rw [e] at this
        rcases hd with rfl | rfl
        · have : c.toNat + 32 = 47 := this; omega
        · have : c.toNat + 32 = 46 := this; omega
      · intro h; exfalso
        subst h
        rcases hd with rfl | rfl
        · exact absurd hc.1.2 (by decide)
        · exact absurd hc.1.2 (by decide)
    · exact Iff.rfl
  exact h _ _ _ hd
/-- A piece that takes a guarded byte is that byte. -/
theorem takes_guarded {x : Pc} {i j : Nat} (hx : takes f s x i = true) (hg : guard f s i = true) (hy : takes f s x j = true) : s[j]? = s[i]? ∧ (s[i]? = some 47 ∨ s[i]? = some 46) := by
  have hc : s[i]? = some 47 ∨ s[i]? = some 46 := by
    unfold guard at hg
    split at hg
    · left; assumption
    · split at hg
      · right; assumption
      · cases hg
  refine ⟨?_, hc⟩
  cases x with
  | star => simp [takes, hg] at hx
  | any => simp [takes, hg] at hx
  | some g => simp [takes, hg] at hx
  | this c =>
    simp only [takes, beq_iff_eq] at hx hy
    have key : ∀ d : UInt8, (d = 47 ∨ d = 46) → s[i]? = some d → s[j]? = s[i]? := by
      intro d hd h
      rw [h] at hx ⊢
      simp only [Option.map_some, Option.some.injEq] at hx
      have e1 : c = d := by rw [← hx]; exact (fold_slash d hd).2 rfl
      cases hj : s[j]? with
      | none => rw [hj] at hy; cases hy
      | some y =>
        rw [hj] at hy
        simp only [Option.map_some, Option.some.injEq] at hy
        rw [e1] at hy
        rw [(fold_slash d hd).1 hy]
    rcases hc with h | h
    · exact key 47 (.inl rfl) h
    · exact key 46 (.inr rfl) h
/-- Where a run of pieces matches at a place and again further on, the star that got there may go on as far. -/
theorem guard_on {q : List Pc} {a t : Nat} (ha : Seg f s q a) (ht : Seg f s q t) (hat : a < t) (hu : ∀ x, a ≤ x → x < t → guard f s x = false) : ∀ n x, x < a + n → a ≤ x → x < t + q.length → guard f s x = false := by
  intro n
  induction n with
  | zero => intro x h1 h2; omega
  | succ n ih =>
    intro x h1 h2 h3
    by_cases hx : x < t
    · exact hu x h2 hx
    obtain ⟨j, rfl⟩ : ∃ j, x = t + j := ⟨x - t, by omega⟩
    have hj : j < q.length := by omega
    obtain ⟨l1, k1⟩ := ha.at j q[j] (List.getElem?_eq_getElem hj)
    obtain ⟨l2, k2⟩ := ht.at j q[j] (List.getElem?_eq_getElem hj)
    have gy : guard f s (a + j) = false := ih (a + j) (by omega) (by omega) (by omega)
    cases hg : guard f s (t + j) with
    | false => rfl
    | true =>
      exfalso
      obtain ⟨e1, e2⟩ := takes_guarded k2 hg k1
      rcases e2 with e2 | e2
      · unfold guard at hg gy
        rw [if_pos e2] at hg
        rw [if_pos (e1.trans e2), hg] at gy
        cases gy
      · have hne : ¬ s[t + j]? = some 47 := by rw [e2]; decide
        unfold guard at hg
        rw [if_neg hne, if_pos e2] at hg
        simp only [Bool.and_eq_true, Bool.or_eq_true, decide_eq_true_eq] at hg
        obtain ⟨_, hg | ⟨hp, hs⟩⟩ := hg
        · omega
        · have gz : guard f s (t + j - 1) = false := ih (t + j - 1) (by omega) (by omega) (by omega)
          unfold guard at gz
          rw [if_pos hs, hp] at gz
          cases gz
/-- What is left of the last star: nothing, or that it takes more. -/
def Left (f : Fl) (s : List UInt8) (ps : List Pc) : Option (Nat × Nat) → Prop
  | none => False
  | some (behind, taken) => More f s (ps.drop behind) taken
/-- The way that the loop has gone since the last star. -/
def Way (f : Fl) (s : List UInt8) (ps : List Pc) (o : Option (Nat × Nat)) (at_ i : Nat) : Prop :=
  match o with
  | none => (∀ x ∈ ps.take at_, x.isStar = false) ∧ i = at_
  | some (behind, taken) => ∃ q, ps.drop behind = q ++ ps.drop at_ ∧ (∀ x ∈ q, x.isStar = false) ∧ Seg f s q taken ∧ at_ = behind + q.length ∧ i = taken + q.length
theorem step_star {ps : List Pc} {o : Option (Nat × Nat)} {at_ i : Nat} (hw : Way f s ps o at_ i) (hx : ps[at_]? = some .star) : (Mt f s (ps.drop at_) i ∨ Left f s ps o) ↔ (Mt f s (ps.drop (at_ + 1)) i ∨ Left f s ps (some (at_ + 1, i))) := by
  have hd : ps.drop at_ = .star :: ps.drop (at_ + 1) := by
    obtain ⟨h, e⟩ := List.getElem?_eq_some_iff.1 hx
    rw [List.drop_eq_getElem_cons h, e]
  rw [hd, mt_star]
  refine ⟨fun h => ?_, fun h => .inl h⟩
  rcases h with h | h
  · exact h
  · rw [show (Mt f s (ps.drop (at_ + 1)) i ∨ Left f s ps (some (at_ + 1, i))) ↔ Mt f s (.star :: ps.drop (at_ + 1)) i from mt_star.symm]
    match o, hw, h with
    | some (behind, taken), hw, h =>
      obtain ⟨q, e1, e2, e3, e4, e5⟩ := hw
      obtain ⟨h1, h2, h3⟩ := h
      obtain ⟨t, a, b, c⟩ := mt_star_iff.1 h3
      rw [e1, mt_seg e2, hd] at c
      obtain ⟨c1, c2⟩ := c
      have hu : ∀ x, taken ≤ x → x < t → guard f s x = false := fun x hx hy => by
        by_cases e : x = taken
        · rw [e]; exact h2
        · exact b x (by omega) hy
      have hg := guard_on e3 c1 (by omega) hu
      obtain ⟨t2, a2, b2, c3⟩ := mt_star_iff.1 c2
      refine mt_star_iff.2 ⟨t2, by omega, fun x hx hy => ?_, c3⟩
      by_cases e : x < t + q.length
      · exact hg (x + 1) x (by omega) (by omega) e
      · exact b2 x (by omega) hy
theorem Way.star {ps : List Pc} {at_ i : Nat} (hi : i ≤ s.length) : Way f s ps (some (at_ + 1, i)) (at_ + 1) i := ⟨[], rfl, by simp, hi, rfl, rfl⟩
theorem Seg.snoc {q : List Pc} {x : Pc} : ∀ {i : Nat}, Seg f s q i → x.isStar = false → i + q.length < s.length → takes f s x (i + q.length) = true → Seg f s (q ++ [x]) i := by
  induction q with
  | nil => intro i _ h1 h2 h3; exact ⟨h1, h2, h3, by simp at h2; show i + 1 ≤ _; omega⟩
  | cons y q ih =>
    rintro i ⟨a, b, c, d⟩ h1 h2 h3
    refine ⟨a, b, c, ih d h1 ?_ ?_⟩
    · simp at h2; omega
    · rw [show i + 1 + q.length = i + (y :: q).length by simp; omega]; exact h3
theorem Way.one {ps : List Pc} {o : Option (Nat × Nat)} {at_ i : Nat} {x : Pc} (hw : Way f s ps o at_ i) (hx : ps[at_]? = some x) (hs : x.isStar = false) (hi : i < s.length) (ht : takes f s x i = true) : Way f s ps o (at_ + 1) (i + 1) := by
  obtain ⟨hl, e⟩ := List.getElem?_eq_some_iff.1 hx
  match o, hw with
  | none, hw =>
    refine ⟨fun y hy => ?_, by rw [hw.2]⟩
    rw [List.take_succ_eq_append_getElem hl, e] at hy
    rcases List.mem_append.1 hy with h | h
    · exact hw.1 y h
    · simp at h; subst h; exact hs
  | some (behind, taken), hw =>
    obtain ⟨q, e1, e2, e3, e4, e5⟩ := hw
    refine ⟨q ++ [x], ?_, fun y hy => ?_, e3.snoc hs (by omega) (by rw [← e5]; exact ht), by simp; omega, by simp; omega⟩
    · rw [e1, List.drop_eq_getElem_cons hl, e]; simp
    · rcases List.mem_append.1 hy with h | h
      · exact e2 y h
      · simp at h; subst h; exact hs
theorem Way.rng {ps : List Pc} {behind taken at_ i : Nat} (hw : Way f s ps (some (behind, taken)) at_ i) : behind ≤ at_ ∧ taken ≤ i := by
  obtain ⟨q, e1, e2, e3, e4, e5⟩ := hw
  omega
/-- At the text's end a piece is missing, whatever the star takes. -/
theorem left_end {ps : List Pc} {o : Option (Nat × Nat)} {at_ i : Nat} {x : Pc} (hw : Way f s ps o at_ i) (hx : ps[at_]? = some x) (hs : x.isStar = false) (hi : i = s.length) : ¬ (Mt f s (ps.drop at_) i ∨ Left f s ps o) := by
  obtain ⟨hl, e⟩ := List.getElem?_eq_some_iff.1 hx
  have hd : ps.drop at_ = x :: ps.drop (at_ + 1) := by rw [List.drop_eq_getElem_cons hl, e]
  rintro (h | h)
  · rw [hd, mt_one hs] at h; omega
  · match o, hw, h with
    | some (behind, taken), hw, h =>
      obtain ⟨q, e1, e2, e3, e4, e5⟩ := hw
      obtain ⟨h1, h2, h3⟩ := h
      obtain ⟨t, a, b, c⟩ := mt_star_iff.1 h3
      rw [e1, mt_seg e2, hd, mt_one hs] at c
      omega
/-- Going back: the star takes one byte more. -/
theorem step_back {ps : List Pc} {behind taken : Nat} (hl : taken < s.length) (hg : guard f s taken = false) : Left f s ps (some (behind, taken)) ↔ (Mt f s (ps.drop behind) (taken + 1) ∨ Left f s ps (some (behind, taken + 1))) := by
  show More f s (ps.drop behind) taken ↔ (_ ∨ More f s (ps.drop behind) (taken + 1))
  rw [← mt_star]
  exact ⟨fun h => h.2.2, fun h => ⟨hl, hg, h⟩⟩
theorem left_guard {ps : List Pc} {behind taken : Nat} (hg : guard f s taken = true) : ¬ Left f s ps (some (behind, taken)) := by
  rintro ⟨_, h, _⟩; rw [hg] at h; cases h
theorem Way.back {ps : List Pc} {behind taken : Nat} (hl : taken < s.length) : Way f s ps (some (behind, taken + 1)) behind (taken + 1) := ⟨[], rfl, by simp, hl, rfl, rfl⟩
theorem miss {ps : List Pc} {at_ i : Nat} {x : Pc} (hx : ps[at_]? = some x) (hs : x.isStar = false) (ht : takes f s x i = false) : ¬ Mt f s (ps.drop at_) i := by
  obtain ⟨hl, e⟩ := List.getElem?_eq_some_iff.1 hx
  rw [List.drop_eq_getElem_cons hl, e, mt_one hs, ht]
  rintro ⟨_, h, _⟩; cases h
theorem hit {ps : List Pc} {at_ i : Nat} {x : Pc} (hx : ps[at_]? = some x) (hs : x.isStar = false) (hi : i < s.length) (ht : takes f s x i = true) : Mt f s (ps.drop at_) i ↔ Mt f s (ps.drop (at_ + 1)) (i + 1) := by
  obtain ⟨hl, e⟩ := List.getElem?_eq_some_iff.1 hx
  rw [List.drop_eq_getElem_cons hl, e, mt_one hs]
  exact ⟨fun h => h.2.2, fun h => ⟨hi, ht, h⟩⟩
end Gl
end Go.Proofs.YtncnmeidciailaaDoor
