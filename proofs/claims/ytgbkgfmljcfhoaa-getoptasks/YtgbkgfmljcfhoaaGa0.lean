/- Plain facts on specs, options and operands as lists of bytes. No condition. -/
import Derived.Lib.Strings
namespace Go.Proofs.Ytgbkgfmljcfhoaa
namespace Ga
/-- A letter or a digit. -/
def letB (n : Int) : Bool := ((decide (97 ≤ n) && decide (n ≤ 122)) || (decide (65 ≤ n) && decide (n ≤ 90))) || (decide (48 ≤ n) && decide (n ≤ 57))
/-- What a spec's place must be. -/
def okAt (l : List UInt8) (i : Nat) : Bool :=
  match l[i]? with
  | none => true
  | some c => if c = 58 then decide (0 < i) && decide (l[i - 1]? ≠ some 58) else letB c.toNat && !(l.take i).contains c
def specB (l : List UInt8) : Bool := (List.range l.length).all (okAt l)
def bare (l : List UInt8) : List UInt8 := if l.head? = some 43 then l.tail else l
def plus (l : List UInt8) : Bool := l.head? == some 43
/-- The letters without, and with, an argument among the first i places. -/
def alP (l : List UInt8) : Nat → List UInt8
  | 0 => []
  | i + 1 => match l[i]? with
    | none => alP l i
    | some c => if c = 58 ∨ l[i + 1]? = some 58 then alP l i else alP l i ++ [c]
def tkP (l : List UInt8) : Nat → List UInt8
  | 0 => []
  | i + 1 => match l[i]? with
    | none => tkP l i
    | some c => if c ≠ 58 ∧ l[i + 1]? = some 58 then tkP l i ++ [c] else tkP l i
def knd (al tk : List UInt8) (c : UInt8) : Option Bool := if c ∈ al then some false else if c ∈ tk then some true else none
def kndN : Option Bool → Int
  | none => 0
  | some false => 1
  | some true => 2
/-- Does a byte stand in a spec, and does it take an argument? -/
def tks : List UInt8 → UInt8 → Option Bool
  | [], _ => none
  | c :: r, b => if c = b ∧ b ≠ 58 then some (decide (r.head? = some 58)) else tks r b
theorem mem_al (l : List UInt8) (c : UInt8) : ∀ i, c ∈ alP l i ↔ ∃ j, j < i ∧ l[j]? = some c ∧ c ≠ 58 ∧ l[j + 1]? ≠ some 58
  | 0 => by simp [alP]
  | i + 1 => by
    have ih := mem_al l c i
    rw [alP]
    constructor
    · intro h
      cases he : l[i]? with
      | none => rw [he] at h; obtain ⟨j, hj, r⟩ := ih.1 h; exact ⟨j, by omega, r⟩
      | some d =>
        rw [he] at h
        dsimp only at h
        split at h
        · obtain ⟨j, hj, r⟩ := ih.1 h; exact ⟨j, by omega, r⟩
        · rename_i hn
          rw [List.mem_append, List.mem_singleton] at h
          rcases h with h | rfl
          · obtain ⟨j, hj, r⟩ := ih.1 h; exact ⟨j, by omega, r⟩
          · exact ⟨i, by omega, he, fun e => hn (.inl e), fun e => hn (.inr e)⟩
    · rintro ⟨j, hj, h1, h2, h3⟩
      by_cases hji : j = i
      · subst hji
        rw [h1]
        dsimp only
        rw [if_neg (by rintro (e | e); exact h2 e; exact h3 e)]
        simp
      · have := ih.2 ⟨j, by omega, h1, h2, h3⟩
        cases he : l[i]? with
        | none => exact this
        | some d =>
          dsimp only
          split
          · exact this
          · exact List.mem_append_left _ this
theorem mem_tk (l : List UInt8) (c : UInt8) : ∀ i, c ∈ tkP l i ↔ ∃ j, j < i ∧ l[j]? = some c ∧ c ≠ 58 ∧ l[j + 1]? = some 58
  | 0 => by simp [tkP]
  | i + 1 => by
    have ih := mem_tk l c i
    rw [tkP]
    constructor
    · intro h
      cases he : l[i]? with
      | none => rw [he] at h; obtain ⟨j, hj, r⟩ := ih.1 h; exact ⟨j, by omega, r⟩
      | some d =>
        rw [he] at h
        dsimp only at h
        split at h
        · rename_i hn
          rw [List.mem_append, List.mem_singleton] at h
          rcases h with h | rfl
          · obtain ⟨j, hj, r⟩ := ih.1 h; exact ⟨j, by omega, r⟩
          · exact ⟨i, by omega, he, hn.1, hn.2⟩
        · obtain ⟨j, hj, r⟩ := ih.1 h; exact ⟨j, by omega, r⟩
    · rintro ⟨j, hj, h1, h2, h3⟩
      by_cases hji : j = i
      · subst hji
        rw [h1]
        dsimp only
        rw [if_pos ⟨h2, h3⟩]
        simp
      · have := ih.2 ⟨j, by omega, h1, h2, h3⟩
        cases he : l[i]? with
        | none => exact this
        | some d =>
          dsimp only
          split
          · exact List.mem_append_left _ this
          · exact this
/-- The letters so far are those of the spec so far. -/
theorem mem_both (l : List UInt8) (c : UInt8) (hc : c ≠ 58) (i : Nat) : (c ∈ alP l i ∨ c ∈ tkP l i) ↔ c ∈ l.take i := by
  rw [mem_al, mem_tk, List.mem_iff_getElem?]
  constructor
  · rintro (⟨j, hj, h1, _⟩ | ⟨j, hj, h1, _⟩) <;> exact ⟨j, by rw [List.getElem?_take, if_pos hj]; exact h1⟩
  · rintro ⟨j, h⟩
    rw [List.getElem?_take] at h
    split at h
    · by_cases h3 : l[j + 1]? = some 58
      · exact .inr ⟨j, by assumption, h, hc, h3⟩
      · exact .inl ⟨j, by assumption, h, hc, h3⟩
    · cases h
theorem tks_some (l : List UInt8) (b : UInt8) (x : Bool) (h : tks l b = some x) : ∃ j, l[j]? = some b ∧ b ≠ 58 ∧ x = decide (l[j + 1]? = some 58) := by
  induction l with
  | nil => simp [tks] at h
  | cons c r ih =>
    rw [tks] at h
    split at h
    · rename_i hc
      refine ⟨0, by simp [hc.1], hc.2, ?_⟩
      rw [← Option.some.inj h]
      cases r <;> simp
    · obtain ⟨j, h1, h2, h3⟩ := ih h
      exact ⟨j + 1, by simpa using h1, h2, by simpa using h3⟩
theorem tks_none (l : List UInt8) (b : UInt8) (h : tks l b = none) (hb : b ≠ 58) : b ∉ l := by
  induction l with
  | nil => simp
  | cons c r ih =>
    rw [tks] at h
    split at h
    · cases h
    · rename_i hc
      have hcb : c ≠ b := fun e => hc ⟨e, hb⟩
      simp only [List.mem_cons, not_or]
      exact ⟨fun e => hcb e.symm, ih h⟩
theorem tks_58 (l : List UInt8) : tks l 58 = none := by
  induction l with
  | nil => rfl
  | cons c r ih => rw [tks, if_neg (by simp)]; exact ih
theorem ok_at {l : List UInt8} (h : specB l = true) {i : Nat} {c : UInt8} (hi : l[i]? = some c) (hc : c ≠ 58) : letB c.toNat = true ∧ c ∉ l.take i := by
  have hlt : i < l.length := (List.getElem?_eq_some_iff.1 hi).1
  have := List.all_eq_true.1 h i (List.mem_range.2 hlt)
  unfold okAt at this
  rw [hi] at this
  dsimp only at this
  rw [if_neg hc, Bool.and_eq_true] at this
  refine ⟨this.1, fun hm => ?_⟩
  have h2 := this.2
  rw [List.contains_iff_mem.2 hm] at h2
  simp at h2
/-- Each letter stands once. -/
theorem once {l : List UInt8} (h : specB l = true) {i j : Nat} {c : UInt8} (hc : c ≠ 58) (hi : l[i]? = some c) (hj : l[j]? = some c) : i = j := by
  rcases Nat.lt_trichotomy i j with hlt | heq | hlt
  · exact absurd (List.mem_iff_getElem?.2 ⟨i, by rw [List.getElem?_take, if_pos hlt]; exact hi⟩) (ok_at h hj hc).2
  · exact heq
  · exact absurd (List.mem_iff_getElem?.2 ⟨j, by rw [List.getElem?_take, if_pos hlt]; exact hj⟩) (ok_at h hi hc).2
/-- The two ways to look a letter up. -/
theorem knd_tks (l : List UInt8) (h : specB l = true) (c : UInt8) : knd (alP l l.length) (tkP l l.length) c = tks l c := by
  have hlt : ∀ j (d : UInt8), l[j]? = some d → j < l.length := fun j d e => (List.getElem?_eq_some_iff.1 e).1
  by_cases hc : c = 58
  · subst hc
    rw [tks_58, knd, if_neg, if_neg]
    · rw [mem_tk]; rintro ⟨j, _, _, h2, _⟩; exact h2 rfl
    · rw [mem_al]; rintro ⟨j, _, _, h2, _⟩; exact h2 rfl
  · cases ht : tks l c with
    | none =>
      have hm := tks_none l c ht hc
      have : ¬ (c ∈ alP l l.length ∨ c ∈ tkP l l.length) := fun e => hm (by have := (mem_both l c hc l.length).1 e; rwa [List.take_length] at this)
      rw [knd, if_neg (fun e => this (.inl e)), if_neg (fun e => this (.inr e))]
    | some x =>
      obtain ⟨j, h1, _, hx⟩ := tks_some l c x ht
      by_cases h3 : l[j + 1]? = some 58
      · rw [knd, if_neg, if_pos, hx]
        · simp [h3]
        · exact (mem_tk l c _).2 ⟨j, hlt j c h1, h1, hc, h3⟩
        · rw [mem_al]
          rintro ⟨k, _, hk, _, hk3⟩
          exact hk3 (once h hc h1 hk ▸ h3)
      · rw [knd, if_pos, hx]
        · simp [h3]
        · exact (mem_al l c _).2 ⟨j, hlt j c h1, h1, hc, h3⟩
abbrev Opt := List UInt8 × List UInt8
inductive Res
  | bad (name : List UInt8) (missing : Bool)
  | ok (opts : List Opt) (rest : List (List UInt8))
/-- A cluster's letters, with the arguments that are left and the options so far. -/
def clu (k : UInt8 → Option Bool) : List UInt8 → List (List UInt8) → List Opt → Sum (List UInt8 × Bool) (List Opt × List (List UInt8))
  | [], as, o => .inr (o, as)
  | c :: r, as, o => match k c with
    | none => .inl ([c], false)
    | some false => clu k r as (o ++ [([c], [])])
    | some true => if r = [] then (match as with
        | [] => .inl ([c], true)
        | a :: as' => .inr (o ++ [([c], a)], as'))
      else .inr (o ++ [([c], r)], as)
def prs (st : Bool) (k : UInt8 → Option Bool) : Nat → List (List UInt8) → List Opt → List (List UInt8) → Res
  | 0, _, o, r => .ok o r
  | _ + 1, [], o, r => .ok o r
  | n + 1, s :: as, o, r =>
    if s = [45, 45] then .ok o (r ++ as)
    else if 1 < s.length ∧ s.head? = some 45 then (match clu k s.tail as o with
      | .inl b => .bad b.1 b.2
      | .inr x => prs st k n x.2 x.1 r)
    else if st then .ok o (r ++ (s :: as)) else prs st k n as o (r ++ [s])
def parse (spec : List UInt8) (args : List (List UInt8)) : Res := prs (plus spec) (tks (bare spec)) args.length args [] []
end Ga
end Go.Proofs.Ytgbkgfmljcfhoaa
