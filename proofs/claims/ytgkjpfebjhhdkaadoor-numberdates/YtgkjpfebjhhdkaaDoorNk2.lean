/- Ranges written and read again, in plain numbers. -/
import Derived.Test.YtgkjpfebjhhdkaaDoorNk1
import Derived.Test.YtgkjpfebjhhdkaaDoorNp2
namespace Go.Proofs.YtgkjpfebjhhdkaaDoor
namespace Na
/-- A range as Ranges tells it. -/
def wf (x : Rg) : Prop := 1 ≤ x.1 ∧ x.1 ≤ mx ∧ (x.2 = -1 ∨ (x.1 ≤ x.2 ∧ x.2 ≤ mx))
def aft (a b : Rg) : Prop := a.2 ≠ -1 ∧ a.2 + 1 < b.1
def Can (l : List Rg) : Prop := (∀ x ∈ l, wf x) ∧ l.Pairwise aft
theorem item_wf {it : List UInt8} {x : Rg} (hi : isItem it = true) (h : itemR it = some x) : wf x := by
  obtain ⟨d1, d2⟩ := item_digs hi
  unfold itemR rOf at h
  unfold isItem at hi
  simp only [Bool.and_eq_true, Bool.or_eq_true] at hi
  have hlo := counts_V hi.1.2
  rw [vl_V d1] at h
  by_cases h1 : V (elo it) ≤ mx
  · rw [if_pos h1] at h
    dsimp only at h
    rcases hi.2 with he | ⟨hc, hs⟩
    · rw [if_pos he] at h
      cases h
      exact ⟨hlo, h1, .inl rfl⟩
    · rw [sml_eq d2 d1] at hs
      have hs2 : ¬ V (ehi it) < V (elo it) := by simpa using hs
      by_cases he : (ehi it).isEmpty = true
      · rw [if_pos he] at h
        cases h
        exact ⟨hlo, h1, .inl rfl⟩
      · rw [if_neg he, vl_V d2] at h
        by_cases h2 : V (ehi it) ≤ mx
        · rw [if_pos h2] at h
          cases h
          exact ⟨hlo, h1, .inr ⟨by show V (elo it) ≤ V (ehi it); omega, h2⟩⟩
        · rw [if_neg h2] at h; cases h
  · rw [if_neg h1] at h; cases h
theorem mapM_mem {f : List UInt8 → Option Rg} : ∀ {l : List (List UInt8)} {rs : List Rg}, l.mapM f = some rs → ∀ x ∈ rs, ∃ a ∈ l, f a = some x
  | [], rs, h, x, hx => by simp at h; subst h; simp at hx
  | a :: l, rs, h, x, hx => by
    rw [List.mapM_cons] at h
    cases ha : f a with
    | none => rw [ha] at h; cases h
    | some y =>
      rw [ha] at h
      cases hl : l.mapM f with
      | none => rw [hl] at h; cases h
      | some ys =>
        rw [hl] at h
        cases h
        rcases List.mem_cons.1 hx with rfl | hx
        · exact ⟨a, by simp, ha⟩
        · obtain ⟨b, hb, hf⟩ := mapM_mem hl x hx
          exact ⟨b, by simp [hb], hf⟩
theorem rs_wf {l : List UInt8} {rs : List Rg} (ha : allI l = true) (h : rsOf l = some rs) : ∀ x ∈ rs, wf x := by
  intro x hx
  obtain ⟨a, hm, hf⟩ := mapM_mem h x hx
  exact item_wf (List.all_eq_true.1 ha a hm) hf
theorem jn_can : ∀ (t : List Rg) (c : Rg), wf c → (∀ r ∈ t, wf r) → (∀ r ∈ t, c.1 ≤ r.1) → t.Pairwise (fun a b => a.1 ≤ b.1) → (∀ x ∈ jn c t, wf x ∧ c.1 ≤ x.1) ∧ (jn c t).Pairwise aft
  | [], c, hc, _, _, _ => by simp [jn, hc]
  | r :: t, c, hc, hw, hl, hp => by
    obtain ⟨hp1, hp2⟩ := List.pairwise_cons.1 hp
    have hr := hw r (by simp)
    have hcr := hl r (by simp)
    have hwt : ∀ x ∈ t, wf x := fun x hx => hw x (by simp [hx])
    rw [jn]
    split
    · simp [hc]
    · rename_i hn
      split
      · rename_i h1
        obtain ⟨i1, i2⟩ := jn_can t r hr hwt hp1 hp2
        refine ⟨fun x hx => ?_, List.pairwise_cons.2 ⟨fun x hx => ⟨hn, ?_⟩, i2⟩⟩
        · rcases List.mem_cons.1 hx with rfl | hx
          · exact ⟨hc, Int.le_refl _⟩
          · have := i1 x hx; exact ⟨this.1, by omega⟩
        · have := (i1 x hx).2; omega
      · split
        · rename_i h1 h2
          have hc2 : wf (c.1, r.2) := by
            refine ⟨hc.1, hc.2.1, ?_⟩
            show r.2 = -1 ∨ (c.1 ≤ r.2 ∧ r.2 ≤ mx)
            rcases hr.2.2 with e | e
            · exact .inl e
            · exact .inr ⟨by omega, e.2⟩
          exact jn_can t (c.1, r.2) hc2 hwt (fun x hx => Int.le_trans hcr (hp1 x hx)) hp2
        · exact jn_can t c hc hwt (fun x hx => Int.le_trans hcr (hp1 x hx)) hp2
theorem join_can {ds : List Rg} (hw : ∀ r ∈ ds, wf r) (hp : ds.Pairwise (fun a b => a.1 ≤ b.1)) : Can (join ds) := by
  cases ds with
  | nil => exact ⟨fun x hx => by simp [join] at hx, List.Pairwise.nil⟩
  | cons c t =>
    obtain ⟨h1, h2⟩ := List.pairwise_cons.1 hp
    obtain ⟨i1, i2⟩ := jn_can t c (hw c (by simp)) (fun x hx => hw x (by simp [hx])) h1 h2
    exact ⟨fun x hx => (i1 x hx).1, i2⟩
theorem jn_self : ∀ (t : List Rg) (c : Rg), (c :: t).Pairwise aft → jn c t = c :: t
  | [], c, _ => rfl
  | r :: t, c, h => by
    obtain ⟨h1, h2⟩ := List.pairwise_cons.1 h
    have hr := h1 r (by simp)
    rw [jn, if_neg hr.1, if_pos hr.2, jn_self t r h2]
theorem join_self {l : List Rg} (h : Can l) : join l = l := by
  cases l with
  | nil => rfl
  | cons c t => exact jn_self t c h.2
theorem can_lt {l : List Rg} (h : Can l) : l.Pairwise (fun a b => a.1 < b.1) := by
  rw [List.pairwise_iff_getElem]
  intro i j hi hj hij
  have ha := List.pairwise_iff_getElem.1 h.2 i j hi hj hij
  have hw := h.1 l[i] (List.getElem_mem hi)
  rcases hw.2.2 with e | e
  · exact absurd e ha.1
  · have := ha.2; omega
theorem perm_self {l ds : List Rg} (h : Can l) (hp : ds.Perm l) (hs : ds.Pairwise (fun a b => a.1 ≤ b.1)) : ds = l := by
  have hlt := can_lt h
  refine List.Perm.eq_of_pairwise (fun a b ha hb h1 h2 => ?_) hs (hlt.imp (fun h => Int.le_of_lt h)) hp
  have ha2 := hp.mem_iff.1 ha
  obtain ⟨i, hi, rfl⟩ := List.mem_iff_getElem.1 ha2
  obtain ⟨j, hj, rfl⟩ := List.mem_iff_getElem.1 hb
  by_cases e : i = j
  · subst e; rfl
  · exfalso
    by_cases h3 : i < j
    · have := List.pairwise_iff_getElem.1 hlt i j hi hj h3; omega
    · have := List.pairwise_iff_getElem.1 hlt j i hj hi (by omega); omega
/-- Is a number in ranges? -/
def hasP (l : List Rg) (n : Int) : Bool := l.any (fun r => decide (r.1 ≤ n) && (decide (n ≤ r.2) || decide (r.2 = -1)))
theorem gap {l : List Rg} (h : Can l) (i : Nat) (hi : i < l.length) : hasP l (l[i].1 - 1) = false := by
  unfold hasP
  rw [List.any_eq_false]
  intro r hr
  obtain ⟨j, hj, rfl⟩ := List.mem_iff_getElem.1 hr
  simp only [Bool.and_eq_true, Bool.or_eq_true, decide_eq_true_eq]
  rintro ⟨h1, h2⟩
  by_cases hji : j < i
  · have ha := List.pairwise_iff_getElem.1 h.2 j i hj hi hji
    rcases h2 with h2 | h2
    · have := ha.2; omega
    · exact ha.1 h2
  · by_cases e : j = i
    · subst e; omega
    · have := List.pairwise_iff_getElem.1 (can_lt h) i j hi hj (by omega); omega
theorem steps {l : List Rg} (h : Can l) (i : Nat) (hi : i + 1 < l.length) : (l[i]'(by omega)).2 ≠ -1 ∧ (l[i]'(by omega)).2 + 1 < l[i + 1].1 := List.pairwise_iff_getElem.1 h.2 i (i + 1) (by omega) hi (by omega)
end Na
end Go.Proofs.YtgkjpfebjhhdkaaDoor
