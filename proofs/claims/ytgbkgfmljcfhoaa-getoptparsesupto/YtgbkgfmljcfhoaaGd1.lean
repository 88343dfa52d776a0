/- Parsing what Join wrote tells the options and operands again: plain facts. No condition. -/
import Derived.Test.YtgbkgfmljcfhoaaGc3
import Derived.Test.YtgbkgfmljcfhoaaGr1
namespace Go.Proofs.Ytgbkgfmljcfhoaa
/-- An option that a cluster can tell. -/
def good (k : UInt8 → Option Bool) (o : Ga.Opt) : Prop := ∃ c, o.1 = [c] ∧ ((k c = some false ∧ o.2 = []) ∨ k c = some true)
/-- Its arguments. -/
def wds1 (k : UInt8 → Option Bool) (o : Ga.Opt) : List (List UInt8) := match oneS k o.1 with
  | some true => [45 :: o.1, o.2]
  | _ => [45 :: o.1]
def wds (k : UInt8 → Option Bool) (l : List Ga.Opt) : List (List UInt8) := l.flatMap (wds1 k)
theorem wt_app (a b : List (List UInt8)) : wt (a ++ b) = wt a + wt b := by simp [wt]
theorem wtO_app (a b : List Ga.Opt) : wtO (a ++ b) = wtO a + wtO b := by simp [wtO]
theorem wtO_one (o : Ga.Opt) : wtO [o] = o.1.length + o.2.length + 3 := by simp [wtO]
theorem wt_nil : wt [] = 0 := rfl
theorem twa_good {k : UInt8 → Option Bool} {c : UInt8} {bh : List UInt8} {l : List (List UInt8)} {o : List Ga.Opt} {x : List Ga.Opt × List (List UInt8)} (hk : k c = some true) (h : twa [c] bh l o = .inr x) (hg : ∀ q ∈ o, good k q) :
    (∀ q ∈ x.1, good k q) ∧ wtO x.1 + wt x.2 ≤ wtO o + 4 * (bh.length + 1) + wt l := by
  unfold twa at h
  split at h
  · cases l with
    | nil => cases h
    | cons y r =>
      cases h
      refine ⟨fun q hq => ?_, ?_⟩
      · rcases List.mem_append.1 hq with hq | hq
        · exact hg q hq
        · rw [List.mem_singleton] at hq; subst hq; exact ⟨c, rfl, .inr hk⟩
      · dsimp only; rw [wtO_app, wtO_one, wt_cons]; simp; omega
  · cases h
    refine ⟨fun q hq => ?_, ?_⟩
    · rcases List.mem_append.1 hq with hq | hq
      · exact hg q hq
      · rw [List.mem_singleton] at hq; subst hq; exact ⟨c, rfl, .inr hk⟩
    · dsimp only; rw [wtO_app, wtO_one]; simp; omega
theorem clu_good (k : UInt8 → Option Bool) (cl : List UInt8) : ∀ (l : List (List UInt8)) (o : List Ga.Opt) (x : List Ga.Opt × List (List UInt8)), Ga.clu k cl l o = .inr x → (∀ q ∈ o, good k q) →
    (∀ q ∈ x.1, good k q) ∧ wtO x.1 + wt x.2 ≤ wtO o + 4 * cl.length + wt l := by
  induction cl with
  | nil => intro l o x h hg; simp only [Ga.clu] at h; cases h; exact ⟨hg, by simp⟩
  | cons c r ih =>
    intro l o x h hg
    rw [clu_cons] at h
    cases hk : k c with
    | none => rw [hk] at h; cases h
    | some b =>
      rw [hk] at h
      cases b with
      | false =>
        have := ih _ _ _ h (fun q hq => by
          rcases List.mem_append.1 hq with hq | hq
          · exact hg q hq
          · rw [List.mem_singleton] at hq; subst hq; exact ⟨c, rfl, .inl ⟨hk, rfl⟩⟩)
        refine ⟨this.1, ?_⟩
        have h2 := this.2
        rw [wtO_app, wtO_one] at h2
        simp at h2 ⊢; omega
      | true => have := twa_good hk h hg; refine ⟨this.1, ?_⟩; have h2 := this.2; simp; omega
theorem prs_good (st : Bool) (k : UInt8 → Option Bool) : ∀ (n : Nat) (l : List (List UInt8)) (o : List Ga.Opt) (r : List (List UInt8)) (o' : List Ga.Opt) (r' : List (List UInt8)), Ga.prs st k n l o r = .ok o' r' → l.length ≤ n → (∀ q ∈ o, good k q) →
    (∀ q ∈ o', good k q) ∧ wtO o' + wt r' ≤ wtO o + wt r + 4 * wt l
  | 0, l, o, r, o', r', h, _, hg => by cases h; exact ⟨hg, by omega⟩
  | n + 1, [], o, r, o', r', h, _, hg => by cases h; exact ⟨hg, by omega⟩
  | n + 1, s :: l, o, r, o', r', h, hl, hg => by
    rw [prs_step] at h
    cases ht : tkR st k s l o r with
    | inl b => rw [ht] at h; cases h
    | inr x =>
      rw [ht] at h
      have hle := (tkR_le ht).1
      have key : (∀ q ∈ x.1, good k q) ∧ wtO x.1 + wt x.2.2 + 4 * wt x.2.1 ≤ wtO o + wt r + 4 * wt (s :: l) := by
        unfold tkR at ht
        rw [wt_cons]
        split at ht
        · cases ht; exact ⟨hg, by dsimp only; rw [wt_app, wt_nil]; omega⟩
        · split at ht
          · cases hc : Ga.clu k s.tail l o with
            | inl b => rw [hc] at ht; cases ht
            | inr y =>
              rw [hc] at ht
              cases ht
              have h1 := clu_good k _ _ _ _ hc hg
              have h2 := clu_le k _ _ _ _ hc
              refine ⟨h1.1, ?_⟩
              have h3 := h1.2
              have h4 := h2.2.2
              simp at h3
              dsimp only; omega
          · split at ht
            · cases ht; exact ⟨hg, by dsimp only; rw [wt_app, wt_cons, wt_nil]; omega⟩
            · cases ht; exact ⟨hg, by dsimp only; rw [wt_app, wt_cons, wt_nil]; omega⟩
      have := prs_good st k n _ _ _ _ _ h (by simp at hl; omega) key.1
      exact ⟨this.1, by have := this.2; have := key.2; omega⟩
theorem jns_good (k : UInt8 → Option Bool) : ∀ (l : List Ga.Opt) (ws : List (List UInt8)), (∀ q ∈ l, good k q) → jns (oneS k) l ws = some (ws ++ wds k l)
  | [], ws, _ => by simp [jns, wds]
  | o :: r, ws, h => by
    obtain ⟨c, h1, h2⟩ := h o (by simp)
    obtain ⟨n, a⟩ := o
    dsimp only at h1 h2
    subst h1
    have ho : oneS k [c] = k c := rfl
    rw [jns]
    rcases h2 with ⟨h2, rfl⟩ | h2
    · dsimp only; rw [ho, h2]; dsimp only; rw [if_pos rfl, jns_good k r _ (fun q hq => h q (by simp [hq]))]
      simp [wds, wds1, ho, h2]
    · dsimp only; rw [ho, h2]; dsimp only; rw [jns_good k r _ (fun q hq => h q (by simp [hq]))]
      simp [wds, wds1, ho, h2]
theorem wt_wds (k : UInt8 → Option Bool) : ∀ (l : List Ga.Opt), (∀ q ∈ l, good k q) → wt (wds k l) ≤ wtO l
  | [], _ => by simp [wds, wt]
  | o :: r, h => by
    obtain ⟨c, h1, h2⟩ := h o (by simp)
    obtain ⟨n, a⟩ := o
    dsimp only at h1 h2
    subst h1
    have ho : oneS k [c] = k c := rfl
    have ih := wt_wds k r (fun q hq => h q (by simp [hq]))
    rw [wds, List.flatMap_cons, wt_app, wtO_cons]
    rw [wds] at ih
    rcases h2 with ⟨h2, rfl⟩ | h2
    · simp [wds1, ho, h2, wt] at *; omega
    · simp [wds1, ho, h2, wt] at *; omega
theorem prs_wds (st : Bool) (k : UInt8 → Option Bool) (h45 : k 45 = none) (rest : List (List UInt8)) : ∀ (l : List Ga.Opt) (n : Nat) (o : List Ga.Opt), (∀ q ∈ l, good k q) → (wds k l).length + 1 ≤ n → Ga.prs st k n (wds k l ++ ([45, 45] :: rest)) o [] = .ok (o ++ l) rest
  | [], n, o, _, hn => by
    obtain ⟨m, rfl⟩ : ∃ m, n = m + 1 := ⟨n - 1, by omega⟩
    simp [wds, Ga.prs]
  | q :: r, n, o, h, hn => by
    obtain ⟨m, rfl⟩ : ∃ m, n = m + 1 := ⟨n - 1, by omega⟩
    obtain ⟨c, h1, h2⟩ := h q (by simp)
    obtain ⟨nm, a⟩ := q
    dsimp only at h1 h2
    subst h1
    have ho : oneS k [c] = k c := rfl
    have hc : ¬ c = 45 := by rintro rfl; rcases h2 with ⟨h2, _⟩ | h2 <;> rw [h45] at h2 <;> cases h2
    have hne : ¬ [45, c] = ([45, 45] : List UInt8) := by simpa using hc
    have hgr : ∀ q ∈ r, good k q := fun q hq => h q (by simp [hq])
    rw [wds, List.flatMap_cons] at hn ⊢
    rcases h2 with ⟨h2, rfl⟩ | h2
    · have e1 : wds1 k ([c], []) = [[45, c]] := by simp [wds1, ho, h2]
      rw [e1] at hn ⊢
      simp only [List.cons_append, List.nil_append]
      rw [prs_step, tkR, if_neg hne, if_pos ⟨by simp, rfl⟩]
      have e2 : Ga.clu k ([45, c] : List UInt8).tail (wds k r ++ [45, 45] :: rest) o = .inr (o ++ [([c], [])], wds k r ++ [45, 45] :: rest) := by
        show Ga.clu k [c] _ o = _
        rw [clu_cons, h2]; simp only [Ga.clu]
      rw [show List.flatMap (wds1 k) r = wds k r from rfl, e2]
      dsimp only
      have := prs_wds st k h45 rest r m (o ++ [([c], [])]) hgr (by simp [wds] at hn ⊢; omega)
      rw [this, List.append_assoc]; rfl
    · have e1 : wds1 k ([c], a) = [[45, c], a] := by simp [wds1, ho, h2]
      rw [e1] at hn ⊢
      simp only [List.cons_append, List.nil_append]
      rw [prs_step, tkR, if_neg hne, if_pos ⟨by simp, rfl⟩]
      have e2 : Ga.clu k ([45, c] : List UInt8).tail (a :: (wds k r ++ [45, 45] :: rest)) o = .inr (o ++ [([c], a)], wds k r ++ [45, 45] :: rest) := by
        show Ga.clu k [c] _ o = _
        rw [clu_cons, h2]; rfl
      rw [show List.flatMap (wds1 k) r = wds k r from rfl, e2]
      dsimp only
      have := prs_wds st k h45 rest r m (o ++ [([c], a)]) hgr (by simp [wds] at hn ⊢; omega)
      rw [this, List.append_assoc]; rfl
/-- Parsing what Join wrote. -/
theorem back_plain (spec : List UInt8) (args : List (List UInt8)) (o : List Ga.Opt) (r : List (List UInt8)) (h : parseR spec args = some (.ok o r)) :
    ∃ l, joinR spec o r = some l ∧ parseR spec l = some (.ok o r) ∧ (∀ q ∈ o, q.1.length = 1) ∧ wt l ≤ 4 * wt args + 3 ∧ o.length * 2 + r.length ≤ 4 * wt args := by
  unfold parseR at h
  split at h
  · rename_i hsp
    have h' := Option.some.inj h
    have hg := prs_good _ _ _ _ _ _ _ _ h' (Nat.le_refl _) (by simp)
    have h45 : Ga.tks (Ga.bare spec) 45 = none := by
      cases ht : Ga.tks (Ga.bare spec) 45 with
      | none => rfl
      | some b =>
        obtain ⟨j, h1, h2, _⟩ := Ga.tks_some _ _ _ ht
        have := (Ga.ok_at hsp h1 h2).1
        exact absurd this (by decide)
    have hw := hg.2
    rw [show wtO [] = 0 from rfl, wt_nil] at hw
    have hwo := wt_wds _ o hg.1
    have hl1 : o.length * 3 ≤ wtO o := by
      clear hw hwo h' h hg
      induction o with
      | nil => simp
      | cons x t ih => rw [wtO_cons]; simp; omega
    have hl2 := wt_len r
    refine ⟨wds (Ga.tks (Ga.bare spec)) o ++ [[45, 45]] ++ r, ?_, ?_, fun q hq => ?_, ?_, by omega⟩
    · rw [joinR, if_pos hsp, jns_good _ _ _ hg.1]; simp
    · rw [parseR, if_pos hsp, Ga.parse]
      have := prs_wds (Ga.plus spec) _ h45 r o (wds (Ga.tks (Ga.bare spec)) o ++ [[45, 45]] ++ r).length [] hg.1 (by simp)
      rw [List.nil_append] at this
      rw [← this, List.append_assoc]; rfl
    · obtain ⟨c, h1, _⟩ := hg.1 q hq; rw [h1]; rfl
    · rw [wt_app, wt_app]
      have : wt [[45, 45]] = 3 := rfl
      omega
  · cases h
end Go.Proofs.Ytgbkgfmljcfhoaa
