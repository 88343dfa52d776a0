/- Plain facts on paths: what is written is read again; clean is clean; directory and name make the path; Rel leads there. No condition. -/
import Derived.Test.YteggjpogaljafaaDoorPa8
namespace Go.Proofs.YteggjpogaljafaaDoor
namespace Pa
def Good (ns : List (List UInt8)) : Prop := ∀ n ∈ ns, n ≠ [] ∧ 47 ∉ n
theorem nms_app_aux (k : Nat) : ∀ a : List UInt8, a.length ≤ k → ∀ b, nms (a ++ 47 :: b) = nms a ++ nms b := by
  induction k with
  | zero => intro a h b; have : a = [] := List.length_eq_zero_iff.1 (by omega); subst this; exact nms_cut [] b (by simp)
  | succ k ih =>
    intro a h b
    rcases indexByte_cut 47 a with ⟨_, hn⟩ | ⟨j, _, hj, hn, hl⟩
    · rw [nms_cut a b hn, nms_plain a hn]
    · rw [hl, List.append_assoc, List.cons_append, nms_cut _ _ hn, nms_cut _ _ hn, ih _ (by simp; omega) b, List.append_assoc]
theorem nms_app (a b : List UInt8) : nms (a ++ 47 :: b) = nms a ++ nms b := nms_app_aux _ a (Nat.le_refl _) b
theorem nms_slash (b : List UInt8) : nms (47 :: b) = nms b := nms_app [] b
theorem nms_end (a : List UInt8) : nms (a ++ [47]) = nms a := by rw [nms_app a [], nms_nil, List.append_nil]
theorem nms_good_aux (k : Nat) : ∀ a : List UInt8, a.length ≤ k → Good (nms a) := by
  induction k with
  | zero => intro a h; have : a = [] := List.length_eq_zero_iff.1 (by omega); subst this; intro n hn; simp [nms_nil] at hn
  | succ k ih =>
    intro a h
    have one : ∀ s : List UInt8, 47 ∉ s → Good (if s = [] then [] else [s]) := by
      intro s hs n hn
      split at hn
      · simp at hn
      · rename_i hne; simp at hn; rw [hn]; exact ⟨hne, hs⟩
    rcases indexByte_cut 47 a with ⟨_, hn⟩ | ⟨j, _, hj, hn, hl⟩
    · rw [nms_plain a hn]; exact one a hn
    · rw [hl, nms_cut _ _ hn]
      intro n hm
      rw [List.mem_append] at hm
      rcases hm with hm | hm
      · exact one _ hn n hm
      · exact ih _ (by simp; omega) n hm
theorem nms_good (a : List UInt8) : Good (nms a) := nms_good_aux _ a (Nat.le_refl _)
theorem jn_cons (n : List UInt8) (r : List (List UInt8)) (h : r ≠ []) : jn (n :: r) = n ++ 47 :: jn r := by
  obtain ⟨m, s, rfl⟩ := List.exists_cons_of_ne_nil h
  simp [jn, Lib.join_cons, Lib.joinTail]
theorem nms_jn (ns : List (List UInt8)) (h : Good ns) : nms (jn ns) = ns := by
  induction ns with
  | nil => rfl
  | cons n r ih =>
    have hn := h n (by simp)
    have hr : Good r := fun m hm => h m (by simp [hm])
    by_cases e : r = []
    · subst e; simp only [jn, Lib.join_one]; rw [nms_plain n hn.2, if_neg hn.1]
    · rw [jn_cons n r e, nms_cut _ _ hn.2, if_neg hn.1, ih hr]; rfl
theorem jn_head (n : List UInt8) (r : List (List UInt8)) : (jn (n :: r)).head? = (n ++ jn (n :: r)).head? ∨ n = [] := by
  cases n with
  | nil => exact .inr rfl
  | cons c m => left; simp [jn, Lib.join_cons]
theorem jn_abs (ns : List (List UInt8)) (h : Good ns) : absB (jn ns) = false := by
  cases ns with
  | nil => rfl
  | cons n r =>
    have hn := h n (by simp)
    cases n with
    | nil => exact absurd rfl hn.1
    | cons c m =>
      have hc : c ≠ 47 := fun e => hn.2 (by simp [e])
      simp [absB, jn, Lib.join_cons, hc]
/-- The names of a path that was written. -/
theorem nms_strg (a : Bool) (ns : List (List UInt8)) (sl : Bool) (h : Good ns) : nms (strg a ns sl) = if ns = [] ∧ a = false then [[46]] else ns := by
  unfold strg
  by_cases hc : ns = [] ∧ a = false
  · rw [if_pos hc, if_pos hc]; rfl
  · rw [if_neg hc, if_neg hc]
    have h1 : nms ((if a = true then [47] else []) ++ jn ns) = ns := by
      cases a
      · simpa using nms_jn ns h
      · simpa using (nms_slash (jn ns)).trans (nms_jn ns h)
    by_cases hs : sl = true ∧ ns ≠ []
    · rw [if_pos hs, nms_end]; exact h1
    · rw [if_neg hs, List.append_nil]; exact h1
theorem abs_strg (a : Bool) (ns : List (List UInt8)) (sl : Bool) (h : Good ns) : absB (strg a ns sl) = a := by
  unfold strg
  by_cases hc : ns = [] ∧ a = false
  · rw [if_pos hc, hc.2]; rfl
  · rw [if_neg hc]
    cases a
    · have hne : ns ≠ [] := fun e => hc ⟨e, rfl⟩
      have h2 := jn_abs ns h
      have h3 : jn ns ≠ [] := mt (jn_nil_iff ns (fun n hn => (h n hn).1)).1 hne
      obtain ⟨c, m, hcm⟩ := List.exists_cons_of_ne_nil h3
      rw [hcm] at h2 ⊢
      simpa [absB] using h2
    · rfl
theorem strg_ne (a : Bool) (ns : List (List UInt8)) (sl : Bool) (h : Good ns) : strg a ns sl ≠ [] := by
  unfold strg
  by_cases hc : ns = [] ∧ a = false
  · rw [if_pos hc]; simp
  · rw [if_neg hc]
    cases a
    · have hne : ns ≠ [] := fun e => hc ⟨e, rfl⟩
      have h3 : jn ns ≠ [] := mt (jn_nil_iff ns (fun n hn => (h n hn).1)).1 hne
      simp [h3]
    · simp
/-- Clean names: `..` at the begin alone, and there only if the path does not begin at the root; no `.`. -/
def NF (a : Bool) (ns : List (List UInt8)) : Prop := ∃ k m, ns = List.replicate k dd ++ m ∧ dd ∉ m ∧ [46] ∉ m ∧ (a = true → k = 0)
theorem NF.nil (a : Bool) : NF a [] := ⟨0, [], rfl, by simp, by simp, fun _ => rfl⟩
theorem NF.snoc {a : Bool} {ns : List (List UInt8)} (h : NF a ns) (n : List UInt8) (h1 : n ≠ [46]) (h2 : n ≠ dd) : NF a (ns ++ [n]) := by
  obtain ⟨k, m, rfl, h3, h4, h5⟩ := h
  exact ⟨k, m ++ [n], by simp, by simp [h3, Ne.symm h2], by simp [h4, Ne.symm h1], h5⟩
theorem dd_ne : dd ≠ [46] := by decide
theorem NF.step {a : Bool} {out : List (List UInt8)} (h : NF a out) (n : List UInt8) : NF a (clStep a out n) := by
  unfold clStep
  by_cases h1 : n = [46]
  · rw [if_pos h1]; exact h
  · rw [if_neg h1]
    by_cases h2 : n = dd
    · rw [if_pos h2]
      obtain ⟨k, m, rfl, h3, h4, h5⟩ := h
      split
      · rename_i hc
        rcases nil_or_snoc m with rfl | ⟨ys, y, rfl⟩
        · exfalso
          rw [List.append_nil] at hc
          cases k with
          | zero => exact hc.1 rfl
          | succ k => exact hc.2 (by rw [List.replicate_succ', List.getLast?_append]; simp)
        · rw [← List.append_assoc, List.dropLast_concat]
          exact ⟨k, ys, rfl, fun e => h3 (by simp [e]), fun e => h4 (by simp [e]), h5⟩
      · rename_i hc
        split
        · exact ⟨k, m, rfl, h3, h4, h5⟩
        · rename_i ha
          have hm : m = [] := by
            rcases nil_or_snoc m with rfl | ⟨ys, y, rfl⟩
            · rfl
            · exfalso
              apply hc
              refine ⟨by simp, ?_⟩
              rw [← List.append_assoc, List.getLast?_concat]
              intro e
              exact h3 (by simp [Option.some.inj e])
          subst hm
          refine ⟨k + 1, [], ?_, by simp, by simp, fun e => absurd e ha⟩
          rw [h2, List.append_nil, List.append_nil, List.replicate_succ']
    · rw [if_neg h2]; exact h.snoc n h1 h2
theorem NF.fold {a : Bool} (ns : List (List UInt8)) : ∀ {out : List (List UInt8)}, NF a out → NF a (ns.foldl (clStep a) out) := by
  induction ns with
  | nil => intro out h; exact h
  | cons n r ih => intro out h; exact ih (h.step n)
theorem NF.cl (a : Bool) (ns : List (List UInt8)) : NF a (cl a ns) := NF.fold ns (NF.nil a)
theorem cl_app (a : Bool) (x y : List (List UInt8)) : cl a (x ++ y) = y.foldl (clStep a) (cl a x) := by simp [cl]
theorem fold_plainN (a : Bool) (m : List (List UInt8)) (h1 : dd ∉ m) (h2 : [46] ∉ m) : ∀ out, m.foldl (clStep a) out = out ++ m := by
  induction m with
  | nil => intro out; simp
  | cons n r ih =>
    intro out
    have e1 : n ≠ dd := fun e => h1 (by simp [e])
    have e2 : n ≠ [46] := fun e => h2 (by simp [e])
    rw [List.foldl_cons, ih (fun e => h1 (by simp [e])) (fun e => h2 (by simp [e]))]
    simp [clStep, e1, e2]
theorem cl_dd (k : Nat) : cl false (List.replicate k dd) = List.replicate k dd := by
  induction k with
  | zero => rfl
  | succ k ih =>
    rw [List.replicate_succ', cl_app, ih]
    simp only [List.foldl_cons, List.foldl_nil, clStep, if_neg dd_ne, if_true]
    rw [if_neg]
    · simp
    · rintro ⟨h1, h2⟩
      cases k with
      | zero => exact h1 rfl
      | succ k => exact h2 (by rw [List.replicate_succ', List.getLast?_append]; simp)
/-- What is clean stays. -/
theorem cl_NF {a : Bool} {ns : List (List UInt8)} (h : NF a ns) : cl a ns = ns := by
  obtain ⟨k, m, rfl, h3, h4, h5⟩ := h
  rw [cl_app, fold_plainN a m h3 h4]
  cases a
  · rw [cl_dd]
  · rw [h5 rfl]; rfl
theorem NF.take {a : Bool} {ns : List (List UInt8)} (h : NF a ns) (j : Nat) : NF a (ns.take j) := by
  obtain ⟨k, m, rfl, h3, h4, h5⟩ := h
  refine ⟨min j k, m.take (j - k), ?_, fun e => h3 (List.mem_of_mem_take e), fun e => h4 (List.mem_of_mem_take e), fun e => by rw [h5 e]; simp⟩
  rw [List.take_append, List.take_replicate, List.length_replicate]
theorem good_cl (a : Bool) (ns : List (List UInt8)) (h : Good ns) : Good (cl a ns) := by
  have step : ∀ out n, Good out → (n ≠ [] ∧ 47 ∉ n) → Good (clStep a out n) := by
    intro out n ho hn
    unfold clStep
    repeat' split
    all_goals first | exact ho | (intro m hm; exact ho m (List.dropLast_subset _ hm)) | (intro m hm; rw [List.mem_append] at hm; rcases hm with hm | hm; exact ho m hm; simp at hm; rw [hm]; exact hn)
  have : ∀ (ns out : List (List UInt8)), Good ns → Good out → Good (ns.foldl (clStep a) out) := by
    intro ns
    induction ns with
    | nil => intro out _ ho; exact ho
    | cons n r ih => intro out hn ho; exact ih _ (fun m hm => hn m (by simp [hm])) (step out n ho (hn n (by simp)))
  exact this ns [] h (fun m hm => by simp at hm)
theorem good_lft (l : List UInt8) : Good (lft l) := good_cl _ _ (nms_good l)
theorem abs_clean (l : List UInt8) : absB (clean l) = absB l := abs_strg _ _ _ (good_lft l)
theorem cl_dot (a : Bool) : cl a [[46]] = [] := by simp [cl, clStep]
theorem lft_clean (l : List UInt8) : lft (clean l) = lft l := by
  unfold lft
  rw [abs_clean]
  have hn : nms (clean l) = if lft l = [] ∧ absB l = false then [[46]] else lft l := nms_strg _ _ _ (good_lft l)
  rw [hn]
  split
  · rename_i hc
    rw [cl_dot]; exact hc.1.symm
  · exact cl_NF (NF.cl _ _)
theorem clean_clean (l : List UInt8) : clean (clean l) = clean l := by
  show strg (absB (clean l)) (lft (clean l)) false = _
  rw [abs_clean, lft_clean]; rfl
end Pa
end Go.Proofs.YteggjpogaljafaaDoor
