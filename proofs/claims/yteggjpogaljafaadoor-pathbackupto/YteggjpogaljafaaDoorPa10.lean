/- Plain facts on paths: splitting what was written; directory and name; Rel and Within. No condition. -/
import Derived.Test.YteggjpogaljafaaDoorPa9
import Derived.Test.YteggjpogaljafaaDoorPb1
namespace Go.Proofs.YteggjpogaljafaaDoor
namespace Pa
theorem nms_nil_abs (l : List UInt8) (h : nms l = []) (hl : l ≠ []) : absB l = true := by
  obtain ⟨c, r, rfl⟩ := List.exists_cons_of_ne_nil hl
  by_cases hc : c = 47
  · simp [absB, hc]
  · exfalso
    rcases indexByte_cut 47 (c :: r) with ⟨_, hn⟩ | ⟨j, _, hj, hn, hcut⟩
    · rw [nms_plain _ hn, if_neg hl] at h; cases h
    · rw [hcut, nms_cut _ _ hn] at h
      have h1 := (List.append_eq_nil_iff.1 h).1
      split at h1
      · rename_i h2
        rw [h2] at hcut
        simp only [List.nil_append, List.cons.injEq] at hcut
        exact hc hcut.1
      · cases h1
theorem last_app (a b : List UInt8) (h : b ≠ []) : (a ++ b).getLast? = b.getLast? := by
  rw [List.getLast?_append]
  cases h2 : b.getLast? with
  | none => exact absurd (List.getLast?_eq_none_iff.1 h2) h
  | some c => rfl
theorem jn_len (ns : List (List UInt8)) (h : ns ≠ []) : (jn ns).length + 1 = wt ns := by
  induction ns with
  | nil => exact absurd rfl h
  | cons n r ih =>
    by_cases e : r = []
    · subst e; simp [jn, Lib.join_one, wt]
    · have h1 : wt (n :: r) = wt [n] + wt r := wt_app [n] r
      rw [jn_cons n r e, h1, ← ih e, wt_one]; simp; omega
theorem mem_nms_aux (k : Nat) : ∀ a : List UInt8, a.length ≤ k → ∀ n ∈ nms a, ∀ c ∈ n, c ∈ a := by
  induction k with
  | zero => intro a h n hn; have : a = [] := List.length_eq_zero_iff.1 (by omega); subst this; simp [nms_nil] at hn
  | succ k ih =>
    intro a h n hn c hc
    rcases indexByte_cut 47 a with ⟨_, hno⟩ | ⟨j, _, hj, hno, hl⟩
    · rw [nms_plain a hno] at hn
      split at hn
      · simp at hn
      · simp at hn; rw [← hn]; exact hc
    · rw [hl, nms_cut _ _ hno, List.mem_append] at hn
      rw [hl]
      rcases hn with hn | hn
      · split at hn
        · simp at hn
        · simp at hn; rw [hn] at hc; simp [hc]
      · have := ih _ (by simp; omega) n hn c hc
        simp [this]
theorem mem_nms (a : List UInt8) (n : List UInt8) (hn : n ∈ nms a) (c : UInt8) (hc : c ∈ n) : c ∈ a := mem_nms_aux _ a (Nat.le_refl _) n hn c hc
theorem mem_jn (ns : List (List UInt8)) (c : UInt8) (h : c ∈ jn ns) : c = 47 ∨ ∃ n ∈ ns, c ∈ n := by
  induction ns with
  | nil => simp [jn, Lib.join_nil] at h
  | cons n r ih =>
    by_cases e : r = []
    · subst e; simp [jn, Lib.join_one] at h; exact .inr ⟨n, by simp, h⟩
    · rw [jn_cons n r e, List.mem_append, List.mem_cons] at h
      rcases h with h | h | h
      · exact .inr ⟨n, by simp, h⟩
      · exact .inl h
      · rcases ih h with h | ⟨m, hm, hc⟩
        · exact .inl h
        · exact .inr ⟨m, by simp [hm], hc⟩
theorem jn_last (ns : List (List UInt8)) (h : Good ns) (hne : ns ≠ []) : (jn ns).getLast? ≠ some 47 := by
  induction ns with
  | nil => exact absurd rfl hne
  | cons n r ih =>
    by_cases e : r = []
    · subst e
      simp only [jn, Lib.join_one]
      intro hl
      exact (h n (by simp)).2 (List.mem_of_getLast? hl)
    · have hr : Good r := fun m hm => h m (by simp [hm])
      have hj : jn r ≠ [] := mt (jn_nil_iff r (fun m hm => (hr m hm).1)).1 e
      rw [jn_cons n r e, last_app _ _ (by simp), show (47 :: jn r) = [47] ++ jn r from rfl, last_app _ _ hj]
      exact ih hr e
/-- The path of parts that Split told is split into the same parts. -/
theorem split_again (l : List UInt8) (h : splC l = 0) : splC (strg (splA l) (splN l) (splS l)) = 0 ∧ splN (strg (splA l) (splN l) (splS l)) = splN l ∧ splA (strg (splA l) (splN l) (splS l)) = splA l ∧ splS (strg (splA l) (splN l) (splS l)) = splS l := by
  have hl : l ≠ [] := fun e => by rw [splC, if_pos e] at h; cases h
  have h255 : ¬ 255 < l.length := fun e => by rw [splC, if_neg hl, if_pos e] at h; cases h
  have hany : (nms l).any (fun n => decide (27 < n.length)) = false := by
    rw [Bool.eq_false_iff]; intro e; rw [splC, if_neg hl, if_neg h255, if_pos e] at h; cases h
  have hz : l.contains 0 = false := by
    rw [Bool.eq_false_iff]; intro e; rw [splC, if_neg hl, if_neg h255, if_neg (by simp [hany]), if_pos e] at h; cases h
  have eA : splA l = absB l := by simp [splA, h]
  have eN : splN l = nms l := by rw [splN, if_pos h]
  have eS : splS l = (decide (nms l ≠ []) && (l.getLast? == some 47)) := by simp [splS, h]
  have g := nms_good l
  have hne : ¬ (nms l = [] ∧ absB l = false) := fun e => by have := nms_nil_abs l e.1 hl; rw [e.2] at this; cases this
  have n' : nms (strg (splA l) (splN l) (splS l)) = nms l := by rw [eA, eN, nms_strg _ _ _ g, if_neg hne]
  have a' : absB (strg (splA l) (splN l) (splS l)) = absB l := by rw [eA, eN, abs_strg _ _ _ g]
  have s0 : strg (splA l) (splN l) (splS l) ≠ [] := by rw [eN]; exact strg_ne _ _ _ g
  have hlen : (strg (splA l) (splN l) (splS l)).length ≤ l.length := by
    rw [eA, eN, eS, strg, if_neg hne]
    by_cases hn : nms l = []
    · have hA := nms_nil_abs l hn hl
      have := List.length_pos_iff.2 hl
      simp [hn, hA, jn, Lib.join_nil]; omega
    · have hj := jn_len (nms l) hn
      have hw := wt_nms l
      by_cases hA : absB l = true
      · obtain ⟨c, r, rfl⟩ := List.exists_cons_of_ne_nil hl
        obtain rfl : c = 47 := by simpa [absB] using hA
        have hwr := wt_nms r
        rw [nms_slash] at hj hw hn ⊢
        by_cases hs : ((47 :: r).getLast? == some 47) = true
        · rcases List.eq_nil_or_concat r with rfl | ⟨m, d, rfl⟩
          · exact absurd nms_nil hn
          · have hd : d = 47 := by
              simp only [List.concat_eq_append] at hs
              rw [← List.cons_append, List.getLast?_concat] at hs
              simpa using hs
            subst hd
            simp only [List.concat_eq_append] at *
            have hwm := wt_nms m
            rw [nms_end] at *
            simp [hn, hs, hA] at *
            omega
        · simp [hn, hs, hA]; omega
      · have hA' : absB l = false := by simpa using hA
        by_cases hs : (l.getLast? == some 47) = true
        · rcases List.eq_nil_or_concat l with rfl | ⟨m, d, rfl⟩
          · exact absurd rfl hl
          · have hd : d = 47 := by
              simp only [List.concat_eq_append] at hs
              rw [List.getLast?_concat] at hs
              simpa using hs
            subst hd
            simp only [List.concat_eq_append] at *
            have hwm := wt_nms m
            rw [nms_end] at *
            simp [hn, hA']
            omega
        · simp [hn, hs, hA']; omega
  have hz' : (strg (splA l) (splN l) (splS l)).contains 0 = false := by
    rw [Bool.eq_false_iff]; intro e
    rw [eA, eN, strg, if_neg hne] at e
    have e2 : (0 : UInt8) ∈ (if absB l = true then [47] else []) ++ jn (nms l) ++ (if splS l = true ∧ nms l ≠ [] then [47] else []) := by simpa using e
    rw [List.mem_append, List.mem_append] at e2
    rcases e2 with (e2 | e2) | e2
    · split at e2 <;> simp at e2
    · rcases mem_jn _ _ e2 with e3 | ⟨n, hn, hc⟩
      · cases e3
      · have := mem_nms l n hn 0 hc
        simp [this] at hz
    · split at e2 <;> simp at e2
  have c' : splC (strg (splA l) (splN l) (splS l)) = 0 := by
    rw [splC, if_neg s0, if_neg (by omega), n', if_neg (by simp [hany]), if_neg (by simp only [hz']; simp)]
  refine ⟨c', ?_, ?_, ?_⟩
  · rw [splN, if_pos c', n', eN]
  · rw [splA, c', a', eA]; rfl
  · rw [splS, c', n']
    by_cases hn : nms l = []
    · simp [hn, eS]
    · have hd : decide (nms l ≠ []) = true := by simpa using hn
      rw [hd]
      have h3 : jn (nms l) ≠ [] := mt (jn_nil_iff _ (fun n hm => (g n hm).1)).1 hn
      rw [eA, eN, strg, if_neg hne]
      by_cases hs : splS l = true
      · rw [show (if splS l = true ∧ nms l ≠ [] then [(47 : UInt8)] else []) = [47] from if_pos ⟨hs, hn⟩, List.getLast?_concat, hs]; rfl
      · have hs' : splS l = false := by simpa using hs
        rw [show (if splS l = true ∧ nms l ≠ [] then [(47 : UInt8)] else []) = [] from if_neg (fun e => hs e.1), List.append_nil, last_app _ _ h3, hs']
        have := jn_last _ g hn
        simpa using this
theorem trim_slashes (l : List UInt8) : ∃ k, l = Lib.trimRightB l 47 ++ List.replicate k 47 := by
  refine ⟨(l.reverse.takeWhile (· == 47)).length, ?_⟩
  have h1 : l.reverse.takeWhile (· == 47) = List.replicate (l.reverse.takeWhile (· == 47)).length 47 := by
    rw [List.eq_replicate_iff]
    refine ⟨rfl, fun b hb => ?_⟩
    have := List.all_takeWhile (p := fun c : UInt8 => c == 47) (l := l.reverse)
    rw [List.all_eq_true] at this
    simpa using this b hb
  have h2 := List.takeWhile_append_dropWhile (p := fun c : UInt8 => c == 47) (l := l.reverse)
  have h3 : l = (l.reverse.dropWhile (· == 47)).reverse ++ (l.reverse.takeWhile (· == 47)).reverse := by
    rw [← List.reverse_append, h2, List.reverse_reverse]
  conv => lhs; rw [h3]
  rw [Lib.trimRightB]
  congr 1
  rw [h1, List.reverse_replicate, List.length_replicate]
theorem trim_last (l : List UInt8) : (Lib.trimRightB l 47).getLast? ≠ some 47 := by
  rw [Lib.trimRightB, List.getLast?_reverse]
  intro h
  have := List.head?_dropWhile_not (fun c : UInt8 => c == 47) l.reverse
  rw [h] at this
  simp at this
theorem nms_rep (a : List UInt8) (k : Nat) : nms (a ++ List.replicate k 47) = nms a := by
  induction k with
  | zero => simp
  | succ k ih => rw [List.replicate_succ', ← List.append_assoc, nms_end, ih]
theorem nms_trim (l : List UInt8) : nms (Lib.trimRightB l 47) = nms l := by
  obtain ⟨k, h⟩ := trim_slashes l
  conv => rhs; rw [h]
  rw [nms_rep]
theorem join2 (a b : List UInt8) (ha : a ≠ []) (hb : b ≠ []) : join [a, b] = clean (a ++ 47 :: b) := by
  have h : some' [a, b] = [a, b] := by simp [some', ha, hb]
  rw [join, h, if_neg (by simp), jn_cons _ _ (by simp)]
  simp [jn, Lib.join_one]
theorem abs_app (a b : List UInt8) (ha : a ≠ []) : absB (a ++ b) = absB a := by
  obtain ⟨c, r, rfl⟩ := List.exists_cons_of_ne_nil ha
  rfl
theorem clean_ne (l : List UInt8) : clean l ≠ [] := strg_ne _ _ _ (good_lft l)
theorem lft_app (a b : List UInt8) (ha : a ≠ []) : lft (a ++ 47 :: b) = (nms b).foldl (clStep (absB a)) (lft a) := by
  unfold lft
  rw [abs_app a _ ha, nms_app, cl_app]
/-- What lies in a directory's clean path lies within it. -/
theorem within_x (s : List UInt8) : within s (join [clean s, [120]]) = true := by
  rw [join2 _ _ (clean_ne s) (by simp)]
  have hA : absB (clean (clean s ++ 47 :: [120])) = absB s := by rw [abs_clean, abs_app _ _ (clean_ne s), abs_clean]
  have hl : lft (clean (clean s ++ 47 :: [120])) = lft s ++ [[120]] := by
    rw [lft_clean, lft_app _ _ (clean_ne s), lft_clean, show nms [120] = [[120]] from rfl]
    simp only [List.foldl_cons, List.foldl_nil, clStep]
    rw [if_neg (by decide), if_neg (by decide)]
  rw [within, hA, if_pos rfl, hl, withinL]
  by_cases h : lft s = []
  · rw [if_pos h, h]; simp [dd]
  · rw [if_neg h, List.isPrefixOf_iff_prefix]; exact List.prefix_append _ _
/-- Directory and name make the path. -/
theorem dir_base (l : List UInt8) (hl : l ≠ []) : join [dir l, base l []] = clean l := by
  have hb : base l [] = if Lib.trimRightB l 47 = [] then [47] else (Lib.trimRightB l 47).drop (lastL (Lib.trimRightB l 47)) := by
    rw [base, if_neg hl]
    split
    · rfl
    · split
      · exact List.take_of_length_le (by simp)
      · rfl
  obtain ⟨k, hk⟩ := trim_slashes l
  have hn := nms_trim l
  by_cases ht : Lib.trimRightB l 47 = []
  · rw [hb, if_pos ht, dir, if_neg hl, if_pos ht, join2 _ _ (by simp) (by simp)]
    rw [ht, List.nil_append] at hk
    rw [ht] at hn
    have hA : absB l = true := nms_nil_abs l (by rw [← hn]; rfl) hl
    show strg _ _ _ = strg _ _ _
    rw [lft, lft, hA, ← hn]; rfl
  · rw [hb, if_neg ht, dir, if_neg hl, if_neg ht]
    have hlast := trim_last l
    generalize Lib.trimRightB l 47 = t at *
    have hAl : absB l = absB t := by rw [hk, abs_app t _ ht]
    have hle := lastL_le t
    rcases lastL_spec t with ⟨h0, hno⟩ | ⟨i, hi, h0, hi47, _⟩
    · rw [h0, if_pos rfl, List.drop_zero, join2 _ _ (by simp) ht]
      have h47 : 47 ∉ t := by
        intro hm; obtain ⟨j, hj, e⟩ := List.getElem_of_mem hm; exact hno j hj e
      have hAt : absB t = false := by
        obtain ⟨c, r, rfl⟩ := List.exists_cons_of_ne_nil ht
        have : c ≠ 47 := fun e => h47 (by simp [e])
        simp [absB, this]
      show strg _ _ _ = strg _ _ _
      rw [lft, lft, hAl, hAt, ← hn, show [46] ++ 47 :: t = [46] ++ 47 :: t from rfl, nms_app, cl_app, show absB ([46] ++ 47 :: t) = false from rfl]
      rw [show nms [46] = [[46]] from rfl, cl_dot]; rfl
    · have hcut : t = t.take i ++ 47 :: t.drop (i + 1) := by
        conv => lhs; rw [← List.take_append_drop i t, List.drop_eq_getElem_cons hi, hi47]
      have hnt : nms t = nms (t.take (i + 1)) ++ nms (t.drop (i + 1)) := by
        conv => lhs; rw [hcut, nms_app]
        rw [take_get t i hi, hi47, nms_end]
      have hbne : t.drop (i + 1) ≠ [] := by
        intro e
        rw [e] at hcut
        rw [hcut] at hlast
        exact hlast (List.getLast?_concat ..)
      rw [h0, if_neg (by omega)]
      have hnd := nms_trim (t.take (i + 1))
      obtain ⟨k2, hk2⟩ := trim_slashes (t.take (i + 1))
      have htk : t.take (i + 1) ≠ [] := by
        rw [ne_eq, List.take_eq_nil_iff]
        rintro (e | e)
        · omega
        · rw [e] at hi; simp at hi
      by_cases hd : Lib.trimRightB (t.take (i + 1)) 47 = []
      · rw [if_pos hd, join2 _ _ (by simp) hbne]
        rw [hd] at hnd hk2
        have hAt : absB t = true := by
          have h1 : absB (t.take (i + 1)) = true := nms_nil_abs _ (by rw [← hnd]; rfl) htk
          have h2 : absB t = absB (t.take (i + 1)) := by
            conv => lhs; rw [← List.take_append_drop (i + 1) t]
            exact abs_app _ _ htk
          rw [h2, h1]
        show strg _ _ _ = strg _ _ _
        rw [lft, lft, hAl, hAt, ← hn, hnt, ← hnd, nms_app]; rfl
      · rw [if_neg hd, join2 _ _ hd hbne]
        have hAt : absB (Lib.trimRightB (t.take (i + 1)) 47) = absB t := by
          have h2 : absB t = absB (t.take (i + 1)) := by
            conv => lhs; rw [← List.take_append_drop (i + 1) t]
            exact abs_app _ _ htk
          rw [h2]
          conv => rhs; rw [hk2]
          exact (abs_app _ _ hd).symm
        show strg _ _ _ = strg _ _ _
        rw [lft, lft, hAl, abs_app _ _ hd, hAt, ← hn, hnt, ← hnd, nms_app]
theorem com_take (x : List (List UInt8)) : ∀ y, x.take (com x y) = y.take (com x y) := by
  induction x with
  | nil => intro y; simp [com]
  | cons a r ih =>
    intro y
    cases y with
    | nil => simp [com]
    | cons b s =>
      by_cases e : a = b
      · subst e; simp only [com, if_true, List.take_succ_cons, ih s]
      · simp [com, e]
theorem pops (a : Bool) (out : List (List UInt8)) : ∀ m : List (List UInt8), dd ∉ m → (List.replicate m.length dd).foldl (clStep a) (out ++ m) = out := by
  intro m
  induction hm : m.length generalizing m with
  | zero => intro _; have : m = [] := List.length_eq_zero_iff.1 hm; subst this; simp
  | succ n ih =>
    intro hd
    rcases nil_or_snoc m with rfl | ⟨ys, y, rfl⟩
    · simp at hm
    · have hy : y ≠ dd := fun e => hd (by simp [e])
      have hys : dd ∉ ys := fun e => hd (by simp [e])
      rw [List.replicate_succ, List.foldl_cons]
      have hs : clStep a (out ++ (ys ++ [y])) dd = out ++ ys := by
        rw [clStep, if_neg dd_ne, if_pos rfl, if_pos, ← List.append_assoc, List.dropLast_concat]
        refine ⟨by simp, ?_⟩
        rw [← List.append_assoc, List.getLast?_concat]
        exact fun e => hy (Option.some.inj e)
      rw [hs]
      exact ih ys (by simp at hm; exact hm) hys
/-- Rel leads there. -/
theorem rel_leads (s t : List UInt8) (h : relOk s t = true) : clean (join [clean s, relS s t]) = clean t := by
  have hA : absB s = absB t := by
    rw [relOk] at h; split at h
    · assumption
    · cases h
  have hno : dd ∉ (lft s).drop (com (lft s) (lft t)) := by
    rw [relOk, if_pos hA, relOkL] at h; simpa using h
  have gR : Good (relN (lft s) (lft t)) := by
    intro n hn
    rw [relN, List.mem_append] at hn
    rcases hn with hn | hn
    · rw [List.mem_replicate] at hn; rw [hn.2]; decide
    · exact good_lft t n (List.mem_of_mem_drop hn)
  have hr : relS s t = strg false (relN (lft s) (lft t)) false := by rw [relS, if_pos h]
  have rne : relS s t ≠ [] := by rw [hr]; exact strg_ne _ _ _ gR
  rw [join2 _ _ (clean_ne s) rne, clean_clean]
  have hx : lft (clean s ++ 47 :: relS s t) = lft t := by
    rw [lft_app _ _ (clean_ne s), lft_clean, abs_clean, hr, nms_strg _ _ _ gR]
    have htk := com_take (lft s) (lft t)
    have hx0 : lft s = (lft s).take (com (lft s) (lft t)) ++ (lft s).drop (com (lft s) (lft t)) := (List.take_append_drop _ _).symm
    have hy0 : lft t = (lft t).take (com (lft s) (lft t)) ++ (lft t).drop (com (lft s) (lft t)) := (List.take_append_drop _ _).symm
    have hNy : NF (absB t) (lft t) := NF.cl _ _
    split
    · rename_i hc
      have h1 := List.append_eq_nil_iff.1 hc.1
      have hk : (lft s).length - com (lft s) (lft t) = 0 := by have := congrArg List.length h1.1; simpa using this
      have hd0 : (lft s).drop (com (lft s) (lft t)) = [] := List.drop_of_length_le (by omega)
      simp only [List.foldl_cons, List.foldl_nil, clStep, if_true]
      rw [hx0, hd0, List.append_nil, htk]
      conv => rhs; rw [hy0, h1.2, List.append_nil]
    · rw [relN, List.foldl_append]
      have h1 : (List.replicate ((lft s).length - com (lft s) (lft t)) dd).foldl (clStep (absB s)) (lft s) = (lft s).take (com (lft s) (lft t)) := by
        have := pops (absB s) ((lft s).take (com (lft s) (lft t))) _ hno
        rw [List.length_drop, List.take_append_drop] at this
        exact this
      rw [h1, htk, hA]
      have h2 : cl (absB t) ((lft t).take (com (lft s) (lft t)) ++ (lft t).drop (com (lft s) (lft t))) = lft t := by rw [List.take_append_drop]; exact cl_NF hNy
      rw [cl_app, cl_NF (hNy.take _)] at h2
      exact h2
  show strg _ _ _ = strg _ _ _
  rw [hx, abs_app _ _ (clean_ne s), abs_clean, hA]
end Pa
end Go.Proofs.YteggjpogaljafaaDoor
