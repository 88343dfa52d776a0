/- Plain facts for PermChanges: the program's reader and the plain answer's clauses agree. No condition. -/
import Derived.Test.YtmminmdmhefefaaPq1
namespace Go.Proofs.Ytmminmdmhefefaa
open Go.RowKit
namespace Pm
theorem whose_c (c : UInt8) : whoseB c.toNat = if isU c then some (whoR c) else none := by
  have g : ∀ k : Nat, k < 256 → c ≠ UInt8.ofNat k → ¬ (c.toNat : Int) = (k : Int) := fun k hk hc h => hc ((nat_c c k hk).1 h)
  by_cases h7 : c = 117
  · subst h7; rfl
  by_cases h8 : c = 103
  · subst h8; rfl
  by_cases h9 : c = 111
  · subst h9; rfl
  by_cases h10 : c = 97
  · subst h10; rfl
  unfold whoseB
  rw [if_neg (show ¬ (c.toNat : Int) = 117 from g 117 (by decide) h7), if_neg (show ¬ (c.toNat : Int) = 103 from g 103 (by decide) h8), if_neg (show ¬ (c.toNat : Int) = 111 from g 111 (by decide) h9), if_neg (show ¬ (c.toNat : Int) = 97 from g 97 (by decide) h10)]
  simp [isU, h7, h8, h9, h10]
theorem take_zero (r : Rd) (c : UInt8) (hs : r.sign = 0) (ho : isO c = false) : takeB r c.toNat = if isU c then some { r with who := bits .or .i64 r.who (whoR c) } else none := by
  unfold takeB
  rw [if_neg (fun h => by rw [(op_c c).1 h] at ho; cases ho), if_pos hs, whose_c]
  cases isU c <;> rfl
theorem irr (l : List UInt8) : ∀ (now mx un who w1 w2 : Int) (b1 c1 b2 c2 : Bool), (runB ⟨now, mx, un, who, 0, w1, b1, c1⟩ l).map (·.now) = (runB ⟨now, mx, un, who, 0, w2, b2, c2⟩ l).map (·.now) := by
  induction l with
  | nil => intros; simp [runB, takeB, whoseB]
  | cons c cs ih =>
    intro now mx un who w1 w2 b1 c1 b2 c2
    simp only [runB]
    cases ho : isO c with
    | true =>
      have e : ∀ w b cl, nowB ⟨now, mx, un, who, 0, w, b, cl⟩ = now := fun w b cl => by simp [nowB]
      rw [take_op _ _ ho, take_op _ _ ho, e, e]
    | false =>
      rw [take_zero _ _ rfl ho, take_zero _ _ rfl ho]
      cases isU c
      · rfl
      · exact ih ..
def finB (mx un : Int) (x : Int) : List UInt8 → Option Int
  | [] => some x
  | _ :: l => (runB ⟨x, mx, un, 0, 0, 0, false, false⟩ l).map (·.now)
def tailOf (t : List UInt8) : Prop := t = [] ∨ ∃ l, t = 44 :: l
theorem take_44 (r : Rd) (hs : ¬ r.sign = 0) : takeB r 44 = some { r with now := nowB r, who := 0, sign := 0 } := by
  unfold takeB
  rw [if_neg (by decide), if_neg hs, if_pos rfl]
theorem fin_run (r : Rd) (t : List UInt8) (ht : tailOf t) (hs : ¬ r.sign = 0) : (runB r t).map (·.now) = finB r.mx r.un (nowB r) t := by
  rcases ht with rfl | ⟨l, rfl⟩
  · rw [runB, take_44 r hs]; rfl
  · rw [runB, show ((44 : UInt8).toNat : Int) = 44 from rfl, take_44 r hs]
    exact irr l ..
theorem runR (old : Int) (t q : List UInt8) : ∀ r : Rd, ¬ r.sign = 0 → r.mx = mxB old → r.closed = false → ∃ b', runB r (q ++ t) = runB { r with what := (p3 old r.what q).1, bare := b' } ((p3 old r.what q).2 ++ t) ∧ (((p3 old r.what q).2 = q ∧ b' = r.bare) ∨ b' = false) := by
  induction q with
  | nil => intro r _ _ _; exact ⟨r.bare, rfl, .inl ⟨rfl, rfl⟩⟩
  | cons c cs ih =>
    intro r hs hm hc
    cases hR : isR c with
    | false => exact ⟨r.bare, by simp [p3, hR], .inl ⟨by simp [p3, hR], rfl⟩⟩
    | true =>
      obtain ⟨b', h1, h2⟩ := ih { r with what := bits .or .i64 r.what (whatR old c), bare := false, closed := false } hs hm rfl
      refine ⟨b', ?_, .inr ?_⟩
      · rw [List.cons_append, runB, take_R old r c hs hm hc hR]
        simp only [p3, hR, if_true, Option.bind_some]
        rw [h1, hc]
      · rcases h2 with ⟨_, h⟩ | h
        · exact h
        · exact h
theorem p3_len (old : Int) (q : List UInt8) : ∀ b, (p3 old b q).2.length ≤ q.length := by
  induction q with
  | nil => intro b; simp [p3]
  | cons c cs ih =>
    intro b
    unfold p3
    split
    · exact Nat.le_succ_of_le (ih _)
    · exact Nat.le_refl _
theorem p3_mem (old : Int) (q : List UInt8) (x : UInt8) : ∀ b, x ∈ (p3 old b q).2 → x ∈ q := by
  induction q with
  | nil => intro b; simp [p3]
  | cons c cs ih =>
    intro b
    unfold p3
    split
    · intro h; exact List.mem_cons_of_mem _ (ih _ h)
    · intro h; exact h
theorem p3_head (old : Int) (q : List UInt8) (e : UInt8) (es : List UInt8) : ∀ b, (p3 old b q).2 = e :: es → isR e = false := by
  induction q with
  | nil => intro b; simp [p3]
  | cons c cs ih =>
    intro b
    unfold p3
    split
    · exact ih _
    · rename_i hR
      intro h
      cases h
      simpa using hR
def SimB (old : Int) (n : Nat) : Prop := ∀ (q : List UInt8) (r : Rd) (t : List UInt8), q.length ≤ n → 44 ∉ q → tailOf t → r.mx = mxB old → ¬ r.sign = 0 → (∀ c cs, q = c :: cs → isO c = true ∨ takeB r c.toNat = none) →
  (runB r (q ++ t)).map (·.now) = (acts old (whoB r) n (nowB r) q).bind fun x => finB r.mx r.un x t
theorem simC (old : Int) (n : Nat) (hB : SimB old n) (cs : List UInt8) (now mx un who : Int) (c : UInt8) (t : List UInt8) (hO : isO c = true) (hn : cs.length ≤ n) (h4 : 44 ∉ cs) (ht : tailOf t) (hm : mx = mxB old) :
    (runB ⟨now, mx, un, who, c.toNat, 0, true, false⟩ (cs ++ t)).map (·.now) = (acts old (if who = 0 then un else who) n (appR c now (actR old now cs).1 (if who = 0 then un else who)) (actR old now cs).2).bind fun x => finB mx un x t := by
  have hs : ¬ ((c.toNat : Nat) : Int) = 0 := by
    simp [isO] at hO
    rcases hO with rfl | rfl | rfl <;> decide
  cases cs with
  | nil =>
    have h := hB [] ⟨now, mx, un, who, c.toNat, 0, true, false⟩ t hn h4 ht hm hs (fun _ _ h => by cases h)
    rw [now_app _ c hO rfl] at h
    exact h
  | cons d ds =>
    cases hV : isV d with
    | true =>
      rw [List.cons_append, runB, take_V old _ d hs hm rfl rfl hV]
      have h := hB ds ⟨now, mx, un, who, c.toNat, bits .or .i64 0 (copR now d), false, true⟩ t (by simp at hn; omega) (fun h => h4 (List.mem_cons_of_mem _ h)) ht hm hs (fun e es he => by
        cases hE : isO e with
        | true => exact .inl rfl
        | false => exact .inr (take_bad old _ e hs hm hE (by rintro rfl; exact h4 (by rw [he]; simp)) (.inl rfl)))
      rw [now_app _ c hO rfl, or_zero (in_cop now d)] at h
      simp only [actR, hV, if_true]
      simp only [Option.bind_some]
      rw [or_zero (in_cop now d)]
      exact h
    | false =>
      obtain ⟨b', h1, h2⟩ := runR old t (d :: ds) ⟨now, mx, un, who, c.toNat, 0, true, false⟩ hs hm rfl
      simp only at h1 h2
      rw [h1]
      have h := hB (p3 old 0 (d :: ds)).2 ⟨now, mx, un, who, c.toNat, (p3 old 0 (d :: ds)).1, b', false⟩ t (Nat.le_trans (p3_len old _ 0) hn) (fun h => h4 (p3_mem old _ _ 0 h)) ht hm hs (fun e es he => by
        have hR := p3_head old _ e es 0 he
        cases hE : isO e with
        | true => exact .inl rfl
        | false =>
          refine .inr (take_bad old _ e hs hm hE (by rintro rfl; exact h4 (p3_mem old _ _ 0 (by rw [he]; simp))) ?_)
          rcases h2 with ⟨hq, _⟩ | hb
          · rw [hq] at he
            cases he
            exact .inr (.inr ⟨hV, hR⟩)
          · cases hVe : isV e with
            | true => exact .inr (.inl ⟨rfl, hb⟩)
            | false => exact .inr (.inr ⟨rfl, hR⟩))
      rw [now_app _ c hO rfl] at h
      simp only [actR, hV, Bool.false_eq_true, if_false]
      exact h
theorem simB (old : Int) : ∀ n, SimB old n := by
  intro n
  induction n with
  | zero =>
    intro q r t hn _ ht hm hs _
    obtain rfl : q = [] := List.eq_nil_of_length_eq_zero (by omega)
    rw [List.nil_append, fin_run r t ht hs]
    rfl
  | succ n ih =>
    intro q r t hn h4 ht hm hs hst
    cases q with
    | nil => rw [List.nil_append, fin_run r t ht hs]; rfl
    | cons c cs =>
      cases hO : isO c with
      | true =>
        rw [List.cons_append, runB, take_op r c hO]
        have h := simC old n ih cs (nowB r) r.mx r.un r.who c t hO (by simp at hn; omega) (fun h => h4 (List.mem_cons_of_mem _ h)) ht hm
        simp only [acts, hO, if_true, Option.bind_some]
        exact h
      | false =>
        have hk : takeB r c.toNat = none := by
          rcases hst c cs rfl with h | h
          · rw [hO] at h; cases h
          · exact h
        rw [List.cons_append, runB, hk]
        simp [acts, hO]
theorem or_ne (m x : Int) (hx : In64 x) (h0 : x ≠ 0) : bits .or .i64 m x ≠ 0 := by
  intro h
  rw [or_eq, show (0 : Int) = (0#64).toInt from rfl, BitVec.toInt_inj] at h
  have : B x = 0#64 := by
    ext i hi
    have k := congrArg (fun v => v[i]) h
    simp at k
    simpa using k.2
  apply h0
  rw [← back hx, this]
  rfl
theorem who_ne (c : UInt8) : In64 (whoR c) ∧ whoR c ≠ 0 := by
  unfold whoR In64
  repeat' split
  all_goals decide
theorem p1_ne (s : List UInt8) : ∀ m, m ≠ 0 → (p1 m s).1 ≠ 0 := by
  induction s with
  | nil => intro m h; exact h
  | cons c cs ih =>
    intro m h
    unfold p1
    split
    · exact ih _ (or_ne _ _ (who_ne c).1 (who_ne c).2)
    · exact h
theorem p1_len (s : List UInt8) : ∀ m, (p1 m s).2.length ≤ s.length := by
  induction s with
  | nil => intro m; simp [p1]
  | cons c cs ih =>
    intro m
    unfold p1
    split
    · exact Nat.le_succ_of_le (ih _)
    · exact Nat.le_refl _
theorem p1_mask (un : Int) (s : List UInt8) : (if (p1 0 s).2.length = s.length then un else (p1 0 s).1) = if (p1 0 s).1 = 0 then un else (p1 0 s).1 := by
  cases s with
  | nil => simp [p1]
  | cons c cs =>
    cases hU : isU c with
    | false => simp [p1, hU]
    | true =>
      have h1 := p1_len cs (bits .or .i64 0 (whoR c))
      have h2 := p1_ne cs _ (or_ne 0 _ (who_ne c).1 (who_ne c).2)
      simp only [p1, hU, if_true, List.length_cons]
      rw [if_neg (by omega), if_neg h2]
theorem sim1 (old un now : Int) (t : List UInt8) (ht : tailOf t) (n : Nat) (s : List UInt8) : ∀ (m w : Int) (b cl : Bool), s.length ≤ n → 44 ∉ s → (runB ⟨now, mxB old, un, m, 0, w, b, cl⟩ (s ++ t)).map (·.now) =
    if (p1 m s).2 = [] then none else (acts old (if (p1 m s).1 = 0 then un else (p1 m s).1) n now (p1 m s).2).bind fun x => finB (mxB old) un x t := by
  induction s with
  | nil =>
    intro m w b cl _ _
    rcases ht with rfl | ⟨l, rfl⟩
    · simp [runB, takeB, whoseB, p1]
    · simp [runB, takeB, whoseB, p1]
  | cons c cs ih =>
    intro m w b cl hn h4
    cases hO : isO c with
    | true =>
      have hU : isU c = false := by
        simp [isO] at hO
        rcases hO with rfl | rfl | rfl <;> rfl
      have hp : p1 m (c :: cs) = (m, c :: cs) := by simp [p1, hU]
      rw [hp, List.cons_append, runB, take_op _ c hO]
      cases n with
      | zero => simp at hn
      | succ n =>
        simp only [acts, hO, if_true]
        exact simC old n (simB old n) cs now (mxB old) un m c t hO (by simp at hn; omega) (fun h => h4 (List.mem_cons_of_mem _ h)) ht rfl
    | false =>
      rw [List.cons_append, runB, take_zero _ c rfl hO]
      cases hU : isU c with
      | true =>
        have hp : p1 m (c :: cs) = p1 (bits .or .i64 m (whoR c)) cs := by simp [p1, hU]
        rw [hp]
        exact ih _ _ _ _ (by simp at hn; omega) (fun h => h4 (List.mem_cons_of_mem _ h))
      | false =>
        have hp : p1 m (c :: cs) = (m, c :: cs) := by simp [p1, hU]
        rw [hp]
        cases n with
        | zero => simp at hn
        | succ n => simp [acts, hO]
theorem sim_clause (old un now : Int) (s t : List UInt8) (ht : tailOf t) (h4 : 44 ∉ s) (w : Int) (b cl : Bool) : (runB ⟨now, mxB old, un, 0, 0, w, b, cl⟩ (s ++ t)).map (·.now) = (clB old un now s).bind fun x => finB (mxB old) un x t := by
  rw [sim1 old un now t ht s.length s 0 w b cl (Nat.le_refl _) h4]
  unfold clB
  rw [p1_mask]
  split <;> rfl
theorem sim_all (old un : Int) (l : List UInt8) : ∀ (now : Int) (part : List UInt8), 44 ∉ part → (runB ⟨now, mxB old, un, 0, 0, 0, false, false⟩ (part ++ l)).map (·.now) = refRun old un now part l := by
  induction l with
  | nil =>
    intro now part h4
    rw [sim_clause old un now part [] (.inl rfl) h4, refRun]
    cases clB old un now part <;> rfl
  | cons c cs ih =>
    intro now part h4
    by_cases hc : c = 44
    · subst hc
      rw [sim_clause old un now part (44 :: cs) (.inr ⟨cs, rfl⟩) h4, refRun, if_pos rfl]
      cases clB old un now part with
      | none => rfl
      | some x => exact ih x [] (by simp)
    · rw [refRun, if_neg hc, ← ih now (part ++ [c]) (by simp [h4]; exact fun h => hc h.symm)]
      simp
end Pm
end Go.Proofs.Ytmminmdmhefefaa
