/- The walks of the program's take and Parse. Conditions: lengths that fit. -/
import Derived.Test.YtgbkgfmljcfhoaaGa7
namespace Go.Proofs.Ytgbkgfmljcfhoaa
open Go.RowKit
attribute [local go_sem] ext_eq app_eq get_eq
abbrev Bad := List UInt8 × Bool
abbrev Sta := List Ga.Opt × List (List UInt8) × List (List UInt8)
/-- One argument: what is bad, or the options, the arguments that are left, the operands. -/
def tkR (st : Bool) (k : UInt8 → Option Bool) (s : List UInt8) (l : List (List UInt8)) (o : List Ga.Opt) (r : List (List UInt8)) : Sum Bad Sta :=
  if s = [45, 45] then .inr (o, [], r ++ l)
  else if 1 < s.length ∧ s.head? = some 45 then (match Ga.clu k s.tail l o with
    | .inl b => .inl b
    | .inr x => .inr (x.1, x.2, r))
  else if st then .inr (o, [], r ++ (s :: l)) else .inr (o, l, r ++ [s])
theorem prs_nil (st : Bool) (k : UInt8 → Option Bool) (n : Nat) (o : List Ga.Opt) (r : List (List UInt8)) : Ga.prs st k n [] o r = .ok o r := by cases n <;> rfl
theorem prs_step (st : Bool) (k : UInt8 → Option Bool) (n : Nat) (s : List UInt8) (l : List (List UInt8)) (o : List Ga.Opt) (r : List (List UInt8)) :
    Ga.prs st k (n + 1) (s :: l) o r = match tkR st k s l o r with
      | .inl b => .bad b.1 b.2
      | .inr x => Ga.prs st k n x.2.1 x.1 x.2.2 := by
  rw [Ga.prs, tkR]
  by_cases h1 : s = [45, 45]
  · rw [if_pos h1, if_pos h1]; exact (prs_nil _ _ _ _ _).symm
  · rw [if_neg h1, if_neg h1]
    by_cases h2 : 1 < s.length ∧ s.head? = some 45
    · rw [if_pos h2, if_pos h2]
      cases Ga.clu k s.tail l o <;> rfl
    · rw [if_neg h2, if_neg h2]
      cases st with
      | true => exact (prs_nil _ _ _ _ _).symm
      | false => rfl
/-- How much may still come. -/
def wt (l : List (List UInt8)) : Nat := (l.map (fun x => x.length + 1)).sum
theorem wt_cons (x : List UInt8) (l : List (List UInt8)) : wt (x :: l) = x.length + 1 + wt l := by simp [wt]
theorem wt_len (l : List (List UInt8)) : l.length ≤ wt l := by
  induction l with
  | nil => simp
  | cons x l ih => rw [wt_cons, List.length_cons]; omega
theorem twa_le {nm bh : List UInt8} {l : List (List UInt8)} {o : List Ga.Opt} {x : List Ga.Opt × List (List UInt8)} (h : twa nm bh l o = .inr x) : x.1.length = o.length + 1 ∧ x.2.length ≤ l.length ∧ wt x.2 ≤ wt l := by
  unfold twa at h
  split at h
  · cases l with
    | nil => cases h
    | cons y r => cases h; exact ⟨by simp, by simp, by rw [wt_cons]; dsimp only; omega⟩
  · cases h; exact ⟨by simp, Nat.le_refl _, Nat.le_refl _⟩
theorem clu_le (k : UInt8 → Option Bool) (cl : List UInt8) : ∀ (l : List (List UInt8)) (o : List Ga.Opt) (x : List Ga.Opt × List (List UInt8)), Ga.clu k cl l o = .inr x → x.1.length ≤ o.length + cl.length ∧ x.2.length ≤ l.length ∧ wt x.2 ≤ wt l := by
  induction cl with
  | nil => intro l o x h; simp only [Ga.clu] at h; cases h; exact ⟨by simp, Nat.le_refl _, Nat.le_refl _⟩
  | cons c r ih =>
    intro l o x h
    rw [clu_cons] at h
    cases hk : k c with
    | none => rw [hk] at h; cases h
    | some b =>
      rw [hk] at h
      cases b with
      | false => have := ih _ _ _ h; simp at this; refine ⟨by simp; omega, this.2⟩
      | true => have := twa_le h; refine ⟨by simp; omega, this.2⟩
theorem tkR_le {st : Bool} {k : UInt8 → Option Bool} {s : List UInt8} {l : List (List UInt8)} {o : List Ga.Opt} {r : List (List UInt8)} {x : Sta} (h : tkR st k s l o r = .inr x) : x.2.1.length ≤ l.length ∧ x.1.length + x.2.2.length + wt x.2.1 ≤ o.length + r.length + wt (s :: l) := by
  unfold tkR at h
  have := wt_len l
  rw [wt_cons]
  split at h
  · cases h; exact ⟨by simp, by show o.length + (r ++ l).length + 0 ≤ _; rw [List.length_append]; omega⟩
  · split at h
    · cases hc : Ga.clu k s.tail l o with
      | inl b => rw [hc] at h; cases h
      | inr y => rw [hc] at h; cases h; have h3 := clu_le k _ _ _ _ hc; simp at h3; exact ⟨h3.2.1, by dsimp only; omega⟩
    · split at h
      · cases h; exact ⟨by simp, by show o.length + (r ++ s :: l).length + 0 ≤ _; rw [List.length_append, List.length_cons]; omega⟩
      · cases h; exact ⟨Nat.le_refl _, by simp; omega⟩
def OutT (w W : World) (B pb qb : Nat) (st : Bool) (al tk : List UInt8) (e : Ending) : Sum Bad Sta → Prop
  | .inl b => e = .returned (.bool false) ∧ Bd w W B pb b.1 b.2
  | .inr x => e = .returned (.bool true) ∧ ∃ a c vo vr, Pt w W B pb qb st al tk a c x.2.1 vo vr x.1 x.2.2
theorem OutT.ret {w W : World} {B pb qb : Nat} {st : Bool} {al tk : List UInt8} {e : Ending} {r : Sum Bad Sta} (h : OutT w W B pb qb st al tk e r) : ∃ b, e = .returned (.bool b) := by
  cases r with
  | inl b => exact ⟨_, h.1⟩
  | inr b => exact ⟨_, h.1⟩
theorem dd_not {s : List UInt8} (h : ¬ s = [45, 45]) : (s == [45, 45]) = false := by simpa using h
section
variable {w W : World} {B pb qb : Nat} {st : Bool} {al tk : List UInt8} {a : Option Addr} {c : Nat} {left : List (List UInt8)} {vo vr : Value} {opts : List Ga.Opt} {rest : List (List UInt8)}
set_option maxRecDepth 100000 in
set_option maxHeartbeats 4000000 in
theorem gTake (h : Pt w W B pb qb st al tk a c left vo vr opts rest) (s : List UInt8) (hA : ∀ x, Ga.knd al tk x ≠ none → x.toNat < 128) (hM : opts.length + rest.length + wt (s :: left) ≤ 2 ^ 40) : Calls Try.prog 28 #[.pointer (some ⟨pb, 0, none⟩), .string ⟨s.toArray⟩] W fun e W' =>
    OutT w W' B pb qb st al tk e (tkR st (Ga.knd al tk) s left opts rest) := by
  obtain ⟨i0, hi, hz0, hz1, hz2⟩ := infoS
  have hw1 := wt_len left
  rw [wt_cons] at hM
  have H : Hid (Pt w W B pb qb st al tk a c left vo vr opts rest) := h
  have c0 := h.c0
  have c5 := h.c5
  have f5 := h.fp 5
  have hbs : B ≤ W.heap.size := h.hB
  have HO : Hid (W.ownsRow B 9 1 vr rest.length (rest.map sv)) := h.ro
  clear h
  by_cases h1 : s = [45, 45]
  · subst h1
    have HX : Hid (∀ W e, OutT w W B pb qb st al tk e (tkR st (Ga.knd al tk) [45, 45] left opts rest) = (e = .returned (.bool true) ∧ ∃ a c vo vr, Pt w W B pb qb st al tk a c [] vo vr opts (rest ++ left))) := fun _ _ => rfl
    generalize tkR st (Ga.knd al tk) [45, 45] left opts rest = R at *
    have HT := gTakeOperands H.out (by omega)
    have HT : Hid (Calls Try.prog 39 #[.pointer (some ⟨pb, 0, none⟩)] W fun e W' => e = .returned (.tuple #[]) ∧ ∃ a' c' vr', Pt w W' B pb qb st al tk a' c' [] vo vr' opts (rest ++ left)) := HT
    go_enter Try.func28, Try.ntmps28
    go_wp2_with fail
    refine HT.out.mono ?_
    rintro e w1 ⟨rfl, a1, c1, vr1, hP1⟩
    have HP1 : Hid (Pt w w1 B pb qb st al tk a1 c1 [] vo vr1 opts (rest ++ left)) := hP1
    clear hP1
    go_wp2
    go_ret
    rw [HX.out]
    exact ⟨rfl, _, _, _, _, HP1.out⟩
  · have h1' := dd_not h1
    by_cases h2 : 1 < s.length ∧ s.head? = some 45
    · obtain ⟨x, t, rfl⟩ : ∃ x t, s = x :: t := by cases s with | nil => simp at h2 | cons x t => exact ⟨x, t, rfl⟩
      obtain ⟨h2a, h2b⟩ := h2
      simp at h2b
      subst h2b
      have HX : Hid (∀ W e, OutC w W B pb qb st al tk vr rest e (Ga.clu (Ga.knd al tk) t left opts) → OutT w W B pb qb st al tk e (tkR st (Ga.knd al tk) (45 :: t) left opts rest)) := by
        intro W e hO
        rw [tkR, if_neg h1, if_pos ⟨h2a, rfl⟩]
        cases hc : Ga.clu (Ga.knd al tk) t left opts with
        | inl b => rw [hc] at hO; rw [show (45 :: t).tail = t from rfl, hc]; exact hO
        | inr b => rw [hc] at hO; rw [show (45 :: t).tail = t from rfl, hc]; obtain ⟨he, a, c, vo, hp⟩ := hO; exact ⟨he, a, c, vo, vr, hp⟩
      generalize tkR st (Ga.knd al tk) (45 :: t) left opts rest = R at *
      simp only [List.length_cons] at h2a hM
      have hl1 : decide ((1 : Int) < ((t.length + 1 : Nat) : Int)) = true := by simp; omega
      have HC : Hid (Calls Try.prog 40 #[.pointer (some ⟨pb, 0, none⟩), .string ⟨t.toArray⟩] W fun e W' => OutC w W' B pb qb st al tk vr rest e (Ga.clu (Ga.knd al tk) t left opts)) := gCluster H.out t hA (by omega)
      generalize Ga.clu (Ga.knd al tk) t left opts = R1 at *
      clear h1
      go_enter Try.func28, Try.ntmps28
      go_wp2_with (go_at_call 40; refine HC.out.mono ?_; rintro e w3 hO; obtain ⟨rb, he⟩ := hO.ret; subst he; have HO3 := HX.out _ _ hO; have HO3 : Hid (OutT w w3 B pb qb st al tk (.returned (.bool rb)) R) := HO3; clear hO)
      go_ret
      exact HO3.out
    · have HS : Hid (s.length ≤ 1 ∨ (∃ x t, s = x :: t ∧ x ≠ 45 ∧ 0 < t.length)) := by
        cases s with
        | nil => exact .inl (by simp)
        | cons x t =>
          cases t with
          | nil => exact .inl (by simp)
          | cons y t => exact .inr ⟨x, y :: t, rfl, fun e => h2 ⟨by simp, by simp [e]⟩, by simp⟩
      have HR : Hid (tkR st (Ga.knd al tk) s left opts rest = if st then .inr (opts, [], rest ++ (s :: left)) else .inr (opts, left, rest ++ [s])) := by show _ = _; rw [tkR, if_neg h1, if_neg h2]
      clear h1 h2
      generalize tkR st (Ga.knd al tk) s left opts rest = R at *
      have hrl : rest.length ≤ 2 ^ 40 := by omega
      cases st with
      | true =>
        have HX : Hid (∀ W e, OutT w W B pb qb true al tk e R = (e = .returned (.bool true) ∧ ∃ a c vo vr, Pt w W B pb qb true al tk a c [] vo vr opts (rest ++ (s :: left)))) := fun _ _ => by rw [HR.out]; rfl
        clear HR
        rcases HS.out with hS | ⟨x, t, hst, hx, ht⟩
        · have hl1 : decide ((1 : Int) < (s.length : Int)) = false := by simp; omega
          clear HS
          go_enter Try.func28, Try.ntmps28
          go_wp2_with (first
            | (at_builtin; refine wpList_append_own_at _ rfl _ _ 22 rfl B 9 i0 (.string ⟨#[]⟩) 1 16 Try.underlying22 hi hz0 hz1 hz2 rfl (by decide) _ _ _ rfl (HO.out.alloc _) ⟨W.heap.size, 0, none⟩ 1 1 [.string ⟨(s).toArray⟩] rfl rfl (cell_one_new _ _ _) (one_cell (s)) (by unfold maxLen; omega) (by omega) (by simp; omega) ?_; intro v' w2 hown hg _ hat; obtain ⟨va, vn, vc, hv⟩ := own_slice hown; subst hv; have HA2 := H.out.after hg H.out.rp; have HP2 : Hid (Pt w (w2.setCell ⟨pb, 5, none⟩ (.slice va vn vc)) B pb qb true al tk a c left vo (.slice va vn vc) opts (rest ++ [s])) := H.out.pushR (s) hown hg hat; have c5' := (HA2.1 5).trans H.out.c5; have f5' := HA2.2 5; have c0' := (HA2.1 0).trans H.out.c0; clear hown hg hat HA2)
            | (go_at_call 39; refine (gTakeOperands HP2.out (by simp; omega)).mono ?_; rintro e w3 ⟨rfl, a3, c3, v3, hP3⟩; have HP3 : Hid (Pt w w3 B pb qb true al tk a3 c3 [] vo v3 opts (rest ++ [s] ++ left)) := hP3; clear hP3))
          go_ret
          rw [HX.out]
          exact ⟨rfl, _, _, _, _, by have := HP3.out; rw [List.append_assoc] at this; exact this⟩
        · subst hst
          clear HS
          simp only [List.length_cons] at hM
          have hl1 : decide ((1 : Int) < ((t.length + 1 : Nat) : Int)) = true := by simp; omega
          have hx' : ((x.toNat : Int) == 45) = false := by rw [byte45]; simpa using hx
          clear hx
          go_enter Try.func28, Try.ntmps28
          go_wp2_with (first
            | (at_builtin; refine wpList_append_own_at _ rfl _ _ 22 rfl B 9 i0 (.string ⟨#[]⟩) 1 16 Try.underlying22 hi hz0 hz1 hz2 rfl (by decide) _ _ _ rfl (HO.out.alloc _) ⟨W.heap.size, 0, none⟩ 1 1 [.string ⟨(x :: t).toArray⟩] rfl rfl (cell_one_new _ _ _) (one_cell (x :: t)) (by unfold maxLen; omega) (by omega) (by simp; omega) ?_; intro v' w2 hown hg _ hat; obtain ⟨va, vn, vc, hv⟩ := own_slice hown; subst hv; have HA2 := H.out.after hg H.out.rp; have HP2 : Hid (Pt w (w2.setCell ⟨pb, 5, none⟩ (.slice va vn vc)) B pb qb true al tk a c left vo (.slice va vn vc) opts (rest ++ [x :: t])) := H.out.pushR (x :: t) hown hg hat; have c5' := (HA2.1 5).trans H.out.c5; have f5' := HA2.2 5; have c0' := (HA2.1 0).trans H.out.c0; clear hown hg hat HA2)
            | (go_at_call 39; refine (gTakeOperands HP2.out (by simp; omega)).mono ?_; rintro e w3 ⟨rfl, a3, c3, v3, hP3⟩; have HP3 : Hid (Pt w w3 B pb qb true al tk a3 c3 [] vo v3 opts (rest ++ [x :: t] ++ left)) := hP3; clear hP3))
          go_ret
          rw [HX.out]
          exact ⟨rfl, _, _, _, _, by have := HP3.out; rw [List.append_assoc] at this; exact this⟩
      | false =>
        have HX : Hid (∀ W e, OutT w W B pb qb false al tk e R = (e = .returned (.bool true) ∧ ∃ a c vo vr, Pt w W B pb qb false al tk a c left vo vr opts (rest ++ [s]))) := fun _ _ => by rw [HR.out]; rfl
        clear HR
        rcases HS.out with hS | ⟨x, t, hst, hx, ht⟩
        · have hl1 : decide ((1 : Int) < (s.length : Int)) = false := by simp; omega
          clear HS
          go_enter Try.func28, Try.ntmps28
          go_wp2_with (first
            | (at_builtin; refine wpList_append_own_at _ rfl _ _ 22 rfl B 9 i0 (.string ⟨#[]⟩) 1 16 Try.underlying22 hi hz0 hz1 hz2 rfl (by decide) _ _ _ rfl (HO.out.alloc _) ⟨W.heap.size, 0, none⟩ 1 1 [.string ⟨(s).toArray⟩] rfl rfl (cell_one_new _ _ _) (one_cell (s)) (by unfold maxLen; omega) (by omega) (by simp; omega) ?_; intro v' w2 hown hg _ hat; obtain ⟨va, vn, vc, hv⟩ := own_slice hown; subst hv; have HA2 := H.out.after hg H.out.rp; have HP2 : Hid (Pt w (w2.setCell ⟨pb, 5, none⟩ (.slice va vn vc)) B pb qb false al tk a c left vo (.slice va vn vc) opts (rest ++ [s])) := H.out.pushR (s) hown hg hat; have c5' := (HA2.1 5).trans H.out.c5; have f5' := HA2.2 5; have c0' := (HA2.1 0).trans H.out.c0; clear hown hg hat HA2))
          go_ret
          rw [HX.out]
          exact ⟨rfl, _, _, _, _, HP2.out⟩
        · subst hst
          clear HS
          simp only [List.length_cons] at hM
          have hl1 : decide ((1 : Int) < ((t.length + 1 : Nat) : Int)) = true := by simp; omega
          have hx' : ((x.toNat : Int) == 45) = false := by rw [byte45]; simpa using hx
          clear hx
          go_enter Try.func28, Try.ntmps28
          go_wp2_with (first
            | (at_builtin; refine wpList_append_own_at _ rfl _ _ 22 rfl B 9 i0 (.string ⟨#[]⟩) 1 16 Try.underlying22 hi hz0 hz1 hz2 rfl (by decide) _ _ _ rfl (HO.out.alloc _) ⟨W.heap.size, 0, none⟩ 1 1 [.string ⟨(x :: t).toArray⟩] rfl rfl (cell_one_new _ _ _) (one_cell (x :: t)) (by unfold maxLen; omega) (by omega) (by simp; omega) ?_; intro v' w2 hown hg _ hat; obtain ⟨va, vn, vc, hv⟩ := own_slice hown; subst hv; have HA2 := H.out.after hg H.out.rp; have HP2 : Hid (Pt w (w2.setCell ⟨pb, 5, none⟩ (.slice va vn vc)) B pb qb false al tk a c left vo (.slice va vn vc) opts (rest ++ [x :: t])) := H.out.pushR (x :: t) hown hg hat; have c5' := (HA2.1 5).trans H.out.c5; have f5' := HA2.2 5; have c0' := (HA2.1 0).trans H.out.c0; clear hown hg hat HA2))
          go_ret
          rw [HX.out]
          exact ⟨rfl, _, _, _, _, HP2.out⟩
end
end Go.Proofs.Ytgbkgfmljcfhoaa
