/- A region that draws its order, in the order that is written: what the evaluator tells of each operation. Condition: what is said of functions without a Go body (X). -/
import Derived.Test.YtdldpehmcfbbeaaGreatDoorEv17
namespace Go.Proofs.YtdldpehmcfbbeaaGreatDoor.Ev
variable {P : Program} {X : Ext} {G : Nat}
/-- Two operations touch nothing in common that one of them writes. -/
def Clear (r' w' r w : Nat) : Prop := (∀ x, On w' x → ¬ On r x) ∧ (∀ x, On w' x → ¬ On w x) ∧ ∀ x, On r' x → ¬ On w x
theorem clear_of {r' w' r w : Nat} (h1 : Nat.beq (Nat.land w' (Nat.lor r w)) 0 = true) (h2 : Nat.beq (Nat.land r' w) 0 = true) : Clear r' w' r w :=
  ⟨fun x a b => on_apart h1 x a (on_lor.2 (.inl b)), fun x a b => on_apart h1 x a (on_lor.2 (.inr b)), fun x a b => on_apart h2 x a b⟩
theorem Clear.less {r' w' a' b' r w : Nat} (h : Clear r' w' r w) (h1 : ∀ x, On a' x → On r' x) (h2 : ∀ x, On b' x → On w' x) : Clear a' b' r w :=
  ⟨fun x p => h.1 x (h2 x p), fun x p => h.2.1 x (h2 x p), fun x p => h.2.2 x (h1 x p)⟩
theorem apartA_ok {b r w : Nat} : ∀ (l : List (Nat × Nat)) (i : Nat), apartA b r w l i = true → ∀ m e, l[m]? = some e → tb b (i - 1 - m) = true ∨ Clear e.1 e.2 r w
  | [], _, _, m, e, h => by simp at h
  | d :: l, i, h, m, e, hm => by
    have h' : iff (tb b (i - 1) || (Nat.beq (Nat.land d.2 (Nat.lor r w)) 0 && Nat.beq (Nat.land d.1 w) 0)) (apartA b r w l (i - 1)) false = true := h
    rw [iff_eq] at h'
    split at h'
    · rename_i hc
      cases m with
      | zero =>
        simp at hm
        subst hm
        simp only [Bool.or_eq_true, Bool.and_eq_true] at hc
        rcases hc with hc | hc
        · exact .inl hc
        · exact .inr (clear_of hc.1 hc.2)
      | succ m =>
        have := apartA_ok l (i - 1) h' m e (by simpa using hm)
        rwa [show i - 1 - 1 - m = i - 1 - (m + 1) by omega] at this
    · cases h'
/-- The states in the written order. -/
structure Trace (P : Program) (G : Nat) (rnd : Option Nat) (n : Nat) (ds : List D) (i : Nat) (l : List Pre) (Th : Nat → LL) (Hh : Nat → Hp) (vv : Nat → V) (rr ww : Nat → Nat) : Prop where
  op : ∀ j p, l[j]? = some p → OpDoes P G rnd n p.o p.gd (Th (i + j)) ds (Hh (i + j)) (vv (i + j)) ds (Hh (i + j + 1)) (rr (i + j)) (ww (i + j))
  dst : ∀ j p, l[j]? = some p → (p.o.dst = none ∧ Th (i + j + 1) = Th (i + j)) ∨ ∃ d, p.o.dst = some d ∧ d < n ∧ Th (i + j + 1) = .cons d (vv (i + j)) (Th (i + j))
  pu : ∀ j p, l[j]? = some p → Pu (Hh (i + j)) (Hh (i + j + 1)) (ww (i + j))
  apart : ∀ j p, l[j]? = some p → ∀ j', j' < i + j → tb p.bef j' = true ∨ Clear (rr j') (ww j') (rr (i + j)) (ww (i + j))
theorem drawn_trace (hX : XOk P G X) {run : Runner} (hR : RunOk P G run) {rnd : Option Nat} {n : Nat} {ds : List D} {k : K3} : ∀ (l : List Pre) (i : Nat) (done : List (Nat × Nat)) (T : LL) (H : Hp) (rd wr : Nat) (Th0 : Nat → LL) (Hh0 : Nat → Hp) (vv0 : Nat → V) (rr0 ww0 : Nat → Nat),
    drawn P X G run rnd n ds k l i done T H rd wr = .ok → Th0 i = T → Hh0 i = H → (∀ m e, done[m]? = some e → m < i ∧ e = (rr0 (i - 1 - m), ww0 (i - 1 - m))) → done.length = i → (∀ x, On rd x ↔ ∃ j, j < i ∧ On (rr0 j) x) → (∀ x, On wr x ↔ ∃ j, j < i ∧ On (ww0 j) x) →
    ∃ (Th : Nat → LL) (Hh : Nat → Hp) (vv : Nat → V) (rr ww : Nat → Nat) (rd' wr' : Nat), (∀ j, j ≤ i → Th j = Th0 j ∧ Hh j = Hh0 j) ∧ (∀ j, j < i → vv j = vv0 j ∧ rr j = rr0 j ∧ ww j = ww0 j) ∧ Trace P G rnd n ds i l Th Hh vv rr ww ∧ k (Th (i + l.length)) ds (Hh (i + l.length)) rd' wr' = .ok ∧
      (∀ x, On rd' x ↔ ∃ j, j < i + l.length ∧ On (rr j) x) ∧ ∀ x, On wr' x ↔ ∃ j, j < i + l.length ∧ On (ww j) x
  | [], i, done, T, H, rd, wr, Th0, Hh0, vv0, rr0, ww0, h, hT, hH, _, _, hrd, hwr => by
    subst hT hH
    exact ⟨Th0, Hh0, vv0, rr0, ww0, rd, wr, fun _ _ => ⟨rfl, rfl⟩, fun _ _ => ⟨rfl, rfl, rfl⟩, ⟨fun j p hp => by simp at hp, fun j p hp => by simp at hp, fun j p hp => by simp at hp, fun j p hp => by simp at hp⟩, h, hrd, hwr⟩
  | p :: l, i, done, T, H, rd, wr, Th0, Hh0, vv0, rr0, ww0, h, hT, hH, hdone, hlen, hrd, hwr => by
    cases p with
    | mk o gd b =>
      obtain ⟨T1, ds1, H1, r, w, v, h1, hn1, hdst, hds, hop⟩ := oneOp_ok hX hR (dr := true) h
      obtain rfl := hds rfl
      rw [nat_eq, nat_eq] at h1
      obtain ⟨hcond, h2⟩ := iff_no h1
      rw [nat_eq, nat_eq] at h2
      have hi0 : ∀ (f : Nat → Nat) (a j : Nat), j < i → (fun j => if j = i then a else f j) j = f j := fun f a j hj => if_neg (by omega)
      obtain ⟨Th, Hh, vv, rr, ww, rd', wr', a1, a2, a3, a4, a5, a6⟩ := drawn_trace hX hR l (i + 1) ((r, w) :: done) T1 H1 (Nat.lor rd r) (Nat.lor wr w)
        (fun j => if j = i + 1 then T1 else Th0 j) (fun j => if j = i + 1 then H1 else Hh0 j) (fun j => if j = i then v else vv0 j) (fun j => if j = i then r else rr0 j) (fun j => if j = i then w else ww0 j) h2 (if_pos rfl) (if_pos rfl)
        (fun m e hm => by
          cases m with
          | zero => simp at hm; subst hm; exact ⟨by omega, by simp⟩
          | succ m =>
            obtain ⟨b1, b2⟩ := hdone m e (by simpa using hm)
            refine ⟨by omega, ?_⟩
            rw [b2, show i + 1 - 1 - (m + 1) = i - 1 - m by omega, if_neg (by omega), if_neg (by omega)])
        (by simp [hlen])
        (fun x => by
          rw [on_lor, hrd]
          constructor
          · rintro (⟨j, h3, h4⟩ | h3)
            · exact ⟨j, by omega, by simp only [if_neg (show j ≠ i by omega)]; exact h4⟩
            · exact ⟨i, by omega, by simpa using h3⟩
          · rintro ⟨j, h3, h4⟩
            by_cases e : j = i
            · subst e; simp at h4; exact .inr h4
            · simp only [if_neg e] at h4; exact .inl ⟨j, by omega, h4⟩)
        (fun x => by
          rw [on_lor, hwr]
          constructor
          · rintro (⟨j, h3, h4⟩ | h3)
            · exact ⟨j, by omega, by simp only [if_neg (show j ≠ i by omega)]; exact h4⟩
            · exact ⟨i, by omega, by simpa using h3⟩
          · rintro ⟨j, h3, h4⟩
            by_cases e : j = i
            · subst e; simp at h4; exact .inr h4
            · simp only [if_neg e] at h4; exact .inl ⟨j, by omega, h4⟩)
      have eT : Th i = T ∧ Hh i = H := by
        have := a1 i (by omega)
        simp only [if_neg (show i ≠ i + 1 by omega), hT, hH] at this
        exact this
      have eT1 : Th (i + 1) = T1 ∧ Hh (i + 1) = H1 := by simpa using a1 (i + 1) (Nat.le_refl _)
      have ev : vv i = v ∧ rr i = r ∧ ww i = w := by simpa using a2 i (by omega)
      have eold : ∀ j, j < i → vv j = vv0 j ∧ rr j = rr0 j ∧ ww j = ww0 j := fun j hj => by
        have := a2 j (by omega)
        simpa only [if_neg (show j ≠ i by omega)] using this
      refine ⟨Th, Hh, vv, rr, ww, rd', wr', fun j hj => ?_, eold, ⟨?_, ?_, ?_, ?_⟩, ?_, ?_, ?_⟩
      · have := a1 j (by omega)
        simpa only [if_neg (show j ≠ i + 1 by omega)] using this
      · intro j q hq
        cases j with
        | zero => simp at hq; subst hq; simp only [Nat.add_zero, eT.1, eT.2, eT1.2, ev.1, ev.2.1, ev.2.2]; exact hop
        | succ j => have := a3.op j q (by simpa using hq); rwa [show i + 1 + j = i + (j + 1) by omega] at this
      · intro j q hq
        cases j with
        | zero => simp at hq; subst hq; simp only [Nat.add_zero, eT.1, eT1.1, ev.1]; exact hdst
        | succ j => have := a3.dst j q (by simpa using hq); rwa [show i + 1 + j = i + (j + 1) by omega] at this
      · intro j q hq
        cases j with
        | zero => simp only [Nat.add_zero, eT.2, eT1.2, ev.2.2]; exact hn1
        | succ j => have := a3.pu j q (by simpa using hq); rwa [show i + 1 + j = i + (j + 1) by omega] at this
      · intro j q hq j' hj'
        cases j with
        | zero =>
          simp at hq
          subst hq
          simp only [Nat.add_zero] at hj' ⊢
          rw [ev.2.1, ev.2.2, (eold j' hj').2.1, (eold j' hj').2.2]
          simp only [Bool.or_eq_true, Bool.and_eq_true] at hcond
          rcases hcond with hc | hc
          · exact .inr ((clear_of hc.1 hc.2).less (fun x hx => (hrd x).2 ⟨j', hj', hx⟩) (fun x hx => (hwr x).2 ⟨j', hj', hx⟩))
          · have hex : ∃ e, done[i - 1 - j']? = some e := ⟨done[i - 1 - j']'(by omega), List.getElem?_eq_getElem (by omega)⟩
            obtain ⟨e, he⟩ := hex
            obtain ⟨_, e2⟩ := hdone _ e he
            have := apartA_ok done i hc _ e he
            rw [show i - 1 - (i - 1 - j') = j' by omega] at this
            rw [e2, show i - 1 - (i - 1 - j') = j' by omega] at this
            exact this
        | succ j => have := a3.apart j q (by simpa using hq) j' (by omega); rwa [show i + 1 + j = i + (j + 1) by omega] at this
      · rw [show i + (⟨o, gd, b⟩ :: l : List Pre).length = i + 1 + l.length by simp; omega]; exact a4
      · rw [show i + (⟨o, gd, b⟩ :: l : List Pre).length = i + 1 + l.length by simp; omega]; exact a5
      · rw [show i + (⟨o, gd, b⟩ :: l : List Pre).length = i + 1 + l.length by simp; omega]; exact a6
end Go.Proofs.YtdldpehmcfbbeaaGreatDoor.Ev
