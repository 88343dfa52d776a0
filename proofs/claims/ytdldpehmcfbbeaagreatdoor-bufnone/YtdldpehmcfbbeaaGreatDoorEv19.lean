/- What can be told of a region without running it: which operations stand ahead of which in every order; their temporaries. No condition. -/
import Derived.Test.YtdldpehmcfbbeaaGreatDoorEv18
namespace Go.Proofs.YtdldpehmcfbbeaaGreatDoor.Ev
theorem befOf_ok {done : List Nat} {i : Nat} : ∀ (es : List Edge) (m b : Nat), befOf done i es m = some b → (∀ e ∈ es, Region.binds .any e = true → e.on < i ∧ ∃ d, done[i - 1 - e.on]? = some d) ∧ ∀ x, On b x → On m x ∨ ∃ e ∈ es, Region.binds .any e = true ∧ (x = e.on ∨ ∃ d, done[i - 1 - e.on]? = some d ∧ On d x)
  | [], m, b, h => by
    simp only [befOf, Option.some.injEq] at h
    subst h
    exact ⟨by simp, fun x hx => .inl hx⟩
  | e :: es, m, b, h => by
    simp only [befOf] at h
    cases hb : Region.binds .any e with
    | false =>
      rw [hb] at h
      simp only [cond_false] at h
      obtain ⟨a1, a2⟩ := befOf_ok es m b h
      refine ⟨fun e' he' hb' => ?_, fun x hx => ?_⟩
      · rcases List.mem_cons.1 he' with rfl | he'
        · rw [hb] at hb'; cases hb'
        · exact a1 e' he' hb'
      · rcases a2 x hx with h1 | ⟨e', h1, h2⟩
        · exact .inl h1
        · exact .inr ⟨e', by simp [h1], h2⟩
    | true =>
      rw [hb] at h
      simp only [cond_true] at h
      cases hlt : Nat.ble (Nat.succ e.on) i with
      | false => rw [hlt] at h; simp at h
      | true =>
        rw [hlt] at h
        simp only [cond_true] at h
        cases hd : done[i - 1 - e.on]? with
        | none => rw [hd] at h; cases h
        | some d =>
          rw [hd] at h
          simp only at h
          obtain ⟨a1, a2⟩ := befOf_ok es _ b h
          refine ⟨fun e' he' hb' => ?_, fun x hx => ?_⟩
          · rcases List.mem_cons.1 he' with rfl | he'
            · exact ⟨Nat.le_of_ble_eq_true hlt, d, hd⟩
            · exact a1 e' he' hb'
          · rcases a2 x hx with h1 | ⟨e', h1, h2⟩
            · rcases on_lor.1 h1 with h1 | h1
              · exact .inl h1
              · rcases on_lor.1 h1 with h1 | h1
                · exact .inr ⟨e, by simp, hb, .inl (on_bit.1 h1)⟩
                · exact .inr ⟨e, by simp, hb, .inr ⟨d, hd, h1⟩⟩
            · exact .inr ⟨e', by simp [h1], h2⟩
theorem apartT_ok {b tr tw : Nat} : ∀ (l : List (Nat × Nat)) (i : Nat), apartT b tr tw l i = true → ∀ m e, l[m]? = some e → tb b (i - 1 - m) = true ∨ Clear e.1 e.2 tr tw
  | [], _, _, m, e, h => by simp at h
  | (r, w) :: l, i, h, m, e, hm => by
    simp only [apartT, Bool.and_eq_true, Bool.or_eq_true] at h
    obtain ⟨hc, h'⟩ := h
    cases m with
    | zero =>
      simp at hm
      subst hm
      rcases hc with hc | hc
      · exact .inl hc
      · exact .inr (clear_of hc.1 hc.2)
    | succ m =>
      have := apartT_ok l (i - 1) h' m e (by simpa using hm)
      rwa [show i - 1 - 1 - m = i - 1 - (m + 1) by omega] at this
/-- What is known of a region that is made ready; 'q': those that stand ahead of the list, by their numbers. -/
structure Ready (ops : Array Oper) (i : Nat) (l : List Pre) (bf lk dm : Nat → Nat) : Prop where
  gd : ∀ p ∈ l, guardOf ops p.o = some p.gd
  at_ : ∀ (j : Nat) (p : Pre), l[j]? = some p → bf (i + j) = p.bef ∧ lk (i + j) = looks p.o p.gd ∧ dm (i + j) = dstM p.o
  edge : ∀ (j : Nat) (p : Pre), l[j]? = some p → ∀ e ∈ p.o.after.toList, Region.binds .any e = true → e.on < i + j
  bef : ∀ (j : Nat) (p : Pre), l[j]? = some p → ∀ x, On p.bef x → ∃ e ∈ p.o.after.toList, Region.binds .any e = true ∧ (x = e.on ∨ On (bf e.on) x)
  apart : ∀ (j : Nat) (p : Pre), l[j]? = some p → ∀ j', j' < i + j → tb p.bef j' = true ∨ Clear (lk j') (dm j') (lk (i + j)) (dm (i + j))
theorem prepD_ok {ops : Array Oper} : ∀ (os : List Oper) (i : Nat) (done : List Nat) (ts : List (Nat × Nat)) (l : List Pre) (bf0 lk0 dm0 : Nat → Nat), prepD ops os i done ts = some l → done.length = i → ts.length = i → (∀ m d, done[m]? = some d → m < i ∧ d = bf0 (i - 1 - m)) → (∀ m e, ts[m]? = some e → m < i ∧ e = (lk0 (i - 1 - m), dm0 (i - 1 - m))) →
    l.map (·.o) = os ∧ ∃ bf lk dm : Nat → Nat, (∀ j, j < i → bf j = bf0 j ∧ lk j = lk0 j ∧ dm j = dm0 j) ∧ Ready ops i l bf lk dm
  | [], i, done, ts, l, bf0, lk0, dm0, h, _, _, _, _ => by
    simp only [prepD, Option.some.injEq] at h
    subst h
    exact ⟨rfl, bf0, lk0, dm0, fun _ _ => ⟨rfl, rfl, rfl⟩, ⟨by simp, fun j p h => by simp at h, fun j p h => by simp at h, fun j p h => by simp at h, fun j p h => by simp at h⟩⟩
  | o :: os, i, done, ts, l, bf0, lk0, dm0, h, hdl, htl, hdone, hts => by
    unfold prepD at h
    split at h
    · cases h
    · cases hb : befOf done i o.after.toList 0 with
      | none => rw [hb] at h; simp at h
      | some b =>
        cases hg : guardOf ops o with
        | none => rw [hb, hg] at h; simp at h
        | some g =>
          rw [hb, hg] at h
          simp only at h
          cases ha : apartT b (looks o g) (dstM o) ts i with
          | false => rw [ha] at h; simp at h
          | true =>
            rw [ha] at h
            simp only [cond_true] at h
            cases hr : prepD ops os (i + 1) (b :: done) ((looks o g, dstM o) :: ts) with
            | none => rw [hr] at h; simp at h
            | some r =>
              rw [hr] at h
              simp only [Option.some.injEq] at h
              subst h
              obtain ⟨c1, bf, lk, dm, c2, c3⟩ := prepD_ok os (i + 1) (b :: done) ((looks o g, dstM o) :: ts) r (fun j => if j = i then b else bf0 j) (fun j => if j = i then looks o g else lk0 j) (fun j => if j = i then dstM o else dm0 j) hr (by simp [hdl]) (by simp [htl])
                (fun m d hm => by
                  cases m with
                  | zero => simp at hm; subst hm; exact ⟨by omega, by simp⟩
                  | succ m =>
                    obtain ⟨b1, b2⟩ := hdone m d (by simpa using hm)
                    refine ⟨by omega, ?_⟩
                    rw [b2, show i + 1 - 1 - (m + 1) = i - 1 - m by omega, if_neg (by omega)])
                (fun m e hm => by
                  cases m with
                  | zero => simp at hm; subst hm; exact ⟨by omega, by simp⟩
                  | succ m =>
                    obtain ⟨b1, b2⟩ := hts m e (by simpa using hm)
                    refine ⟨by omega, ?_⟩
                    rw [b2, show i + 1 - 1 - (m + 1) = i - 1 - m by omega, if_neg (by omega), if_neg (by omega)])
              have eold : ∀ j, j < i → bf j = bf0 j ∧ lk j = lk0 j ∧ dm j = dm0 j := fun j hj => by
                have := c2 j (by omega)
                simpa only [if_neg (show j ≠ i by omega)] using this
              have ei : bf i = b ∧ lk i = looks o g ∧ dm i = dstM o := by simpa using c2 i (by omega)
              obtain ⟨d1, d2⟩ := befOf_ok _ _ _ hb
              refine ⟨by simp [c1], bf, lk, dm, eold, ⟨?_, ?_, ?_, ?_, ?_⟩⟩
              · intro p hp
                rcases List.mem_cons.1 hp with rfl | hp
                · exact hg
                · exact c3.gd p hp
              · intro j p hp
                cases j with
                | zero => simp at hp; subst hp; exact ei
                | succ j => have := c3.at_ j p (by simpa using hp); rwa [show i + 1 + j = i + (j + 1) by omega] at this
              · intro j p hp
                cases j with
                | zero => simp at hp; subst hp; exact fun e he hbd => (d1 e he hbd).1
                | succ j => have := c3.edge j p (by simpa using hp); rwa [show i + 1 + j = i + (j + 1) by omega] at this
              · intro j p hp
                cases j with
                | zero =>
                  simp at hp
                  subst hp
                  intro x hx
                  rcases d2 x hx with h1 | ⟨e, h1, h2, h3⟩
                  · exact (on_zero h1).elim
                  · refine ⟨e, h1, h2, h3.imp_right ?_⟩
                    rintro ⟨d, h4, h5⟩
                    obtain ⟨h6, h7⟩ := hdone _ d h4
                    have hlt := (d1 e h1 h2).1
                    rw [show i - 1 - (i - 1 - e.on) = e.on by omega] at h7
                    rw [(eold e.on hlt).1, ← h7]
                    exact h5
                | succ j => exact c3.bef j p (by simpa using hp)
              · intro j p hp j' hj'
                cases j with
                | zero =>
                  simp at hp
                  subst hp
                  simp only [Nat.add_zero] at hj' ⊢
                  rw [ei.2.1, ei.2.2, (eold j' hj').2.1, (eold j' hj').2.2]
                  obtain ⟨e, he⟩ : ∃ e, ts[i - 1 - j']? = some e := ⟨ts[i - 1 - j']'(by omega), List.getElem?_eq_getElem (by omega)⟩
                  obtain ⟨_, e2⟩ := hts _ e he
                  have := apartT_ok ts i ha _ e he
                  rw [show i - 1 - (i - 1 - j') = j' by omega] at this
                  rw [e2, show i - 1 - (i - 1 - j') = j' by omega] at this
                  exact this
                | succ j => have := c3.apart j p (by simpa using hp) j' (by omega); rwa [show i + 1 + j = i + (j + 1) by omega] at this
/-- Whoever stands ahead of an operation in every order is done, where its edges are. -/
theorem Ready.closed {ops : Array Oper} {l : List Pre} {bf lk dm : Nat → Nat} (h : Ready ops 0 l bf lk dm) {S : Nat → Prop} (hS : ∀ (j : Nat) (p : Pre), l[j]? = some p → S j → ∀ e ∈ p.o.after.toList, Region.binds .any e = true → S e.on) : ∀ (j : Nat) (p : Pre), l[j]? = some p → (∀ e ∈ p.o.after.toList, Region.binds .any e = true → S e.on) → ∀ x, On p.bef x → S x := by
  intro j
  induction j using Nat.strongRecOn with
  | _ j ih =>
    intro p hp he x hx
    obtain ⟨e, h1, h2, h3⟩ := h.bef j p hp x hx
    rcases h3 with rfl | h3
    · exact he e h1 h2
    · have hlt := h.edge j p hp e h1 h2
      rw [Nat.zero_add] at hlt
      have hjl : j < l.length := by
        rcases Nat.lt_or_ge j l.length with h' | h'
        · exact h'
        · rw [List.getElem?_eq_none h'] at hp; cases hp
      have hq : l[e.on]? = some (l[e.on]'(by omega)) := List.getElem?_eq_getElem (by omega)
      have hb := (h.at_ e.on _ hq).1
      rw [Nat.zero_add] at hb
      rw [hb] at h3
      exact ih e.on hlt _ hq (hS e.on _ hq (he e h1 h2)) x h3
end Go.Proofs.YtdldpehmcfbbeaaGreatDoor.Ev
