/- The evaluator: a region that draws its order, with loads that tell the same whenever they are made (their blocks may be written meanwhile, elsewhere). Conditions: what is said of functions without a Go body (X), and that the machine lets all orders in (mixedOrders). -/
import Derived.Test.YtdldpehmcfbbeaaGreatDoorEvX
namespace Go.Proofs.YtdldpehmcfbbeaaGreatDoor.Ev
variable {P : Program} {X : Ext} {G : Nat}
/-- What a load tells in a memory, and the block that it reads. -/
noncomputable def freeAt (P : Program) (G : Nat) (o : Oper) (T : LL) (H : Hp) : Option (V × Nat) :=
  match o.op with
  | .load t x => opt (ev G T x) fun v => match v with
    | .ptr b off => opt (H.get b) fun ob => match ob with
      | .row _ _ n per tr _ => opt (loadT P t per tr n off) fun v => some (v, b)
      | _ => none
    | _ => none
  | _ => none
noncomputable def sameAt (P : Program) (G : Nat) (o : Oper) (T : LL) (v : V) (b : Nat) (H : Hp) : Bool :=
  match freeAt P G o T H with
  | some (v', b') => iff (eqV 9 v' v) (Nat.beq b' b) false
  | none => false
theorem sameAt_ok {o : Oper} {T : LL} {v : V} {b : Nat} {H : Hp} (h : sameAt P G o T v b H = true) : freeAt P G o T H = some (v, b) := by
  unfold sameAt at h
  split at h
  · rename_i v' b' e
    obtain ⟨h1, h2⟩ := iff_t h
    rw [e, eqV_ok 9 _ _ h1, Nat.eq_of_beq_eq_true h2]
  · cases h
/-- A load that was made, and is held against each memory that follows. -/
structure Pend where
  o : Oper
  T : LL
  v : V
  b : Nat
noncomputable def allB {α : Type} (f : α → Bool) (l : List α) : Bool := List.rec (motive := fun _ => Bool) true (fun x _ r => iff (f x) r false) l
theorem allB_ok {α : Type} {f : α → Bool} : ∀ {l : List α}, allB f l = true → ∀ x ∈ l, f x = true
  | [], _, x, hx => by simp at hx
  | y :: l, h, x, hx => by
    obtain ⟨h1, h2⟩ := iff_t (show iff (f y) (allB f l) false = true from h)
    rcases List.mem_cons.1 hx with rfl | hx
    · exact h1
    · exact allB_ok h2 x hx
/-- A region whose order is drawn; M: which of its operations are such loads. -/
noncomputable def drawnF (P : Program) (X : Ext) (G : Nat) (run : Runner) (rnd : Option Nat) (n : Nat) (ds : List D) (k : K3) (M : Nat) (l : List Pre) : Nat → List (Nat × Nat) → List Pend → List Hp → LL → Hp → Nat → Nat → Ans :=
  List.rec (motive := fun _ => Nat → List (Nat × Nat) → List Pend → List Hp → LL → Hp → Nat → Nat → Ans) (fun _ _ _ _ T H rd wr => k T ds H rd wr)
    (fun p _ rec i done pend hist T H rd wr => Pre.rec (motive := fun _ => Ans) (fun o gd b => iff (tb M i && gd.isNone)
      (get (freeAt P G o T H) fun vb => iff (allB (sameAt P G o T vb.1 vb.2) hist) (get o.dst fun d => iff (Nat.ble (Nat.succ d) n) (nat (Nat.lor rd (bit vb.2)) fun rd => rec (Nat.succ i) ((0, 0) :: done) (⟨o, T, vb.1, vb.2⟩ :: pend) hist (.cons d vb.1 T) H rd wr) .no) .no)
      (oneOp P X G run true rnd n o gd T ds H fun T' _ H' r w =>
        nat r fun r => nat w fun w => iff ((Nat.beq (Nat.land wr (Nat.lor r w)) 0 && Nat.beq (Nat.land rd w) 0) || apartA b r w done i) (iff (allB (fun q => sameAt P G q.o q.T q.v q.b H') pend) (nat (Nat.lor rd r) fun rd => nat (Nat.lor wr w) fun wr => rec (Nat.succ i) ((r, w) :: done) pend (H' :: hist) T' H' rd wr) .no) .no)) p) l
/-- What such a load does: it leaves all as it was. -/
theorem free_does (hX : XOk P G X) {rnd : Option Nat} {n : Nat} {o : Oper} {T : LL} {ds : List D} {H : Hp} {v : V} {b d : Nat} (hd : o.dst = some d) (hn : d < n) (h : freeAt P G o T H = some (v, b)) : OpDoes P G rnd n o none T ds H v ds H (bit b) 0 := by
  classical
  let k : K3 := fun T' ds' H' r w => if T' = .cons d v T ∧ ds' = ds ∧ H' = H ∧ r = bit b ∧ w = 0 then Ans.ok else Ans.no
  have h1 : oneOp P X G (fun _ _ _ _ _ => .no) true rnd n o none T ds H k = .ok := by
    show @iff Ans true (execF o.op P X G o T H (finish P X (fun _ _ _ _ _ => .no) true rnd T n o.dst ds k)) (lay T n o.dst (.tuple []) ds H 0 0 k) = Ans.ok
    rw [iff_eq, if_pos rfl]
    unfold freeAt at h
    split at h
    · rename_i t x hop
      rw [hop]
      show (get (ev G T x) fun x => xLoad P t x H _) = .ok
      obtain ⟨u, e1, h2⟩ := opt_some h
      rw [e1]
      cases u with
      | ptr b' off =>
        obtain ⟨ob, e2, h3⟩ := opt_some h2
        cases ob with
        | row e sz m per tr gr =>
          obtain ⟨v', e3, h4⟩ := opt_some h3
          injection h4 with h4
          injection h4 with h4 h5
          subst h4 h5
          show (get (H.get b') _) = Ans.ok
          rw [e2]
          show (get (loadT P t per tr m off) _) = Ans.ok
          rw [e3]
          show nat (bit b') (fun b => finish P X (fun _ _ _ _ _ => Ans.no) true rnd T n o.dst ds k (Out.val v') H b 0) = Ans.ok
          rw [nat_eq]
          show lay T n o.dst v' ds H (bit b') 0 k = .ok
          rw [hd]
          show @iff Ans (Nat.ble (Nat.succ d) n) _ .no = Ans.ok
          rw [iff_eq, if_pos (Nat.ble_eq_true_of_le hn)]
          exact if_pos ⟨rfl, rfl, rfl, rfl, rfl⟩
        | _ => cases h3
      | _ => cases h2
    · cases h
  obtain ⟨T', ds', H', rd, wr, v', h2, _, h3, _, h4⟩ := oneOp_ok hX (run := fun _ _ _ _ _ => .no) (fun _ _ _ _ _ h => by cases h) h1
  have h2' : (if T' = .cons d v T ∧ ds' = ds ∧ H' = H ∧ rd = bit b ∧ wr = 0 then Ans.ok else .no) = .ok := h2
  split at h2'
  · rename_i hc
    obtain ⟨rfl, rfl, rfl, rfl, rfl⟩ := hc
    rcases h3 with ⟨e, _⟩ | ⟨e, _, _, h5⟩
    · rw [hd] at e; cases e
    · injection h5 with _ h5
      rw [h5]; exact h4
  · cases h2'
/-- The states in the written order, with such loads. -/
structure TraceF (P : Program) (G : Nat) (rnd : Option Nat) (n : Nat) (ds : List D) (i : Nat) (l : List Pre) (Th : Nat → LL) (Hh : Nat → Hp) (vv : Nat → V) (rr ww : Nat → Nat) (rF : Nat) : Prop where
  op : ∀ j p, l[j]? = some p → OpDoes P G rnd n p.o p.gd (Th (i + j)) ds (Hh (i + j)) (vv (i + j)) ds (Hh (i + j + 1)) (rr (i + j)) (ww (i + j)) ∨
    (rr (i + j) = 0 ∧ ww (i + j) = 0 ∧ Hh (i + j + 1) = Hh (i + j) ∧ p.gd = none ∧ p.o.dst.isSome = true ∧ ∃ b, On rF b ∧ ∀ m, m ≤ i + l.length → freeAt P G p.o (Th (i + j)) (Hh m) = some (vv (i + j), b))
  dst : ∀ j p, l[j]? = some p → (p.o.dst = none ∧ Th (i + j + 1) = Th (i + j)) ∨ ∃ d, p.o.dst = some d ∧ d < n ∧ Th (i + j + 1) = .cons d (vv (i + j)) (Th (i + j))
  pu : ∀ j p, l[j]? = some p → Pu (Hh (i + j)) (Hh (i + j + 1)) (ww (i + j))
  apart : ∀ j p, l[j]? = some p → ∀ j', j' < i + j → tb p.bef j' = true ∨ Clear (rr j') (ww j') (rr (i + j)) (ww (i + j))
theorem drawnF_trace (hX : XOk P G X) {run : Runner} (hR : RunOk P G run) {rnd : Option Nat} {n : Nat} {ds : List D} {k : K3} {M : Nat} : ∀ (l : List Pre) (i : Nat) (done : List (Nat × Nat)) (pend : List Pend) (hist : List Hp) (T : LL) (H : Hp) (rd wr : Nat) (Th0 : Nat → LL) (Hh0 : Nat → Hp) (vv0 : Nat → V) (rr0 ww0 : Nat → Nat),
    drawnF P X G run rnd n ds k M l i done pend hist T H rd wr = .ok → Th0 i = T → Hh0 i = H → (∀ m e, done[m]? = some e → m < i ∧ e = (rr0 (i - 1 - m), ww0 (i - 1 - m))) → done.length = i → (∀ q ∈ pend, ∀ m, m ≤ i → freeAt P G q.o q.T (Hh0 m) = some (q.v, q.b)) → (∀ m, m ≤ i → Hh0 m ∈ hist) → (∀ j, j < i → ∀ x, On (rr0 j) x → On rd x) → (∀ x, On wr x ↔ ∃ j, j < i ∧ On (ww0 j) x) →
    ∃ (Th : Nat → LL) (Hh : Nat → Hp) (vv : Nat → V) (rr ww : Nat → Nat) (rd' wr' : Nat), (∀ j, j ≤ i → Th j = Th0 j ∧ Hh j = Hh0 j) ∧ (∀ j, j < i → vv j = vv0 j ∧ rr j = rr0 j ∧ ww j = ww0 j) ∧ TraceF P G rnd n ds i l Th Hh vv rr ww rd' ∧ k (Th (i + l.length)) ds (Hh (i + l.length)) rd' wr' = .ok ∧
      (∀ x, On rd x → On rd' x) ∧ (∀ j, j < i + l.length → ∀ x, On (rr j) x → On rd' x) ∧ (∀ x, On wr' x ↔ ∃ j, j < i + l.length ∧ On (ww j) x) ∧ ∀ q ∈ pend, ∀ m, m ≤ i + l.length → freeAt P G q.o q.T (Hh m) = some (q.v, q.b)
  | [], i, done, pend, hist, T, H, rd, wr, Th0, Hh0, vv0, rr0, ww0, h, hT, hH, _, _, hpend, _, hrd, hwr => by
    subst hT hH
    exact ⟨Th0, Hh0, vv0, rr0, ww0, rd, wr, fun _ _ => ⟨rfl, rfl⟩, fun _ _ => ⟨rfl, rfl, rfl⟩, ⟨fun j p hp => by simp at hp, fun j p hp => by simp at hp, fun j p hp => by simp at hp, fun j p hp => by simp at hp⟩, h, fun _ h => h, hrd, hwr, hpend⟩
  | p :: l, i, done, pend, hist, T, H, rd, wr, Th0, Hh0, vv0, rr0, ww0, h, hT, hH, hdone, hlen, hpend, hhist, hrd, hwr => by
    cases p with
    | mk o gd b =>
      have h' : iff (tb M i && gd.isNone)
        (get (freeAt P G o T H) fun vb => iff (allB (sameAt P G o T vb.1 vb.2) hist) (get o.dst fun d => iff (Nat.ble (Nat.succ d) n) (nat (Nat.lor rd (bit vb.2)) fun rd => drawnF P X G run rnd n ds k M l (Nat.succ i) ((0, 0) :: done) (⟨o, T, vb.1, vb.2⟩ :: pend) hist (.cons d vb.1 T) H rd wr) .no) .no)
        (oneOp P X G run true rnd n o gd T ds H fun T' _ H' r w =>
          nat r fun r => nat w fun w => iff ((Nat.beq (Nat.land wr (Nat.lor r w)) 0 && Nat.beq (Nat.land rd w) 0) || apartA b r w done i) (iff (allB (fun q => sameAt P G q.o q.T q.v q.b H') pend) (nat (Nat.lor rd r) fun rd => nat (Nat.lor wr w) fun wr => drawnF P X G run rnd n ds k M l (Nat.succ i) ((r, w) :: done) pend (H' :: hist) T' H' rd wr) .no) .no) = .ok := h
      obtain ⟨T1, H1, v, r, w, pend1, hist1, rd1, wr1, h2, hn1, hdst, hop, hap, hpend1, hhist1, hsub, hrd1, hr1, hwr1⟩ : ∃ T1 H1 v r w pend1 hist1 rd1 wr1, drawnF P X G run rnd n ds k M l (i + 1) ((r, w) :: done) pend1 hist1 T1 H1 rd1 wr1 = .ok ∧ Pu H H1 w ∧ ((o.dst = none ∧ T1 = T) ∨ ∃ d, o.dst = some d ∧ d < n ∧ T1 = .cons d v T) ∧
          (OpDoes P G rnd n o gd T ds H v ds H1 r w ∨ (r = 0 ∧ w = 0 ∧ H1 = H ∧ gd = none ∧ o.dst.isSome = true ∧ ∃ c, On rd1 c ∧ (⟨o, T, v, c⟩ : Pend) ∈ pend1)) ∧ (∀ j', j' < i → tb b j' = true ∨ Clear (rr0 j') (ww0 j') r w) ∧
          (∀ q ∈ pend1, ∀ m, m ≤ i + 1 → freeAt P G q.o q.T (if m = i + 1 then H1 else Hh0 m) = some (q.v, q.b)) ∧ (∀ m, m ≤ i + 1 → (if m = i + 1 then H1 else Hh0 m) ∈ hist1) ∧ (∀ q ∈ pend, q ∈ pend1) ∧ (∀ x, On rd x → On rd1 x) ∧ (∀ x, On r x → On rd1 x) ∧ (∀ x, On wr1 x ↔ On wr x ∨ On w x) := by
        rcases iff_ok h' with ⟨hc, h1⟩ | ⟨_, h1⟩
        · simp only [Bool.and_eq_true] at hc
          obtain ⟨⟨v, c⟩, e1, h2⟩ := get_ok h1
          obtain ⟨hall, h3⟩ := iff_o h2
          obtain ⟨d, e2, h4⟩ := get_ok h3
          obtain ⟨hdn, h5⟩ := iff_o h4
          rw [nat_eq] at h5
          have hgn : gd = none := by cases gd with | none => rfl | some _ => simp at hc
          have hself : freeAt P G o T H = some (v, c) := e1
          refine ⟨_, H, v, 0, 0, _, hist, _, wr, h5, Pu.refl _ _, .inr ⟨d, e2, Nat.le_of_ble_eq_true hdn, rfl⟩, .inr ⟨rfl, rfl, rfl, hgn, by rw [e2]; rfl, c, on_lor.2 (.inr (on_bit.2 rfl)), by simp⟩, fun j' _ => .inr ⟨fun x _ h => on_zero h, fun x _ h => on_zero h, fun x _ h => on_zero h⟩, ?_, ?_, fun q hq => List.mem_cons_of_mem _ hq, fun x hx => on_lor.2 (.inl hx), fun x hx => (on_zero hx).elim, fun x => ⟨.inl, fun h => h.elim (fun h => h) fun h => (on_zero h).elim⟩⟩
          · intro q hq m hm
            have key : ∀ m, m ≤ i → freeAt P G q.o q.T (Hh0 m) = some (q.v, q.b) := by
              rcases List.mem_cons.1 hq with rfl | hq
              · exact fun m hm => sameAt_ok (allB_ok hall _ (hhist m hm))
              · exact hpend q hq
            by_cases e : m = i + 1
            · rw [if_pos e, ← hH]; exact key i (Nat.le_refl _)
            · rw [if_neg e]; exact key m (by omega)
          · intro m hm
            by_cases e : m = i + 1
            · rw [if_pos e, ← hH]; exact hhist i (Nat.le_refl _)
            · rw [if_neg e]; exact hhist m (by omega)
        · obtain ⟨T1, ds1, H1, r, w, v, h2, hn1, hdst, hds, hop⟩ := oneOp_ok hX hR (dr := true) h1
          obtain rfl := hds rfl
          rw [nat_eq, nat_eq] at h2
          obtain ⟨hcond, h3⟩ := iff_no h2
          obtain ⟨hall, h4⟩ := iff_o h3
          rw [nat_eq, nat_eq] at h4
          refine ⟨T1, H1, v, r, w, pend, _, _, _, h4, hn1, hdst, .inl hop, ?_, ?_, ?_, fun q hq => hq, fun x hx => on_lor.2 (.inl hx), fun x hx => on_lor.2 (.inr hx), fun x => on_lor⟩
          · intro j' hj'
            simp only [Bool.or_eq_true, Bool.and_eq_true] at hcond
            rcases hcond with hc | hc
            · exact .inr ((clear_of hc.1 hc.2).less (fun x hx => hrd j' hj' x hx) (fun x hx => (hwr x).2 ⟨j', hj', hx⟩))
            · obtain ⟨e, he⟩ : ∃ e, done[i - 1 - j']? = some e := ⟨done[i - 1 - j']'(by omega), List.getElem?_eq_getElem (by omega)⟩
              obtain ⟨_, e2⟩ := hdone _ e he
              have := apartA_ok done i hc _ e he
              rw [show i - 1 - (i - 1 - j') = j' by omega] at this
              rw [e2, show i - 1 - (i - 1 - j') = j' by omega] at this
              exact this
          · intro q hq m hm
            by_cases e : m = i + 1
            · rw [if_pos e]; exact sameAt_ok (allB_ok hall q hq)
            · rw [if_neg e]; exact hpend q hq m (by omega)
          · intro m hm
            by_cases e : m = i + 1
            · rw [if_pos e]; simp
            · rw [if_neg e]; exact List.mem_cons_of_mem _ (hhist m (by omega))
      obtain ⟨Th, Hh, vv, rr, ww, rd', wr', a1, a2, a3, a4, a5, a6, a7, a8⟩ := drawnF_trace hX hR l (i + 1) ((r, w) :: done) pend1 hist1 T1 H1 rd1 wr1
        (fun j => if j = i + 1 then T1 else Th0 j) (fun j => if j = i + 1 then H1 else Hh0 j) (fun j => if j = i then v else vv0 j) (fun j => if j = i then r else rr0 j) (fun j => if j = i then w else ww0 j) h2 (if_pos rfl) (if_pos rfl)
        (fun m e hm => by
          cases m with
          | zero => simp at hm; subst hm; exact ⟨by omega, by simp⟩
          | succ m =>
            obtain ⟨b1, b2⟩ := hdone m e (by simpa using hm)
            refine ⟨by omega, ?_⟩
            rw [b2, show i + 1 - 1 - (m + 1) = i - 1 - m by omega, if_neg (by omega), if_neg (by omega)])
        (by simp [hlen]) hpend1 hhist1
        (fun j hj x hx => by
          by_cases e : j = i
          · subst e; simp at hx; exact hr1 x hx
          · simp only [if_neg e] at hx; exact hrd1 x (hrd j (by omega) x hx))
        (fun x => by
          rw [hwr1, hwr]
          constructor
          · rintro (⟨j, h3, h4⟩ | h3)
            · exact ⟨j, by omega, by simp only [if_neg (show j ≠ i by omega)]; exact h4⟩
            · exact ⟨i, by omega, by simpa using h3⟩
          · rintro ⟨j, h3, h4⟩
            by_cases e : j = i
            · subst e; simp at h4; exact .inr h4
            · simp only [if_neg e] at h4; exact .inl ⟨j, by omega, h4⟩)
      have eT : Th i = T ∧ Hh i = H := by
        have := a1 i (by omega)
        simp only [if_neg (show i ≠ i + 1 by omega), hT, hH] at this
        exact this
      have eT1 : Th (i + 1) = T1 ∧ Hh (i + 1) = H1 := by simpa using a1 (i + 1) (Nat.le_refl _)
      have ev : vv i = v ∧ rr i = r ∧ ww i = w := by simpa using a2 i (by omega)
      have eold : ∀ j, j < i → vv j = vv0 j ∧ rr j = rr0 j ∧ ww j = ww0 j := fun j hj => by
        have := a2 j (by omega)
        simpa only [if_neg (show j ≠ i by omega)] using this
      have elen : i + (⟨o, gd, b⟩ :: l : List Pre).length = i + 1 + l.length := by simp; omega
      refine ⟨Th, Hh, vv, rr, ww, rd', wr', fun j hj => ?_, eold, ⟨?_, ?_, ?_, ?_⟩, ?_, fun x hx => a5 x (hrd1 x hx), ?_, ?_, ?_⟩
      · have := a1 j (by omega)
        simpa only [if_neg (show j ≠ i + 1 by omega)] using this
      · intro j q hq
        cases j with
        | zero =>
          simp at hq
          subst hq
          simp only [Nat.add_zero, eT.1, eT.2, eT1.2, ev.1, ev.2.1, ev.2.2]
          rcases hop with hop | ⟨e1, e2, e3, e4, e5, c, hc, hq⟩
          · exact .inl hop
          · refine .inr ⟨e1, e2, e3, e4, e5, c, a5 c hc, fun m hm => ?_⟩
            exact a8 _ hq m (by rw [← elen]; exact hm)
        | succ j =>
          have := a3.op j q (by simpa using hq)
          rw [show i + 1 + j = i + (j + 1) by omega] at this
          rw [elen]; exact this
      · intro j q hq
        cases j with
        | zero => simp at hq; subst hq; simp only [Nat.add_zero, eT.1, eT1.1, ev.1]; exact hdst
        | succ j => have := a3.dst j q (by simpa using hq); rwa [show i + 1 + j = i + (j + 1) by omega] at this
      · intro j q hq
        cases j with
        | zero => simp only [Nat.add_zero, eT.2, eT1.2, ev.2.2]; exact hn1
        | succ j => have := a3.pu j q (by simpa using hq); rwa [show i + 1 + j = i + (j + 1) by omega] at this
      · intro j q hq j' hj'
        cases j with
        | zero =>
          simp at hq
          subst hq
          simp only [Nat.add_zero] at hj' ⊢
          rw [ev.2.1, ev.2.2, (eold j' hj').2.1, (eold j' hj').2.2]
          exact hap j' hj'
        | succ j => have := a3.apart j q (by simpa using hq) j' (by omega); rwa [show i + 1 + j = i + (j + 1) by omega] at this
      · rw [elen]; exact a4
      · rw [elen]; exact a6
      · rw [elen]; exact a7
      · intro q hq m hm
        exact a8 q (hsub q hq) m (by rw [← elen]; exact hm)
/-- What leaves all as it was may be told of any memory. -/
theorem Goes.idle {R1 R2 : Nat → Prop} {ρ ρ' : Env} {H1 H2 : Hp} {w w' : World} (hs : St G R2 ρ H2 w) (g : Goes G R1 ρ H1 w 0 ρ' H1 w') : ρ' = ρ ∧ Goes G R2 ρ H2 w 0 ρ' H2 w' := by
  have hρ : ρ' = ρ := by
    funext x
    cases h : ρ x with
    | some k => exact g.le x k h
    | none =>
      cases h' : ρ' x with
      | none => rfl
      | some k => have := (g.new x k h h').1; omega
  subst hρ
  have same : ∀ b, b < w.heap.size → w'.heap[b]? = w.heap[b]? := fun b hb => g.same b hb fun x o k h => (on_zero h).elim
  refine ⟨rfl, ⟨fun x o hx hget => ?_, fun x y o o' k k' hx hy => hs.inj x y o o' k k' (hx.resolve_right on_zero) (hy.resolve_right on_zero), hs.glob, fun x k hk => Nat.lt_of_lt_of_le (hs.low x k hk) g.size⟩, fun _ _ h => h, fun x k h1 h2 => (by rw [h1] at h2; cases h2), g.size, fun b hb _ => same b hb, Nat.le_refl _, fun _ _ _ h => h, fun x o h => .inl ⟨o, h⟩, fun x hx => (on_zero hx).elim, g.rest⟩
  obtain ⟨k, ob, a1, a2, a3⟩ := hs.sat x o (hx.resolve_right on_zero) hget
  exact ⟨k, ob, a1, (same _ (hs.low x k a1)).trans a2, a3⟩
section
variable {rnd : Option Nat} {n : Nat} {ds : List D} {l : List Pre} {Th : Nat → LL} {Hh : Nat → Hp} {vv : Nat → V} {rr ww : Nat → Nat} {ops : Array Oper} {bf lk dm : Nat → Nat} {rF : Nat}
theorem TraceF.plan (tr : TraceF P G rnd n ds 0 l Th Hh vv rr ww rF) : Plan l.length Hh ww := ⟨fun j hj => by
  have := tr.pu j _ (List.getElem?_eq_getElem hj)
  rwa [Nat.zero_add] at this⟩
theorem TraceF.told (tr : TraceF P G rnd n ds 0 l Th Hh vv rr ww rF) (rdy : Ready ops 0 l bf lk dm) : ∀ j, j < l.length → ∀ t u, ¬ On (dm j) t → (fun j t => (Th j).get t) (j + 1) t = some u → (fun j t => (Th j).get t) j t = some u := by
  intro j hj t u hn h
  have hp : l[j]? = some l[j] := List.getElem?_eq_getElem hj
  have h1 := tr.dst j _ hp
  have h2 := (rdy.at_ j _ hp).2.2
  rw [Nat.zero_add] at h1 h2
  rcases h1 with ⟨_, e⟩ | ⟨d, e1, _, e2⟩
  · simp only [e] at h; exact h
  · simp only [e2] at h
    rw [cons_get] at h
    rw [if_neg] at h
    · exact h
    · intro e
      apply hn
      rw [h2]
      exact dstM_on.2 (by rw [e1, e])
/-- One operation that is ready runs, and what is kept is kept. -/
theorem Inv.runF {X : Ext} (hX : XOk P G X) (tr : TraceF P G rnd n ds 0 l Th Hh vv rr ww rF) (rdy : Ready ops 0 l bf lk dm) (hmap : l.map (·.o) = ops.toList) {R : Nat → Prop} {ρ0 : Env} {w0 : World} {S : Nat → Prop} {ρ : Env} {w : World} {f : Frame} {cs : List Frame} {kk : List Item} {i : Nat} {rest : List Nat} (v : Inv G l.length n Hh Th ww dm R ρ0 w0 S ρ w f.tmps) (hf : Fresh ρ0 (Hh 0).next (Hh l.length).next) (hG : G ≤ (Hh 0).next)
    (hrR : ∀ j, j < l.length → ∀ x, On (rr j) x → R x) (hrF : ∀ x, On rF x → R x) (hSl : ∀ j p, l[j]? = some p → S j → ∀ e ∈ p.o.after.toList, Region.binds .any e = true → S e.on) {p : Pre} (hp : l[i]? = some p) (hS : ¬ S i) (hre : ∀ e ∈ p.o.after.toList, Region.binds .any e = true → S e.on)
    (hm : f.mode = .run) (hk : f.kind = .normal ∨ f.kind = .deferred) (hr : RoundR ρ rnd f.roundOf) (hds : DRs ρ ds f.defers) (ht : f.todo = .inRegion ops (i :: rest) :: kk) (hcs : CsOk f cs) :
    ∃ w' ρ' tm2 ds2, Steps P (lone f cs w) (lone { f with tmps := tm2, defers := ds2, todo := .inRegion ops rest :: kk } cs w') ∧ ρ.Le ρ' ∧ DRs ρ' ds ds2 ∧ Inv G l.length n Hh Th ww dm R ρ0 w0 (fun m => S m ∨ m = i) ρ' w' tm2 := by
  have hi : i < l.length := by
    rcases Nat.lt_or_ge i l.length with h' | h'
    · exact h'
    · rw [List.getElem?_eq_none h'] at hp; cases hp
  have pl := tr.plan
  have hbef : ∀ j, tb p.bef j = true → S j := fun j hj => rdy.closed hSl i p hp hre j (by rw [tb_eq] at hj; exact hj)
  have hbehind : ∀ m q, l[m]? = some q → S m → tb q.bef i = true → False := fun m q hq hs hb => hS (rdy.closed hSl m q hq (hSl m q hq hs) i (by rw [tb_eq] at hb; exact hb))
  have hap : ∀ m, m < i → S m ∨ Clear (rr m) (ww m) (rr i) (ww i) := fun m hlt => by
    have := tr.apart i p hp m (by omega)
    rw [Nat.zero_add] at this
    exact this.imp_left (hbef m)
  have hap2 : ∀ m, i < m → m < l.length → S m → Clear (rr i) (ww i) (rr m) (ww m) := fun m h1 h2 hs => by
    have hq : l[m]? = some l[m] := List.getElem?_eq_getElem h2
    have := tr.apart m _ hq i (by omega)
    rw [Nat.zero_add] at this
    rcases this with h | h
    · exact (hbehind m _ hq hs h).elim
    · exact h
  have hapT : ∀ m, m < i → S m ∨ Clear (lk m) (dm m) (lk i) (dm i) := fun m hlt => by
    have := rdy.apart i p hp m (by omega)
    rw [Nat.zero_add] at this
    exact this.imp_left (hbef m)
  have hapT2 : ∀ m, i < m → m < l.length → S m → Clear (lk i) (dm i) (lk m) (dm m) := fun m h1 h2 hs => by
    have hq : l[m]? = some l[m] := List.getElem?_eq_getElem h2
    have := rdy.apart m _ hq i (by omega)
    rw [Nat.zero_add] at this
    rcases this with h | h
    · exact (hbehind m _ hq hs h).elim
    · exact h
  have hB : ∀ x, (On (rr i) x ∨ On (ww i) x) → ∀ m, m < l.length → S m → On (ww m) x → m < i := by
    intro x hx m h1 h2 h3
    rcases Nat.lt_trichotomy m i with h | h | h
    · exact h
    · exact (hS (h ▸ h2)).elim
    · have c := hap2 m h h1 h2
      rcases hx with hx | hx
      · exact (c.2.2 x hx h3).elim
      · exact (c.2.1 x hx h3).elim
  have hBT : ∀ t, (On (lk i) t ∨ On (dm i) t) → ∀ m, m < l.length → S m → On (dm m) t → m < i := by
    intro x hx m h1 h2 h3
    rcases Nat.lt_trichotomy m i with h | h | h
    · exact h
    · exact (hS (h ▸ h2)).elim
    · have c := hapT2 m h h1 h2
      rcases hx with hx | hx
      · exact (c.2.2 x hx h3).elim
      · exact (c.2.1 x hx h3).elim
  have hrd : ∀ x, On (rr i) x → Ri l.length Hh ww R S i x := fun x hx => ⟨.inl (hrR i hi x hx), fun o ho => Cont.read pl.old (by omega) (fun m h1 h2 => (hap m h1).elim id fun c => (c.1 x h2 hx).elim) (fun m h1 h2 h3 => hB x (.inl hx) m h1 h2 h3) ho⟩
  have hread : ∀ t, On (lk i) t → ∀ u, (Th i).get t = some u → ∃ r, f.tmps[t]? = some r ∧ VR ρ u r := fun t hx u hu => v.tmv t u (Cont.read (tr.told rdy) (by omega) (fun m h1 h2 => (hapT m h1).elim id fun c => (c.1 t h2 hx).elim) (fun m h1 h2 h3 => hBT t (.inl hx) m h1 h2 h3) hu)
  obtain ⟨e1, e2, e3⟩ := rdy.at_ i p hp
  rw [Nat.zero_add] at e1 e2 e3
  have hop := tr.op i p hp
  have hds' := tr.dst i p hp
  rw [Nat.zero_add] at hop hds'
  have ho : ops[i]? = some p.o := by rw [← Array.getElem?_toList, ← hmap, List.getElem?_map, hp]; rfl
  have st := v.st i
  have hev : EvR G ρ (Th i) p.o f.eval := fun x hx u hu => ev_ok st (fun t e u' hu' => hread t (by rw [e2]; exact looks_tmp (e ▸ hx)) u' hu') hu
  have hgd : GdR ρ (Th i) p.gd f.tmps := fun d b e u hu => hread d (by rw [e2, e]; exact looks_gd) u hu
  obtain ⟨w', ρ', r, ds2, s1, v1, d1, g1⟩ : ∃ w' ρ' r ds2, Steps P (lone f cs w) (lone { f with tmps := (match p.o.dst with | some d => f.tmps.setIfInBounds d r | none => f.tmps), defers := ds2, todo := .inRegion ops rest :: kk } cs w') ∧ VR ρ' (vv i) r ∧ DRs ρ' ds ds2 ∧ Goes G (Ri l.length Hh ww R S i) ρ (Hh i) w (ww i) ρ' (Hh (i + 1)) w' := by
    rcases hop with hop | ⟨e4, e5, e6, e7, e8, b, hb, hfree⟩
    · exact hop (Ri l.length Hh ww R S i) ρ w f cs ops i rest kk ho (rdy.gd p (List.mem_of_getElem? hp)) hev hgd hm hk hr hds v.tsz ht st hrd (v.fresh pl hf hi hS) (Nat.le_trans hG (pl.next i (Nat.zero_le _) (by omega))) hcs
    · obtain ⟨d, hd, hdn⟩ : ∃ d, p.o.dst = some d ∧ d < n := by
        rcases hds' with ⟨h1, _⟩ | ⟨d, h1, h2, _⟩
        · rw [h1] at e8; cases e8
        · exact ⟨d, h1, h2⟩
      obtain ⟨m, hmN, hct⟩ : ∃ m, m ≤ l.length ∧ ∀ o, (Hh m).tr.get b = some o → Cont l.length S ww (fun j x => (Hh j).tr.get x) b o := by
        by_cases hw : Wt l.length S ww b
        · obtain ⟨m, a1, a2, a3⟩ := greatest (p := fun m => S m ∧ On (ww m) b) _ hw
          exact ⟨m + 1, by omega, fun o ho => .inl ⟨m, a1, a2, a3, ho⟩⟩
        · exact ⟨0, Nat.zero_le _, fun o ho => .inr ⟨hw, ho⟩⟩
      have stb : St G (fun x => x = b) ρ (Hh m) w := ⟨fun x o hx hg => by subst hx; exact v.sat x o (.inl (hrF x hb)) (hct o hg), fun x y _ _ _ _ hx hy _ _ _ _ _ => hx.trans hy.symm, v.glob, v.low⟩
      have hdoes := free_does hX (rnd := rnd) (ds := ds) hd hdn (hfree m (by omega))
      have hgdr : p.gd = none := e7
      rw [← hgdr] at hdoes
      obtain ⟨w', ρ', r, ds2, s1, v1, d1, g1⟩ := hdoes (fun x => x = b) ρ w f cs ops i rest kk ho (rdy.gd p (List.mem_of_getElem? hp)) hev hgd hm hk hr hds v.tsz ht stb (fun x hx => (on_bit.1 hx).symm ▸ rfl) (fun x x1 x2 => by omega) (Nat.le_trans hG (pl.next m (Nat.zero_le _) hmN)) hcs
      obtain ⟨_, g2⟩ := Goes.idle st g1
      rw [e5, e6]
      exact ⟨w', ρ', r, ds2, s1, v1, d1, g2⟩
  refine ⟨w', ρ', _, ds2, s1, g1.le, d1, v.step pl hf hi hS (fun x hx m h1 h2 h3 => Nat.le_of_lt (hB x (.inr hx) m h1 h2 h3)) (fun t hx m h1 h2 h3 => Nat.le_of_lt (hBT t (.inr hx) m h1 h2 h3)) g1 ?_ ?_ ?_⟩
  · cases p.o.dst with
    | none => exact v.tsz
    | some d => simp [v.tsz]
  · intro t u htd hu
    rw [e3] at htd
    have hd := dstM_on.1 htd
    rcases hds' with ⟨h1, _⟩ | ⟨d, h1, h2, h3⟩
    · rw [h1] at hd; cases hd
    · rw [hd] at h1
      injection h1 with h1
      subst h1
      rw [h3, cons_get, if_pos rfl] at hu
      injection hu with hu
      subst hu
      rw [hd]
      exact ⟨r, by simp only; rw [Array.getElem?_setIfInBounds_self_of_lt (by rw [v.tsz]; exact h2)], v1⟩
  · intro t htd
    cases hd : p.o.dst with
    | none => rfl
    | some d =>
      simp only
      rw [Array.getElem?_setIfInBounds_ne]
      intro e
      exact htd (by rw [e3]; exact dstM_on.2 (by rw [hd, e]))
theorem sched_okF {X : Ext} (hX : XOk P G X) (tr : TraceF P G rnd n ds 0 l Th Hh vv rr ww rF) (rdy : Ready ops 0 l bf lk dm) (hmap : l.map (·.o) = ops.toList) {R : Nat → Prop} {ρ0 : Env} {w0 : World} (hf : Fresh ρ0 (Hh 0).next (Hh l.length).next) (hG : G ≤ (Hh 0).next) (hrR : ∀ j, j < l.length → ∀ x, On (rr j) x → R x) (hrF : ∀ x, On rF x → R x) {cs : List Frame} {kk : List Item} :
    ∀ (fuel t : Nat) (listed : Array Bool) (ρ : Env) (w : World) (f : Frame), listed.size = ops.size → unl listed ops.size ≤ fuel → Inv G l.length n Hh Th ww dm R ρ0 w0 (fun j => listed.getD j false = true) ρ w f.tmps →
      (∀ j p, l[j]? = some p → listed.getD j false = true → ∀ e ∈ p.o.after.toList, Region.binds .any e = true → listed.getD e.on false = true) →
      f.mode = .run → (f.kind = .normal ∨ f.kind = .deferred) → RoundR ρ rnd f.roundOf → DRs ρ ds f.defers → f.todo = .inRegion ops (Region.linearise.go .any ops fuel t listed []) :: kk → CsOk f cs →
      ∃ w' ρ' tm2 ds2 S, Steps P (lone f cs w) (lone { f with tmps := tm2, defers := ds2, todo := kk } cs w') ∧ DRs ρ' ds ds2 ∧ (∀ m, m < l.length → S m) ∧ Inv G l.length n Hh Th ww dm R ρ0 w0 S ρ' w' tm2 := by
  have hlen : l.length = ops.size := by
    have := congrArg List.length hmap
    simpa using this
  intro fuel
  induction fuel with
  | zero =>
    intro t listed ρ w f _ hu v _ hm _ _ hds ht _
    have ht' : f.todo = .inRegion ops [] :: kk := ht
    exact ⟨w, ρ, f.tmps, f.defers, _, .one (stp hm (by simp [stepG.exec, ht'])), hds, fun m h => unl_all ops.size hu m (by omega), v⟩
  | succ fuel ih =>
    intro t listed ρ w f hsz hu v hSl hm hk hr hds ht hcs
    have hgo : Region.linearise.go .any ops (fuel + 1) t listed [] = (match (Region.ready .any ops listed)[t % (Region.ready .any ops listed).length]? with
      | some i => Region.linearise.go .any ops fuel (t / (Region.ready .any ops listed).length) (listed.setIfInBounds i true) [i]
      | none => []) := rfl
    rw [hgo] at ht
    cases hi : (Region.ready .any ops listed)[t % (Region.ready .any ops listed).length]? with
    | none =>
      have hnil : Region.ready .any ops listed = [] := by
        cases hr : Region.ready .any ops listed with
        | nil => rfl
        | cons x xs =>
          rw [hr] at hi
          rw [List.getElem?_eq_getElem (Nat.mod_lt _ (by simp))] at hi
          cases hi
      rw [hi] at ht
      have ht' : f.todo = .inRegion ops [] :: kk := ht
      refine ⟨w, ρ, f.tmps, f.defers, _, .one (stp hm (by simp [stepG.exec, ht'])), hds, ?_, v⟩
      intro m
      induction m using Nat.strongRecOn with
      | _ m ihm =>
        intro hml
        cases hl : listed.getD m false with
        | true => rfl
        | false =>
          exfalso
          have hp : l[m]? = some l[m] := List.getElem?_eq_getElem hml
          have ho : ops[m]? = some l[m].o := by rw [← Array.getElem?_toList, ← hmap, List.getElem?_map, hp]; rfl
          have hmem : m ∈ Region.ready .any ops listed := by
            rw [mem_ready]
            refine ⟨?_, _, ho, fun e he hb => ?_⟩
            · have hms : m < listed.size := by omega
              simpa [Array.getD, hms] using hl
            · have := rdy.edge m _ hp e (Array.mem_toList_iff.2 he) hb
              exact ihm e.on (by omega) (by omega)
          rw [hnil] at hmem
          cases hmem
    | some i =>
      rw [hi] at ht
      simp only at ht
      rw [linearise_go_acc, List.reverse_singleton, List.singleton_append] at ht
      obtain ⟨hn, o, ho, hre⟩ := mem_ready.1 (List.mem_of_getElem? hi)
      have his : i < ops.size := (Array.getElem?_eq_some_iff.1 ho).1
      have hp : l[i]? = some l[i] := List.getElem?_eq_getElem (by omega)
      have ho' : ops[i]? = some l[i].o := by rw [← Array.getElem?_toList, ← hmap, List.getElem?_map, hp]; rfl
      rw [ho] at ho'
      injection ho' with ho'
      subst ho'
      have hil : i < listed.size := by omega
      have hn' : ¬ listed.getD i false = true := by
        intro e
        simp [Array.getD, hil] at hn e
        rw [hn] at e
        cases e
      have hre' : ∀ e ∈ l[i].o.after.toList, Region.binds .any e = true → listed.getD e.on false = true := fun e he hb => hre e (Array.mem_toList_iff.1 he) hb
      obtain ⟨w1, ρ1, tm1, ds1, s1, le1, d1, v1⟩ := v.runF hX tr rdy hmap hf hG hrR hrF hSl hp hn' hre' hm hk hr hds ht hcs
      have eS : (fun m => listed.getD m false = true ∨ m = i) = fun j => (listed.setIfInBounds i true).getD j false = true := funext fun j => (set_on hil j).symm
      rw [eS] at v1
      obtain ⟨w2, ρ2, tm2, ds2, S, s2, d2, h2, v2⟩ := ih _ (listed.setIfInBounds i true) ρ1 w1 { f with tmps := tm1, defers := ds1, todo := .inRegion ops (Region.linearise.go .any ops fuel (t / (Region.ready .any ops listed).length) (listed.setIfInBounds i true) []) :: kk } (by simp [hsz]) (by have := unl_set hil hn' ops.size his; omega) v1
        (fun j p hq hj e he hb => by
          rw [set_on hil] at hj ⊢
          rcases hj with hj | rfl
          · exact .inl (hSl j p hq hj e he hb)
          · rw [hp] at hq
            injection hq with hq
            subst hq
            exact .inl (hre' e he hb))
        hm hk (hr.mono le1) d1 rfl hcs
      exact ⟨w2, ρ2, tm2, ds2, S, s1.trans s2, d2, h2, v2⟩
end
/-- A region that draws its order: from the evaluator's answer, the machine's, whatever it draws. -/
theorem drawF_ok (hX : XOk P G X) (hM : P.follows .mixedOrders = true) {run : Runner} (hR : RunOk P G run) {rnd : Option Nat} {n : Nat} {ds : List D} {k : K3} {M : Nat} {ops : Array Oper} {l : List Pre} {T : LL} {H : Hp} (hp : prepD ops ops.toList 0 [] [] = some l) (h : drawnF P X G run rnd n ds k M l 0 [] [] [H] T H 0 0 = .ok) :
    ∃ T' H' rd' wr', k T' ds H' rd' wr' = .ok ∧ Pu H H' wr' ∧
      ∀ (R : Nat → Prop) (ρ : Env) (w : World) (f : Frame) (cs : List Frame) (id : Nat) (kk : List Item), f.mode = .run → (f.kind = .normal ∨ f.kind = .deferred) → RoundR ρ rnd f.roundOf → DRs ρ ds f.defers → LmR ρ T n f.tmps → f.todo = .code (.region id ops true) :: kk →
        St G R ρ H w → (∀ x, On rd' x → R x) → Fresh ρ H.next H'.next → G ≤ H.next → CsOk f cs →
        ∃ w' ρ' tm2 ds2, Steps P (lone f cs w) (lone { f with tmps := tm2, defers := ds2, todo := kk } cs w') ∧ LmR ρ' T' n tm2 ∧ DRs ρ' ds ds2 ∧ Goes G R ρ H w wr' ρ' H' w' := by
  obtain ⟨hmap, bf, lk, dm, _, rdy⟩ := prepD_ok ops.toList 0 [] [] l (fun _ => 0) (fun _ => 0) (fun _ => 0) hp rfl rfl (fun m d hm => by simp at hm) (fun m e hm => by simp at hm)
  obtain ⟨Th, Hh, vv, rr, ww, rd', wr', a1, _, tr, a4, a7, a5, a6, _⟩ := drawnF_trace hX hR l 0 [] [] [H] T H 0 0 (fun _ => T) (fun _ => H) (fun _ => .bool true) (fun _ => 0) (fun _ => 0) h rfl rfl (fun m e hm => by simp at hm) rfl (fun q hq => by simp at hq) (fun m hm => by simp) (fun j hj => by omega) (fun x => ⟨fun h => (on_zero h).elim, fun ⟨j, h, _⟩ => by omega⟩)
  rw [Nat.zero_add] at a4 a5 a6
  obtain ⟨eT, eH⟩ := a1 0 (Nat.le_refl _)
  subst eT eH
  have pl := tr.plan
  refine ⟨_, _, rd', wr', a4, ⟨pl.next _ (Nat.zero_le _) (Nat.le_refl _), fun x o hx h => down (gt := fun j x => (Hh j).tr.get x) pl.old _ (Nat.zero_le _) (Nat.le_refl _) (fun m _ h2 h3 => hx ((a6 x).2 ⟨m, h2, h3⟩)) h, fun x o h => pl.live _ (Nat.le_refl _) x o h⟩, ?_⟩
  intro R ρ w f cs id kk hm hk hr hds hl ht hs hR' hf hG hcs
  let w1 : World := { w with drawn := w.drawn + 1 }
  have s0 : step P (lone f cs w) = .next (lone { f with todo := .inRegion ops (Region.linearise .any ops (w.tape w.drawn (.order f.fn id))) :: kk } cs w1) := by
    refine stp hm ?_
    simp [stepG.exec, ht, choose, Region.schedule, hM, w1, Sem.run, Question.forced, Question.cut]
  generalize w.tape w.drawn (.order f.fn id) = t at s0
  have hrep : ∀ j, ¬ (Array.replicate ops.size false).getD j false = true := fun j => by
    simp only [Array.getD_eq_getD_getElem?, Array.getElem?_replicate]
    split <;> simp
  have v0 : Inv G l.length n Hh Th ww dm R ρ w (fun j => (Array.replicate ops.size false).getD j false = true) ρ w1 f.tmps := Inv.start hrep (hs.congr (fun _ h => h) rfl) rfl hl ⟨rfl, rfl, rfl⟩
  obtain ⟨w2, ρ2, tm2, ds2, S, s2, d2, h2, v2⟩ := sched_okF hX tr rdy hmap hf hG (fun j hj x hx => hR' x (a5 j hj x hx)) hR' ops.size t (Array.replicate ops.size false) ρ w1 { f with todo := .inRegion ops (Region.linearise .any ops t) :: kk } (by simp) (unl_le _ _) v0 (fun j p _ hj => (hrep j hj).elim) hm hk hr hds rfl hcs
  obtain ⟨g, lm⟩ := v2.done pl (tr.told rdy) h2 wr' a6
  exact ⟨w2, ρ2, tm2, ds2, (Steps.one s0).trans s2, lm, d2, g⟩
end Go.Proofs.YtdldpehmcfbbeaaGreatDoor.Ev
