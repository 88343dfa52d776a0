/- An operation of the evaluator's carried out to its end, and the machine's. Condition: what is said of functions without a Go body (X). -/
import Derived.Test.YtdldpehmcfbbeaaGreatDoorEvK
namespace Go.Proofs.YtdldpehmcfbbeaaGreatDoor.Ev
variable {P : Program} {X : Ext} {G : Nat}
theorem argsT_get (l : List V) : ∀ (i : Nat) (t : Tr V) (m : Nat) (v : V), (argsT l i t).get m = some v → (∃ j, m = i + j ∧ l[j]? = some v) ∨ t.get m = some v := by
  induction l with
  | nil => intro i t m v h; exact .inr h
  | cons u l ih =>
    intro i t m v h
    rcases ih (i + 1) (t.put i u) m v h with ⟨j, e, hj⟩ | h
    · exact .inl ⟨j + 1, by omega, by simpa using hj⟩
    · rcases get_put h with ⟨e, e2⟩ | ⟨_, h⟩
      · exact .inl ⟨0, by omega, by simp [e2]⟩
      · exact .inr h
theorem enter_FR {ρ : Env} {f : FuncId} {args : List V} {dfd : Bool} {g : Fr} (h : enterA P f args dfd = some g) {ra : Array Value} (ha : VRs ρ args ra.toList) : FR ρ g (Frame.enter P f ra (if dfd then .deferred else .normal)) ∧ g.dfd = dfd ∧ g.round = none ∧ g.fn = f := by
  obtain ⟨fn, h1, h2⟩ := opt_some h
  obtain ⟨c, h3, h4⟩ := opt_some h2
  rw [iff_eq] at h4
  split at h4
  · rename_i hle
    injection h4 with h4
    subst h4
    have hl := ha.length
    simp only [Array.length_toList] at hl
    have hle' := Nat.le_of_ble_eq_true hle
    refine ⟨⟨rfl, ⟨?_, fun i v hi => ?_⟩, fun _ => ?_, rfl, rfl, rfl, ⟨fun _ => rfl, fun i hi => by cases hi⟩⟩, rfl, rfl, rfl⟩
    · simp [Frame.enter, h1]; omega
    · rcases argsT_get _ _ _ _ _ hi with ⟨j, e, hj⟩ | hi
      · obtain ⟨r, a1, a2⟩ := ha.at hj
        refine ⟨r, ?_, a2⟩
        have hj' : j < ra.size := by
          rcases Nat.lt_or_ge j ra.size with h' | h'
          · exact h'
          · rw [List.getElem?_eq_none (by simpa using h')] at a1; cases a1
        simp only [Frame.enter]
        rw [show i = j by omega, Array.getElem?_append_left hj', ← Array.getElem?_toList]
        exact a1
      · rw [get_nil] at hi; cases hi
    · exact ⟨.code c, [], by simp [Frame.enter, h1, h3], rfl, rfl⟩
  · cases h4
theorem fold_TmR {ρ : Env} : ∀ (ps : List Nat) (l : List V) (rs : List Value) (T : Tr V) (tmps : Array Value) (n : Nat), TmR ρ T n tmps → VRs ρ l rs → (∀ p ∈ ps, p < n) → TmR ρ ((ps.zip l).foldl (fun t pa => t.put pa.1 pa.2) T) n ((ps.zip rs).foldl (fun tmps ta => tmps.setIfInBounds ta.1 ta.2) tmps)
  | [], _, _, _, _, _, h, _, _ => h
  | _ :: _, [], rs, _, _, _, h, hl, _ => by rw [VRs.nil hl]; exact h
  | p :: ps, v :: l, rs, T, tmps, n, h, ⟨r, rs', e, hv, hl⟩, hp => by
    subst e
    refine fold_TmR ps l rs' _ _ n ⟨by simp [h.1], fun i u hi => ?_⟩ hl (fun q hq => hp q (by simp [hq]))
    rcases get_put hi with ⟨e, e2⟩ | ⟨hne, hi⟩
    · subst e e2
      exact ⟨r, by rw [Array.getElem?_setIfInBounds_self_of_lt (by rw [h.1]; exact hp _ (by simp))], hv⟩
    · obtain ⟨s, a1, a2⟩ := h.2 i u hi
      exact ⟨s, by rw [Array.getElem?_setIfInBounds_ne (Ne.symm hne)]; exact a1, a2⟩
/-- What is asked of the guard's slot. -/
def GdR (ρ : Env) (T : LL) (gd : Option (Nat × Bool)) (tmps : Array Value) : Prop := ∀ d b, gd = some (d, b) → ∀ u, T.get d = some u → ∃ r, tmps[d]? = some r ∧ VR ρ u r
theorem wanted_ok {ρ : Env} {T : LL} {ops : Array Oper} {o : Oper} {gd : Option (Nat × Bool)} {tmps : Array Value} {b : Bool} (hg : guardOf ops o = some gd) (h : wantedA T gd = some b) (ht : GdR ρ T gd tmps) : Region.wanted o (yielded ops tmps) = b := by
  unfold guardOf at hg
  unfold Region.wanted
  cases ho : o.guard with
  | none =>
    rw [ho] at hg
    injection hg with hg
    subst hg
    injection h with h
  | some jw =>
    obtain ⟨j, want⟩ := jw
    rw [ho] at hg
    simp only at hg
    cases hd : (ops[j]?).bind (·.dst) with
    | none => rw [hd] at hg; cases hg
    | some d =>
      rw [hd] at hg
      injection hg with hg
      subst hg
      obtain ⟨u, h1, h2⟩ := opt_some h
      obtain ⟨r, a1, a2⟩ := ht d want rfl u h1
      have hy : ∀ c, r = .bool c → yielded ops tmps j = some c := by
        intro c e
        unfold yielded
        rw [hd, Option.bind_some, a1, e]
      have hy2 : ∀ a, r = .tuple a → yielded ops tmps j = none := by
        intro a e
        unfold yielded
        rw [hd, Option.bind_some, a1, e]
      simp only
      cases u with
      | bool c =>
        rw [hy c a2]
        have h3 : some (iff want c (!c)) = some b := h2
        rw [iff_eq] at h3
        injection h3 with h3
        subst h3
        cases c <;> cases want <;> rfl
      | tuple l =>
        cases l with
        | nil =>
          obtain ⟨a, e, _⟩ := a2
          rw [hy2 a e]
          have h3 : some false = some b := h2
          injection h3
        | cons _ _ => cases h2
      | _ => cases h2
theorem lay_ok {T : LL} {n : Nat} {d : Option Tmp} {v : V} {ds : List D} {H : Hp} {rd wr : Nat} {k : K3} (h : lay T n d v ds H rd wr k = .ok) : ∃ T', k T' ds H rd wr = .ok ∧ (d = none ∧ T' = T ∨ ∃ e, d = some e ∧ e < n ∧ T' = .cons e v T) := by
  cases d with
  | none => exact ⟨T, h, .inl ⟨rfl, rfl⟩⟩
  | some d =>
    obtain ⟨h1, h2⟩ := iff_no h
    exact ⟨_, h2, .inr ⟨d, rfl, Nat.le_of_ble_eq_true h1, rfl⟩⟩
/-- What the machine does with an operation: the frame behind it is as it was but for the slot and the deferred calls. -/
def OpDoes (P : Program) (G : Nat) (rnd : Option Nat) (n : Nat) (o : Oper) (gd : Option (Nat × Bool)) (T : LL) (ds : List D) (H : Hp) (v : V) (ds' : List D) (H' : Hp) (rd wr : Nat) : Prop :=
  ∀ (R : Nat → Prop) (ρ : Env) (w : World) (f : Frame) (cs : List Frame) (ops : Array Oper) (i : Nat) (rest : List Nat) (kk : List Item), ops[i]? = some o → guardOf ops o = some gd → EvR G ρ T o f.eval → GdR ρ T gd f.tmps → f.mode = .run → (f.kind = .normal ∨ f.kind = .deferred) → RoundR ρ rnd f.roundOf → DRs ρ ds f.defers → f.tmps.size = n → f.todo = .inRegion ops (i :: rest) :: kk →
    St G R ρ H w → (∀ x, On rd x → R x) → Fresh ρ H.next H'.next → G ≤ H.next → CsOk f cs →
    ∃ w' ρ' r ds2, Steps P (lone f cs w) (lone { f with tmps := (match o.dst with | some d => f.tmps.setIfInBounds d r | none => f.tmps), defers := ds2, todo := .inRegion ops rest :: kk } cs w') ∧ VR ρ' v r ∧ DRs ρ' ds' ds2 ∧ Goes G R ρ H w wr ρ' H' w'
theorem fresh_on {R : Nat → Prop} {ρ ρ1 : Env} {H H1 H2 : Hp} {w w1 : World} {a : Nat} (x : Goes G R ρ H w a ρ1 H1 w1) (hf : Fresh ρ H.next H2.next) : Fresh ρ1 H1.next H2.next := by
  intro y h1 h2
  cases h : ρ1 y with
  | none => rfl
  | some k =>
    have := hf y (Nat.le_trans x.next h1) h2
    obtain ⟨⟨_, h3⟩, _⟩ := x.new y k this h
    omega
theorem oneOp_ok (hX : XOk P G X) {run : Runner} (hR : RunOk P G run) {dr : Bool} {rnd : Option Nat} {n : Nat} {o : Oper} {gd : Option (Nat × Bool)} {T : LL} {ds : List D} {H : Hp} {k : K3} (h : oneOp P X G run dr rnd n o gd T ds H k = .ok) :
    ∃ T' ds' H' rd wr v, k T' ds' H' rd wr = .ok ∧ Pu H H' wr ∧ (o.dst = none ∧ T' = T ∨ ∃ d, o.dst = some d ∧ d < n ∧ T' = .cons d v T) ∧ (dr = true → ds' = ds) ∧ OpDoes P G rnd n o gd T ds H v ds' H' rd wr := by
  obtain ⟨b, h1, h2⟩ := get_ok h
  rcases iff_ok h2 with ⟨rfl, h3⟩ | ⟨rfl, h3⟩
  · have hdef : rnd = none ∨ ∀ c, o.op ≠ .defer c := by
      cases rnd with
      | none => exact .inl rfl
      | some l =>
        refine .inr fun c hc => ?_
        rw [hc] at h3
        have h4 : xDefer G c T H (finish P X run dr (some l) T n o.dst ds k) = .ok := h3
        unfold xDefer at h4
        split at h4
        · obtain ⟨args, _, h5⟩ := get_ok h4
          obtain ⟨u, _, h6⟩ := get_ok h5
          cases u <;> first | (cases h6; done) | (rcases iff_ok h6 with ⟨_, h7⟩ | ⟨_, h7⟩ <;> cases h7)
        · cases h4
    obtain ⟨out, H1, rd, wr, h4, hnx1, hdoes⟩ := exec_ok hX.1 h3
    have hnr : ∀ {ρ : Env} {f : Frame}, RoundR ρ rnd f.roundOf → f.roundOf = none ∨ ∀ c, o.op ≠ .defer c := fun hr => hdef.imp_left hr.1
    cases out with
    | val v =>
      obtain ⟨T', h5, h6⟩ := lay_ok h4
      refine ⟨T', ds, H1, rd, wr, v, h5, hnx1, h6, fun _ => rfl, ?_⟩
      intro R ρ w f cs ops i rest kk ho hg he hgd hm hkd hr hds hn ht hs hrd hf hG hcs
      obtain ⟨nx, w', ρ', a1, a2, a3⟩ := hdoes R ρ w f.eval he hs hrd hf hG
      have hx := st_oper (P := P) (cs := cs) (w := w) ht ho (wanted_ok hg h1 hgd) (hnr hr)
      rcases a2 with ⟨r, rfl, b2⟩ | ⟨rfl, rfl⟩
      · refine ⟨w', ρ', r, f.defers, ?_, b2, hds.mono a3.le, a3⟩
        have := st_value hm hx a1
        rw [finish_eq ht ho] at this
        exact .one this
      · refine ⟨w', ρ', undef, f.defers, ?_, ⟨#[], rfl, rfl⟩, hds.mono a3.le, a3⟩
        have := st_skipN hm hx a1
        rw [finish_eq ht ho] at this
        exact .one this
    | call fid args =>
      obtain ⟨g, v, H2, rd2, wr2, h5, h7, hpu, hrd2, hwr2, hrun⟩ : ∃ g v H2 rd2 wr2, enterA P fid args false = some g ∧ lay T n o.dst v ds H2 rd2 wr2 k = .ok ∧ Pu H1 H2 wr2 ∧ (∀ x, On rd x → On rd2 x) ∧ (∀ x, On wr x → On wr2 x) ∧
          ∀ (R : Nat → Prop) (ρ : Env) (w : World) (f : Frame) (cs : List Frame), FR ρ g f → (∃ ra : Array Value, VRs ρ args ra.toList ∧ f = Frame.enter P fid ra .normal) → St G R ρ H1 w → (∀ x, On rd2 x → R x) → (∀ x, On wr x → R x ∧ G ≤ x) → Fresh ρ H1.next H2.next → G ≤ H1.next → CsOk f cs → ∃ r w' ρ', Ends P f cs w r w' ∧ VR ρ' v r ∧ Goes G R ρ H1 w wr2 ρ' H2 w' := by
        cases hcl : X.closed fid with
        | none =>
          cases hkn : X.known fid H1.next with
          | none =>
            have h4' : (get (enterA P fid args false) fun g => run g H1 rd wr fun v H rd wr => lay T n o.dst v ds H rd wr k) = .ok := by
              have := h4
              simp only [finish, hcl, hkn] at this
              exact this
            obtain ⟨g, h5, h6⟩ := get_ok h4'
            obtain ⟨v, H2, rd2, wr2, h7, a1, a2, a3, a4⟩ := hR g H1 rd wr _ h6
            exact ⟨g, v, H2, rd2, wr2, h5, h7, a1, a2, a3, fun R ρ w f cs hf _ => a4 R ρ w f cs hf⟩
          | some x =>
            have h4' : iff (Nat.beq rd 0) (iff (Nat.beq wr 0) (iff (x.fits args H1) (lay T n o.dst x.v ds x.H' x.rd x.wr k) .no) .no) .no = .ok := by
              have := h4
              simp only [finish, hcl, hkn] at this
              exact this
            obtain ⟨b1, h4'⟩ := iff_o h4'
            obtain ⟨b2, h4'⟩ := iff_o h4'
            obtain ⟨b3, h7⟩ := iff_o h4'
            obtain rfl := Nat.eq_of_beq_eq_true b1
            obtain rfl := Nat.eq_of_beq_eq_true b2
            obtain ⟨rfl, rfl⟩ := fits_ok b3
            obtain ⟨run', g, c1, c2, c3⟩ := hX.2.1 fid _ x hkn
            obtain ⟨v', H2', rd', wr', d1, d2, d3, d4, d5⟩ := c1 g x.H 0 0 _ c3
            obtain ⟨rfl, rfl, rfl, e4, e5⟩ := asks_ok d1
            refine ⟨g, x.v, x.H', x.rd, x.wr, c2, h7, d2.forget e4 e5, d3, d4, ?_⟩
            intro R ρ w f cs a1 _ a2 a3 a4 a5 a6 a7
            obtain ⟨r, w', ρ', f1, f2, f3⟩ := d5 R ρ w f cs a1 a2 a3 a4 (e4 ▸ a5) a6 a7
            exact ⟨r, w', ρ', f1, f2, f3.forget e4 e5⟩
        | some c =>
          have h4' : iff (Nat.beq rd 0) (iff (Nat.beq wr 0) (iff (c.fits args H1) (lay T n o.dst (.bool c.b) ds H1 c.rd 0 k) .no) .no) .no = .ok := by
            have := h4
            simp only [finish, hcl] at this
            exact this
          obtain ⟨b1, h4'⟩ := iff_o h4'
          obtain ⟨b2, h4'⟩ := iff_o h4'
          obtain ⟨b3, h7⟩ := iff_o h4'
          obtain rfl := Nat.eq_of_beq_eq_true b1
          obtain rfl := Nat.eq_of_beq_eq_true b2
          obtain ⟨rfl, hsub⟩ := cfits_ok b3
          obtain ⟨⟨run', g, c1, c2, c3⟩, c4, c5⟩ := hX.2.2 fid c hcl
          obtain ⟨v', H2', rd', wr', d1, _, _, _, d5⟩ := c1 g c.h 0 0 _ c3
          obtain ⟨d1, _⟩ := iff_o d1
          obtain rfl := (eqV_ok 9 _ _ d1).symm
          refine ⟨g, .bool c.b, H1, c.rd, 0, c2, h7, Pu.refl _ _, fun x hx => (on_zero hx).elim, fun x hx => hx, ?_⟩
          rintro R ρ w f cs - ⟨ra, hra, rfl⟩ a2 a3 a4 a5 a6 a7
          have hlt : ∀ x k, (fun x => if x < G then ρ x else none) x = some k → x < G := fun x k hk => by
            by_cases hx : x < G
            · exact hx
            · simp [hx] at hk
          have hre : ra = #[] := by
            have := VRs.nil hra
            exact Array.toList_eq_nil_iff.1 this
          subst hre
          obtain ⟨hFR, _⟩ := enter_FR (ρ := fun x => if x < G then ρ x else none) (ra := #[]) c2 rfl
          have hst : St G (fun _ => True) (fun x => if x < G then ρ x else none) c.h w := by
            refine ⟨fun x o _ hg => ?_, fun x y o o' k k' _ _ hx hy hk hk' => ?_, fun i hi => ?_, fun x k hk => ?_⟩
            · obtain ⟨hxG, hxr, hpl⟩ := c4 x o hg
              obtain ⟨k, ob, e1, e2, e3⟩ := a2.sat x o (a3 x hxr) (hsub x o hg)
              exact ⟨k, ob, by simp [hxG, e1], e2, e3.plain hpl⟩
            · obtain ⟨hxG, hxr, _⟩ := c4 x o hx
              obtain ⟨hyG, hyr, _⟩ := c4 y o' hy
              simp only [hxG, hyG, if_true] at hk hk'
              exact a2.inj x y o o' k k' (a3 x hxr) (a3 y hyr) (hsub x o hx) (hsub y o' hy) hk hk'
            · obtain ⟨K, hK⟩ := a2.glob i hi
              exact ⟨K, by simp [hi, hK]⟩
            · have hxG := hlt x k hk
              simp only [hxG, if_true] at hk
              exact a2.low x k hk
          obtain ⟨r, w', ρ', f1, f2, f3⟩ := d5 (fun _ => True) _ w _ cs hFR hst (fun _ _ => trivial) (fun x hx => (on_zero hx).elim) (fun x hx _ => by simp [Nat.not_lt.2 (Nat.le_trans c5 hx)]) c5 a7
          exact ⟨r, w', ρ, f1, f2, Goes.apart a2 (fun x o hx => (c4 x o hx).1) f3⟩
      have hnx := hpu.next
      obtain ⟨T', h8, h9⟩ := lay_ok h7
      refine ⟨T', ds, H2, rd2, wr2, v, h8, hnx1.trans hpu hwr2, h9, fun _ => rfl, ?_⟩
      intro R ρ w f cs ops i rest kk ho hg he hgd hm hkd hr hds hn ht hs hrd hf hG hcs
      have hx := st_oper (P := P) (cs := cs) (w := w) ht ho (wanted_ok hg h1 hgd) (hnr hr)
      have hf1 : Fresh ρ H.next H1.next := fun x hx1 hx2 => hf x hx1 (Nat.lt_of_lt_of_le hx2 hnx)
      obtain ⟨nx, w1, ρ1, a1, ⟨ra, rfl, a2⟩, a3⟩ := hdoes R ρ w f.eval he hs (fun x hx => hrd x (hrd2 x hx)) hf1 hG
      obtain ⟨hFR, hd1, hd2, hd3⟩ := enter_FR h5 a2
      have hstep := st_enter hm (fun d r s k e => by rw [ht] at e; cases e) hx a1
      obtain ⟨r, w2, ρ2, b1, b2, b3⟩ := hrun _ ρ1 w1 _ (f :: cs) hFR ⟨ra, a2, rfl⟩ a3.st (fun x hx => .inl (hrd x hx)) (fun x hx => ⟨.inr hx, (a3.own x hx).2⟩) (fresh_on a3 hf) (Nat.le_trans hG a3.next) ⟨fun h => (by cases h), fun h => (by cases h)⟩
      obtain ⟨f', c1, c2, c3, c4, c5, fn, c6, c7⟩ := b1.1 rfl
      refine ⟨w2, ρ2, r, f.defers, ?_, b2, hds.mono (fun x k h => b3.le x k (a3.le x k h)), Goes.congr (fun x => ⟨fun h => (on_lor.1 h).elim (hwr2 x) id, fun h => on_lor.2 (.inr h)⟩) (Goes.trans hf1 a3 b3)⟩
      have hl := step_leave_returned (P := P) (c := f) (cs := cs) ⟨c2, c3, c4, fn, c6, c7⟩
      rw [finish_eq ht ho] at hl
      exact .head hstep (c1.trans (.one hl))
    | round j args =>
      obtain ⟨g, h5, h6⟩ := get_ok h4
      obtain ⟨v, H2, rd2, wr2, h7, hpu, hrd2, hwr2, hrun⟩ := hR g H1 rd wr _ h6
      have hnx := hpu.next
      obtain ⟨T', h8, h9⟩ := lay_ok h7
      refine ⟨T', ds, H2, rd2, wr2, v, h8, hnx1.trans hpu hwr2, h9, fun _ => rfl, ?_⟩
      intro R ρ w f cs ops i rest kk ho hg he hgd hm hkd hr hds hn ht hs hrd hf hG hcs
      have hx := st_oper (P := P) (cs := cs) (w := w) ht ho (wanted_ok hg h1 hgd) (hnr hr)
      have hf1 : Fresh ρ H.next H1.next := fun x hx1 hx2 => hf x hx1 (Nat.lt_of_lt_of_le hx2 hnx)
      obtain ⟨nx, w1, ρ1, a1, ⟨kb, l, ra, e1, e2, rfl, a2, e3⟩, a3⟩ := hdoes R ρ w f.eval he hs (fun x hx => hrd x (hrd2 x hx)) hf1 hG
      have hstep := st_round hm hx a1
      obtain ⟨ob, h10, h11⟩ := opt_some h5
      cases ob with
      | loop st pend fn0 T0 nt ps asg bdy df =>
        simp only [iff_eq] at h11
        split at h11
        · rename_i hcond
          simp only [Bool.and_eq_true] at hcond
          injection h11 with h11
          subst h11
          obtain ⟨l', kd, d0, d1, d2, d3, d4, d5, d6, d7, d8, d9⟩ := e3 _ h10
          injection d0 with d0
          subst d0
          have hFR : FR ρ1 ⟨fn0, (ps.zip args).foldl (fun t pa => t.put pa.1 pa.2) T0, nt, [.code asg, .beginRound, .code bdy], [], false, false, some j⟩ (Frame.round kb.b l.fn ((l.params.zip ra).foldl (fun tmps (t, a) => tmps.setIfInBounds t a) l.tmps) l.assign l.body .normal) := by
            refine ⟨d3, ?_, fun _ => ⟨_, _, rfl, by rw [d6]; rfl, _, _, rfl, rfl, _, _, rfl, by rw [d7]; rfl, rfl⟩, rfl, rfl, rfl, ⟨fun h => (by cases h), fun i hi => (by injection hi with hi; subst hi; exact ⟨kb, e1, rfl⟩)⟩⟩
            have := fold_TmR ps args ra.toList T0 l.tmps nt d4 a2 (fun p hp => Nat.le_of_ble_eq_true (List.all_eq_true.1 hcond.2 p hp))
            have e : (l.params.zip ra).foldl (fun tmps (t, a) => tmps.setIfInBounds t a) l.tmps = (ps.zip ra.toList).foldl (fun tmps ta => tmps.setIfInBounds ta.1 ta.2) l.tmps := by
              rw [← Array.foldl_toList, Array.toList_zip, d5]
            show TmR ρ1 _ nt ((l.params.zip ra).foldl (fun tmps (t, a) => tmps.setIfInBounds t a) l.tmps)
            rw [e]
            exact this
          obtain ⟨r, w2, ρ2, b1, b2, b3⟩ := hrun _ ρ1 w1 _ (f :: cs) hFR a3.st (fun x hx => .inl (hrd x hx)) (fun x hx => ⟨.inr hx, (a3.own x hx).2⟩) (fresh_on a3 hf) (Nat.le_trans hG a3.next) ⟨fun _ => ⟨f, cs, rfl⟩, fun h => (by cases h)⟩
          have c1 := b1.2 kb.b rfl f cs rfl
          refine ⟨w2, ρ2, r, f.defers, ?_, b2, hds.mono (fun x k h => b3.le x k (a3.le x k h)), Goes.congr (fun x => ⟨fun h => (on_lor.1 h).elim (hwr2 x) id, fun h => on_lor.2 (.inr h)⟩) (Goes.trans hf1 a3 b3)⟩
          rw [finish_eq ht ho] at c1
          exact .head hstep c1
        · cases h11
      | _ => cases h11
    | defer d =>
      rcases iff_ok h4 with ⟨_, h4⟩ | ⟨hdr, h4⟩
      · cases h4
      cases rnd with
      | some l => cases h4
      | none =>
        obtain ⟨T', h5, h6⟩ := lay_ok h4
        refine ⟨T', d :: ds, H1, rd, wr, .tuple [], h5, hnx1, h6, fun hnd => (by rw [hdr] at hnd; cases hnd), ?_⟩
        intro R ρ w f cs ops i rest kk ho hg he hgd hm hkd hr hds hn ht hs hrd hf hG hcs
        obtain ⟨nx, w', ρ', a1, ⟨e, rfl, a2⟩, a3⟩ := hdoes R ρ w f.eval he hs hrd hf hG
        have hx := st_oper (P := P) (cs := cs) (w := w) ht ho (wanted_ok hg h1 hgd) (hnr hr)
        refine ⟨w', ρ', undef, e :: f.defers, ?_, ⟨#[], rfl, rfl⟩, ⟨e, _, rfl, a2, hds.mono a3.le⟩, a3⟩
        have := st_defer hm hx a1
        rw [finish_eq (f := { f with defers := e :: f.defers }) ht ho] at this
        exact .one this
    | recover =>
      cases rnd with
      | some l => cases h4
      | none =>
        obtain ⟨T', h5, h6⟩ := lay_ok h4
        refine ⟨T', ds, H1, rd, wr, .nili, h5, hnx1, h6, fun _ => rfl, ?_⟩
        intro R ρ w f cs ops i rest kk ho hg he hgd hm hkd hr hds hn ht hs hrd hf hG hcs
        obtain ⟨nx, w', ρ', a1, a2, a3⟩ := hdoes R ρ w f.eval he hs hrd hf hG
        obtain rfl := show nx = .recover from a2
        have hx := st_oper (P := P) (cs := cs) (w := w) ht ho (wanted_ok hg h1 hgd) (hnr hr)
        refine ⟨w', ρ', .nilIface, f.defers, ?_, rfl, hds.mono a3.le, a3⟩
        have hno : tryRecover f cs = none := by
          unfold tryRecover
          split
          · rename_i c rest' hk
            obtain ⟨c2, cs2, e1, e2⟩ := hcs.2 hk
            injection e1 with e1 _
            subst e1
            rcases e2 with e2 | ⟨v, e2⟩ <;> rw [e2]
          · rename_i hk
            rcases hkd with h | h <;> rw [h] at hk <;> cases hk
          · rfl
        have := st_recover hm (hr.1 rfl) hno hx a1
        rw [finish_eq ht ho] at this
        exact .one this
  · obtain ⟨T', h5, h6⟩ := lay_ok h3
    refine ⟨T', ds, H, 0, 0, .tuple [], h5, Pu.refl _ _, h6, fun _ => rfl, ?_⟩
    intro R ρ w f cs ops i rest kk ho hg he hgd hm hkd hr hds hn ht hs hrd hf hG hcs
    refine ⟨w, ρ, undef, f.defers, ?_, ⟨#[], rfl, rfl⟩, hds, Goes.refl hs rfl ⟨rfl, rfl, rfl⟩⟩
    have := st_skip (P := P) (cs := cs) (w := w) hm ht ho (wanted_ok hg h1 hgd)
    rw [finish_eq ht ho] at this
    exact .one this
end Go.Proofs.YtdldpehmcfbbeaaGreatDoor.Ev
