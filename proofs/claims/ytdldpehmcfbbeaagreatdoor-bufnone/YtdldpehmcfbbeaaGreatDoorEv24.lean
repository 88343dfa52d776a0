/- A frame of the evaluator's goes one step on, and the machine's: plain code, regions. Conditions: what is said of functions without a Go body (X), and that the machine lets all orders in (mixedOrders). -/
import Derived.Test.YtdldpehmcfbbeaaGreatDoorEv23
namespace Go.Proofs.YtdldpehmcfbbeaaGreatDoor.Ev
variable {P : Program} {X : Ext} {G : Nat}
/-- What a runner owes of one frame. -/
def FrOk (P : Program) (G : Nat) (g : Fr) (H : Hp) (rd wr : Nat) (q : K2) : Prop := ∃ v H' rd' wr', q v H' rd' wr' = .ok ∧ Pu H H' wr' ∧ (∀ x, On rd x → On rd' x) ∧ (∀ x, On wr x → On wr' x) ∧
  ∀ (R : Nat → Prop) (ρ : Env) (w : World) (f : Frame) (cs : List Frame), FR ρ g f → St G R ρ H w → (∀ x, On rd' x → R x) → (∀ x, On wr x → R x ∧ G ≤ x) → Fresh ρ H.next H'.next → G ≤ H.next → CsOk f cs →
    ∃ r w' ρ', Ends P f cs w r w' ∧ VR ρ' v r ∧ Goes G R ρ H w wr' ρ' H' w'
/-- A step, and the rest. -/
theorem via {run : Runner} (hR : RunOk P G run) {g g1 : Fr} {H H1 : Hp} {rd rd1 wr wr1 : Nat} {q : K2} (h : run g1 H1 rd1 wr1 q = .ok) (hpu : Pu H H1 wr1) (hrd : ∀ x, On rd x → On rd1 x) (hwr : ∀ x, On wr x → On wr1 x)
    (hst : ∀ (R : Nat → Prop) (ρ : Env) (w : World) (f : Frame) (cs : List Frame), FR ρ g f → St G R ρ H w → (∀ x, On rd1 x → R x) → (∀ x, On wr x → R x ∧ G ≤ x) → Fresh ρ H.next H1.next → G ≤ H.next → CsOk f cs →
      ∃ w1 ρ1 f1, Steps P (lone f cs w) (lone f1 cs w1) ∧ f1.roundOf = f.roundOf ∧ f1.kind = f.kind ∧ f1.fn = f.fn ∧ FR ρ1 g1 f1 ∧ Goes G R ρ H w wr1 ρ1 H1 w1) : FrOk P G g H rd wr q := by
  obtain ⟨v, H', rd', wr', hq, hpu', hrd', hwr', hrest⟩ := hR g1 H1 rd1 wr1 q h
  refine ⟨v, H', rd', wr', hq, hpu.trans hpu' hwr', fun x hx => hrd' x (hrd x hx), fun x hx => hwr' x (hwr x hx), ?_⟩
  intro R ρ w f cs fr hs hR' hw' hf hG hcs
  have hf1 : Fresh ρ H.next H1.next := fun x h1 h2 => hf x h1 (Nat.lt_of_lt_of_le h2 hpu'.next)
  obtain ⟨w1, ρ1, f1, s1, e1, e2, e3, fr1, g1⟩ := hst R ρ w f cs fr hs (fun x hx => hR' x (hrd' x hx)) hw' hf1 hG hcs
  obtain ⟨r, w', ρ', a1, a2, a3⟩ := hrest _ ρ1 w1 f1 cs fr1 g1.st (fun x hx => .inl (hR' x hx)) (fun x hx => ⟨.inr hx, (g1.own x hx).2⟩) (fresh_on g1 hf) (Nat.le_trans hG g1.next) ⟨fun h => hcs.1 (e1 ▸ h), fun h => hcs.2 (e2 ▸ h)⟩
  exact ⟨r, w', ρ', Ends.after s1 e1 e2 e3 a1, a2, Goes.congr (fun x => ⟨fun h => (on_lor.1 h).elim (hwr' x) id, fun h => on_lor.2 (.inr h)⟩) (Goes.trans hf1 g1 a3)⟩
/-- A step that changes no memory. -/
theorem plain {run : Runner} (hR : RunOk P G run) {g g1 : Fr} {H : Hp} {rd wr : Nat} {q : K2} (h : run g1 H rd wr q = .ok)
    (hst : ∀ (R : Nat → Prop) (ρ : Env) (w : World) (f : Frame) (cs : List Frame), FR ρ g f → St G R ρ H w → ∃ f1, step P (lone f cs w) = .next (lone f1 cs w) ∧ f1.roundOf = f.roundOf ∧ f1.kind = f.kind ∧ f1.fn = f.fn ∧ FR ρ g1 f1) : FrOk P G g H rd wr q :=
  via hR h (Pu.refl _ _) (fun _ h => h) (fun _ h => h) fun R ρ w f cs fr hs _ hw' _ _ _ => by
    obtain ⟨f1, s1, e1, e2, e3, fr1⟩ := hst R ρ w f cs fr hs
    refine ⟨w, ρ, f1, .one s1, e1, e2, e3, fr1, ?_⟩
    have := Goes.more (Goes.refl (w' := w) hs rfl ⟨rfl, rfl, rfl⟩) hw'
    exact Goes.congr (fun x => ⟨fun h => (on_lor.1 h).elim id fun h => (on_zero h).elim, fun h => on_lor.2 (.inl h)⟩) this
theorem exit_ok {ρ : Env} {id : Nat} : ∀ {k : List I} {k' : List Item}, IRs ρ k k' → (∀ j, exitToA id k = some j → ∃ j', exitTo id k' = some j' ∧ IRs ρ j j') ∧ (exitToA id k = none → exitTo id k' = none)
  | [], k', h => by
    have h : k' = [] := h
    subst h
    exact ⟨fun j hj => (by cases hj), fun _ => rfl⟩
  | x :: k, k', ⟨y, k2, e, hx, hk⟩ => by
    subst e
    have ih := exit_ok (id := id) hk
    cases x with
    | inBlock id' =>
      have hx : y = .inBlock id' := hx
      subst hx
      have e1 : exitToA id (.inBlock id' :: k) = iff (Nat.beq id' id) (some k) (exitToA id k) := rfl
      have e2 : exitTo id (.inBlock id' :: k2) = if id' == id then some k2 else exitTo id k2 := rfl
      rw [e1, e2, iff_eq]
      by_cases h : id' = id
      · subst h
        simp only [Nat.beq_refl, beq_self_eq_true, if_true]
        exact ⟨fun j hj => by (injection hj with hj; subst hj; exact ⟨k2, rfl, hk⟩), fun h => by cases h⟩
      · rw [if_neg (fun e => h (Nat.eq_of_beq_eq_true e)), if_neg (by simpa using h)]
        exact ih
    | code c => cases (show y = .code c from hx); exact ih
    | inLoop c => cases (show y = .inLoop c from hx); exact ih
    | inScope c => cases (show y = .inScope c from hx); exact ih
    | endRange i => obtain ⟨kk, _, e⟩ := hx; subst e; exact ih
    | beginRound => cases (show y = .beginRound from hx); exact ih
theorem goto_ok {ρ : Env} {l : Nat} : ∀ {k : List I} {k' : List Item}, IRs ρ k k' → (∀ j, gotoInA l k = some j → ∃ j', gotoIn l k' = some j' ∧ IRs ρ j j') ∧ (gotoInA l k = none → gotoIn l k' = none)
  | [], k', h => by
    have h : k' = [] := h
    subst h
    exact ⟨fun j hj => (by cases hj), fun _ => rfl⟩
  | x :: k, k', ⟨y, k2, e, hx, hk⟩ => by
    subst e
    have ih := goto_ok (l := l) hk
    cases x with
    | inScope c =>
      cases (show y = .inScope c from hx)
      have e1 : gotoInA l (.inScope c :: k) = match findLabel c l with | some rest => some (.code rest :: .inScope c :: k) | none => gotoInA l k := rfl
      have e2 : gotoIn l (.inScope c :: k2) = match findLabel c l with | some rest => some (.code rest :: .inScope c :: k2) | none => gotoIn l k2 := rfl
      rw [e1, e2]
      cases findLabel c l with
      | none => exact ih
      | some rest => exact ⟨fun j hj => by (injection hj with hj; subst hj; exact ⟨_, rfl, _, _, rfl, rfl, _, _, rfl, rfl, hk⟩), fun h => by cases h⟩
    | code c => cases (show y = .code c from hx); exact ih
    | inLoop c => cases (show y = .inLoop c from hx); exact ih
    | inBlock c => cases (show y = .inBlock c from hx); exact ih
    | endRange i => obtain ⟨kk, _, e⟩ := hx; subst e; exact ih
    | beginRound => cases (show y = .beginRound from hx); exact ih
/-- A frame with other things to do. -/
theorem FR.to {ρ : Env} {fn : FuncId} {T : Tr V} {n : Nat} {k k1 : List I} {ds : List D} {dfd : Bool} {rnd : Option Nat} {f : Frame} (h : FR ρ ⟨fn, T, n, k, ds, false, dfd, rnd⟩ f) {kk : List Item} (hk : IRs ρ k1 kk) : FR ρ ⟨fn, T, n, k1, ds, false, dfd, rnd⟩ { f with todo := kk } := ⟨h.fn, h.tm, fun _ => hk, h.ds, h.mode, h.kind, h.rnd⟩
theorem FR.kinds {ρ : Env} {g : Fr} {f : Frame} (h : FR ρ g f) : f.kind = .normal ∨ f.kind = .deferred := by
  rw [h.kind]
  cases g.dfd
  · exact .inl rfl
  · exact .inr rfl
section
variable {run : Runner} {fn : FuncId} {T : Tr V} {n : Nat} {ds : List D} {dfd : Bool} {rnd : Option Nat} {H : Hp} {rd wr : Nat} {q : K2}
/-- One thing gives way to others. -/
theorem turns (hR : RunOk P G run) {x : I} {k k1 : List I} (h : run ⟨fn, T, n, k1, ds, false, dfd, rnd⟩ H rd wr q = .ok)
    (hst : ∀ ρ y k', IR ρ x y → IRs ρ k k' → ∃ kk, IRs ρ k1 kk ∧ ∀ (f : Frame) (cs : List Frame) (w : World), f.todo = y :: k' → stepG.exec P true true f cs none w = .go { frame := { f with todo := kk }, callers := cs, status := .running, dying := none } w) :
    FrOk P G ⟨fn, T, n, x :: k, ds, false, dfd, rnd⟩ H rd wr q :=
  plain hR h fun R ρ w f cs fr hs => by
    obtain ⟨y, k', e, a1, a2⟩ := fr.todo rfl
    obtain ⟨kk, b1, b2⟩ := hst ρ y k' a1 a2
    exact ⟨{ f with todo := kk }, stp fr.mode (by rw [b2 f cs w e]; rfl), rfl, rfl, rfl, fr.to b1⟩
theorem region_ok (hX : XOk P G X) (hM : P.follows .mixedOrders = true) {K : Hint} (hR : RunOk P G run) {id : Nat} {ops : Array Oper} {draw : Bool} {k : List I} (h : sRegion id ops draw P X G K run fn T n ds dfd rnd k H rd wr q = .ok) : FrOk P G ⟨fn, T, n, .code (.region id ops draw) :: k, ds, false, dfd, rnd⟩ H rd wr q := by
  unfold sRegion at h
  rcases iff_ok h with ⟨rfl, h1⟩ | ⟨rfl, h1⟩
  · obtain ⟨l, hl, h2⟩ := get_ok h1
    obtain ⟨T', H', rd', wr', h3, hpu, hdo⟩ := draw_ok hX hM hR hl h2
    rw [nat_eq, nat_eq] at h3
    refine via hR h3 (hpu.more fun z hz => on_lor.2 (.inr hz)) (fun x hx => on_lor.2 (.inl hx)) (fun x hx => on_lor.2 (.inl hx)) ?_
    intro R ρ w f cs fr hs hR' hw' hf hG hcs
    obtain ⟨y, k', e, a1, a2⟩ := fr.todo rfl
    cases (show y = .code (.region id ops true) from a1)
    obtain ⟨w1, ρ1, tm2, ds2, s1, l1, d1, g1⟩ := hdo R ρ w f cs id k' fr.mode fr.kinds fr.rnd fr.ds (LmR.base fr.tm) e hs (fun x hx => hR' x (on_lor.2 (.inr hx))) hf hG hcs
    exact ⟨w1, ρ1, _, s1, rfl, rfl, rfl, ⟨fr.fn, l1.flush _, fun _ => a2.mono g1.le, d1, fr.mode, fr.kind, fr.rnd.mono g1.le⟩, Goes.more g1 hw'⟩
  · obtain ⟨l, hl, h2⟩ := get_ok h1
    obtain ⟨T', ds', H', rd', wr', h3, hpu, hrd, hwr, hdo⟩ := inTurn_ok hX hR l _ _ _ _ _ h2
    refine via hR h3 hpu hrd hwr ?_
    intro R ρ w f cs fr hs hR' hw' hf hG hcs
    obtain ⟨y, k', e, a1, a2⟩ := fr.todo rfl
    cases (show y = .code (.region id ops false) from a1)
    obtain ⟨b1, b2⟩ := prepS_left _ _ hl
    have hlen : l.length = ops.size := by simpa using congrArg List.length b1
    have s0 : step P (lone f cs w) = .next (lone { f with todo := .inRegion ops (List.range' 0 l.length) :: k' } cs w) := stp fr.mode (by simp [stepG.exec, e, hlen, List.range_eq_range'])
    obtain ⟨w1, ρ1, tm2, ds2, s1, l1, d1, g1⟩ := hdo R ρ w { f with todo := .inRegion ops (List.range' 0 l.length) :: k' } cs ops 0 k' (left_of b1 b2) fr.mode fr.kinds fr.rnd fr.ds (LmR.base fr.tm) rfl hs hR' hw' hf hG hcs
    exact ⟨w1, ρ1, _, (Steps.one s0).trans s1, rfl, rfl, rfl, ⟨fr.fn, l1.flush _, fun _ => a2.mono g1.le, d1, fr.mode, fr.kind, fr.rnd.mono g1.le⟩, g1⟩
theorem cond_ok (hR : RunOk P G run) {x : Operand} {a b : Code} {k : List I} {K : Hint} (h : sCond x a b P X G K run fn T n ds dfd rnd k H rd wr q = .ok) : FrOk P G ⟨fn, T, n, .code (.cond x a b) :: k, ds, false, dfd, rnd⟩ H rd wr q := by
  obtain ⟨v, h1, h2⟩ := get_ok h
  unfold stepCond at h2
  split at h2
  · rename_i t
    have key : run ⟨fn, T, n, .code (if t then a else b) :: k, ds, false, dfd, rnd⟩ H rd wr q = .ok := by
      cases t
      · exact h2
      · exact h2
    refine plain hR key fun R ρ w f cs fr hs => ?_
    obtain ⟨y, k', e, a1, a2⟩ := fr.todo rfl
    cases (show y = .code (.cond x a b) from a1)
    have hv : VR ρ (.bool t) (f.eval x) := ev_ok (T := .base T) hs (fun i _ u hu => fr.tm.2 i u hu) h1
    have hv : f.eval x = .bool t := hv
    exact ⟨{ f with todo := .code (if t then a else b) :: k' }, stp fr.mode (by simp [stepG.exec, e, hv]), rfl, rfl, rfl, fr.to ⟨_, _, rfl, rfl, a2⟩⟩
  · cases h2
end
end Go.Proofs.YtdldpehmcfbbeaaGreatDoor.Ev
