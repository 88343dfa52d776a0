/- The evaluator with panics: a frame that gives up, and the machine's. Conditions: what is said of functions without a Go body (X), and that the machine lets all orders in (mixedOrders). -/
import Derived.Test.YtdldpehmcfbbeaaGreatDoorEvP1
namespace Go.Proofs.YtdldpehmcfbbeaaGreatDoor.Ev
variable {P : Program} {X : Ext} {G : Nat}
/-- The chain of one panic. -/
def one1 (r : Value) : List PanicEntry := [{ v := r, recovered := false }]
/-- A frame that gives up: from where it stands the machine comes to where it panics. -/
def Gives (P : Program) (G : Nat) (n : Nat) (v : V) (T' : Tr V) (ds' : List D) (H H' : Hp) (wr' : Nat) (R : Nat → Prop) (ρ : Env) (w : World) (f : Frame) (cs : List Frame) : Prop :=
  ∃ r w' ρ' f', Steps P (lone f cs w) (lone f' cs w') ∧ f'.mode = .panicking (one1 r) ∧ f'.kind = f.kind ∧ f'.fn = f.fn ∧ f'.roundOf = f.roundOf ∧ TmR ρ' T' n f'.tmps ∧ DRs ρ' ds' f'.defers ∧ VR ρ' v r ∧ Goes G R ρ H w wr' ρ' H' w'
def DieOk (P : Program) (G : Nat) (g : Fr) (H : Hp) (rd wr : Nat) (Q : K4) : Prop := ∃ v T' ds' H' rd' wr', Q v T' ds' H' rd' wr' = .ok ∧ Pu H H' wr' ∧ (∀ x, On rd x → On rd' x) ∧ (∀ x, On wr x → On wr' x) ∧
  ∀ (R : Nat → Prop) (ρ : Env) (w : World) (f : Frame) (cs : List Frame), FR ρ g f → St G R ρ H w → (∀ x, On rd' x → R x) → (∀ x, On wr x → R x ∧ G ≤ x) → Fresh ρ H.next H'.next → G ≤ H.next → CsOk f cs → Gives P G g.n v T' ds' H H' wr' R ρ w f cs
def DieAll (P : Program) (G : Nat) (die : Dier) : Prop := ∀ S c g H rd wr Q, die S c g H rd wr Q = .ok → DieOk P G g H rd wr Q
/-- A step, and the rest. -/
theorem viaD {g g1 : Fr} {H H1 : Hp} {rd rd1 wr wr1 : Nat} {Q : K4} (hD : DieOk P G g1 H1 rd1 wr1 Q) (hn : g1.n = g.n) (hpu : Pu H H1 wr1) (hrd : ∀ x, On rd x → On rd1 x) (hwr : ∀ x, On wr x → On wr1 x)
    (hst : ∀ (R : Nat → Prop) (ρ : Env) (w : World) (f : Frame) (cs : List Frame), FR ρ g f → St G R ρ H w → (∀ x, On rd1 x → R x) → (∀ x, On wr x → R x ∧ G ≤ x) → Fresh ρ H.next H1.next → G ≤ H.next → CsOk f cs →
      ∃ w1 ρ1 f1, Steps P (lone f cs w) (lone f1 cs w1) ∧ f1.roundOf = f.roundOf ∧ f1.kind = f.kind ∧ f1.fn = f.fn ∧ FR ρ1 g1 f1 ∧ Goes G R ρ H w wr1 ρ1 H1 w1) : DieOk P G g H rd wr Q := by
  obtain ⟨v, T', ds', H', rd', wr', hq, hpu', hrd', hwr', hrest⟩ := hD
  refine ⟨v, T', ds', H', rd', wr', hq, hpu.trans hpu' hwr', fun x hx => hrd' x (hrd x hx), fun x hx => hwr' x (hwr x hx), ?_⟩
  intro R ρ w f cs fr hs hR' hw' hf hG hcs
  have hf1 : Fresh ρ H.next H1.next := fun x h1 h2 => hf x h1 (Nat.lt_of_lt_of_le h2 hpu'.next)
  obtain ⟨w1, ρ1, f1, s1, e1, e2, e3, fr1, g1'⟩ := hst R ρ w f cs fr hs (fun x hx => hR' x (hrd' x hx)) hw' hf1 hG hcs
  obtain ⟨r, w', ρ', f', a1, a2, a3, a4, a5, a6, a7, a8, a9⟩ := hrest _ ρ1 w1 f1 cs fr1 g1'.st (fun x hx => .inl (hR' x hx)) (fun x hx => ⟨.inr hx, (g1'.own x hx).2⟩) (fresh_on g1' hf) (Nat.le_trans hG g1'.next) ⟨fun h => hcs.1 (e1 ▸ h), fun h => hcs.2 (e2 ▸ h)⟩
  exact ⟨r, w', ρ', f', s1.trans a1, a2, a3.trans e2, a4.trans e3, a5.trans e1, hn ▸ a6, a7, a8, Goes.congr (fun x => ⟨fun h => (on_lor.1 h).elim (hwr' x) id, fun h => on_lor.2 (.inr h)⟩) (Goes.trans hf1 g1' a9)⟩
/-- A step that changes no memory. -/
theorem plainD {g g1 : Fr} {H : Hp} {rd wr : Nat} {Q : K4} (hD : DieOk P G g1 H rd wr Q) (hn : g1.n = g.n)
    (hst : ∀ (R : Nat → Prop) (ρ : Env) (w : World) (f : Frame) (cs : List Frame), FR ρ g f → St G R ρ H w → ∃ f1, step P (lone f cs w) = .next (lone f1 cs w) ∧ f1.roundOf = f.roundOf ∧ f1.kind = f.kind ∧ f1.fn = f.fn ∧ FR ρ g1 f1) : DieOk P G g H rd wr Q :=
  viaD hD hn (Pu.refl _ _) (fun _ h => h) (fun _ h => h) fun R ρ w f cs fr hs _ hw' _ _ _ => by
    obtain ⟨f1, s1, e1, e2, e3, fr1⟩ := hst R ρ w f cs fr hs
    refine ⟨w, ρ, f1, .one s1, e1, e2, e3, fr1, ?_⟩
    have := Goes.more (Goes.refl (w' := w) hs rfl ⟨rfl, rfl, rfl⟩) hw'
    exact Goes.congr (fun x => ⟨fun h => (on_lor.1 h).elim id fun h => (on_zero h).elim, fun h => on_lor.2 (.inl h)⟩) this
section
variable {run : Runner} {die : Dier} {fn : FuncId} {T : Tr V} {n : Nat} {ds : List D} {dfd : Bool} {H : Hp} {rd wr : Nat} {Q : K4}
/-- One thing gives way to others. -/
theorem turnsD {x : I} {k k1 : List I} (hD : DieOk P G ⟨fn, T, n, k1, ds, false, dfd, none⟩ H rd wr Q)
    (hst : ∀ ρ y k', IR ρ x y → IRs ρ k k' → ∃ kk, IRs ρ k1 kk ∧ ∀ (f : Frame) (cs : List Frame) (w : World), f.todo = y :: k' → stepG.exec P true true f cs none w = .go { frame := { f with todo := kk }, callers := cs, status := .running, dying := none } w) :
    DieOk P G ⟨fn, T, n, x :: k, ds, false, dfd, none⟩ H rd wr Q :=
  plainD hD rfl fun R ρ w f cs fr hs => by
    obtain ⟨y, k', e, a1, a2⟩ := fr.todo rfl
    obtain ⟨kk, b1, b2⟩ := hst ρ y k' a1 a2
    exact ⟨{ f with todo := kk }, stp fr.mode (by rw [b2 f cs w e]; rfl), rfl, rfl, rfl, fr.to b1⟩
theorem turnD_ok {x : I} {k : List I} {go : List I → Ans} (hgo : ∀ k', go k' = .ok → DieOk P G ⟨fn, T, n, k', ds, false, dfd, none⟩ H rd wr Q) (h : dieTurn G T x k go = .ok) : DieOk P G ⟨fn, T, n, x :: k, ds, false, dfd, none⟩ H rd wr Q := by
  cases x with
  | inBlock id => exact turnsD (hgo _ h) fun ρ y k' hy hk => ⟨k', hk, fun f cs w e => by rw [show y = .inBlock id from hy] at e; simp [stepG.exec, e]⟩
  | inScope b => exact turnsD (hgo _ h) fun ρ y k' hy hk => ⟨k', hk, fun f cs w e => by rw [show y = .inScope b from hy] at e; simp [stepG.exec, e]⟩
  | inLoop b => exact turnsD (hgo _ h) fun ρ y k' hy hk => ⟨.code b :: .inLoop b :: k', ⟨_, _, rfl, rfl, _, _, rfl, rfl, hk⟩, fun f cs w e => by rw [show y = .inLoop b from hy] at e; simp [stepG.exec, e]⟩
  | endRange i => cases h
  | beginRound => cases h
  | code c =>
    cases c with
    | skip => exact turnsD (hgo _ h) fun ρ y k' hy hk => ⟨k', hk, fun f cs w e => by rw [show y = .code .skip from hy] at e; simp [stepG.exec, e]⟩
    | label l => exact turnsD (hgo _ h) fun ρ y k' hy hk => ⟨k', hk, fun f cs w e => by rw [show y = .code (.label l) from hy] at e; simp [stepG.exec, e]⟩
    | region id ops draw => cases h
    | seq a b => exact turnsD (hgo _ h) fun ρ y k' hy hk => ⟨.code a :: .code b :: k', ⟨_, _, rfl, rfl, _, _, rfl, rfl, hk⟩, fun f cs w e => by rw [show y = .code (.seq a b) from hy] at e; simp [stepG.exec, e]⟩
    | cond x a b =>
      obtain ⟨v, h1, h2⟩ := get_ok h
      cases v with
      | bool t =>
        have key : DieOk P G ⟨fn, T, n, .code (if t then a else b) :: k, ds, false, dfd, none⟩ H rd wr Q := by
          cases t
          · exact hgo _ h2
          · exact hgo _ h2
        refine plainD key rfl fun R ρ w f cs fr hs => ?_
        obtain ⟨y, k', e, a1, a2⟩ := fr.todo rfl
        cases (show y = .code (.cond x a b) from a1)
        have hv : VR ρ (.bool t) (f.eval x) := ev_ok (T := .base T) hs (fun i _ u hu => fr.tm.2 i u hu) h1
        have hv : f.eval x = .bool t := hv
        exact ⟨{ f with todo := .code (if t then a else b) :: k' }, stp fr.mode (by simp [stepG.exec, e, hv]), rfl, rfl, rfl, fr.to ⟨_, _, rfl, rfl, a2⟩⟩
      | _ => cases h2
    | block id b => exact turnsD (hgo _ h) fun ρ y k' hy hk => ⟨.code b :: .inBlock id :: k', ⟨_, _, rfl, rfl, _, _, rfl, rfl, hk⟩, fun f cs w e => by rw [show y = .code (.block id b) from hy] at e; simp [stepG.exec, e]⟩
    | loop b => exact turnsD (hgo _ h) fun ρ y k' hy hk => ⟨.code b :: .inLoop b :: k', ⟨_, _, rfl, rfl, _, _, rfl, rfl, hk⟩, fun f cs w e => by rw [show y = .code (.loop b) from hy] at e; simp [stepG.exec, e]⟩
    | rangeFunc x ps a b => cases h
    | exit id =>
      obtain ⟨j, hx, h2⟩ := get_ok h
      exact turnsD (hgo _ h2) fun ρ y k' hy hk => by
        obtain ⟨j', a1, a2⟩ := (exit_ok hk).1 j hx
        exact ⟨j', a2, fun f cs w e => by rw [show y = .code (.exit id) from hy] at e; simp [stepG.exec, e, a1]⟩
    | scope b => exact turnsD (hgo _ h) fun ρ y k' hy hk => ⟨.code b :: .inScope b :: k', ⟨_, _, rfl, rfl, _, _, rfl, rfl, hk⟩, fun f cs w e => by rw [show y = .code (.scope b) from hy] at e; simp [stepG.exec, e]⟩
    | goto l =>
      obtain ⟨j, hx, h2⟩ := get_ok h
      exact turnsD (hgo _ h2) fun ρ y k' hy hk => by
        obtain ⟨j', a1, a2⟩ := (goto_ok hk).1 j hx
        exact ⟨j', a2, fun f cs w e => by rw [show y = .code (.goto l) from hy] at e; simp [stepG.exec, e, a1]⟩
    | ret => cases h
    | refuse s => cases h
/-- A region on the way to where the frame gives up. -/
theorem regionD_ok (hX : XOk P G X) (hM : P.follows .mixedOrders = true) (hR : RunOk P G run) {F : Frees} {K : Hint} {id : Nat} {ops : Array Oper} {draw : Bool} {k : List I} {go : Fr → Hp → Nat → Nat → Ans} (hgo : ∀ g H rd wr, go g H rd wr = .ok → DieOk P G g H rd wr Q)
    (h : sRegionD F P X G K run fn T n ds dfd k H rd wr id ops draw go = .ok) : DieOk P G ⟨fn, T, n, .code (.region id ops draw) :: k, ds, false, dfd, none⟩ H rd wr Q := by
  unfold sRegionD at h
  rcases iff_ok h with ⟨rfl, h1⟩ | ⟨rfl, h1⟩
  · obtain ⟨l, hl, h2⟩ := get_ok h1
    have h2 : Option.rec (motive := fun _ => Ans) (drawn P X G run none n ds (fun T ds H r w => nat (Nat.lor rd r) fun rd => nat (Nat.lor wr w) fun wr => go ⟨fn, T.flush (K fn id), n, k, ds, false, dfd, none⟩ H rd wr) l 0 [] (.base T) H 0 0)
      (fun M => drawnF P X G run none n ds (fun T ds H r w => nat (Nat.lor rd r) fun rd => nat (Nat.lor wr w) fun wr => go ⟨fn, T.flush (K fn id), n, k, ds, false, dfd, none⟩ H rd wr) M l 0 [] [] [H] (.base T) H 0 0) (F fn id) = .ok := h2
    rcases hF : F fn id with _ | M <;> rw [hF] at h2 <;> have h4 := h2
    · obtain ⟨T', H', rd', wr', h3, hpu, hdo⟩ := draw_ok hX hM hR hl h4
      rw [nat_eq, nat_eq] at h3
      refine viaD (hgo _ _ _ _ h3) rfl (hpu.more fun z hz => on_lor.2 (.inr hz)) (fun x hx => on_lor.2 (.inl hx)) (fun x hx => on_lor.2 (.inl hx)) ?_
      intro R ρ w f cs fr hs hR' hw' hf hG hcs
      obtain ⟨y, k', e, a1, a2⟩ := fr.todo rfl
      cases (show y = .code (.region id ops true) from a1)
      obtain ⟨w1, ρ1, tm2, ds2, s1, l1, d1, g1⟩ := hdo R ρ w f cs id k' fr.mode fr.kinds fr.rnd fr.ds (LmR.base fr.tm) e hs (fun x hx => hR' x (on_lor.2 (.inr hx))) hf hG hcs
      exact ⟨w1, ρ1, _, s1, rfl, rfl, rfl, ⟨fr.fn, l1.flush _, fun _ => a2.mono g1.le, d1, fr.mode, fr.kind, fr.rnd.mono g1.le⟩, Goes.more g1 hw'⟩
    · obtain ⟨T', H', rd', wr', h3, hpu, hdo⟩ := drawF_ok hX hM hR hl h4
      rw [nat_eq, nat_eq] at h3
      refine viaD (hgo _ _ _ _ h3) rfl (hpu.more fun z hz => on_lor.2 (.inr hz)) (fun x hx => on_lor.2 (.inl hx)) (fun x hx => on_lor.2 (.inl hx)) ?_
      intro R ρ w f cs fr hs hR' hw' hf hG hcs
      obtain ⟨y, k', e, a1, a2⟩ := fr.todo rfl
      cases (show y = .code (.region id ops true) from a1)
      obtain ⟨w1, ρ1, tm2, ds2, s1, l1, d1, g1⟩ := hdo R ρ w f cs id k' fr.mode fr.kinds fr.rnd fr.ds (LmR.base fr.tm) e hs (fun x hx => hR' x (on_lor.2 (.inr hx))) hf hG hcs
      exact ⟨w1, ρ1, _, s1, rfl, rfl, rfl, ⟨fr.fn, l1.flush _, fun _ => a2.mono g1.le, d1, fr.mode, fr.kind, fr.rnd.mono g1.le⟩, Goes.more g1 hw'⟩
  · obtain ⟨l, hl, h2⟩ := get_ok h1
    obtain ⟨T', ds', H', rd', wr', h3, hpu, hrd, hwr, hdo⟩ := inTurn_ok hX hR l _ _ _ _ _ h2
    refine viaD (hgo _ _ _ _ h3) rfl hpu hrd hwr ?_
    intro R ρ w f cs fr hs hR' hw' hf hG hcs
    obtain ⟨y, k', e, a1, a2⟩ := fr.todo rfl
    cases (show y = .code (.region id ops false) from a1)
    obtain ⟨b1, b2⟩ := prepS_left _ _ hl
    have hlen : l.length = ops.size := by simpa using congrArg List.length b1
    have s0 : step P (lone f cs w) = .next (lone { f with todo := .inRegion ops (List.range' 0 l.length) :: k' } cs w) := stp fr.mode (by simp [stepG.exec, e, hlen, List.range_eq_range'])
    obtain ⟨w1, ρ1, tm2, ds2, s1, l1, d1, g1⟩ := hdo R ρ w { f with todo := .inRegion ops (List.range' 0 l.length) :: k' } cs ops 0 k' (left_of b1 b2) fr.mode fr.kinds fr.rnd fr.ds (LmR.base fr.tm) rfl hs hR' hw' hf hG hcs
    exact ⟨w1, ρ1, _, (Steps.one s0).trans s1, rfl, rfl, rfl, ⟨fr.fn, l1.flush _, fun _ => a2.mono g1.le, d1, fr.mode, fr.kind, fr.rnd.mono g1.le⟩, g1⟩
end
/-- The first operations of a region, in its order. -/
theorem inTurn_pre (hX : XOk P G X) {run : Runner} (hR : RunOk P G run) {rnd : Option Nat} {n : Nat} {k : K3} : ∀ (l : List Pre) (T : LL) (ds : List D) (H : Hp) (rd wr : Nat), inTurn P X G run rnd n k l T ds H rd wr = .ok →
    ∃ T' ds' H' rd' wr', k T' ds' H' rd' wr' = .ok ∧ Pu H H' wr' ∧ (∀ x, On rd x → On rd' x) ∧ (∀ x, On wr x → On wr' x) ∧
      ∀ (R : Nat → Prop) (ρ : Env) (w : World) (f : Frame) (cs : List Frame) (ops : Array Oper) (i : Nat) (rest : List Nat) (kk : List Item), Left ops i l → f.mode = .run → (f.kind = .normal ∨ f.kind = .deferred) → RoundR ρ rnd f.roundOf → DRs ρ ds f.defers → LmR ρ T n f.tmps → f.todo = .inRegion ops (List.range' i l.length ++ rest) :: kk →
        St G R ρ H w → (∀ x, On rd' x → R x) → (∀ x, On wr x → R x ∧ G ≤ x) → Fresh ρ H.next H'.next → G ≤ H.next → CsOk f cs →
        ∃ w' ρ' tm2 ds2, Steps P (lone f cs w) (lone { f with tmps := tm2, defers := ds2, todo := .inRegion ops rest :: kk } cs w') ∧ LmR ρ' T' n tm2 ∧ DRs ρ' ds' ds2 ∧ Goes G R ρ H w wr' ρ' H' w'
  | [], T, ds, H, rd, wr, h => by
    refine ⟨T, ds, H, rd, wr, h, Pu.refl _ _, fun _ h => h, fun _ h => h, ?_⟩
    intro R ρ w f cs ops i rest kk _ hm _ _ hds hl ht hs _ hwr _ _ _
    refine ⟨w, ρ, f.tmps, f.defers, ?_, hl, hds, ?_⟩
    · rw [show ({ f with tmps := f.tmps, defers := f.defers, todo := .inRegion ops rest :: kk } : Frame) = f from by
        have ht' : f.todo = .inRegion ops rest :: kk := by simpa using ht
        rw [← ht']]
      exact .refl _ _
    have := Goes.more (Goes.refl (w' := w) hs rfl ⟨rfl, rfl, rfl⟩) hwr
    exact Goes.congr (fun x => ⟨fun h => (on_lor.1 h).elim id fun h => (on_zero h).elim, fun h => on_lor.2 (.inl h)⟩) this
  | p :: l, T, ds, H, rd, wr, h => by
    cases p with
    | mk o gd b =>
      obtain ⟨T1, ds1, H1, r, wm, v, h1, hp1, hT, _, hop⟩ := oneOp_ok hX hR (dr := false) h
      rw [nat_eq, nat_eq] at h1
      obtain ⟨T', ds', H', rd', wr', h2, hp2, hrd, hwr, hrest⟩ := inTurn_pre hX hR l T1 ds1 H1 (Nat.lor rd r) (Nat.lor wr wm) h1
      have hn2 := hp2.next
      refine ⟨T', ds', H', rd', wr', h2, hp1.trans hp2 (fun x hx => hwr x (on_lor.2 (.inr hx))), fun x hx => hrd x (on_lor.2 (.inl hx)), fun x hx => hwr x (on_lor.2 (.inl hx)), ?_⟩
      intro R ρ w f cs ops i rest kk hleft hm hk hr hds hl ht hs hR' hw' hf hG hcs
      obtain ⟨ho, hg⟩ := hleft 0 _ rfl
      rw [Nat.add_zero] at ho
      rw [List.length_cons, List.range'_succ, List.cons_append] at ht
      have hf1 : Fresh ρ H.next H1.next := fun x h1 h2 => hf x h1 (Nat.lt_of_lt_of_le h2 hn2)
      obtain ⟨w1, ρ1, rv, dsm, s1, v1, d1, g1⟩ := hop R ρ w f cs ops i _ kk ho hg (hl.ev hs o) (fun d b e u hu => hl.2 d u hu) hm hk hr hds hl.1 ht hs (fun x hx => hR' x (hrd x (on_lor.2 (.inr hx)))) hf1 hG hcs
      have hl1 : LmR ρ1 T1 n (match o.dst with | some d => f.tmps.setIfInBounds d rv | none => f.tmps) := by
        rcases hT with ⟨e1, e2⟩ | ⟨d, e1, e2, e3⟩
        · rw [e1, e2]
          exact hl.mono g1.le
        · rw [e1, e3]
          exact (hl.mono g1.le).put e2 v1
      obtain ⟨w2, ρ2, tm2, ds2, s2, l2, d2, g2⟩ := hrest _ ρ1 w1 { f with tmps := (match o.dst with | some d => f.tmps.setIfInBounds d rv | none => f.tmps), defers := dsm, todo := .inRegion ops (List.range' (i + 1) l.length ++ rest) :: kk } cs ops (i + 1) rest kk hleft.tail hm hk (hr.mono g1.le) d1 hl1 rfl g1.st (fun x hx => .inl (hR' x hx)) (fun x hx => by
        rcases on_lor.1 hx with hx | hx
        · exact ⟨.inl (hw' x hx).1, (hw' x hx).2⟩
        · exact ⟨.inr hx, (g1.own x hx).2⟩) (fresh_on g1 hf) (Nat.le_trans hG g1.next) hcs
      exact ⟨w2, ρ2, tm2, ds2, s1.trans s2, l2, d2, Goes.congr (fun x => ⟨fun h => (on_lor.1 h).elim (fun h => hwr x (on_lor.2 (.inr h))) id, fun h => on_lor.2 (.inr h)⟩) (Goes.trans hf1 g1 g2)⟩
theorem noDs_ok {ds : List D} {x : Ans} (h : noDs ds x = .ok) : ds = [] ∧ x = .ok := by
  cases ds with
  | nil => exact ⟨rfl, h⟩
  | cons _ _ => cases h
/-- The operation at which a frame gives up. -/
theorem dieOp_ok (hX : XOk P G X) {die : Dier} (hD : DieAll P G die) {S : Sites} {p : Pre} {keep n : Nat} {T : LL} {ds : List D} {H : Hp} {rd wr : Nat} {Q : K4} (h : dieOp P X G S die p keep T ds H rd wr Q = .ok) :
    ∃ v T' ds' H' rd' wr', Q v T' ds' H' rd' wr' = .ok ∧ Pu H H' wr' ∧ (∀ x, On rd x → On rd' x) ∧ (∀ x, On wr x → On wr' x) ∧
      ∀ (R : Nat → Prop) (ρ : Env) (w : World) (f : Frame) (cs : List Frame) (ops : Array Oper) (i : Nat) (rest : List Nat) (kk : List Item), ops[i]? = some p.o → guardOf ops p.o = some p.gd → LmR ρ T n f.tmps → f.mode = .run → f.roundOf = none → DRs ρ ds f.defers → f.todo = .inRegion ops (i :: rest) :: kk →
        St G R ρ H w → (∀ x, On rd' x → R x) → (∀ x, On wr x → R x ∧ G ≤ x) → Fresh ρ H.next H'.next → G ≤ H.next → Gives P G n v T' ds' H H' wr' R ρ w f cs := by
  obtain ⟨o, gd, bef⟩ := p
  obtain ⟨b, h1, h2⟩ := get_ok h
  obtain ⟨rfl, h3⟩ := iff_no h2
  simp only at h3
  split at h3
  · rename_i x hop
    obtain ⟨u, h4, h5⟩ := get_ok h3
    cases u with
    | iface t u =>
      refine ⟨_, _, _, _, _, _, h5, Pu.refl _ _, fun _ h => h, fun _ h => h, ?_⟩
      intro R ρ w f cs ops i rest kk ho hg hl hm hr hds ht hs hR' hw' hf hG
      have hx := st_oper (P := P) (cs := cs) (w := w) ht ho (wanted_ok hg h1 (fun d b e u hu => hl.2 d u hu)) (.inl hr)
      have hv : VR ρ (.iface t u) (f.eval x) := ev_ok hs (fun i _ u hu => hl.2 i u hu) h4
      obtain ⟨ru, e, hu⟩ : ∃ ru, f.eval x = .iface t ru ∧ VR ρ u ru := hv
      have hrun : (execOp f.eval o).run P w = .halt (.panic (.iface t ru)) w := by
        simp [execOp, hop, Instr.panic, e, goPanic, Sem.run]
      refine ⟨.iface t ru, w, ρ, { f with mode := .panicking (one1 (.iface t ru)) }, .one (stp hm ?_), rfl, rfl, rfl, rfl, hl.flush _, hds, ⟨ru, rfl, hu⟩, Goes.congr (fun x => ⟨fun h => (on_lor.1 h).elim id fun h => (on_zero h).elim, fun h => on_lor.2 (.inl h)⟩) (Goes.more (Goes.refl (w' := w) hs rfl ⟨rfl, rfl, rfl⟩) hw')⟩
      rw [hx]
      simp [stepG.apply, hrun, Frame.raise, hm, one1]
    | _ => cases h5
  · rename_i c hop
    rw [← hop] at h3
    obtain ⟨out, H1, r1, w1m, h4, hnx1, hdoes⟩ := exec_ok hX.1 h3
    cases out with
    | call fid args =>
      simp only [nat_eq] at h4
      obtain ⟨g, h5, h6⟩ := get_ok h4
      obtain ⟨s, _, h7⟩ := get_ok h6
      obtain ⟨v, T2, ds2, H2, rd2, wr2, h8, hpu, hrd2, hwr2, hrun⟩ := hD _ _ _ _ _ _ _ h7
      obtain ⟨rfl, h9⟩ := noDs_ok h8
      have hnx := hpu.next
      refine ⟨_, _, _, _, _, _, h9, hnx1.trans hpu (fun x hx => hwr2 x (on_lor.2 (.inr hx))), fun x hx => hrd2 x (on_lor.2 (.inl hx)), fun x hx => hwr2 x (on_lor.2 (.inl hx)), ?_⟩
      intro R ρ w f cs ops i rest kk ho hg hl hm hr hds ht hs hR' hw' hf hG
      have hx := st_oper (P := P) (cs := cs) (w := w) ht ho (wanted_ok hg h1 (fun d b e u hu => hl.2 d u hu)) (.inl hr)
      have hf1 : Fresh ρ H.next H1.next := fun x hx1 hx2 => hf x hx1 (Nat.lt_of_lt_of_le hx2 hnx)
      obtain ⟨nx, w1, ρ1, a1, ⟨ra, rfl, a2⟩, a3⟩ := hdoes R ρ w f.eval (hl.ev hs o) hs (fun x hx => hR' x (hrd2 x (on_lor.2 (.inr hx)))) hf1 hG
      obtain ⟨hFR, hd1, hd2, hd3⟩ := enter_FR h5 a2
      have hstep := st_enter hm (fun d r s k e => by rw [ht] at e; cases e) hx a1
      obtain ⟨r, w2, ρ2, f', b1, b2, b3, b4, b5, b6, b7, b8, b9⟩ := hrun _ ρ1 w1 _ (f :: cs) hFR a3.st (fun x hx => .inl (hR' x hx)) (fun x hx => by
        rcases on_lor.1 hx with hx | hx
        · exact ⟨.inl (hw' x hx).1, (hw' x hx).2⟩
        · exact ⟨.inr hx, (a3.own x hx).2⟩) (fresh_on a3 hf) (Nat.le_trans hG a3.next) ⟨fun h => (by cases h), fun h => (by cases h)⟩
      have hde : f'.defers = [] := b7
      have hfn : ∃ F, P.funcs[f'.fn]? = some F := by
        obtain ⟨F, c1, _⟩ := opt_some h5
        exact ⟨F, by rw [b4]; exact c1⟩
      have hl2 := step_leave_panicked (P := P) (c := f) (cs := cs) (w := w2) (chain := one1 r) ⟨b2, hde, hfn⟩
      have hra : f.raise (one1 r) = { f with mode := .panicking (one1 r) } := by simp [Frame.raise, hm]
      rw [hra] at hl2
      refine ⟨r, w2, ρ2, _, .head hstep (b1.trans (.one hl2)), rfl, rfl, rfl, rfl, ((hl.mono a3.le).mono b9.le).flush _, (hds.mono a3.le).mono b9.le, b8, Goes.congr (fun x => ⟨fun h => (on_lor.1 h).elim (fun h => hwr2 x (on_lor.2 (.inr h))) id, fun h => on_lor.2 (.inr h)⟩) (Goes.trans hf1 a3 b9)⟩
    | _ => cases h4
  · cases h3
section
variable {run : Runner} {die : Dier} {fn : FuncId} {T : Tr V} {n : Nat} {ds : List D} {dfd : Bool} {H : Hp} {rd wr : Nat} {Q : K4}
/-- The region where a frame gives up. -/
theorem regionE_ok (hX : XOk P G X) (hR : RunOk P G run) (hD : DieAll P G die) {K : Hint} {S : Sites} {i id : Nat} {ops : Array Oper} {draw : Bool} {k : List I}
    (h : sRegionE P X G K run die S i fn T n ds H rd wr id ops draw Q = .ok) : DieOk P G ⟨fn, T, n, .code (.region id ops draw) :: k, ds, false, dfd, none⟩ H rd wr Q := by
  unfold sRegionE at h
  rcases iff_ok h with ⟨_, h1⟩ | ⟨rfl, h1⟩
  · cases h1
  obtain ⟨l, hl, h2⟩ := get_ok h1
  obtain ⟨p, hp, h3⟩ := get_ok h2
  obtain ⟨T1, ds1, H1, rd1, wr1, h4, hpu, hrd, hwr, hdo⟩ := inTurn_pre hX hR _ _ _ _ _ _ h3
  obtain ⟨v, T', ds', H', rd', wr', h5, hpu2, hrd2, hwr2, hdo2⟩ := dieOp_ok (n := n) hX hD h4
  refine ⟨v, T', ds', H', rd', wr', h5, hpu.trans hpu2 hwr2, fun x hx => hrd2 x (hrd x hx), fun x hx => hwr2 x (hwr x hx), ?_⟩
  intro R ρ w f cs fr hs hR' hw' hf hG hcs
  obtain ⟨y, k', e, a1, a2⟩ := fr.todo rfl
  cases (show y = .code (.region id ops false) from a1)
  obtain ⟨b1, b2⟩ := prepS_left _ _ hl
  have hlen : l.length = ops.size := by simpa using congrArg List.length b1
  have hi : i < l.length := by
    rcases Nat.lt_or_ge i l.length with h' | h'
    · exact h'
    · rw [List.getElem?_eq_none h'] at hp; cases hp
  have hleft := left_of b1 b2
  have htk : (l.take i).length = i := by rw [List.length_take]; omega
  have hleft1 : Left ops 0 (l.take i) := fun j q hq => by
    refine hleft j q ?_
    rw [List.getElem?_take] at hq
    split at hq
    · exact hq
    · cases hq
  have hrange : List.range' 0 l.length = List.range' 0 (l.take i).length ++ i :: List.range' (i + 1) (l.length - i - 1) := by
    rw [htk, show l.length = i + (1 + (l.length - i - 1)) by omega, ← List.range'_append_1]
    congr 1
    rw [show i + (1 + (l.length - i - 1)) - i - 1 = l.length - i - 1 by omega, Nat.zero_add, Nat.add_comm 1, List.range'_succ]
  have s0 : step P (lone f cs w) = .next (lone { f with todo := .inRegion ops (List.range' 0 l.length) :: k' } cs w) := stp fr.mode (by simp [stepG.exec, e, hlen, List.range_eq_range'])
  have hnx := hpu2.next
  have hf1 : Fresh ρ H.next H1.next := fun x h1 h2 => hf x h1 (Nat.lt_of_lt_of_le h2 hnx)
  have hro : f.roundOf = none := fr.rnd.1 rfl
  obtain ⟨w1, ρ1, tm2, ds2, s1, l1, d1, g1⟩ := hdo R ρ w { f with todo := .inRegion ops (List.range' 0 l.length) :: k' } cs ops 0 (i :: List.range' (i + 1) (l.length - i - 1)) k' hleft1 fr.mode fr.kinds fr.rnd fr.ds (LmR.base fr.tm) (by simp only; rw [hrange]) hs (fun x hx => hR' x (hrd2 x hx)) hw' hf1 hG hcs
  have ho := hleft i p hp
  rw [Nat.zero_add] at ho
  obtain ⟨r, w2, ρ2, f', c1, c2, c3, c4, c5, c6, c7, c8, c9⟩ := hdo2 _ ρ1 w1 { f with tmps := tm2, defers := ds2, todo := .inRegion ops (i :: List.range' (i + 1) (l.length - i - 1)) :: k' } cs ops i _ k' ho.1 ho.2 l1 fr.mode hro d1 rfl g1.st (fun x hx => .inl (hR' x hx)) (fun x hx => ⟨.inr hx, (g1.own x hx).2⟩) (fresh_on g1 hf) (Nat.le_trans hG g1.next)
  exact ⟨r, w2, ρ2, f', (Steps.one s0).trans (s1.trans c1), c2, c3, c4, c5, c6, c7, c8, Goes.congr (fun x => ⟨fun h => (on_lor.1 h).elim (hwr2 x) fun h => h, fun h => on_lor.2 (.inr h)⟩) (Goes.trans hf1 g1 c9)⟩
end
/-- A step of a frame that gives up further on. -/
theorem dieS_ok (hX : XOk P G X) (hM : P.follows .mixedOrders = true) {F : Frees} {K : Hint} {run : Runner} (hR : RunOk P G run) {die : Dier} (hD : DieAll P G die) {S : Sites} {c : Nat} {g : Fr} {H : Hp} {rd wr : Nat} {Q : K4} (h : dieS F P X G K run die S c g H rd wr Q = .ok) : DieOk P G g H rd wr Q := by
  obtain ⟨fn, T, n, todo, ds, ret, dfd, rnd⟩ := g
  cases ret with
  | true => cases todo <;> cases h
  | false =>
    cases rnd with
    | some _ => cases todo <;> cases h
    | none =>
      cases todo with
      | nil => cases h
      | cons x k =>
        by_cases hx : ∃ id ops draw, x = .code (.region id ops draw)
        · obtain ⟨id, ops, draw, rfl⟩ := hx
          have h' : (get (S fn) fun s => iff (Nat.beq s.1 id)
            (iff (Nat.beq c 0) (sRegionE P X G K run die S s.2.1 fn T n ds H rd wr id ops draw Q) (sRegionD F P X G K run fn T n ds dfd k H rd wr id ops draw fun g H rd wr => die S (c - 1) g H rd wr Q))
            (sRegionD F P X G K run fn T n ds dfd k H rd wr id ops draw fun g H rd wr => die S c g H rd wr Q)) = .ok := h
          obtain ⟨s, _, h1⟩ := get_ok h'
          rcases iff_ok h1 with ⟨_, h2⟩ | ⟨_, h2⟩
          · rcases iff_ok h2 with ⟨_, h3⟩ | ⟨_, h3⟩
            · exact regionE_ok hX hR hD h3
            · exact regionD_ok hX hM hR (fun g H rd wr hg => hD _ _ _ _ _ _ _ hg) h3
          · exact regionD_ok hX hM hR (fun g H rd wr hg => hD _ _ _ _ _ _ _ hg) h2
        · have h' : dieTurn G T x k (fun k => die S c ⟨fn, T, n, k, ds, false, dfd, none⟩ H rd wr Q) = .ok := by
            cases x with
            | code cd =>
              cases cd with
              | region id ops draw => exact (hx ⟨id, ops, draw, rfl⟩).elim
              | _ => exact h
            | _ => exact h
          exact turnD_ok (fun k' hk => hD _ _ _ _ _ _ _ hk) h'
end Go.Proofs.YtdldpehmcfbbeaaGreatDoor.Ev
