/- A frame of the evaluator's goes into a loop over a function. No condition but the runner's. -/
import Derived.Test.YtdldpehmcfbbeaaGreatDoorEv26
namespace Go.Proofs.YtdldpehmcfbbeaaGreatDoor.Ev
variable {P : Program} {X : Ext} {G : Nat}
section
variable {run : Runner} {fn : FuncId} {T : Tr V} {n : Nat} {ds : List D} {dfd : Bool} {rnd : Option Nat} {H : Hp} {rd wr : Nat} {q : K2}
theorem range_core (hR : RunOk P G run) {x : Operand} {ps : Array Tmp} {a b : Code} {k : List I} {f : FuncId} {first cap : List V} {H1 : Hp} {df : Nat} {mk : List D} {rd1 wr1 : Nat} {g : Fr} (hx : ev G (.base T) x = some (.func f first cap)) (hok : okFn P f = true) (hen : enterA P f (first ++ [.yield H1.next] ++ cap) false = some g)
    (h : run g (H1.new (.loop .ready none fn T n ps.toList a b df)) rd1 (Nat.lor wr1 (bit H1.next)) (fun _ H rd wr => run ⟨fn, T, n, .endRange H1.next :: k, mk ++ ds, false, dfd, rnd⟩ H rd wr q) = .ok) (hpu0 : Pu H H1 wr1) (hrd0 : ∀ x, On rd x → On rd1 x) (hwr0 : ∀ x, On wr x → On wr1 x)
    (hst : ∀ (R : Nat → Prop) (ρ : Env) (w : World) (f : Frame), FR ρ ⟨fn, T, n, .code (.rangeFunc x ps a b) :: k, ds, false, dfd, rnd⟩ f → St G R ρ H w → (∀ x, On rd1 x → R x) → (∀ x, On wr x → R x ∧ G ≤ x) → Fresh ρ H.next H1.next → G ≤ H.next →
      ∃ w1 ρ1 kd md, Goes G R ρ H w wr1 ρ1 H1 w1 ∧ ρ1 df = some kd ∧ DRs ρ1 mk md ∧ ∀ (i : FuncId) (tmps : Array Value), (Instr.enterLoop i tmps ps a b f.roundOf).run P w = .ok (w1.heap.size, md) { w1 with heap := w1.heap.push (.loop { state := .ready, pending := none, fn := i, tmps, params := ps, assign := a, body := b, defers := kd.b }) }) :
    FrOk P G ⟨fn, T, n, .code (.rangeFunc x ps a b) :: k, ds, false, dfd, rnd⟩ H rd wr q := by
  obtain ⟨v, H3, rd3, wr3, h7, hpu, hrd, hwr, hrun⟩ := hR g _ rd1 _ _ h
  have hpu1 : Pu H (H1.new (.loop .ready none fn T n ps.toList a b df)) (Nat.lor wr1 (bit H1.next)) := (hpu0.more fun z hz => on_lor.2 (.inl hz)).trans ((Pu.made H1 _).more fun z hz => on_lor.2 (.inr hz)) fun _ h => h
  refine via hR h7 (hpu1.trans hpu hwr) (fun x hx => hrd x (hrd0 x hx)) (fun x hx => hwr x (on_lor.2 (.inl (hwr0 x hx)))) ?_
  intro R ρ w f0 cs fr hs hR' hw' hf hG hcs
  have hn1 : (H1.new (.loop .ready none fn T n ps.toList a b df)).next = H1.next + 1 := by rw [hp_new]
  have hn3 := hpu.next
  rw [hn1] at hn3
  have hf1 : Fresh ρ H.next H1.next := fun x h1 h2 => hf x h1 (by omega)
  obtain ⟨w1, ρ1, kd, md, g1, e1, e2, e3⟩ := hst R ρ w f0 fr hs (fun x hx => hR' x (hrd x hx)) hw' hf1 hG
  have hfr1 := fresh_on g1 hf
  have hnone : ρ1 H1.next = none := hfr1 _ (Nat.le_refl _) (by omega)
  have hle2 : ρ1.Le (ρ1.upd H1.next ⟨w1.heap.size, 0, 0⟩) := Env.upd_le hnone
  have g2 : Goes G (fun x => R x ∨ On wr1 x) ρ1 H1 w1 (bit H1.next) (ρ1.upd H1.next ⟨w1.heap.size, 0, 0⟩) (H1.new (.loop .ready none fn T n ps.toList a b df)) { w1 with heap := w1.heap.push (.loop { state := .ready, pending := none, fn := f0.fn, tmps := f0.tmps, params := ps, assign := a, body := b, defers := kd.b }) } :=
    Goes.made g1.st hnone (Nat.le_trans hG g1.next) ⟨_, kd, rfl, rfl, rfl, fr.fn, (fr.tm.mono g1.le).mono hle2, rfl, rfl, rfl, hle2 _ _ e1, rfl⟩ rfl rfl ⟨rfl, rfl, rfl⟩
  have g12 := Goes.trans hf1 g1 g2
  obtain ⟨y, k', e, c3, e4⟩ := fr.todo rfl
  cases (show y = .code (.rangeFunc x ps a b) from c3)
  obtain ⟨ra, rb, hv, v1, v2⟩ : VR ρ (.func f first cap) (f0.eval x) := ev_ok (T := .base T) hs (fun i _ u hu => fr.tm.2 i u hu) hx
  have hle : ρ.Le (ρ1.upd H1.next ⟨w1.heap.size, 0, 0⟩) := fun x k h => hle2 _ _ (g1.le _ _ h)
  obtain ⟨hFR, hd1, hd2, hd3⟩ := enter_FR hen (ρ := ρ1.upd H1.next ⟨w1.heap.size, 0, 0⟩) (ra := ra ++ #[.func (.yield w1.heap.size) #[] #[]] ++ rb) (by
    simp only [Array.toList_append]
    exact ((VRs.mono hle _ _ v1).append (show VRs _ [.yield H1.next] [.func (.yield w1.heap.size) #[] #[]] from ⟨_, _, rfl, ⟨_, Env.upd_at, rfl⟩, rfl⟩)).append (VRs.mono hle _ _ v2))
  let f1 : Frame := { f0 with todo := .inRangeFunc w1.heap.size :: k', defers := md ++ f0.defers }
  have hv1 : f1.eval x = .func (.func f) ra rb := by
    rw [← hv]
    cases x <;> rfl
  have hcall : (do let d ← resolve f1.eval { callee := .value x, args := #[.const (.func (.yield w1.heap.size) #[] #[])], argTypes := #[] } 0; invoke d.target d.args : Sem Next).run P { w1 with heap := w1.heap.push (.loop { state := .ready, pending := none, fn := f0.fn, tmps := f0.tmps, params := ps, assign := a, body := b, defers := kd.b }) } = .ok (.enter f (ra ++ #[.func (.yield w1.heap.size) #[] #[]] ++ rb)) { w1 with heap := w1.heap.push (.loop { state := .ready, pending := none, fn := f0.fn, tmps := f0.tmps, params := ps, assign := a, body := b, defers := kd.b }) } := by
    have hc : f1.eval (.const (.func (.yield w1.heap.size) #[] #[])) = .func (.yield w1.heap.size) #[] #[] := rfl
    simp [resolve, hv1, hc, Deferred.ofValue, invoke, okFn_ok hok]
  have s1 : step P (lone f0 cs w) = .next (lone (Frame.enter P f (ra ++ #[.func (.yield w1.heap.size) #[] #[]] ++ rb) .normal) (f1 :: cs) { w1 with heap := w1.heap.push (.loop { state := .ready, pending := none, fn := f0.fn, tmps := f0.tmps, params := ps, assign := a, body := b, defers := kd.b }) }) := by
    refine stp fr.mode ?_
    simp only [stepG.exec, e, Sem.runT_eq, e3, GStep.bare_after]
    simp only [stepG.apply, Sem.runT_eq, if_true]
    rw [hcall]
    simp only [GStep.bare_after]
    rfl
  obtain ⟨r, w3, ρ3, b1, b2, b3⟩ := hrun _ _ _ _ (f1 :: cs) hFR g12.st (fun x hx => .inl (hR' x hx)) (fun x hx => ⟨.inr hx, (g12.own x hx).2⟩) (fresh_on g12 hf) (Nat.le_trans hG g12.next) ⟨fun h => (by cases h), fun h => (by cases h)⟩
  obtain ⟨f', c1, c2, c3, c4, c5, F, c6, c7⟩ := b1.1 rfl
  have s2 := step_leave_returned (P := P) (c := f1) (cs := cs) ⟨c2, c3, c4, F, c6, c7⟩
  have hfin : f1.finish r = { f0 with todo := .endRangeFunc w1.heap.size :: k', defers := md ++ f0.defers } := rfl
  rw [hfin] at s2
  have hle3 : ρ.Le ρ3 := fun x k h => b3.le _ _ (hle _ _ h)
  refine ⟨w3, ρ3, _, .head s1 (c1.trans (.one s2)), rfl, rfl, rfl, ⟨fr.fn, fr.tm.mono hle3, fun _ => ⟨_, _, rfl, ⟨_, b3.le _ _ Env.upd_at, rfl⟩, e4.mono hle3⟩, ((e2.mono hle2).mono b3.le).append (fr.ds.mono hle3), fr.mode, fr.kind, fr.rnd.mono hle3⟩, ?_⟩
  refine Goes.congr (fun x => ⟨fun h => (on_lor.1 h).elim (hwr x) id, fun h => on_lor.2 (.inr h)⟩) (Goes.trans ?_ g12 b3)
  exact fun x h1 h2 => hf x h1 (by omega)
theorem range_ok (hR : RunOk P G run) {K : Hint} {x : Operand} {ps : Array Tmp} {a b : Code} {k : List I} (h : sRangeF x ps a b P X G K run fn T n ds dfd rnd k H rd wr q = .ok) : FrOk P G ⟨fn, T, n, .code (.rangeFunc x ps a b) :: k, ds, false, dfd, rnd⟩ H rd wr q := by
  obtain ⟨v, hv, h1⟩ := get_ok h
  cases rnd with
  | some l =>
    obtain ⟨o, h2, h3⟩ := get_ok h1
    rw [hp_get] at h2
    cases o with
    | loop st pend fn' T' nt ps' a' b' df =>
      simp only [nat_eq] at h3
      cases v with
      | func f first cap =>
        simp only [stepRange, nat_eq] at h3
        obtain ⟨hok, h4⟩ := iff_no h3
        obtain ⟨g, hen, h5⟩ := get_ok h4
        refine range_core (H1 := H) (mk := []) hR hv hok hen h5 (Pu.refl _ _) (fun x hx => on_lor.2 (.inl hx)) (fun _ h => h) ?_
        intro R ρ w f0 fr hs hR' hw' hf hG
        obtain ⟨kb, ob, a1, a2, lo, kd, rfl, b1, b2, b3, b4, b5, b6, b7, b8, b9⟩ := hs.sat l _ (hR' l (on_lor.2 (.inr (on_bit.2 rfl)))) h2
        obtain ⟨k2, c1, c2⟩ := fr.rnd.2 l rfl
        rw [a1] at c1
        injection c1 with c1
        subst c1
        refine ⟨w, ρ, kd, [], Goes.congr (fun x => ⟨fun h => (on_lor.1 h).elim id fun h => (on_zero h).elim, fun h => on_lor.2 (.inl h)⟩) (Goes.more (Goes.refl (w' := w) hs rfl ⟨rfl, rfl, rfl⟩) hw'), b8, rfl, fun i tmps => ?_⟩
        rw [c2]
        simp [Instr.enterLoop, Instr.getLoop, getObj, newObj, Sem.run, a2, b9]
      | _ => cases h3
    | _ => cases h3
  | none =>
    simp only [nat_eq] at h1
    cases v with
    | func f first cap =>
      simp only [stepRange, nat_eq] at h1
      obtain ⟨hok, h4⟩ := iff_no h1
      obtain ⟨g, hen, h5⟩ := get_ok h4
      refine range_core (H1 := H.new (.defd (some []))) (mk := [.mark H.next]) hR hv hok hen h5 ((Pu.made H _).more fun z hz => on_lor.2 (.inr hz)) (fun x hx => hx) (fun x h => on_lor.2 (.inl h)) ?_
      intro R ρ w f0 fr hs hR' hw' hf hG
      have hnone : ρ H.next = none := hf _ (Nat.le_refl _) (by rw [hp_new]; simp)
      have g1 : Goes G R ρ H w (bit H.next) (ρ.upd H.next ⟨w.heap.size, 0, 0⟩) (H.new (.defd (some []))) { w with heap := w.heap.push (.deferred (some [])) } := Goes.made hs hnone hG ⟨[], rfl, rfl⟩ rfl rfl ⟨rfl, rfl, rfl⟩
      refine ⟨_, _, _, [{ target := .collected w.heap.size, args := #[] }], Goes.more g1 hw', Env.upd_at, ⟨_, _, rfl, ⟨_, Env.upd_at, rfl⟩, rfl⟩, fun i tmps => ?_⟩
      rw [fr.rnd.1 rfl]
      simp [Instr.enterLoop, newObj, Sem.run]
      rfl
    | _ => cases h1
end
end Go.Proofs.YtdldpehmcfbbeaaGreatDoor.Ev
