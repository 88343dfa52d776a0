/- The evaluator's frames and the machine's; an operation carried out to its end. Condition: what is said of functions without a Go body (X). -/
import Derived.Test.YtdldpehmcfbbeaaGreatDoorEv14
import Derived.Defers
namespace Go.Proofs.YtdldpehmcfbbeaaGreatDoor.Ev
variable {P : Program} {X : Ext} {G : Nat}
def IR (ρ : Env) : I → Item → Prop
  | .code c, x => x = .code c
  | .inBlock id, x => x = .inBlock id
  | .inLoop b, x => x = .inLoop b
  | .inScope b, x => x = .inScope b
  | .endRange i, x => ∃ k, ρ i = some k ∧ x = .endRangeFunc k.b
  | .beginRound, x => x = .beginRound
def IRs (ρ : Env) : List I → List Item → Prop
  | [], l => l = []
  | x :: k, l => ∃ y k', l = y :: k' ∧ IR ρ x y ∧ IRs ρ k k'
theorem IR.mono {ρ ρ' : Env} (h : ρ.Le ρ') : ∀ {x : I} {y : Item}, IR ρ x y → IR ρ' x y
  | .code _, _, e => e
  | .inBlock _, _, e => e
  | .inLoop _, _, e => e
  | .inScope _, _, e => e
  | .endRange _, _, ⟨k, a, b⟩ => ⟨k, h _ _ a, b⟩
  | .beginRound, _, e => e
theorem IRs.mono {ρ ρ' : Env} (h : ρ.Le ρ') : ∀ {l : List I} {k : List Item}, IRs ρ l k → IRs ρ' l k
  | [], _, e => e
  | _ :: _, _, ⟨y, k', e, a, b⟩ => ⟨y, k', e, a.mono h, IRs.mono h b⟩
def RoundR (ρ : Env) (rnd : Option Nat) (r : Option Nat) : Prop := (rnd = none → r = none) ∧ ∀ i, rnd = some i → ∃ k, ρ i = some k ∧ r = some k.b
theorem RoundR.mono {ρ ρ' : Env} (h : ρ.Le ρ') {a b : Option Nat} (x : RoundR ρ a b) : RoundR ρ' a b := ⟨x.1, fun i hi => let ⟨k, p, q⟩ := x.2 i hi; ⟨k, h _ _ p, q⟩⟩
/-- A frame of the evaluator's, and the machine's. -/
structure FR (ρ : Env) (g : Fr) (f : Frame) : Prop where
  fn : f.fn = g.fn
  tm : TmR ρ g.T g.n f.tmps
  todo : g.ret = false → IRs ρ g.todo f.todo
  ds : DRs ρ g.defers f.defers
  mode : f.mode = if g.ret then .returning else .run
  kind : f.kind = if g.dfd then .deferred else .normal
  rnd : RoundR ρ g.round f.roundOf
/-- A frame runs to its end and tells r. -/
def Ends (P : Program) (f : Frame) (cs : List Frame) (w : World) (r : Value) (w' : World) : Prop :=
  (f.roundOf = none → ∃ f', Steps P (lone f cs w) (lone f' cs w') ∧ f'.mode = .returning ∧ f'.defers = [] ∧ f'.kind = f.kind ∧ f'.fn = f.fn ∧ ∃ fn, P.funcs[f'.fn]? = some fn ∧ (results fn f'.tmps).run P w' = .ok r w') ∧
  ∀ l, f.roundOf = some l → ∀ c cs', cs = c :: cs' → Steps P (lone f cs w) (lone (c.finish r) cs' w')
theorem Ends.after {f f1 : Frame} {cs : List Frame} {w w1 w' : World} {r : Value} (h : Steps P (lone f cs w) (lone f1 cs w1)) (h1 : f1.roundOf = f.roundOf) (h2 : f1.kind = f.kind) (h3 : f1.fn = f.fn) (e : Ends P f1 cs w1 r w') : Ends P f cs w r w' := by
  refine ⟨fun hr => ?_, fun l hl c cs' hc => h.trans (e.2 l (h1.trans hl) c cs' hc)⟩
  obtain ⟨f', a1, a2, a3, a4, a5, a6⟩ := e.1 (h1.trans hr)
  exact ⟨f', h.trans a1, a2, a3, a4.trans h2, a5.trans h3, a6⟩
/-- What a frame asks of those below it. -/
def CsOk (f : Frame) (cs : List Frame) : Prop := (f.roundOf.isSome = true → ∃ c cs', cs = c :: cs') ∧ (f.kind = .deferred → ∃ c cs', cs = c :: cs' ∧ (c.mode = .returning ∨ ∃ v, c.mode = .panicking [{ v := v, recovered := true }]))
/-- A runner of frames: the machine does so. -/
def RunOk (P : Program) (G : Nat) (run : Runner) : Prop := ∀ g H rd wr q, run g H rd wr q = .ok → ∃ v H' rd' wr', q v H' rd' wr' = .ok ∧ Pu H H' wr' ∧ (∀ x, On rd x → On rd' x) ∧ (∀ x, On wr x → On wr' x) ∧
  ∀ (R : Nat → Prop) (ρ : Env) (w : World) (f : Frame) (cs : List Frame), FR ρ g f → St G R ρ H w → (∀ x, On rd' x → R x) → (∀ x, On wr x → R x ∧ G ≤ x) → Fresh ρ H.next H'.next → G ≤ H.next → CsOk f cs →
    ∃ r w' ρ', Ends P f cs w r w' ∧ VR ρ' v r ∧ Goes G R ρ H w wr' ρ' H' w'
theorem Goes.congr {R : Nat → Prop} {ρ ρ' : Env} {H H' : Hp} {w w' : World} {a b : Nat} (hab : ∀ x, On a x ↔ On b x) (h : Goes G R ρ H w a ρ' H' w') : Goes G R ρ H w b ρ' H' w' :=
  ⟨h.st.congr (fun x hx => hx.imp_right (hab x).2) rfl, h.le, fun x k h1 h2 => let ⟨a1, a2⟩ := h.new x k h1 h2; ⟨a1, a2.imp_right fun ⟨y, o, ky, h5, h6⟩ => ⟨y, o, ky, (hab y).1 h5, h6⟩⟩, h.size, fun c hc hn => h.same c hc fun x o k hx => hn x o k ((hab x).1 hx), h.next, fun x o hx => h.old x o fun h' => hx ((hab x).1 h'), h.live, fun x hx => h.own x ((hab x).2 hx), h.rest⟩
/-- Steps of the machine -/
theorem stp {f f' : Frame} {cs cs' : List Frame} {w w' : World} (hm : f.mode = .run) (h : (stepG.exec P true true f cs none w).bare = .go { frame := f', callers := cs', status := .running, dying := none } w') : step P (lone f cs w) = .next (lone f' cs' w') :=
  step_lone_go (by simp only [stepG, hm]; exact h)
theorem st_skip {f : Frame} {cs : List Frame} {w : World} {ops : Array Oper} {i : Nat} {rest : List Nat} {kk : List Item} {o : Oper} (hm : f.mode = .run) (ht : f.todo = .inRegion ops (i :: rest) :: kk) (ho : ops[i]? = some o) (hw : Region.wanted o (yielded ops f.tmps) = false) : step P (lone f cs w) = .next (lone (f.finish undef) cs w) :=
  stp hm (by simp [stepG.exec, ht, ho, hw])
theorem st_oper {f : Frame} {cs : List Frame} {w : World} {ops : Array Oper} {i : Nat} {rest : List Nat} {kk : List Item} {o : Oper} (ht : f.todo = .inRegion ops (i :: rest) :: kk) (ho : ops[i]? = some o) (hw : Region.wanted o (yielded ops f.tmps) = true) (hd : f.roundOf = none ∨ ∀ c, o.op ≠ .defer c) :
    stepG.exec P true true f cs none w = stepG.apply P true f cs none (execOp f.eval o) w := by
  have h1 : stepG.exec P true true f cs none w = stepG.oper P true f cs none w := by simp [stepG.exec, ht, ho, hw]
  rw [h1]
  have h2 : f.oper? = some o := by simp [Frame.oper?, ht, ho]
  unfold stepG.oper
  rw [h2]
  simp only
  rcases hd with hd | hd
  · rw [hd]
  · cases hop : o.op with
    | defer c => exact (hd c hop).elim
    | _ => cases f.roundOf <;> rfl
theorem st_value {f : Frame} {cs : List Frame} {w w' : World} {s : Sem Next} {r : Value} (hm : f.mode = .run) (he : stepG.exec P true true f cs none w = stepG.apply P true f cs none s w) (h : s.run P w = .ok (.value r) w') : step P (lone f cs w) = .next (lone (f.finish r) cs w') :=
  stp hm (by rw [he]; simp [stepG.apply, h])
theorem st_skipN {f : Frame} {cs : List Frame} {w w' : World} {s : Sem Next} (hm : f.mode = .run) (he : stepG.exec P true true f cs none w = stepG.apply P true f cs none s w) (h : s.run P w = .ok .skip w') : step P (lone f cs w) = .next (lone (f.finish undef) cs w') :=
  stp hm (by rw [he]; simp [stepG.apply, h])
theorem st_enter {f : Frame} {cs : List Frame} {w w' : World} {s : Sem Next} {g : FuncId} {args : Array Value} (hm : f.mode = .run) (hk : ∀ d r s k, f.todo ≠ .call d true r s :: k) (he : stepG.exec P true true f cs none w = stepG.apply P true f cs none s w) (h : s.run P w = .ok (.enter g args) w') : step P (lone f cs w) = .next (lone (Frame.enter P g args .normal) (f :: cs) w') :=
  stp hm (by
    rw [he]
    simp only [stepG.apply, Sem.runT_eq, if_true, h, GStep.bare_after]
    congr 2)
theorem st_round {f : Frame} {cs : List Frame} {w w' : World} {s : Sem Next} {l : Nat} {g : FuncId} {tmps : Array Value} {a b : Code} (hm : f.mode = .run) (he : stepG.exec P true true f cs none w = stepG.apply P true f cs none s w) (h : s.run P w = .ok (.round l g tmps a b) w') : step P (lone f cs w) = .next (lone (Frame.round l g tmps a b .normal) (f :: cs) w') :=
  stp hm (by rw [he]; simp [stepG.apply, h])
theorem st_defer {f : Frame} {cs : List Frame} {w w' : World} {s : Sem Next} {d : Deferred} (hm : f.mode = .run) (he : stepG.exec P true true f cs none w = stepG.apply P true f cs none s w) (h : s.run P w = .ok (.defer d) w') : step P (lone f cs w) = .next (lone ({ f with defers := d :: f.defers }.finish undef) cs w') :=
  stp hm (by rw [he]; simp [stepG.apply, h])
theorem st_recover {f : Frame} {cs : List Frame} {w w' : World} {s : Sem Next} (hm : f.mode = .run) (hr : f.roundOf = none) (hn : tryRecover f cs = none) (he : stepG.exec P true true f cs none w = stepG.apply P true f cs none s w) (h : s.run P w = .ok .recover w') : step P (lone f cs w) = .next (lone (f.finish .nilIface) cs w') :=
  stp hm (by rw [he]; simp [stepG.apply, h, hr, hn])
theorem finish_eq {f : Frame} {ops : Array Oper} {i : Nat} {rest : List Nat} {kk : List Item} {o : Oper} (ht : f.todo = .inRegion ops (i :: rest) :: kk) (ho : ops[i]? = some o) (r : Value) : f.finish r = { f with tmps := (match o.dst with | some d => f.tmps.setIfInBounds d r | none => f.tmps), todo := .inRegion ops rest :: kk } := by
  unfold Frame.finish
  rw [ht]
  simp only [ho, Option.bind_some]
  cases o.dst <;> rfl
end Go.Proofs.YtdldpehmcfbbeaaGreatDoor.Ev
