/- A frame of the evaluator's goes one step on, and the machine's: the end of a body, loops over functions. No condition but the runner's. -/
import Derived.Test.YtdldpehmcfbbeaaGreatDoorEv24
namespace Go.Proofs.YtdldpehmcfbbeaaGreatDoor.Ev
variable {P : Program} {X : Ext} {G : Nat}
theorem goes_set {R : Nat → Prop} {ρ : Env} {H : Hp} {w : World} {x : Nat} {o o' : O} {k : Blk} {ob : Obj} (hs : St G R ρ H w) (hx : R x) (hg : H.tr.get x = some o) (hk : ρ x = some k) (hG : G ≤ x) (ho : SatO ρ k o' ob) : Goes G R ρ H w (bit x) ρ (H.put x o') { w with heap := w.heap.setIfInBounds k.b ob } := Goes.set hs hx hg hk hG ho rfl ⟨rfl, rfl, rfl⟩
section
variable {run : Runner} {fn : FuncId} {T : Tr V} {n : Nat} {ds : List D} {dfd : Bool} {rnd : Option Nat} {H : Hp} {rd wr : Nat} {q : K2}
/-- What the machine does where a body ends. -/
def Leaves' (P : Program) (f : Frame) (cs : List Frame) (w : World) (jump : Option Code) : Prop :=
  (f.roundOf = none → (jump = none ∨ jump = some .ret) → (stepG.exec P true true f cs none w).bare = .go { frame := { f with mode := .returning }, callers := cs, status := .running, dying := none } w) ∧
  ∀ l v w', f.roundOf = some l → (Instr.endRound l jump).run P w = .ok v w' → (stepG.exec P true true f cs none w).bare = (doReturn P true f cs none v w').bare
theorem endRound_run {k : Nat} {w : World} {l : Loop} (h : w.heap[k]? = some (.loop l)) (jump : Option Code) : (Instr.endRound k jump).run P w = .ok (.bool jump.isNone) { w with heap := w.heap.setIfInBounds k (.loop { l with state := if jump.isNone then .ready else .done, pending := jump }) } := by
  simp [Instr.endRound, Instr.getLoop, getObj, setObj, Sem.run, h, Sem.run_bind]
theorem leave_ok (hR : RunOk P G run) {k : List I} {jump : Option Code} (h : leaveA G fn T n ds dfd rnd H rd wr jump run q = .ok) (hex : ∀ ρ f cs w, FR ρ ⟨fn, T, n, k, ds, false, dfd, rnd⟩ f → Leaves' P f cs w jump) : FrOk P G ⟨fn, T, n, k, ds, false, dfd, rnd⟩ H rd wr q := by
  cases rnd with
  | none =>
    have hj : (jump = none ∨ jump = some .ret) ∧ run ⟨fn, T, n, [], ds, true, dfd, none⟩ H rd wr q = .ok := by
      simp only [leaveA] at h
      split at h
      · exact ⟨.inl rfl, h⟩
      · exact ⟨.inr rfl, h⟩
      · cases h
    refine plain hR hj.2 fun R ρ w f cs fr hs => ?_
    exact ⟨{ f with mode := .returning }, stp fr.mode ((hex ρ f cs w fr).1 (fr.rnd.1 rfl) hj.1), rfl, rfl, rfl, ⟨fr.fn, fr.tm, fun h => (by cases h), fr.ds, rfl, fr.kind, fr.rnd⟩⟩
  | some l =>
    obtain ⟨hc, h1⟩ := iff_no h
    simp only [Bool.and_eq_true, Bool.not_eq_true'] at hc
    obtain ⟨hd, hGl⟩ := hc
    subst hd
    obtain ⟨o, h2, h3⟩ := get_ok h1
    cases o with
    | loop st pend fn' T' nt ps a b df =>
      simp only [nat_eq] at h3
      rw [hp_get] at h2
      have key : q (.bool jump.isNone) (H.put l (.loop (if jump.isNone then .ready else .done) jump fn' T' nt ps a b df)) (Nat.lor rd (bit l)) (Nat.lor wr (bit l)) = .ok := by
        cases jump with
        | none => exact h3
        | some c => exact h3
      refine ⟨_, _, _, _, key, (Pu.put h2).more fun z hz => on_lor.2 (.inr hz), fun x hx => on_lor.2 (.inl hx), fun x hx => on_lor.2 (.inl hx), ?_⟩
      intro R ρ w f cs fr hs hR' hw' hf hG hcs
      have hRl : R l := hR' l (on_lor.2 (.inr (on_bit.2 rfl)))
      obtain ⟨kb, ob, a1, a2, lo, kd, rfl, b1, b2, b3, b4, b5, b6, b7, b8, b9⟩ := hs.sat l _ hRl h2
      obtain ⟨k2, c1, c2⟩ := fr.rnd.2 l rfl
      rw [a1] at c1
      injection c1 with c1
      subst c1
      have hrun := endRound_run (P := P) a2 jump
      refine ⟨_, _, ρ, ⟨fun h => (by rw [c2] at h; cases h), fun l' _ c cs' hcs' => ?_⟩, rfl, Goes.more (goes_set hs hRl h2 a1 (Nat.le_of_ble_eq_true hGl) (o' := .loop (if jump.isNone then .ready else .done) jump fn' T' nt ps a b df) (ob := .loop { lo with state := if jump.isNone then .ready else .done, pending := jump }) ⟨_, kd, rfl, rfl, rfl, b3, b4, b5, b6, b7, b8, b9⟩) hw'⟩
      subst hcs'
      refine .one (stp fr.mode ?_)
      rw [(hex ρ f _ w fr).2 _ _ _ c2 hrun]
      have hk : f.kind = .normal := fr.kind
      simp [doReturn, hk]
    | _ => cases h3
theorem end_ok (hR : RunOk P G run) {i : Nat} {k : List I} (h : stepEnd G run fn T n ds dfd rnd i k H rd wr q = .ok) : FrOk P G ⟨fn, T, n, .endRange i :: k, ds, false, dfd, rnd⟩ H rd wr q := by
  obtain ⟨hGi, h1⟩ := iff_no h
  obtain ⟨o, h2, h3⟩ := get_ok h1
  cases o with
  | loop st pend fn' T' nt ps a b df =>
    rw [hp_get] at h2
    simp only at h3
    have hb : st ≠ .busy := by
      intro e
      subst e
      cases h3
    have key : run ⟨fn, T, n, (pend.map I.code).toList ++ k, ds, false, dfd, rnd⟩ (H.put i (.loop .exhausted pend fn' T' nt ps a b df)) (Nat.lor rd (bit i)) (Nat.lor wr (bit i)) q = .ok := by
      cases st with
      | busy => exact (hb rfl).elim
      | _ =>
        simp only [nat_eq] at h3
        cases pend <;> exact h3
    refine via hR key ((Pu.put h2).more fun z hz => on_lor.2 (.inr hz)) (fun x hx => on_lor.2 (.inl hx)) (fun x hx => on_lor.2 (.inl hx)) ?_
    intro R ρ w f cs fr hs hR' hw' hf hG hcs
    have hRi : R i := hR' i (on_lor.2 (.inr (on_bit.2 rfl)))
    obtain ⟨kb, ob, a1, a2, lo, kd, rfl, b1, b2, b3, b4, b5, b6, b7, b8, b9⟩ := hs.sat i _ hRi h2
    obtain ⟨y, k', e, ⟨k2, c1, c2⟩, e2⟩ := fr.todo rfl
    rw [a1] at c1
    injection c1 with c1
    subst c1 c2
    have hrun : (Instr.endLoop kb.b).run P w = .ok pend { w with heap := w.heap.setIfInBounds kb.b (.loop { lo with state := .exhausted }) } := by
      have hbz : ¬ lo.state = .busy := by rw [b1]; exact hb
      simp [Instr.endLoop, Instr.getLoop, getObj, setObj, Sem.run, a2, Sem.run_bind, hbz, b2]
    refine ⟨_, ρ, { f with todo := (pend.map Item.code).toList ++ k' }, .one (stp fr.mode (by simp [stepG.exec, e, Sem.runT_eq, hrun])), rfl, rfl, rfl, ?_, Goes.more (goes_set hs hRi h2 a1 (Nat.le_of_ble_eq_true hGi) (o' := .loop .exhausted pend fn' T' nt ps a b df) (ob := .loop { lo with state := .exhausted }) ⟨_, kd, rfl, rfl, b2, b3, b4, b5, b6, b7, b8, b9⟩) hw'⟩
    refine fr.to ?_
    cases pend with
    | none => exact e2
    | some c => exact ⟨_, _, rfl, rfl, e2⟩
  | _ => cases h3
theorem begin_ok (hR : RunOk P G run) {k : List I} (h : stepBegin G run fn T n ds dfd rnd k H rd wr q = .ok) : FrOk P G ⟨fn, T, n, .beginRound :: k, ds, false, dfd, rnd⟩ H rd wr q := by
  obtain ⟨i, hr, h0⟩ := get_ok h
  obtain ⟨hGi, h1⟩ := iff_no h0
  obtain ⟨o, h2, h3⟩ := get_ok h1
  cases o with
  | loop st pend fn' T' nt ps a b df =>
    rw [hp_get] at h2
    cases st with
    | ready =>
      simp only [nat_eq] at h3
      refine via hR h3 ((Pu.put h2).more fun z hz => on_lor.2 (.inr hz)) (fun x hx => on_lor.2 (.inl hx)) (fun x hx => on_lor.2 (.inl hx)) ?_
      intro R ρ w f cs fr hs hR' hw' hf hG hcs
      have hRi : R i := hR' i (on_lor.2 (.inr (on_bit.2 rfl)))
      obtain ⟨kb, ob, a1, a2, lo, kd, rfl, b1, b2, b3, b4, b5, b6, b7, b8, b9⟩ := hs.sat i _ hRi h2
      obtain ⟨k2, c1, c2⟩ := fr.rnd.2 i hr
      rw [a1] at c1
      injection c1 with c1
      subst c1
      obtain ⟨y, k', e, c3, e2⟩ := fr.todo rfl
      cases (show y = .beginRound from c3)
      have hx : stepG.exec P true true f cs none w = stepG.apply P true f cs none (do f.roundOf.elim (stuck "beginRound: no round") Instr.beginRound; pure .skip) w := by simp [stepG.exec, e]
      have hrun : (do f.roundOf.elim (stuck "beginRound: no round") Instr.beginRound; pure .skip : Sem Next).run P w = .ok .skip { w with heap := w.heap.setIfInBounds kb.b (.loop { lo with state := .busy }) } := by
        simp [c2, Instr.beginRound, Instr.getLoop, getObj, setObj, Sem.run, a2, Sem.run_bind, b1]
      have s1 := st_skipN fr.mode hx hrun
      have hfin : f.finish undef = { f with todo := k' } := by simp [Frame.finish, e]
      rw [hfin] at s1
      exact ⟨_, ρ, _, .one s1, rfl, rfl, rfl, fr.to e2, Goes.more (goes_set hs hRi h2 a1 (Nat.le_of_ble_eq_true hGi) (o' := .loop .busy pend fn' T' nt ps a b df) (ob := .loop { lo with state := .busy }) ⟨_, kd, rfl, rfl, b2, b3, b4, b5, b6, b7, b8, b9⟩) hw'⟩
    | _ => cases h3
  | _ => cases h3
end
end Go.Proofs.YtdldpehmcfbbeaaGreatDoor.Ev
