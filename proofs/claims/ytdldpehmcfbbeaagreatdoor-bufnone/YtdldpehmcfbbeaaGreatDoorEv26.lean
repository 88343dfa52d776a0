/- A frame of the evaluator's that returns: its results, its deferred calls. No condition but the runner's. -/
import Derived.Test.YtdldpehmcfbbeaaGreatDoorEv25
namespace Go.Proofs.YtdldpehmcfbbeaaGreatDoor.Ev
variable {P : Program} {X : Ext} {G : Nat}
/-- One result of a function, as the machine looks it up. -/
def res1 (tmps : Array Value) : ResultVar → Sem Value
  | .tmp t => pure (tmps.getD t undef)
  | .cell a t => do loadVar t (← asAddr (tmps.getD a undef))
theorem results_ok {T : Tr V} {H : Hp} : ∀ (l : List ResultVar) (vs : List V) (m : Nat), resultsA P T H l = some (vs, m) → ∀ (R : Nat → Prop) (ρ : Env) (w : World) (tmps : Array Value) (n : Nat), TmR ρ T n tmps → St G R ρ H w → (∀ x, On m x → R x) → ∃ rs, (l.mapM (res1 tmps)).run P w = .ok rs w ∧ VRs ρ vs rs
  | [], vs, m, h => by
    injection h with h
    injection h with h1 h2
    subst h1 h2
    intro R ρ w tmps n _ _ _
    exact ⟨[], by simp, rfl⟩
  | .tmp t :: l, vs, m, h => by
    obtain ⟨v, h1, h2⟩ := opt_some (x := T.get t) h
    obtain ⟨⟨vs', m'⟩, h3, h4⟩ := opt_some (x := resultsA P T H l) h2
    injection h4 with h4
    injection h4 with h4 h5
    subst h4 h5
    intro R ρ w tmps n ht hs hR
    obtain ⟨rs, a1, a2⟩ := results_ok l vs' m' h3 R ρ w tmps n ht hs hR
    obtain ⟨r, b1, b2⟩ := ht.2 t v h1
    refine ⟨r :: rs, ?_, r, rs, rfl, b2, a2⟩
    simp [List.mapM_cons, res1, a1, Array.getD_eq_getD_getElem?, b1]
  | .cell a t :: l, vs, m, h => by
    obtain ⟨v, h1, h2⟩ := opt_some (x := T.get a) h
    cases v with
    | ptr i off =>
      obtain ⟨o, h3, h4⟩ := opt_some (x := H.get i) h2
      cases o with
      | row e sz n0 per tr gr =>
        obtain ⟨u, h5, h6⟩ := opt_some (x := loadT P t per tr n0 off) h4
        obtain ⟨⟨vs', m'⟩, h7, h8⟩ := opt_some (x := resultsA P T H l) h6
        injection h8 with h8
        injection h8 with h8 h9
        subst h8 h9
        intro R ρ w tmps n ht hs hR
        obtain ⟨rs, a1, a2⟩ := results_ok l vs' m' h7 R ρ w tmps n ht hs (fun x hx => hR x (on_lor.2 (.inl hx)))
        obtain ⟨r, b1, k, b2, b3⟩ := ht.2 a _ h1
        subst b3
        obtain ⟨k2, ob, c1, c2, c3⟩ := hs.sat i _ (hR i (on_lor.2 (.inr (on_bit.2 rfl)))) h3
        rw [b2] at c1
        injection c1 with c1
        subst c1
        obtain ⟨ru, d1, d2⟩ := loadT_ok (P := P) c2 c3 h5
        refine ⟨ru :: rs, ?_, ru, rs, rfl, d2, a2⟩
        simp [List.mapM_cons, Sem.run_bind, res1, a1, Array.getD_eq_getD_getElem?, b1, asAddr, d1]
      | _ => cases h4
    | _ => cases h2
theorem results_run {fn : Func} {tmps : Array Value} {w : World} {rs : List Value} (h : (fn.results.toList.mapM (res1 tmps)).run P w = .ok rs w) : (results fn tmps).run P w = .ok (if h : rs.toArray.size = 1 then rs.toArray[0] else .tuple rs.toArray) w := by
  have e : results fn tmps = (fn.results.mapM (res1 tmps) >>= fun vs => pure (if h : vs.size = 1 then vs[0] else .tuple vs)) := by
    unfold results
    congr 1
  rw [e, Array.mapM_eq_mapM_toList, map_eq_pure_bind]
  simp [h]
theorem one_ok {ρ : Env} {vs : List V} {rs : List Value} (h : VRs ρ vs rs) : VR ρ (one vs) (if h : rs.toArray.size = 1 then rs.toArray[0] else .tuple rs.toArray) := by
  have hl := h.length
  match vs, h with
  | [], h => have h : rs = [] := h; subst h; exact ⟨#[], rfl, rfl⟩
  | [v], ⟨r, rs', e, a, b⟩ =>
    have b : rs' = [] := b
    subst b e
    exact a
  | v :: u :: l, h =>
    simp only [List.length_cons] at hl
    rw [dif_neg (by simp; omega)]
    exact ⟨_, rfl, h⟩
section
variable {run : Runner} {fn : FuncId} {T : Tr V} {n : Nat} {k : List I} {ds : List D} {dfd : Bool} {rnd : Option Nat} {H : Hp} {rd wr : Nat} {q : K2}
theorem ret_ok (hR : RunOk P G run) (h : stepRet P G run fn T n ds dfd rnd H rd wr q = .ok) : FrOk P G ⟨fn, T, n, k, ds, true, dfd, rnd⟩ H rd wr q := by
  cases ds with
  | nil =>
    cases rnd with
    | some i => cases h
    | none =>
      obtain ⟨F, h1, h2⟩ := get_ok h
      obtain ⟨⟨vs, m⟩, h3, h4⟩ := get_ok h2
      simp only [nat_eq] at h4
      refine ⟨_, _, _, _, h4, Pu.refl _ _, fun x hx => on_lor.2 (.inl hx), fun x hx => hx, ?_⟩
      intro R ρ w f cs fr hs hR' hw' hf hG hcs
      obtain ⟨rs, a1, a2⟩ := results_ok _ _ _ h3 R ρ w f.tmps n fr.tm hs (fun x hx => hR' x (on_lor.2 (.inr hx)))
      have hgo := Goes.congr (fun x => ⟨fun h => (on_lor.1 h).elim id fun h => (on_zero h).elim, fun h => on_lor.2 (.inl h)⟩) (Goes.more (Goes.refl (w' := w) hs rfl ⟨rfl, rfl, rfl⟩) hw')
      have hfn : f.fn = fn := fr.fn
      exact ⟨_, w, ρ, ⟨fun _ => ⟨f, .refl _ _, fr.mode, fr.ds, rfl, rfl, F, by rw [hfn]; exact h1, results_run a1⟩, fun l hl => (by have := fr.rnd.1 rfl; rw [this] at hl; cases hl)⟩, one_ok a2, hgo⟩
  | cons d ds =>
    cases d with
    | mark i =>
      obtain ⟨hGi, h1⟩ := iff_no h
      obtain ⟨o, h2, h3⟩ := get_ok h1
      rw [hp_get] at h2
      cases o with
      | defd x =>
        cases x with
        | none => cases h3
        | some l =>
          simp only [nat_eq] at h3
          refine via hR h3 ((Pu.put h2).more fun z hz => on_lor.2 (.inr hz)) (fun x hx => on_lor.2 (.inl hx)) (fun x hx => on_lor.2 (.inl hx)) ?_
          intro R ρ w f cs fr hs hR' hw' hf hG hcs
          have hRi : R i := hR' i (on_lor.2 (.inr (on_bit.2 rfl)))
          obtain ⟨kb, ob, a1, a2, dl, rfl, a3⟩ := hs.sat i _ hRi h2
          obtain ⟨d, ds', e, ⟨k2, c1, c2⟩, e2⟩ := fr.ds
          rw [a1] at c1
          injection c1 with c1
          subst c1 c2
          have hrun : (Instr.takeDeferred kb.b).run P w = .ok dl { w with heap := w.heap.setIfInBounds kb.b (.deferred none) } := by
            simp [Instr.takeDeferred, getObj, setObj, Sem.run, a2, Sem.run_bind]
          have hm : f.mode = .returning := fr.mode
          have s1 : step P (lone f cs w) = .next (lone { f with defers := dl ++ ds' } cs { w with heap := w.heap.setIfInBounds kb.b (.deferred none) }) := step_lone_go (by simp [stepG, unwind, hm, e, Sem.runT_eq, hrun])
          exact ⟨_, ρ, _, .one s1, rfl, rfl, rfl, ⟨fr.fn, fr.tm, fun h => (by cases h), a3.append e2, fr.mode, fr.kind, fr.rnd⟩, Goes.more (goes_set hs hRi h2 a1 (Nat.le_of_ble_eq_true hGi) (o' := .defd none) (ob := .deferred none) rfl) hw'⟩
      | _ => cases h3
    | call g args cap =>
      obtain ⟨hok, h1⟩ := iff_no h
      obtain ⟨fr1, h2, h3⟩ := get_ok h1
      obtain ⟨v, H1, rd1, wr1, h7, hpu, hrd, hwr, hrun⟩ := hR fr1 H rd wr _ h3
      refine via hR h7 hpu hrd hwr ?_
      intro R ρ w f cs fr hs hR' hw' hf hG hcs
      obtain ⟨d, ds', e, ⟨ra, rc, c1, c2, c3⟩, e2⟩ := fr.ds
      subst c1
      have hm : f.mode = .returning := fr.mode
      have hi : (invoke (.fn (.func g) rc) ra).run P w = .ok (.enter g (ra ++ rc)) w := by
        simp only [invoke, okFn_ok hok]
      have s1 := step_defer (P := P) (cs := cs) (w := w) (by rw [hm]; exact fun h => (by cases h)) e rfl hi
      obtain ⟨hFR, hd1, hd2, hd3⟩ := enter_FR h2 (ra := ra ++ rc) (by rw [Array.toList_append]; exact c2.append c3)
      obtain ⟨r, w2, ρ2, b1, b2, b3⟩ := hrun R ρ w _ ({ f with defers := ds' } :: cs) hFR hs hR' hw' hf hG ⟨fun h => (by cases h), fun _ => ⟨_, _, rfl, .inl hm⟩⟩
      obtain ⟨f', c1, c2, c3, c4, c5, F, c6, c7⟩ := b1.1 rfl
      have s2 := step_going_returned (P := P) (c := { f with defers := ds' }) (cs := cs) c4 ⟨c2, c3, F, c6, c7⟩
      have hset : ({ f with defers := ds', mode := settle f.mode } : Frame) = { f with defers := ds' } := by rw [hm]; simp [settle, ← hm]
      simp only at s2
      rw [hset] at s2
      exact ⟨w2, ρ2, _, .head s1 (c1.trans (.one s2)), rfl, rfl, rfl, ⟨fr.fn, fr.tm.mono b3.le, fun h => (by cases h), e2.mono b3.le, fr.mode, fr.kind, fr.rnd.mono b3.le⟩, b3⟩
end
end Go.Proofs.YtdldpehmcfbbeaaGreatDoor.Ev
