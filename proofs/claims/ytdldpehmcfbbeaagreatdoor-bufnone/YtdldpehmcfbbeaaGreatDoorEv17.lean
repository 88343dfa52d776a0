/- A region in its order: the evaluator's and the machine's. Condition: what is said of functions without a Go body (X). -/
import Derived.Test.YtdldpehmcfbbeaaGreatDoorEv16
namespace Go.Proofs.YtdldpehmcfbbeaaGreatDoor.Ev
variable {P : Program} {X : Ext} {G : Nat}
def LmR (ρ : Env) (T : LL) (n : Nat) (tmps : Array Value) : Prop := tmps.size = n ∧ ∀ i v, T.get i = some v → ∃ r, tmps[i]? = some r ∧ VR ρ v r
theorem LmR.base {ρ : Env} {T : Tr V} {n : Nat} {tmps : Array Value} (h : TmR ρ T n tmps) : LmR ρ (.base T) n tmps := h
theorem LmR.mono {ρ ρ' : Env} (h : ρ.Le ρ') {T : LL} {n : Nat} {tmps : Array Value} (x : LmR ρ T n tmps) : LmR ρ' T n tmps :=
  ⟨x.1, fun i v hi => let ⟨r, a, b⟩ := x.2 i v hi; ⟨r, a, VR.mono h v r b⟩⟩
theorem cons_get (k : Nat) (v : V) (l : LL) (i : Nat) : (LL.cons k v l).get i = if k = i then some v else l.get i := by
  show iff (Nat.beq k i) (some v) (l.get i) = _
  rw [iff_eq]
  by_cases h : k = i
  · rw [if_pos h, if_pos (by rw [h]; exact Nat.beq_refl i)]
  · rw [if_neg h, if_neg (by intro e; exact h (Nat.eq_of_beq_eq_true e))]
theorem LmR.put {ρ : Env} {T : LL} {n d : Nat} {tmps : Array Value} {v : V} {r : Value} (h : LmR ρ T n tmps) (hd : d < n) (hv : VR ρ v r) : LmR ρ (.cons d v T) n (tmps.setIfInBounds d r) := by
  refine ⟨by simp [h.1], fun i u hi => ?_⟩
  rw [cons_get] at hi
  split at hi
  · rename_i e
    subst e
    injection hi with hi
    subst hi
    exact ⟨r, by rw [Array.getElem?_setIfInBounds_self_of_lt (by rw [h.1]; exact hd)], hv⟩
  · rename_i e
    obtain ⟨s, a1, a2⟩ := h.2 i u hi
    exact ⟨s, by rw [Array.getElem?_setIfInBounds_ne e]; exact a1, a2⟩
theorem flush_get (m : Nat) : ∀ (l : LL) (i : Nat) (v : V), (l.flush m).get i = some v → l.get i = some v
  | .base t, i, v, h => h
  | .cons k u l, i, v, h => by
    have h' : (iff (tb m k) ((l.flush m).put k u) (Option.rec (motive := fun _ => Tr V) (l.flush m) (fun _ => (l.flush m).cut k) ((l.flush m).get k))).get i = some v := h
    rw [cons_get]
    rw [iff_eq] at h'
    split at h'
    · rcases get_put h' with ⟨e, e2⟩ | ⟨hne, h2⟩
      · rw [if_pos e.symm, e2]
      · rw [if_neg (Ne.symm hne)]; exact flush_get m l i v h2
    · cases hk : (l.flush m).get k with
      | none =>
        rw [hk] at h'
        have h2 : (l.flush m).get i = some v := h'
        have hne : k ≠ i := by intro e; rw [e, h2] at hk; cases hk
        rw [if_neg hne]
        exact flush_get m l i v h2
      | some u' =>
        rw [hk] at h'
        obtain ⟨hne, h2⟩ := get_cut h'
        rw [if_neg (Ne.symm hne)]
        exact flush_get m l i v h2
theorem LmR.flush {ρ : Env} {T : LL} {n : Nat} {tmps : Array Value} (h : LmR ρ T n tmps) (m : Nat) : TmR ρ (T.flush m) n tmps := ⟨h.1, fun i v hi => h.2 i v (flush_get m T i v hi)⟩
theorem ev_ok {ρ : Env} {T : LL} {R : Nat → Prop} {H : Hp} {w : World} {f : Frame} (hs : St G R ρ H w) {x : Operand} (h : ∀ t, x = .tmp t → ∀ v, T.get t = some v → ∃ r, f.tmps[t]? = some r ∧ VR ρ v r) {v : V} (hx : ev G T x = some v) : VR ρ v (f.eval x) := by
  cases x with
  | tmp t =>
    obtain ⟨r, a1, a2⟩ := h t rfl v hx
    have e : f.eval (.tmp t) = r := by simp [Frame.eval, Array.getD_eq_getD_getElem?, a1]
    rw [e]; exact a2
  | const c => exact ofV_ok 6 c v hx
  | global g =>
    have h' : iff (Nat.ble (Nat.succ g) G) (some (V.ptr g 0)) none = some v := hx
    rw [iff_eq] at h'
    split at h'
    · rename_i hg
      injection h' with h'
      subst h'
      obtain ⟨K, hk⟩ := hs.glob g (Nat.le_of_ble_eq_true hg)
      exact ⟨_, hk, rfl⟩
    · cases h'
  | func f =>
    injection hx with hx
    subst hx
    exact ⟨#[], #[], rfl, rfl, rfl⟩
theorem LmR.ev {ρ : Env} {T : LL} {n : Nat} {R : Nat → Prop} {H : Hp} {w : World} {f : Frame} (hl : LmR ρ T n f.tmps) (hs : St G R ρ H w) (o : Oper) : EvR G ρ T o f.eval := fun _ _ _ hv => ev_ok hs (fun t _ u hu => hl.2 t u hu) hv
/-- The operations that are left of a region. -/
def Left (ops : Array Oper) (i : Nat) (l : List Pre) : Prop := ∀ j p, l[j]? = some p → ops[i + j]? = some p.o ∧ guardOf ops p.o = some p.gd
theorem Left.tail {ops : Array Oper} {i : Nat} {p : Pre} {l : List Pre} (h : Left ops i (p :: l)) : Left ops (i + 1) l := fun j q hq => by
  have := h (j + 1) q (by simpa using hq)
  rwa [show i + (j + 1) = i + 1 + j by omega] at this
theorem prepS_left {ops : Array Oper} : ∀ (os : List Oper) (l : List Pre), prepS ops os = some l → l.map (·.o) = os ∧ ∀ p ∈ l, guardOf ops p.o = some p.gd
  | [], l, h => by simp only [prepS, Option.some.injEq] at h; subst h; simp
  | o :: os, l, h => by
    simp only [prepS] at h
    cases h1 : guardOf ops o with
    | none => rw [h1] at h; cases h
    | some g =>
      cases h2 : prepS ops os with
      | none => rw [h1, h2] at h; cases h
      | some r =>
        rw [h1, h2] at h
        simp only [Option.some.injEq] at h
        subst h
        obtain ⟨a1, a2⟩ := prepS_left os r h2
        refine ⟨by simp [a1], fun p hp => ?_⟩
        rcases List.mem_cons.1 hp with rfl | hp
        · exact h1
        · exact a2 p hp
theorem left_of {ops : Array Oper} {l : List Pre} (h1 : l.map (·.o) = ops.toList) (h2 : ∀ p ∈ l, guardOf ops p.o = some p.gd) : Left ops 0 l := fun j p hp => by
  refine ⟨?_, h2 p (List.mem_of_getElem? hp)⟩
  rw [Nat.zero_add, ← Array.getElem?_toList, ← h1, List.getElem?_map, hp]
  rfl
theorem inTurn_ok (hX : XOk P G X) {run : Runner} (hR : RunOk P G run) {rnd : Option Nat} {n : Nat} {k : K3} : ∀ (l : List Pre) (T : LL) (ds : List D) (H : Hp) (rd wr : Nat), inTurn P X G run rnd n k l T ds H rd wr = .ok →
    ∃ T' ds' H' rd' wr', k T' ds' H' rd' wr' = .ok ∧ Pu H H' wr' ∧ (∀ x, On rd x → On rd' x) ∧ (∀ x, On wr x → On wr' x) ∧
      ∀ (R : Nat → Prop) (ρ : Env) (w : World) (f : Frame) (cs : List Frame) (ops : Array Oper) (i : Nat) (kk : List Item), Left ops i l → f.mode = .run → (f.kind = .normal ∨ f.kind = .deferred) → RoundR ρ rnd f.roundOf → DRs ρ ds f.defers → LmR ρ T n f.tmps → f.todo = .inRegion ops (List.range' i l.length) :: kk →
        St G R ρ H w → (∀ x, On rd' x → R x) → (∀ x, On wr x → R x ∧ G ≤ x) → Fresh ρ H.next H'.next → G ≤ H.next → CsOk f cs →
        ∃ w' ρ' tm2 ds2, Steps P (lone f cs w) (lone { f with tmps := tm2, defers := ds2, todo := kk } cs w') ∧ LmR ρ' T' n tm2 ∧ DRs ρ' ds' ds2 ∧ Goes G R ρ H w wr' ρ' H' w'
  | [], T, ds, H, rd, wr, h => by
    refine ⟨T, ds, H, rd, wr, h, Pu.refl _ _, fun _ h => h, fun _ h => h, ?_⟩
    intro R ρ w f cs ops i kk _ hm _ _ hds hl ht hs _ hwr _ _ _
    refine ⟨w, ρ, f.tmps, f.defers, .one (stp hm (by simp [stepG.exec, ht])), hl, hds, ?_⟩
    have := Goes.more (Goes.refl (w' := w) hs rfl ⟨rfl, rfl, rfl⟩) hwr
    exact Goes.congr (fun x => ⟨fun h => (on_lor.1 h).elim id fun h => (on_zero h).elim, fun h => on_lor.2 (.inl h)⟩) this
  | p :: l, T, ds, H, rd, wr, h => by
    cases p with
    | mk o gd b =>
      obtain ⟨T1, ds1, H1, r, wm, v, h1, hp1, hT, _, hop⟩ := oneOp_ok hX hR (dr := false) h
      rw [nat_eq, nat_eq] at h1
      obtain ⟨T', ds', H', rd', wr', h2, hp2, hrd, hwr, hrest⟩ := inTurn_ok hX hR l T1 ds1 H1 (Nat.lor rd r) (Nat.lor wr wm) h1
      have hn2 := hp2.next
      refine ⟨T', ds', H', rd', wr', h2, hp1.trans hp2 (fun x hx => hwr x (on_lor.2 (.inr hx))), fun x hx => hrd x (on_lor.2 (.inl hx)), fun x hx => hwr x (on_lor.2 (.inl hx)), ?_⟩
      intro R ρ w f cs ops i kk hleft hm hk hr hds hl ht hs hR' hw' hf hG hcs
      obtain ⟨ho, hg⟩ := hleft 0 _ rfl
      rw [Nat.add_zero] at ho
      rw [List.length_cons, List.range'_succ] at ht
      have hf1 : Fresh ρ H.next H1.next := fun x h1 h2 => hf x h1 (Nat.lt_of_lt_of_le h2 hn2)
      obtain ⟨w1, ρ1, rv, dsm, s1, v1, d1, g1⟩ := hop R ρ w f cs ops i _ kk ho hg (hl.ev hs o) (fun d b e u hu => hl.2 d u hu) hm hk hr hds hl.1 ht hs (fun x hx => hR' x (hrd x (on_lor.2 (.inr hx)))) hf1 hG hcs
      have hl1 : LmR ρ1 T1 n (match o.dst with | some d => f.tmps.setIfInBounds d rv | none => f.tmps) := by
        rcases hT with ⟨e1, e2⟩ | ⟨d, e1, e2, e3⟩
        · rw [e1, e2]
          exact hl.mono g1.le
        · rw [e1, e3]
          exact (hl.mono g1.le).put e2 v1
      obtain ⟨w2, ρ2, tm2, ds2, s2, l2, d2, g2⟩ := hrest _ ρ1 w1 { f with tmps := (match o.dst with | some d => f.tmps.setIfInBounds d rv | none => f.tmps), defers := dsm, todo := .inRegion ops (List.range' (i + 1) l.length) :: kk } cs ops (i + 1) kk hleft.tail hm hk (hr.mono g1.le) d1 hl1 rfl g1.st (fun x hx => .inl (hR' x hx)) (fun x hx => by
        rcases on_lor.1 hx with hx | hx
        · exact ⟨.inl (hw' x hx).1, (hw' x hx).2⟩
        · exact ⟨.inr hx, (g1.own x hx).2⟩) (fresh_on g1 hf) (Nat.le_trans hG g1.next) hcs
      exact ⟨w2, ρ2, tm2, ds2, s1.trans s2, l2, d2, Goes.congr (fun x => ⟨fun h => (on_lor.1 h).elim (fun h => hwr x (on_lor.2 (.inr h))) id, fun h => on_lor.2 (.inr h)⟩) (Goes.trans hf1 g1 g2)⟩
end Go.Proofs.YtdldpehmcfbbeaaGreatDoor.Ev
