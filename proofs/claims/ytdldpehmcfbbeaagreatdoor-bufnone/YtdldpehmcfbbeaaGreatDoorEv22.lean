/- A region that draws its order: whatever the order, the machine ends where the evaluator does. Condition: the machine lets all orders in (mixedOrders). -/
import Derived.Test.YtdldpehmcfbbeaaGreatDoorEv21
namespace Go.Proofs.YtdldpehmcfbbeaaGreatDoor.Ev
variable {P : Program} {G : Nat}
theorem looks_tmp {o : Oper} {gd : Option (Nat × Bool)} {t : Nat} (h : Operand.tmp t ∈ o.op.operands) : On (looks o gd) t := by
  have key : ∀ (l : List Operand) (m : Nat), (On m t ∨ Operand.tmp t ∈ l) → On (l.foldl (fun m x => match x with | .tmp t => Nat.lor m (bit t) | _ => m) m) t := by
    intro l
    induction l with
    | nil => intro m h; exact h.elim id fun h => by simp at h
    | cons x l ih =>
      intro m h
      simp only [List.foldl_cons]
      refine ih _ ?_
      rcases h with h | h
      · left
        cases x <;> first | exact on_lor.2 (.inl h) | exact h
      · rcases List.mem_cons.1 h with h | h
        · left; subst h; exact on_lor.2 (.inr (on_bit.2 rfl))
        · exact .inr h
  have h1 := key o.op.operands.toList 0 (.inr (Array.mem_toList_iff.2 h))
  unfold looks
  cases gd with
  | none => exact h1
  | some db => exact on_lor.2 (.inl h1)
theorem looks_gd {o : Oper} {d : Nat} {b : Bool} : On (looks o (some (d, b))) d := on_lor.2 (.inr (on_bit.2 rfl))
theorem dstM_on {o : Oper} {t : Nat} : On (dstM o) t ↔ o.dst = some t := by
  unfold dstM
  cases o.dst with
  | none => exact ⟨fun h => (on_zero h).elim, fun h => by cases h⟩
  | some d => rw [on_bit]; exact ⟨fun h => by rw [h], fun h => by injection h with h; exact h.symm⟩
section
variable {rnd : Option Nat} {n : Nat} {ds : List D} {l : List Pre} {Th : Nat → LL} {Hh : Nat → Hp} {vv : Nat → V} {rr ww : Nat → Nat} {ops : Array Oper} {bf lk dm : Nat → Nat}
theorem Trace.plan (tr : Trace P G rnd n ds 0 l Th Hh vv rr ww) : Plan l.length Hh ww := ⟨fun j hj => by
  have := tr.pu j _ (List.getElem?_eq_getElem hj)
  rwa [Nat.zero_add] at this⟩
theorem Trace.told (tr : Trace P G rnd n ds 0 l Th Hh vv rr ww) (rdy : Ready ops 0 l bf lk dm) : ∀ j, j < l.length → ∀ t u, ¬ On (dm j) t → (fun j t => (Th j).get t) (j + 1) t = some u → (fun j t => (Th j).get t) j t = some u := by
  intro j hj t u hn h
  have hp : l[j]? = some l[j] := List.getElem?_eq_getElem hj
  have h1 := tr.dst j _ hp
  have h2 := (rdy.at_ j _ hp).2.2
  rw [Nat.zero_add] at h1 h2
  rcases h1 with ⟨_, e⟩ | ⟨d, e1, _, e2⟩
  · simp only [e] at h; exact h
  · simp only [e2] at h
    rw [cons_get] at h
    rw [if_neg] at h
    · exact h
    · intro e
      apply hn
      rw [h2]
      exact dstM_on.2 (by rw [e1, e])
/-- One operation that is ready runs, and what is kept is kept. -/
theorem Inv.run (tr : Trace P G rnd n ds 0 l Th Hh vv rr ww) (rdy : Ready ops 0 l bf lk dm) (hmap : l.map (·.o) = ops.toList) {R : Nat → Prop} {ρ0 : Env} {w0 : World} {S : Nat → Prop} {ρ : Env} {w : World} {f : Frame} {cs : List Frame} {kk : List Item} {i : Nat} {rest : List Nat} (v : Inv G l.length n Hh Th ww dm R ρ0 w0 S ρ w f.tmps) (hf : Fresh ρ0 (Hh 0).next (Hh l.length).next) (hG : G ≤ (Hh 0).next)
    (hrR : ∀ j, j < l.length → ∀ x, On (rr j) x → R x) (hSl : ∀ j p, l[j]? = some p → S j → ∀ e ∈ p.o.after.toList, Region.binds .any e = true → S e.on) {p : Pre} (hp : l[i]? = some p) (hS : ¬ S i) (hre : ∀ e ∈ p.o.after.toList, Region.binds .any e = true → S e.on)
    (hm : f.mode = .run) (hk : f.kind = .normal ∨ f.kind = .deferred) (hr : RoundR ρ rnd f.roundOf) (hds : DRs ρ ds f.defers) (ht : f.todo = .inRegion ops (i :: rest) :: kk) (hcs : CsOk f cs) :
    ∃ w' ρ' tm2 ds2, Steps P (lone f cs w) (lone { f with tmps := tm2, defers := ds2, todo := .inRegion ops rest :: kk } cs w') ∧ ρ.Le ρ' ∧ DRs ρ' ds ds2 ∧ Inv G l.length n Hh Th ww dm R ρ0 w0 (fun m => S m ∨ m = i) ρ' w' tm2 := by
  have hi : i < l.length := by
    rcases Nat.lt_or_ge i l.length with h' | h'
    · exact h'
    · rw [List.getElem?_eq_none h'] at hp; cases hp
  have pl := tr.plan
  have hbef : ∀ j, tb p.bef j = true → S j := fun j hj => rdy.closed hSl i p hp hre j (by rw [tb_eq] at hj; exact hj)
  have hbehind : ∀ m q, l[m]? = some q → S m → tb q.bef i = true → False := fun m q hq hs hb => hS (rdy.closed hSl m q hq (hSl m q hq hs) i (by rw [tb_eq] at hb; exact hb))
  have hap : ∀ m, m < i → S m ∨ Clear (rr m) (ww m) (rr i) (ww i) := fun m hlt => by
    have := tr.apart i p hp m (by omega)
    rw [Nat.zero_add] at this
    exact this.imp_left (hbef m)
  have hap2 : ∀ m, i < m → m < l.length → S m → Clear (rr i) (ww i) (rr m) (ww m) := fun m h1 h2 hs => by
    have hq : l[m]? = some l[m] := List.getElem?_eq_getElem h2
    have := tr.apart m _ hq i (by omega)
    rw [Nat.zero_add] at this
    rcases this with h | h
    · exact (hbehind m _ hq hs h).elim
    · exact h
  have hapT : ∀ m, m < i → S m ∨ Clear (lk m) (dm m) (lk i) (dm i) := fun m hlt => by
    have := rdy.apart i p hp m (by omega)
    rw [Nat.zero_add] at this
    exact this.imp_left (hbef m)
  have hapT2 : ∀ m, i < m → m < l.length → S m → Clear (lk i) (dm i) (lk m) (dm m) := fun m h1 h2 hs => by
    have hq : l[m]? = some l[m] := List.getElem?_eq_getElem h2
    have := rdy.apart m _ hq i (by omega)
    rw [Nat.zero_add] at this
    rcases this with h | h
    · exact (hbehind m _ hq hs h).elim
    · exact h
  have hB : ∀ x, (On (rr i) x ∨ On (ww i) x) → ∀ m, m < l.length → S m → On (ww m) x → m < i := by
    intro x hx m h1 h2 h3
    rcases Nat.lt_trichotomy m i with h | h | h
    · exact h
    · exact (hS (h ▸ h2)).elim
    · have c := hap2 m h h1 h2
      rcases hx with hx | hx
      · exact (c.2.2 x hx h3).elim
      · exact (c.2.1 x hx h3).elim
  have hBT : ∀ t, (On (lk i) t ∨ On (dm i) t) → ∀ m, m < l.length → S m → On (dm m) t → m < i := by
    intro x hx m h1 h2 h3
    rcases Nat.lt_trichotomy m i with h | h | h
    · exact h
    · exact (hS (h ▸ h2)).elim
    · have c := hapT2 m h h1 h2
      rcases hx with hx | hx
      · exact (c.2.2 x hx h3).elim
      · exact (c.2.1 x hx h3).elim
  have hrd : ∀ x, On (rr i) x → Ri l.length Hh ww R S i x := fun x hx => ⟨.inl (hrR i hi x hx), fun o ho => Cont.read pl.old (by omega) (fun m h1 h2 => (hap m h1).elim id fun c => (c.1 x h2 hx).elim) (fun m h1 h2 h3 => hB x (.inl hx) m h1 h2 h3) ho⟩
  have hread : ∀ t, On (lk i) t → ∀ u, (Th i).get t = some u → ∃ r, f.tmps[t]? = some r ∧ VR ρ u r := fun t hx u hu => v.tmv t u (Cont.read (tr.told rdy) (by omega) (fun m h1 h2 => (hapT m h1).elim id fun c => (c.1 t h2 hx).elim) (fun m h1 h2 h3 => hBT t (.inl hx) m h1 h2 h3) hu)
  obtain ⟨e1, e2, e3⟩ := rdy.at_ i p hp
  rw [Nat.zero_add] at e1 e2 e3
  have hop := tr.op i p hp
  have hds' := tr.dst i p hp
  rw [Nat.zero_add] at hop hds'
  have ho : ops[i]? = some p.o := by rw [← Array.getElem?_toList, ← hmap, List.getElem?_map, hp]; rfl
  have st := v.st i
  have hev : EvR G ρ (Th i) p.o f.eval := fun x hx u hu => ev_ok st (fun t e u' hu' => hread t (by rw [e2]; exact looks_tmp (e ▸ hx)) u' hu') hu
  have hgd : GdR ρ (Th i) p.gd f.tmps := fun d b e u hu => hread d (by rw [e2, e]; exact looks_gd) u hu
  obtain ⟨w', ρ', r, ds2, s1, v1, d1, g1⟩ := hop (Ri l.length Hh ww R S i) ρ w f cs ops i rest kk ho (rdy.gd p (List.mem_of_getElem? hp)) hev hgd hm hk hr hds v.tsz ht st hrd (v.fresh pl hf hi hS) (Nat.le_trans hG (pl.next i (Nat.zero_le _) (by omega))) hcs
  refine ⟨w', ρ', _, ds2, s1, g1.le, d1, v.step pl hf hi hS (fun x hx m h1 h2 h3 => Nat.le_of_lt (hB x (.inr hx) m h1 h2 h3)) (fun t hx m h1 h2 h3 => Nat.le_of_lt (hBT t (.inr hx) m h1 h2 h3)) g1 ?_ ?_ ?_⟩
  · cases p.o.dst with
    | none => exact v.tsz
    | some d => simp [v.tsz]
  · intro t u htd hu
    rw [e3] at htd
    have hd := dstM_on.1 htd
    rcases hds' with ⟨h1, _⟩ | ⟨d, h1, h2, h3⟩
    · rw [h1] at hd; cases hd
    · rw [hd] at h1
      injection h1 with h1
      subst h1
      rw [h3, cons_get, if_pos rfl] at hu
      injection hu with hu
      subst hu
      rw [hd]
      exact ⟨r, by simp only; rw [Array.getElem?_setIfInBounds_self_of_lt (by rw [v.tsz]; exact h2)], v1⟩
  · intro t htd
    cases hd : p.o.dst with
    | none => rfl
    | some d =>
      simp only
      rw [Array.getElem?_setIfInBounds_ne]
      intro e
      exact htd (by rw [e3]; exact dstM_on.2 (by rw [hd, e]))
end
end Go.Proofs.YtdldpehmcfbbeaaGreatDoor.Ev
