/- A region that draws its order: all orders. Conditions: what is said of functions without a Go body (X), and that the machine lets all orders in (mixedOrders). -/
import Derived.Test.YtdldpehmcfbbeaaGreatDoorEv22
import Derived.Orders
namespace Go.Proofs.YtdldpehmcfbbeaaGreatDoor.Ev
variable {P : Program} {X : Ext} {G : Nat}
/-- How many are not listed yet. -/
def unl (a : Array Bool) : Nat → Nat
  | 0 => 0
  | N + 1 => unl a N + if a.getD N false = true then 0 else 1
theorem unl_le (a : Array Bool) : ∀ N, unl a N ≤ N
  | 0 => Nat.le_refl _
  | N + 1 => by
    have := unl_le a N
    unfold unl
    split <;> omega
theorem unl_all {a : Array Bool} : ∀ (N : Nat), unl a N ≤ 0 → ∀ j, j < N → a.getD j false = true
  | 0, _, j, h => by omega
  | N + 1, hu, j, h => by
    unfold unl at hu
    split at hu
    · rename_i hN
      rcases Nat.lt_or_ge j N with h' | h'
      · exact unl_all N (by omega) j h'
      · have : j = N := by omega
        rw [this]; exact hN
    · omega
theorem set_on {a : Array Bool} {i : Nat} (hi : i < a.size) (j : Nat) : ((a.setIfInBounds i true).getD j false = true) = (a.getD j false = true ∨ j = i) := by
  apply propext
  by_cases h : i = j
  · subst h
    simp [hi]
  · rw [getD_set_ne false h]
    exact ⟨fun h => .inl h, fun h' => h'.elim id fun e => (h e.symm).elim⟩
theorem unl_same {a : Array Bool} {i : Nat} : ∀ (N : Nat), N ≤ i → unl (a.setIfInBounds i true) N = unl a N
  | 0, _ => rfl
  | N + 1, h => by
    unfold unl
    rw [unl_same N (by omega), getD_set_ne false (by omega)]
theorem unl_set {a : Array Bool} {i : Nat} (hi : i < a.size) (hn : ¬ a.getD i false = true) : ∀ (N : Nat), i < N → unl (a.setIfInBounds i true) N + 1 = unl a N
  | 0, h => by omega
  | N + 1, h => by
    unfold unl
    by_cases e : i = N
    · subst e
      rw [unl_same i (Nat.le_refl _), if_neg hn, if_pos (by rw [set_on hi]; exact .inr rfl)]
    · rw [← unl_set hi hn N (by omega), getD_set_ne false e]
      omega
section
variable {rnd : Option Nat} {n : Nat} {ds : List D} {l : List Pre} {Th : Nat → LL} {Hh : Nat → Hp} {vv : Nat → V} {rr ww : Nat → Nat} {ops : Array Oper} {bf lk dm : Nat → Nat}
theorem sched_ok (tr : Trace P G rnd n ds 0 l Th Hh vv rr ww) (rdy : Ready ops 0 l bf lk dm) (hmap : l.map (·.o) = ops.toList) {R : Nat → Prop} {ρ0 : Env} {w0 : World} (hf : Fresh ρ0 (Hh 0).next (Hh l.length).next) (hG : G ≤ (Hh 0).next) (hrR : ∀ j, j < l.length → ∀ x, On (rr j) x → R x) {cs : List Frame} {kk : List Item} :
    ∀ (fuel t : Nat) (listed : Array Bool) (ρ : Env) (w : World) (f : Frame), listed.size = ops.size → unl listed ops.size ≤ fuel → Inv G l.length n Hh Th ww dm R ρ0 w0 (fun j => listed.getD j false = true) ρ w f.tmps →
      (∀ j p, l[j]? = some p → listed.getD j false = true → ∀ e ∈ p.o.after.toList, Region.binds .any e = true → listed.getD e.on false = true) →
      f.mode = .run → (f.kind = .normal ∨ f.kind = .deferred) → RoundR ρ rnd f.roundOf → DRs ρ ds f.defers → f.todo = .inRegion ops (Region.linearise.go .any ops fuel t listed []) :: kk → CsOk f cs →
      ∃ w' ρ' tm2 ds2 S, Steps P (lone f cs w) (lone { f with tmps := tm2, defers := ds2, todo := kk } cs w') ∧ DRs ρ' ds ds2 ∧ (∀ m, m < l.length → S m) ∧ Inv G l.length n Hh Th ww dm R ρ0 w0 S ρ' w' tm2 := by
  have hlen : l.length = ops.size := by
    have := congrArg List.length hmap
    simpa using this
  intro fuel
  induction fuel with
  | zero =>
    intro t listed ρ w f _ hu v _ hm _ _ hds ht _
    have ht' : f.todo = .inRegion ops [] :: kk := ht
    exact ⟨w, ρ, f.tmps, f.defers, _, .one (stp hm (by simp [stepG.exec, ht'])), hds, fun m h => unl_all ops.size hu m (by omega), v⟩
  | succ fuel ih =>
    intro t listed ρ w f hsz hu v hSl hm hk hr hds ht hcs
    have hgo : Region.linearise.go .any ops (fuel + 1) t listed [] = (match (Region.ready .any ops listed)[t % (Region.ready .any ops listed).length]? with
      | some i => Region.linearise.go .any ops fuel (t / (Region.ready .any ops listed).length) (listed.setIfInBounds i true) [i]
      | none => []) := rfl
    rw [hgo] at ht
    cases hi : (Region.ready .any ops listed)[t % (Region.ready .any ops listed).length]? with
    | none =>
      have hnil : Region.ready .any ops listed = [] := by
        cases hr : Region.ready .any ops listed with
        | nil => rfl
        | cons x xs =>
          rw [hr] at hi
          rw [List.getElem?_eq_getElem (Nat.mod_lt _ (by simp))] at hi
          cases hi
      rw [hi] at ht
      have ht' : f.todo = .inRegion ops [] :: kk := ht
      refine ⟨w, ρ, f.tmps, f.defers, _, .one (stp hm (by simp [stepG.exec, ht'])), hds, ?_, v⟩
      intro m
      induction m using Nat.strongRecOn with
      | _ m ihm =>
        intro hml
        cases hl : listed.getD m false with
        | true => rfl
        | false =>
          exfalso
          have hp : l[m]? = some l[m] := List.getElem?_eq_getElem hml
          have ho : ops[m]? = some l[m].o := by rw [← Array.getElem?_toList, ← hmap, List.getElem?_map, hp]; rfl
          have hmem : m ∈ Region.ready .any ops listed := by
            rw [mem_ready]
            refine ⟨?_, _, ho, fun e he hb => ?_⟩
            · have hms : m < listed.size := by omega
              simpa [Array.getD, hms] using hl
            · have := rdy.edge m _ hp e (Array.mem_toList_iff.2 he) hb
              exact ihm e.on (by omega) (by omega)
          rw [hnil] at hmem
          cases hmem
    | some i =>
      rw [hi] at ht
      simp only at ht
      rw [linearise_go_acc, List.reverse_singleton, List.singleton_append] at ht
      obtain ⟨hn, o, ho, hre⟩ := mem_ready.1 (List.mem_of_getElem? hi)
      have his : i < ops.size := (Array.getElem?_eq_some_iff.1 ho).1
      have hp : l[i]? = some l[i] := List.getElem?_eq_getElem (by omega)
      have ho' : ops[i]? = some l[i].o := by rw [← Array.getElem?_toList, ← hmap, List.getElem?_map, hp]; rfl
      rw [ho] at ho'
      injection ho' with ho'
      subst ho'
      have hil : i < listed.size := by omega
      have hn' : ¬ listed.getD i false = true := by
        intro e
        simp [Array.getD, hil] at hn e
        rw [hn] at e
        cases e
      have hre' : ∀ e ∈ l[i].o.after.toList, Region.binds .any e = true → listed.getD e.on false = true := fun e he hb => hre e (Array.mem_toList_iff.1 he) hb
      obtain ⟨w1, ρ1, tm1, ds1, s1, le1, d1, v1⟩ := v.run tr rdy hmap hf hG hrR hSl hp hn' hre' hm hk hr hds ht hcs
      have eS : (fun m => listed.getD m false = true ∨ m = i) = fun j => (listed.setIfInBounds i true).getD j false = true := funext fun j => (set_on hil j).symm
      rw [eS] at v1
      obtain ⟨w2, ρ2, tm2, ds2, S, s2, d2, h2, v2⟩ := ih _ (listed.setIfInBounds i true) ρ1 w1 { f with tmps := tm1, defers := ds1, todo := .inRegion ops (Region.linearise.go .any ops fuel (t / (Region.ready .any ops listed).length) (listed.setIfInBounds i true) []) :: kk } (by simp [hsz]) (by have := unl_set hil hn' ops.size his; omega) v1
        (fun j p hq hj e he hb => by
          rw [set_on hil] at hj ⊢
          rcases hj with hj | rfl
          · exact .inl (hSl j p hq hj e he hb)
          · rw [hp] at hq
            injection hq with hq
            subst hq
            exact .inl (hre' e he hb))
        hm hk (hr.mono le1) d1 rfl hcs
      exact ⟨w2, ρ2, tm2, ds2, S, s1.trans s2, d2, h2, v2⟩
theorem Inv.start {R : Nat → Prop} {ρ : Env} {w w0 : World} {tm : Array Value} {a : Array Bool} (ha : ∀ j, ¬ a.getD j false = true) {N : Nat} (hs : St G R ρ (Hh 0) w) (hw : w0.heap = w.heap) (hl : LmR ρ (Th 0) n tm) (hr : w.os = w0.os ∧ w.tape = w0.tape ∧ w.output = w0.output) : Inv G N n Hh Th ww dm R ρ w0 (fun j => a.getD j false = true) ρ w tm := by
  have hW : ∀ (wm : Nat → Nat) x, ¬ Wt N (fun j => a.getD j false = true) wm x := fun wm x ⟨m, _, h, _⟩ => ha m h
  have hC : ∀ {α : Type} {wm : Nat → Nat} {gt : Nat → Nat → Option α} {x : Nat} {o : α}, Cont N (fun j => a.getD j false = true) wm gt x o → gt 0 x = some o := fun h => by
    rcases h with ⟨m, _, ⟨h, _⟩, _⟩ | h
    · exact (ha m h).elim
    · exact h.2
  exact ⟨fun x o hx hc => hs.sat x o (hx.resolve_right (hW _ x)) (hC hc), fun x y o o' k k' hx hy h1 h2 => hs.inj x y o o' k k' (hx.resolve_right (hW _ x)) (hy.resolve_right (hW _ y)) (hC h1) (hC h2), hs.glob, hs.low, fun _ _ h => h, fun x k h1 h2 => by (rw [h1] at h2; cases h2), by (rw [hw]; exact Nat.le_refl _), fun b _ _ => by rw [hw], hr, fun x hx => (hW _ x hx).elim, hl.1, fun t v hc => hl.2 t v (hC hc)⟩
end
/-- A region that draws its order: from the evaluator's answer, the machine's, whatever it draws. -/
theorem draw_ok (hX : XOk P G X) (hM : P.follows .mixedOrders = true) {run : Runner} (hR : RunOk P G run) {rnd : Option Nat} {n : Nat} {ds : List D} {k : K3} {ops : Array Oper} {l : List Pre} {T : LL} {H : Hp} (hp : prepD ops ops.toList 0 [] [] = some l) (h : drawn P X G run rnd n ds k l 0 [] T H 0 0 = .ok) :
    ∃ T' H' rd' wr', k T' ds H' rd' wr' = .ok ∧ Pu H H' wr' ∧
      ∀ (R : Nat → Prop) (ρ : Env) (w : World) (f : Frame) (cs : List Frame) (id : Nat) (kk : List Item), f.mode = .run → (f.kind = .normal ∨ f.kind = .deferred) → RoundR ρ rnd f.roundOf → DRs ρ ds f.defers → LmR ρ T n f.tmps → f.todo = .code (.region id ops true) :: kk →
        St G R ρ H w → (∀ x, On rd' x → R x) → Fresh ρ H.next H'.next → G ≤ H.next → CsOk f cs →
        ∃ w' ρ' tm2 ds2, Steps P (lone f cs w) (lone { f with tmps := tm2, defers := ds2, todo := kk } cs w') ∧ LmR ρ' T' n tm2 ∧ DRs ρ' ds ds2 ∧ Goes G R ρ H w wr' ρ' H' w' := by
  obtain ⟨hmap, bf, lk, dm, _, rdy⟩ := prepD_ok ops.toList 0 [] [] l (fun _ => 0) (fun _ => 0) (fun _ => 0) hp rfl rfl (fun m d hm => by simp at hm) (fun m e hm => by simp at hm)
  obtain ⟨Th, Hh, vv, rr, ww, rd', wr', a1, _, tr, a4, a5, a6⟩ := drawn_trace hX hR l 0 [] T H 0 0 (fun _ => T) (fun _ => H) (fun _ => .bool true) (fun _ => 0) (fun _ => 0) h rfl rfl (fun m e hm => by simp at hm) rfl (fun x => ⟨fun h => (on_zero h).elim, fun ⟨j, h, _⟩ => by omega⟩) (fun x => ⟨fun h => (on_zero h).elim, fun ⟨j, h, _⟩ => by omega⟩)
  rw [Nat.zero_add] at a4 a5 a6
  obtain ⟨eT, eH⟩ := a1 0 (Nat.le_refl _)
  subst eT eH
  have pl := tr.plan
  refine ⟨_, _, rd', wr', a4, ⟨pl.next _ (Nat.zero_le _) (Nat.le_refl _), fun x o hx h => down (gt := fun j x => (Hh j).tr.get x) pl.old _ (Nat.zero_le _) (Nat.le_refl _) (fun m _ h2 h3 => hx ((a6 x).2 ⟨m, h2, h3⟩)) h, fun x o h => pl.live _ (Nat.le_refl _) x o h⟩, ?_⟩
  intro R ρ w f cs id kk hm hk hr hds hl ht hs hR' hf hG hcs
  let w1 : World := { w with drawn := w.drawn + 1 }
  have s0 : step P (lone f cs w) = .next (lone { f with todo := .inRegion ops (Region.linearise .any ops (w.tape w.drawn (.order f.fn id))) :: kk } cs w1) := by
    refine stp hm ?_
    simp [stepG.exec, ht, choose, Region.schedule, hM, w1, Sem.run, Question.forced, Question.cut]
  generalize w.tape w.drawn (.order f.fn id) = t at s0
  have hrep : ∀ j, ¬ (Array.replicate ops.size false).getD j false = true := fun j => by
    simp only [Array.getD_eq_getD_getElem?, Array.getElem?_replicate]
    split <;> simp
  have v0 : Inv G l.length n Hh Th ww dm R ρ w (fun j => (Array.replicate ops.size false).getD j false = true) ρ w1 f.tmps := Inv.start hrep (hs.congr (fun _ h => h) rfl) rfl hl ⟨rfl, rfl, rfl⟩
  obtain ⟨w2, ρ2, tm2, ds2, S, s2, d2, h2, v2⟩ := sched_ok tr rdy hmap hf hG (fun j hj x hx => hR' x ((a5 x).2 ⟨j, hj, hx⟩)) ops.size t (Array.replicate ops.size false) ρ w1 { f with todo := .inRegion ops (Region.linearise .any ops t) :: kk } (by simp) (unl_le _ _) v0 (fun j p _ hj => (hrep j hj).elim) hm hk hr hds rfl hcs
  obtain ⟨g, lm⟩ := v2.done pl (tr.told rdy) h2 wr' a6
  exact ⟨w2, ρ2, tm2, ds2, (Steps.one s0).trans s2, lm, d2, g⟩
end Go.Proofs.YtdldpehmcfbbeaaGreatDoor.Ev
