/- The evaluator of closed runs: what it answers, the machine does. Conditions: what is said of functions without a Go body (X), and that the machine lets all orders in (mixedOrders). -/
import Derived.Test.YtdldpehmcfbbeaaGreatDoorEv27
namespace Go.Proofs.YtdldpehmcfbbeaaGreatDoor.Ev
variable {P : Program} {X : Ext} {G : Nat}
theorem lv_end {f : Frame} {cs : List Frame} {w : World} (e : f.todo = []) : Leaves' P f cs w none :=
  ⟨fun hr _ => by simp [stepG.exec, e, hr], fun l v w' hl hrun => by simp [stepG.exec, e, hl, Sem.runT_eq, hrun]⟩
theorem lv_ret {f : Frame} {cs : List Frame} {w : World} {k : List Item} (e : f.todo = .code .ret :: k) : Leaves' P f cs w (some .ret) :=
  ⟨fun hr _ => by simp [stepG.exec, e, hr], fun l v w' hl hrun => by simp [stepG.exec, e, hl, Sem.runT_eq, hrun]⟩
theorem lv_exit {f : Frame} {cs : List Frame} {w : World} {id : Nat} {k : List Item} (e : f.todo = .code (.exit id) :: k) (hn : exitTo id k = none) : Leaves' P f cs w (some (.exit id)) :=
  ⟨fun _ hj => by (rcases hj with hj | hj <;> cases hj), fun l v w' hl hrun => by simp [stepG.exec, e, hl, hn, Sem.runT_eq, hrun]⟩
theorem lv_goto {f : Frame} {cs : List Frame} {w : World} {id : Nat} {k : List Item} (e : f.todo = .code (.goto id) :: k) (hn : gotoIn id k = none) : Leaves' P f cs w (some (.goto id)) :=
  ⟨fun _ hj => by (rcases hj with hj | hj <;> cases hj), fun l v w' hl hrun => by simp [stepG.exec, e, hl, hn, Sem.runT_eq, hrun]⟩
theorem stepA_ok (hX : XOk P G X) (hM : P.follows .mixedOrders = true) {K : Hint} {run : Runner} (hR : RunOk P G run) {g : Fr} {H : Hp} {rd wr : Nat} {q : K2} (h : stepA P X G K run g H rd wr q = .ok) : FrOk P G g H rd wr q := by
  obtain ⟨fn, T, n, todo, ds, ret, dfd, rnd⟩ := g
  cases ret with
  | true => exact ret_ok hR h
  | false =>
    cases todo with
    | nil => exact leave_ok hR (jump := none) h fun ρ f cs w fr => lv_end (fr.todo rfl)
    | cons x k =>
      cases x with
      | inBlock id => exact turns hR h fun ρ y k' hy hk => ⟨k', hk, fun f cs w e => by rw [show y = .inBlock id from hy] at e; simp [stepG.exec, e]⟩
      | inScope b => exact turns hR h fun ρ y k' hy hk => ⟨k', hk, fun f cs w e => by rw [show y = .inScope b from hy] at e; simp [stepG.exec, e]⟩
      | inLoop b => exact turns hR h fun ρ y k' hy hk => ⟨.code b :: .inLoop b :: k', ⟨_, _, rfl, rfl, _, _, rfl, rfl, hk⟩, fun f cs w e => by rw [show y = .inLoop b from hy] at e; simp [stepG.exec, e]⟩
      | endRange i => exact end_ok hR h
      | beginRound => exact begin_ok hR h
      | code c =>
        cases c with
        | skip => exact turns hR h fun ρ y k' hy hk => ⟨k', hk, fun f cs w e => by rw [show y = .code .skip from hy] at e; simp [stepG.exec, e]⟩
        | label l => exact turns hR h fun ρ y k' hy hk => ⟨k', hk, fun f cs w e => by rw [show y = .code (.label l) from hy] at e; simp [stepG.exec, e]⟩
        | region id ops draw => exact region_ok hX hM (K := K) hR h
        | seq a b => exact turns hR h fun ρ y k' hy hk => ⟨.code a :: .code b :: k', ⟨_, _, rfl, rfl, _, _, rfl, rfl, hk⟩, fun f cs w e => by rw [show y = .code (.seq a b) from hy] at e; simp [stepG.exec, e]⟩
        | cond x a b => exact cond_ok (X := X) (K := K) hR h
        | block id b => exact turns hR h fun ρ y k' hy hk => ⟨.code b :: .inBlock id :: k', ⟨_, _, rfl, rfl, _, _, rfl, rfl, hk⟩, fun f cs w e => by rw [show y = .code (.block id b) from hy] at e; simp [stepG.exec, e]⟩
        | loop b => exact turns hR h fun ρ y k' hy hk => ⟨.code b :: .inLoop b :: k', ⟨_, _, rfl, rfl, _, _, rfl, rfl, hk⟩, fun f cs w e => by rw [show y = .code (.loop b) from hy] at e; simp [stepG.exec, e]⟩
        | rangeFunc x ps a b => exact range_ok (X := X) (K := K) hR h
        | exit id =>
          have h' : (match exitToA id k with | some k => run ⟨fn, T, n, k, ds, false, dfd, rnd⟩ H rd wr q | none => leaveA G fn T n ds dfd rnd H rd wr (some (.exit id)) run q) = .ok := h
          cases hx : exitToA id k with
          | some j =>
            rw [hx] at h'
            exact turns hR h' fun ρ y k' hy hk => by
              obtain ⟨j', a1, a2⟩ := (exit_ok hk).1 j hx
              exact ⟨j', a2, fun f cs w e => by rw [show y = .code (.exit id) from hy] at e; simp [stepG.exec, e, a1]⟩
          | none =>
            rw [hx] at h'
            refine leave_ok hR h' fun ρ f cs w fr => ?_
            obtain ⟨y, k', e, hy, hk⟩ := fr.todo rfl
            rw [show y = .code (.exit id) from hy] at e
            exact lv_exit e ((exit_ok hk).2 hx)
        | scope b => exact turns hR h fun ρ y k' hy hk => ⟨.code b :: .inScope b :: k', ⟨_, _, rfl, rfl, _, _, rfl, rfl, hk⟩, fun f cs w e => by rw [show y = .code (.scope b) from hy] at e; simp [stepG.exec, e]⟩
        | goto l =>
          have h' : (match gotoInA l k with | some k => run ⟨fn, T, n, k, ds, false, dfd, rnd⟩ H rd wr q | none => leaveA G fn T n ds dfd rnd H rd wr (some (.goto l)) run q) = .ok := h
          cases hx : gotoInA l k with
          | some j =>
            rw [hx] at h'
            exact turns hR h' fun ρ y k' hy hk => by
              obtain ⟨j', a1, a2⟩ := (goto_ok hk).1 j hx
              exact ⟨j', a2, fun f cs w e => by rw [show y = .code (.goto l) from hy] at e; simp [stepG.exec, e, a1]⟩
          | none =>
            rw [hx] at h'
            refine leave_ok hR h' fun ρ f cs w fr => ?_
            obtain ⟨y, k', e, hy, hk⟩ := fr.todo rfl
            rw [show y = .code (.goto l) from hy] at e
            exact lv_goto e ((goto_ok hk).2 hx)
        | ret =>
          refine leave_ok hR (jump := some .ret) h fun ρ f cs w fr => ?_
          obtain ⟨y, k', e, hy, hk⟩ := fr.todo rfl
          rw [show y = .code .ret from hy] at e
          exact lv_ret e
        | refuse s => cases h
/-- The evaluator: whatever it answers, the machine does. -/
theorem runA_ok (hX : XOk P G X) (hM : P.follows .mixedOrders = true) {K : Hint} : ∀ n, RunOk P G (runA P X G K n)
  | 0 => fun g H rd wr q h => by cases h
  | n + 1 => fun g H rd wr q h => stepA_ok hX hM (K := K) (runA_ok hX hM (K := K) n) h
/-- A call that the evaluator ran to its end: the machine's comes there too. What it changed has a name that was in reach, or is new. -/
theorem callA_ok (hX : XOk P G X) (hM : P.follows .mixedOrders = true) {K : Hint} {n : Nat} {f : FuncId} {args : List V} {H : Hp} {q : K2} (h : callA P X G K n f args H q = .ok) :
    ∃ v H' rd' wr', q v H' rd' wr' = .ok ∧ ∀ (ρ : Env) (w : World) (ra : Array Value), VRs ρ args ra.toList → St G (fun _ => True) ρ H w → (∀ x, H.next ≤ x → ρ x = none) → G ≤ H.next →
      Calls P f ra w fun e w' => ∃ r ρ', e = .returned r ∧ VR ρ' v r ∧ Goes G (fun _ => True) ρ H w wr' ρ' H' w' := by
  obtain ⟨g, h1, h2⟩ := get_ok h
  obtain ⟨v, H', rd', wr', h3, _, _, _, hrun⟩ := runA_ok hX hM (K := K) n g H 0 0 q h2
  refine ⟨v, H', rd', wr', h3, ?_⟩
  intro ρ w ra hra hs hf hG cs
  obtain ⟨hFR, hd1, hd2, hd3⟩ := enter_FR h1 hra
  obtain ⟨r, w', ρ', b1, b2, b3⟩ := hrun (fun _ => True) ρ w _ cs hFR hs (fun _ _ => trivial) (fun x hx => (on_zero hx).elim) (fun x h1 _ => hf x h1) hG ⟨fun h => (by cases h), fun h => (by cases h)⟩
  obtain ⟨f', c1, c2, c3, c4, c5, F, c6, c7⟩ := b1.1 rfl
  exact ⟨.returned r, w', f', ⟨r, ρ', rfl, b2, b3⟩, c1, c5, c2, c3, c4, F, c6, c7⟩
end Go.Proofs.YtdldpehmcfbbeaaGreatDoor.Ev
