/- The evaluator's operations and the machine's: what needs no memory. No condition. -/
import Derived.Test.YtdldpehmcfbbeaaGreatDoorEv3
import Derived.Laws.Sem
import Derived.Laws.Entries
import Derived.Laws.Cells
namespace Go.Proofs.YtdldpehmcfbbeaaGreatDoor.Ev
variable {P : Program} {X : Ext} {G : Nat}
/-- The operands of an operation, as the evaluator has them and as the machine does. -/
def EvR (G : Nat) (ρ : Env) (T : LL) (o : Oper) (eval : Operand → Value) : Prop := ∀ x, x ∈ o.op.operands → ∀ v, ev G T x = some v → VR ρ v (eval x)
/-- What an operation tells, and the machine's. -/
def OutR (ρ : Env) (w : World) (H : Hp) : Out → Next → Prop
  | .val v, nx => (∃ r, nx = .value r ∧ VR ρ v r) ∨ (nx = .skip ∧ v = .tuple [])
  | .call f args, nx => ∃ ra, nx = .enter f ra ∧ VRs ρ args ra.toList
  | .round i args, nx => ∃ (k : Blk) (l : Loop) (ra : Array Value), ρ i = some k ∧ w.heap[k.b]? = some (.loop l) ∧ nx = .round k.b l.fn ((l.params.zip ra).foldl (fun tmps (t, a) => tmps.setIfInBounds t a) l.tmps) l.assign l.body ∧ VRs ρ args ra.toList ∧ ∀ o, H.tr.get i = some o → SatO ρ k o (.loop l)
  | .defer d, nx => ∃ e, nx = .defer e ∧ DR ρ d e
  | .recover, nx => nx = .recover
/-- The machine does so. -/
def Does (P : Program) (G : Nat) (o : Oper) (T : LL) (H : Hp) (out : Out) (H' : Hp) (rd wr : Nat) : Prop :=
  ∀ (R : Nat → Prop) (ρ : Env) (w : World) (eval : Operand → Value), EvR G ρ T o eval → St G R ρ H w → (∀ x, On rd x → R x) → Fresh ρ H.next H'.next → G ≤ H.next →
    ∃ nx w' ρ', (execOp eval o).run P w = .ok nx w' ∧ OutR ρ' w' H' out nx ∧ Goes G R ρ H w wr ρ' H' w'
def Ex (P : Program) (G : Nat) (o : Oper) (T : LL) (H : Hp) (k : K1) : Prop := ∃ out H' rd wr, k out H' rd wr = .ok ∧ Pu H H' wr ∧ Does P G o T H out H' rd wr
theorem Ex.read {o : Oper} {T : LL} {H : Hp} {k : K1} {v : V} {rd : Nat} (hk : k (.val v) H rd 0 = .ok)
    (h : ∀ (R : Nat → Prop) (ρ : Env) (w : World) (eval : Operand → Value), EvR G ρ T o eval → St G R ρ H w → (∀ x, On rd x → R x) → ∃ r, (execOp eval o).run P w = .ok (.value r) w ∧ VR ρ v r) : Ex P G o T H k :=
  ⟨_, _, _, _, hk, Pu.refl _ _, fun R ρ w eval he hs hr _ _ => let ⟨r, h1, h2⟩ := h R ρ w eval he hs hr; ⟨_, w, ρ, h1, .inl ⟨r, rfl, h2⟩, Goes.refl hs rfl ⟨rfl, rfl, rfl⟩⟩⟩
theorem Ex.plain {o : Oper} {T : LL} {H : Hp} {k : K1} {v : V} (hk : k (.val v) H 0 0 = .ok)
    (h : ∀ (ρ : Env) (w : World) (eval : Operand → Value), EvR G ρ T o eval → ∃ r, (execOp eval o).run P w = .ok (.value r) w ∧ VR ρ v r) : Ex P G o T H k :=
  Ex.read hk fun _ ρ w eval he _ _ => h ρ w eval he
/-! Values that lead to no memory -/
theorem ofV_mapM {ρ : Env} {n : Nat} (ih : ∀ v a, ofV n v = some a → VR ρ a v) : ∀ (l : List Value) (m : List V), l.mapM (ofV n) = some m → VRs ρ m l
  | [], m, h => by
    simp at h
    subst h
    rfl
  | v :: l, m, h => by
    rw [List.mapM_cons] at h
    cases h1 : ofV n v with
    | none => rw [h1] at h; simp at h
    | some a =>
      cases h2 : l.mapM (ofV n) with
      | none => rw [h1, h2] at h; simp at h
      | some m' =>
        rw [h1, h2] at h
        simp at h
        subst h
        exact ⟨v, l, rfl, ih v a h1, ofV_mapM ih l m' h2⟩
theorem ofV_ok {ρ : Env} : ∀ (n : Nat) (v : Value) (a : V), ofV n v = some a → VR ρ a v
  | 0, _, _, h => by cases h
  | n + 1, v, a, h => by
    cases v with
    | bool b => simp only [ofV, Option.some.injEq] at h; subst h; rfl
    | int k i => simp only [ofV, Option.some.injEq] at h; subst h; rfl
    | string s => simp only [ofV, Option.some.injEq] at h; subst h; rfl
    | nilFunc => simp only [ofV, Option.some.injEq] at h; subst h; rfl
    | nilIface => simp only [ofV, Option.some.injEq] at h; subst h; rfl
    | pointer p => cases p <;> simp only [ofV, Option.some.injEq, reduceCtorEq] at h; subst h; rfl
    | map p => cases p <;> simp only [ofV, Option.some.injEq, reduceCtorEq] at h; subst h; rfl
    | slice p l c =>
      cases p with
      | some p => simp [ofV] at h
      | none => cases l <;> cases c <;> simp only [ofV, Option.some.injEq, reduceCtorEq] at h; subst h; rfl
    | iface t v =>
      simp only [ofV, Option.map_eq_some_iff] at h
      obtain ⟨b, h1, rfl⟩ := h
      exact ⟨v, rfl, ofV_ok n v b h1⟩
    | agg l =>
      simp only [ofV, Option.map_eq_some_iff] at h
      obtain ⟨b, h1, rfl⟩ := h
      exact ⟨l, rfl, ofV_mapM (ofV_ok n) _ _ h1⟩
    | tuple l =>
      simp only [ofV, Option.map_eq_some_iff] at h
      obtain ⟨b, h1, rfl⟩ := h
      exact ⟨l, rfl, ofV_mapM (ofV_ok n) _ _ h1⟩
    | func f x y =>
      cases f with
      | func f =>
        simp only [ofV] at h
        split at h
        · rename_i hs
          injection h with h
          subst h
          obtain rfl : x = #[] := Array.eq_empty_of_size_eq_zero hs.1
          obtain rfl : y = #[] := Array.eq_empty_of_size_eq_zero hs.2
          exact ⟨_, _, rfl, rfl, rfl⟩
        · cases h
      | _ => simp [ofV] at h
    | _ => simp [ofV] at h
theorem toV_mapM {ρ : Env} {n : Nat} (ih : ∀ a v r, toV n a = some v → VR ρ a r → r = v) : ∀ (l : List V) (m rs : List Value), l.mapM (toV n) = some m → VRs ρ l rs → rs = m
  | [], m, rs, h, hr => by
    simp at h
    subst h
    exact hr
  | a :: l, m, rs, h, hr => by
    obtain ⟨r, rs', rfl, hr1, hr2⟩ := hr
    rw [List.mapM_cons] at h
    cases h1 : toV n a with
    | none => rw [h1] at h; simp at h
    | some v =>
      cases h2 : l.mapM (toV n) with
      | none => rw [h1, h2] at h; simp at h
      | some m' =>
        rw [h1, h2] at h
        simp at h
        subst h
        rw [ih a v r h1 hr1, toV_mapM ih l m' rs' h2 hr2]
theorem toV_ok {ρ : Env} : ∀ (n : Nat) (a : V) (v r : Value), toV n a = some v → VR ρ a r → r = v
  | 0, _, _, _, h, _ => by cases h
  | n + 1, a, v, r, h, hr => by
    cases a with
    | iface t a =>
      simp only [toV, Option.map_eq_some_iff] at h
      obtain ⟨b, h1, rfl⟩ := h
      obtain ⟨s, rfl, hs⟩ := hr
      rw [toV_ok n a b s h1 hs]
    | agg l =>
      simp only [toV, Option.map_eq_some_iff] at h
      obtain ⟨b, h1, rfl⟩ := h
      obtain ⟨s, rfl, hs⟩ := hr
      rw [← toV_mapM (toV_ok n) l b s.toList h1 hs]
    | tuple l =>
      simp only [toV, Option.map_eq_some_iff] at h
      obtain ⟨b, h1, rfl⟩ := h
      obtain ⟨s, rfl, hs⟩ := hr
      rw [← toV_mapM (toV_ok n) l b s.toList h1 hs]
    | slice i o l c => simp [toV] at h
    | ptr i o => simp [toV] at h
    | map i => simp [toV] at h
    | func f x y => simp [toV] at h
    | yield i => simp [toV] at h
    | mt => simp [toV] at h
    | opq _ => simp [toV] at h
    | vs _ _ _ _ => simp [toV] at h
    | unk => simp [toV] at h
    | _ => simp only [toV, Option.some.injEq] at h; rw [← h]; exact hr
theorem pureRun_ok {α : Type} : ∀ (s : Sem α) (a : α), pureRun P s = some a → ∀ w, s.run P w = .ok a w
  | .pure b, a, h, w => by simp only [pureRun, Option.some.injEq] at h; subst h; rfl
  | .program k, a, h, w => pureRun_ok (k P) a h w
  | .mark m k, a, h, w => pureRun_ok k a h w
  | .load .., a, h, w => by simp [pureRun] at h
  | .store .., a, h, w => by simp [pureRun] at h
  | .new .., a, h, w => by simp [pureRun] at h
  | .shape .., a, h, w => by simp [pureRun] at h
  | .freeze .., a, h, w => by simp [pureRun] at h
  | .frozen .., a, h, w => by simp [pureRun] at h
  | .getObj .., a, h, w => by simp [pureRun] at h
  | .setObj .., a, h, w => by simp [pureRun] at h
  | .choose .., a, h, w => by simp [pureRun] at h
  | .sys .., a, h, w => by simp [pureRun] at h
  | .halt .., a, h, w => by simp [pureRun] at h
theorem plainV_ok {o : Oper} {T : LL} {v : V} (h : plainV P G o T = some v) (ρ : Env) (w : World) (eval : Operand → Value) (he : EvR G ρ T o eval) : ∃ r, (execOp eval o).run P w = .ok (.value r) w ∧ VR ρ v r := by
  unfold plainV at h
  split at h
  · cases h
  · rename_i hsel
    split at h
    · cases h
    · rename_i hall
      split at h
      · rename_i u hp
        have hc : execOp eval o = execOp (fun x => (((ev G T x).bind (toV 6)).getD undef)) o := by
          refine execOp_congr o (fun cs b e => hsel cs b e) fun x hx => ?_
          have h1 := List.all_eq_true.1 hall x (by simpa using hx)
          cases h2 : ev G T x with
          | none => rw [h2] at h1; simp at h1
          | some a =>
            cases h3 : toV 6 a with
            | none => rw [h2] at h1; simp [h3] at h1
            | some b =>
              simp only [Option.bind_some, h3, Option.getD_some]
              exact toV_ok 6 a b _ h3 (he x hx a h2)
        refine ⟨u, ?_, ofV_ok 6 u v h⟩
        rw [hc]
        exact pureRun_ok _ _ hp w
      · cases h
theorem plainOp_ok {o : Oper} {T : LL} {H : Hp} {k : K1} (h : plainOp P G o T H k = .ok) : Ex P G o T H k := by
  obtain ⟨a, h1, h2⟩ := get_ok h
  rw [firm_eq] at h2
  exact Ex.plain h2 fun ρ w eval he => plainV_ok h1 ρ w eval he
/-! The small ones -/
theorem xMove_ok {o : Oper} {x : Operand} {T : LL} {H : Hp} {k : K1} (ho : o.op = .move x ∨ o.op = .assign x) (h : xMoveO x P X G o T H k = .ok) : Ex P G o T H k := by
  obtain ⟨v, h1, h2⟩ := get_ok h
  refine Ex.plain h2 fun ρ w eval he => ⟨eval x, ?_, he x (by rcases ho with ho | ho <;> simp [ho, Op.operands]) v h1⟩
  rcases ho with ho | ho <;> (unfold execOp; rw [ho]; rfl)
theorem xPick_ok {o : Oper} {c a b : Operand} {T : LL} {H : Hp} {k : K1} (ho : o.op = .pick c a b) (h : xPickO c a b P X G o T H k = .ok) : Ex P G o T H k := by
  obtain ⟨v, h1, h2⟩ := get_ok h
  cases v with
  | bool t =>
    have hx : ∀ v x, ev G T x = some v → x = (if t then a else b) → k (.val v) H 0 0 = .ok → Ex P G o T H k := by
      intro v x hv hx hk
      refine Ex.plain hk fun ρ w eval he => ⟨eval x, ?_, he x (by rw [hx]; cases t <;> simp [ho, Op.operands]) v hv⟩
      have hc : eval c = .bool t := he c (by simp [ho, Op.operands]) _ h1
      unfold execOp
      rw [ho]
      simp [hc, asBool, hx]
      cases t <;> rfl
    rcases iff_ok h2 with ⟨rfl, h3⟩ | ⟨rfl, h3⟩
    · obtain ⟨v, h4, h5⟩ := get_ok h3
      exact hx v a h4 rfl h5
    · obtain ⟨v, h4, h5⟩ := get_ok h3
      exact hx v b h4 rfl h5
  | _ => cases h2
theorem xNilCheck_ok {o : Oper} {x : Operand} {T : LL} {H : Hp} {k : K1} (ho : o.op = .nilCheck x) (h : xNilCheckO x P X G o T H k = .ok) : Ex P G o T H k := by
  obtain ⟨v, h1, h2⟩ := get_ok h
  cases v with
  | ptr i q =>
    refine Ex.plain h2 fun ρ w eval he => ⟨eval x, ?_, he x (by simp [ho, Op.operands]) _ h1⟩
    obtain ⟨kb, _, e⟩ := he x (by simp [ho, Op.operands]) _ h1
    unfold execOp; rw [ho]; simp [e]
  | func f a b =>
    refine Ex.plain h2 fun ρ w eval he => ⟨eval x, ?_, he x (by simp [ho, Op.operands]) _ h1⟩
    obtain ⟨_, _, e, _⟩ := he x (by simp [ho, Op.operands]) _ h1
    unfold execOp; rw [ho]; simp [e]
  | yield i =>
    refine Ex.plain h2 fun ρ w eval he => ⟨eval x, ?_, he x (by simp [ho, Op.operands]) _ h1⟩
    obtain ⟨kb, _, e⟩ := he x (by simp [ho, Op.operands]) _ h1
    unfold execOp; rw [ho]; simp [e]
  | iface t v =>
    refine Ex.plain h2 fun ρ w eval he => ⟨eval x, ?_, he x (by simp [ho, Op.operands]) _ h1⟩
    obtain ⟨_, e, _⟩ := he x (by simp [ho, Op.operands]) _ h1
    unfold execOp; rw [ho]; simp [e]
  | _ => cases h2
theorem xExtract_ok {o : Oper} {x : Operand} {j : Nat} {T : LL} {H : Hp} {k : K1} (ho : o.op = .extract x j) (h : xExtractO x j P X G o T H k = .ok) : Ex P G o T H k := by
  obtain ⟨v, h1, h2⟩ := get_ok h
  cases v with
  | tuple l =>
    obtain ⟨v, h3, h4⟩ := get_ok h2
    refine Ex.plain h4 fun ρ w eval he => ?_
    obtain ⟨a, e, ha⟩ := he x (by simp [ho, Op.operands]) _ h1
    obtain ⟨r, h5, h6⟩ := ha.at h3
    refine ⟨r, ?_, h6⟩
    have h7 : a[j]? = some r := by rw [← Array.getElem?_toList]; exact h5
    unfold execOp; rw [ho]; simp [e, Instr.extract, h7]
  | _ => cases h2
theorem xMakeIface_ok {o : Oper} {x : Operand} {t : TypeId} {T : LL} {H : Hp} {k : K1} (ho : o.op = .makeInterface t x) (h : xMakeIfaceO t x P X G o T H k = .ok) : Ex P G o T H k := by
  obtain ⟨v, h1, h2⟩ := get_ok h
  unfold xMakeIface at h2
  split at h2
  · cases h2
  · rename_i d hd hu
    refine Ex.plain h2 fun ρ w eval he => ⟨.iface t (eval x), ?_, _, rfl, he x (by simp [ho, Op.operands]) v h1⟩
    unfold execOp; rw [ho]
    simp only [Sem.run_bind, Instr.makeInterface, run_underlying hu, Result.andThen_ok]
    cases d <;> first | rfl | exact (hd _ rfl).elim
  · cases h2
theorem evs_ok {ρ : Env} {T : LL} {eval : Operand → Value} : ∀ (l : List Operand) (vs : List V), (∀ x, x ∈ l → ∀ v, ev G T x = some v → VR ρ v (eval x)) → evs G T l = some vs → VRs ρ vs (l.map eval)
  | [], vs, _, h => by
    injection h with h
    subst h
    rfl
  | x :: l, vs, hh, h => by
    obtain ⟨v, h1, h2⟩ := opt_some (x := ev G T x) h
    obtain ⟨vs', h3, h4⟩ := opt_some (x := evs G T l) h2
    injection h4 with h4
    subst h4
    exact ⟨_, _, rfl, hh x (by simp) v h1, evs_ok l vs' (fun y hy => hh y (by simp [hy])) h3⟩
theorem xMakeFunc_ok {o : Oper} {f : Fn} {a b : Array Operand} {T : LL} {H : Hp} {k : K1} (ho : o.op = .makeFunc f a b) (h : xMakeFuncO f a b P X G o T H k = .ok) : Ex P G o T H k := by
  obtain ⟨l, h1, h2⟩ := get_ok h
  obtain ⟨m, h3, h4⟩ := get_ok h2
  cases f with
  | func f =>
    refine Ex.plain h4 fun ρ w eval he => ⟨.func (.func f) (a.map eval) (b.map eval), ?_, _, _, rfl, ?_, ?_⟩
    · unfold execOp; rw [ho]; rfl
    · rw [Array.toList_map]; exact evs_ok _ _ (fun x hx => he x (by have := Array.mem_toList_iff.1 hx; simp [ho, Op.operands, this])) h1
    · rw [Array.toList_map]; exact evs_ok _ _ (fun x hx => he x (by have := Array.mem_toList_iff.1 hx; simp [ho, Op.operands, this])) h3
  | _ => cases h4
end Go.Proofs.YtdldpehmcfbbeaaGreatDoor.Ev
