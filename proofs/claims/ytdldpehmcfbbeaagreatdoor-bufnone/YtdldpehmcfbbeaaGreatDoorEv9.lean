/- The evaluator's operations and the machine's: slices of slices, comparisons, assertions, conversions. No condition. -/
import Derived.Test.YtdldpehmcfbbeaaGreatDoorEv8
namespace Go.Proofs.YtdldpehmcfbbeaaGreatDoor.Ev
variable {P : Program} {X : Ext} {G : Nat}
theorem bound_ok {x : Option V} {y d i : Nat} (h : bound x y d = some i) : (x = none ∧ i = d) ∨ ∃ q, x = some (.int q (.ofNat i)) ∧ i ≤ y := by
  unfold bound at h
  split at h
  · injection h with h; exact .inl ⟨rfl, h.symm⟩
  · rename_i q j
    cases hc : Nat.ble j y with
    | false => rw [hc] at h; cases h
    | true =>
      rw [hc] at h
      injection h with h
      subst h
      exact .inr ⟨q, rfl, Nat.le_of_ble_eq_true hc⟩
  · cases h
theorem evo_ok {T : LL} {x : Option Operand} {k : Option V → Ans} (h : evo G T x k = .ok) : ∃ v : Option V, k v = .ok ∧ ∀ (ρ : Env) (eval : Operand → Value), (∀ y, x = some y → ∀ v, ev G T y = some v → VR ρ v (eval y)) → (v = none → x.map eval = none) ∧ ∀ u, v = some u → ∃ r, x.map eval = some r ∧ VR ρ u r := by
  unfold evo at h
  split at h
  · exact ⟨none, h, fun ρ eval _ => ⟨fun _ => rfl, fun u hu => by cases hu⟩⟩
  · rename_i y
    obtain ⟨v, h1, h2⟩ := get_ok h
    exact ⟨some v, h2, fun ρ eval he => ⟨fun hn => by (cases hn), fun u hu => by (injection hu with hu; subst hu; exact ⟨eval y, rfl, he y rfl _ h1⟩)⟩⟩
theorem sliceBound_run (q : IntKind) (i y : Nat) (h : i ≤ y) (c : BoundsCode) (w : World) : (Instr.sliceBound (.int q i) y c).run P w = .ok i w := by
  have : (0 : Int) ≤ i ∧ (i : Int) ≤ y := by omega
  simp [Instr.sliceBound, asIntOf, this]
theorem bounds_run (b : Bool) (len cap l h m : Nat) (lo hi mx : Option Value) (hm : mx = none ∧ m = cap ∨ ∃ q, mx = some (.int q m) ∧ m ≤ cap) (hh : hi = none ∧ mx = none ∧ h = len ∨ ∃ q, hi = some (.int q h) ∧ h ≤ m) (hl : lo = none ∧ l = 0 ∨ ∃ q, lo = some (.int q l) ∧ l ≤ h) (w : World) :
    (Instr.sliceBounds b len cap lo hi mx).run P w = .ok (l, h, m) w := by
  unfold Instr.sliceBounds
  rcases hm with ⟨rfl, rfl⟩ | ⟨q, rfl, hm⟩ <;> rcases hh with ⟨rfl, h1, rfl⟩ | ⟨q', rfl, hh⟩ <;> rcases hl with ⟨rfl, rfl⟩ | ⟨q'', rfl, hl⟩ <;>
    first
      | (cases h1; done)
      | (simp only [Sem.run_bind, Sem.run_pure, Result.andThen_ok, sliceBound_run _ _ _ hm, sliceBound_run _ _ _ hh, sliceBound_run _ _ _ hl]; done)
      | (simp only [Sem.run_bind, Sem.run_pure, Result.andThen_ok, sliceBound_run _ _ _ hm, sliceBound_run _ _ _ hh]; done)
      | (simp only [Sem.run_bind, Sem.run_pure, Result.andThen_ok, sliceBound_run _ _ _ hh, sliceBound_run _ _ _ hl]; done)
      | (simp only [Sem.run_bind, Sem.run_pure, Result.andThen_ok, sliceBound_run _ _ _ hh]; done)
      | (simp only [Sem.run_bind, Sem.run_pure, Result.andThen_ok, sliceBound_run _ _ _ hl]; done)
      | (simp only [Sem.run_bind, Sem.run_pure, Result.andThen_ok]; done)
def OvR (ρ : Env) (v : Option V) (r : Option Value) : Prop := (v = none → r = none) ∧ ∀ u, v = some u → ∃ s, r = some s ∧ VR ρ u s
theorem OvR.at {ρ : Env} {x : Option V} {r : Option Value} (hr : OvR ρ x r) {y d i : Nat} (h : bound x y d = some i) : (x = none ∧ r = none ∧ i = d) ∨ ∃ q, x.isSome = true ∧ r = some (.int q i) ∧ i ≤ y := by
  rcases bound_ok h with ⟨rfl, rfl⟩ | ⟨q, rfl, h1⟩
  · exact .inl ⟨rfl, hr.1 rfl, rfl⟩
  · obtain ⟨s, h2, h3⟩ := hr.2 _ rfl
    obtain rfl := show s = .int q i from h3
    exact .inr ⟨q, rfl, h2, h1⟩
theorem sliceK_ok {o : Oper} {T : LL} {H : Hp} {k : K1} {i off sz l h m : Nat} (hk : sliceK i off sz l h m H k = .ok)
    (hr : ∀ (ρ : Env) (w : World) (eval : Operand → Value), EvR G ρ T o eval → ∃ kb, ρ i = some kb ∧ (execOp eval o).run P w = .ok (.value (.slice (if m = l then some ⟨kb.b, kb.o + off, none⟩ else some ⟨kb.b, kb.o + off + l * sz, none⟩) (h - l) (m - l))) w) : Ex P G o T H k := by
  unfold sliceK at hk
  rw [nat_eq, nat_eq] at hk
  rcases iff_ok hk with ⟨h1, h2⟩ | ⟨h1, h2⟩
  · have e := Nat.eq_of_beq_eq_true h1
    refine Ex.plain h2 fun ρ w eval he => ?_
    obtain ⟨kb, h3, h4⟩ := hr ρ w eval he
    rw [if_pos e] at h4
    exact ⟨_, h4, kb, h3, rfl⟩
  · have e := Nat.ne_of_beq_eq_false h1
    rw [nat_eq] at h2
    refine Ex.plain h2 fun ρ w eval he => ?_
    obtain ⟨kb, h3, h4⟩ := hr ρ w eval he
    rw [if_neg e] at h4
    exact ⟨_, h4, kb, h3, by rw [Nat.add_assoc]⟩
theorem xSlice_ok {o : Oper} {t : TypeId} {x : Operand} {lo hi mx : Option Operand} {T : LL} {H : Hp} {k : K1} (ho : o.op = .slice t x lo hi mx) (h : xSliceO t x lo hi mx P X G o T H k = .ok) : Ex P G o T H k := by
  obtain ⟨v, h1, h2⟩ := get_ok h
  unfold xSlice at h2
  split at h2
  · exact plainOp_ok h2
  · exact plainOp_ok h2
  · rename_i nn1 nn2
    clear nn1 nn2
    obtain ⟨vlo, h3, hlo⟩ := evo_ok h2
    obtain ⟨vhi, h4, hhi⟩ := evo_ok h3
    obtain ⟨vmx, h5, hmx⟩ := evo_ok h4
    clear h2 h3 h4
    unfold sliceOp at h5
    rcases iff_ok h5 with ⟨_, h6⟩ | ⟨hno, h6⟩
    · cases h6
    · have hno' : vhi = none → vmx = none := by
        intro e
        subst e
        cases vmx with
        | none => rfl
        | some u => simp at hno
      split at h6
      · rename_i n e i off hu
        obtain ⟨sz, h7, h8⟩ := get_ok h6
        obtain ⟨m, h9, h10⟩ := get_ok h8
        obtain ⟨hh, h11, h12⟩ := get_ok h10
        obtain ⟨l, h13, h14⟩ := get_ok h12
        refine sliceK_ok h14 fun ρ w eval he => ?_
        obtain ⟨kb, h15, h16⟩ := he x (by simp [ho, Op.operands]) _ h1
        refine ⟨kb, h15, ?_⟩
        have hb := bounds_run (P := P) false n n l hh m (lo.map eval) (hi.map eval) (mx.map eval)
          ((OvR.at (hmx ρ eval fun y hy => he y (by simp [ho, Op.operands, hy])) h9).elim (fun a => .inl ⟨a.2.1, a.2.2⟩) fun ⟨q, _, a, b⟩ => .inr ⟨q, a, b⟩)
          ((OvR.at (hhi ρ eval fun y hy => he y (by simp [ho, Op.operands, hy])) h11).elim (fun a => .inl ⟨a.2.1, (hmx ρ eval fun y hy => he y (by simp [ho, Op.operands, hy])).1 (hno' a.1), a.2.2⟩) fun ⟨q, _, a, b⟩ => .inr ⟨q, a, b⟩)
          ((OvR.at (hlo ρ eval fun y hy => he y (by simp [ho, Op.operands, hy])) h13).elim (fun a => .inl ⟨a.2.1, a.2.2⟩) fun ⟨q, _, a, b⟩ => .inr ⟨q, a, b⟩) w
        unfold execOp
        rw [ho]
        simp only [Sem.run_bind, Instr.sliceAt, run_underlying hu, Result.andThen_ok, h16, Instr.sureAddr, Sem.run_pure, hb, size_run h7, add_eq]
        split <;> simp
      · rename_i e i off len c hu
        obtain ⟨sz, h7, h8⟩ := get_ok h6
        obtain ⟨m, h9, h10⟩ := get_ok h8
        obtain ⟨hh, h11, h12⟩ := get_ok h10
        obtain ⟨l, h13, h14⟩ := get_ok h12
        refine sliceK_ok h14 fun ρ w eval he => ?_
        obtain ⟨kb, h15, h16⟩ := he x (by simp [ho, Op.operands]) _ h1
        refine ⟨kb, h15, ?_⟩
        have hb := bounds_run (P := P) true len c l hh m (lo.map eval) (hi.map eval) (mx.map eval)
          ((OvR.at (hmx ρ eval fun y hy => he y (by simp [ho, Op.operands, hy])) h9).elim (fun a => .inl ⟨a.2.1, a.2.2⟩) fun ⟨q, _, a, b⟩ => .inr ⟨q, a, b⟩)
          ((OvR.at (hhi ρ eval fun y hy => he y (by simp [ho, Op.operands, hy])) h11).elim (fun a => .inl ⟨a.2.1, (hmx ρ eval fun y hy => he y (by simp [ho, Op.operands, hy])).1 (hno' a.1), a.2.2⟩) fun ⟨q, _, a, b⟩ => .inr ⟨q, a, b⟩)
          ((OvR.at (hlo ρ eval fun y hy => he y (by simp [ho, Op.operands, hy])) h13).elim (fun a => .inl ⟨a.2.1, a.2.2⟩) fun ⟨q, _, a, b⟩ => .inr ⟨q, a, b⟩) w
        unfold execOp
        rw [ho]
        simp only [Sem.run_bind, Instr.sliceAt, run_underlying hu, Result.andThen_ok, h16, Instr.slice, Sem.run_pure, hb, size_run h7, Option.map_some, add_eq]
      · rename_i e i off len s hu
        obtain ⟨sz, h7, h8⟩ := get_ok h6
        split at h8
        · obtain ⟨hh, h11, h12⟩ := get_ok h8
          obtain ⟨l, h13, h14⟩ := get_ok h12
          have hhl : hh ≤ len := by
            rcases bound_ok h11 with ⟨_, rfl⟩ | ⟨_, _, h⟩
            · exact Nat.le_refl _
            · exact h
          have hlh : l ≤ hh := by
            rcases bound_ok h13 with ⟨_, rfl⟩ | ⟨_, _, h⟩
            · exact Nat.zero_le _
            · exact h
          rcases iff_ok h14 with ⟨h15, h16⟩ | ⟨h15, h16⟩
          · rw [nat_eq, nat_eq, nat_eq] at h16
            have hl0 : l = 0 ∨ l < len := by
              simp only [Bool.or_eq_true] at h15
              rcases h15 with h15 | h15
              · exact .inl (Nat.eq_of_beq_eq_true h15)
              · exact .inr (Nat.le_of_ble_eq_true h15)
            refine Ex.plain h16 fun ρ w eval he => ?_
            obtain ⟨kb, h17, h18, h19⟩ := he x (by simp [ho, Op.operands]) _ h1
            have hb := bounds_run (P := P) true len (kb.K - s) l hh (kb.K - s) (lo.map eval) (hi.map eval) (mx.map eval)
              (.inl ⟨(hmx ρ eval fun y hy => he y (by simp [ho, Op.operands, hy])).1 rfl, rfl⟩)
              ((OvR.at (hhi ρ eval fun y hy => he y (by simp [ho, Op.operands, hy])) h11).elim (fun a => .inl ⟨a.2.1, (hmx ρ eval fun y hy => he y (by simp [ho, Op.operands, hy])).1 rfl, a.2.2⟩) fun ⟨q, _, a, b⟩ => .inr ⟨q, a, by omega⟩)
              ((OvR.at (hlo ρ eval fun y hy => he y (by simp [ho, Op.operands, hy])) h13).elim (fun a => .inl ⟨a.2.1, a.2.2⟩) fun ⟨q, _, a, b⟩ => .inr ⟨q, a, b⟩) w
            refine ⟨.slice (some ⟨kb.b, kb.o + (off + l * sz), none⟩) (hh - l) (kb.K - (s + l)), ?_, kb, h17, by omega, rfl⟩
            unfold execOp
            rw [ho]
            simp only [Sem.run_bind, Instr.sliceAt, run_underlying hu, Result.andThen_ok, h19, Instr.slice, Sem.run_pure, hb, size_run h7, Option.map_some, add_eq]
            have e1 : kb.K - s - l = kb.K - (s + l) := by omega
            by_cases hml : kb.K - s = l
            · rw [if_pos hml, e1]
              have : l = 0 := by rcases hl0 with h | h; exact h; omega
              subst this
              simp
            · rw [if_neg hml, e1, Nat.add_assoc]
          · simp only [Bool.or_eq_false_iff] at h15
            have hl1 : l ≠ 0 := fun e => by rw [e] at h15; cases h15.1
            have hl2 : ¬ l < len := fun e => by have := Nat.ble_eq_true_of_le e; rw [this] at h15; cases h15.2
            refine Ex.plain h16 fun ρ w eval he => ?_
            obtain ⟨kb, h17, h18, h19⟩ := he x (by simp [ho, Op.operands]) _ h1
            have hb := bounds_run (P := P) true len (kb.K - s) l hh (kb.K - s) (lo.map eval) (hi.map eval) (mx.map eval)
              (.inl ⟨(hmx ρ eval fun y hy => he y (by simp [ho, Op.operands, hy])).1 rfl, rfl⟩)
              ((OvR.at (hhi ρ eval fun y hy => he y (by simp [ho, Op.operands, hy])) h11).elim (fun a => .inl ⟨a.2.1, (hmx ρ eval fun y hy => he y (by simp [ho, Op.operands, hy])).1 rfl, a.2.2⟩) fun ⟨q, _, a, b⟩ => .inr ⟨q, a, by omega⟩)
              ((OvR.at (hlo ρ eval fun y hy => he y (by simp [ho, Op.operands, hy])) h13).elim (fun a => .inl ⟨a.2.1, a.2.2⟩) fun ⟨q, _, a, b⟩ => .inr ⟨q, a, b⟩) w
            obtain rfl : l = hh := by omega
            refine ⟨.slice (some (if kb.K - s = l then ⟨kb.b, kb.o + off, none⟩ else ⟨kb.b, kb.o + off + l * sz, none⟩)) 0 (kb.K - s - l), ?_, _, _, rfl⟩
            unfold execOp
            rw [ho]
            simp only [Sem.run_bind, Instr.sliceAt, run_underlying hu, Result.andThen_ok, h19, Instr.slice, Sem.run_pure, hb, size_run h7, Option.map_some, add_eq, Nat.sub_self]
            split <;> rfl
        · rename_i mxv
          obtain ⟨m, h9, h10⟩ := get_ok h8
          obtain ⟨hh, h11, h12⟩ := get_ok h10
          obtain ⟨l, h13, h14⟩ := get_ok h12
          refine sliceK_ok h14 fun ρ w eval he => ?_
          obtain ⟨kb, h15, hcap, h16⟩ := he x (by simp [ho, Op.operands]) _ h1
          refine ⟨kb, h15, ?_⟩
          have hb := bounds_run (P := P) true len (kb.K - s) l hh m (lo.map eval) (hi.map eval) (mx.map eval)
            ((OvR.at (hmx ρ eval fun y hy => he y (by simp [ho, Op.operands, hy])) h9).elim (fun a => by (cases a.1)) fun ⟨q, _, a, b⟩ => .inr ⟨q, a, by omega⟩)
            ((OvR.at (hhi ρ eval fun y hy => he y (by simp [ho, Op.operands, hy])) h11).elim (fun a => by (cases hno' a.1)) fun ⟨q, _, a, b⟩ => .inr ⟨q, a, b⟩)
            ((OvR.at (hlo ρ eval fun y hy => he y (by simp [ho, Op.operands, hy])) h13).elim (fun a => .inl ⟨a.2.1, a.2.2⟩) fun ⟨q, _, a, b⟩ => .inr ⟨q, a, b⟩) w
          unfold execOp
          rw [ho]
          simp only [Sem.run_bind, Instr.sliceAt, run_underlying hu, Result.andThen_ok, h16, Instr.slice, Sem.run_pure, hb, size_run h7, Option.map_some, add_eq]
      · rename_i e i n sl L hu
        obtain ⟨sz, h7, h8⟩ := get_ok h6
        split at h8
        · obtain ⟨l, h13, h14⟩ := get_ok h8
          obtain ⟨h15, h16⟩ := iff_no h14
          obtain rfl := Nat.eq_of_beq_eq_true h15
          refine Ex.plain h16 fun ρ w eval he => ?_
          obtain ⟨kb, cp, off, h17, h18, h18', h19, h20, h21⟩ := he x (by simp [ho, Op.operands]) _ h1
          have hb := bounds_run (P := P) true n cp 0 n cp (lo.map eval) (hi.map eval) (mx.map eval)
            (.inl ⟨(hmx ρ eval fun y hy => he y (by simp [ho, Op.operands, hy])).1 rfl, rfl⟩)
            (.inl ⟨(hhi ρ eval fun y hy => he y (by simp [ho, Op.operands, hy])).1 rfl, (hmx ρ eval fun y hy => he y (by simp [ho, Op.operands, hy])).1 rfl, rfl⟩)
            ((OvR.at (hlo ρ eval fun y hy => he y (by simp [ho, Op.operands, hy])) h13).elim (fun a => .inl ⟨a.2.1, rfl⟩) fun ⟨q, _, a, b⟩ => .inr ⟨q, a, Nat.zero_le _⟩) w
          refine ⟨.slice (some ⟨kb.b, kb.o + off, none⟩) n cp, ?_, kb, cp, off, h17, h18, h18', h19, h20, rfl⟩
          unfold execOp
          rw [ho]
          simp only [Sem.run_bind, Instr.sliceAt, run_underlying hu, Result.andThen_ok, h21, Instr.slice, Sem.run_pure, hb, size_run h7, Option.map_some, add_eq]
          simp
        · cases h8
      · rename_i e hu
        obtain ⟨sz, h7, h8⟩ := get_ok h6
        obtain ⟨m, h9, h10⟩ := get_ok h8
        obtain ⟨hh, h11, h12⟩ := get_ok h10
        obtain ⟨l, h13, h14⟩ := get_ok h12
        refine Ex.plain h14 fun ρ w eval he => ?_
        obtain ⟨a, cp, h16⟩ := he x (by simp [ho, Op.operands]) _ h1
        have q0 : hh = 0 ∧ l = 0 := by
          have e1 : hh = 0 := by rcases bound_ok h11 with ⟨_, h⟩ | ⟨_, _, h⟩ <;> omega
          have e2 : l = 0 := by rcases bound_ok h13 with ⟨_, h⟩ | ⟨_, _, h⟩ <;> omega
          exact ⟨e1, e2⟩
        obtain ⟨rfl, rfl⟩ := q0
        have hb := bounds_run (P := P) true 0 cp 0 0 (if vmx = none then cp else 0) (lo.map eval) (hi.map eval) (mx.map eval)
          ((OvR.at (hmx ρ eval fun y hy => he y (by simp [ho, Op.operands, hy])) h9).elim (fun a => .inl ⟨a.2.1, by rw [if_pos a.1]⟩) fun ⟨q, a, b, c⟩ => .inr ⟨q, by rw [b, show m = 0 by omega, if_neg (fun h => by rw [h] at a; cases a)], by split <;> omega⟩)
          ((OvR.at (hhi ρ eval fun y hy => he y (by simp [ho, Op.operands, hy])) h11).elim (fun a => .inl ⟨a.2.1, (hmx ρ eval fun y hy => he y (by simp [ho, Op.operands, hy])).1 (hno' a.1), rfl⟩) fun ⟨q, _, a, b⟩ => .inr ⟨q, a, Nat.zero_le _⟩)
          ((OvR.at (hlo ρ eval fun y hy => he y (by simp [ho, Op.operands, hy])) h13).elim (fun a => .inl ⟨a.2.1, rfl⟩) fun ⟨q, _, a, b⟩ => .inr ⟨q, a, Nat.le_refl _⟩) w
        generalize (if vmx = none then cp else 0) = mm at hb
        refine ⟨.slice (some (if mm = 0 then a else a.add (0 * sz))) 0 (mm - 0), ?_, _, _, rfl⟩
        unfold execOp
        rw [ho]
        simp only [Sem.run_bind, Instr.sliceAt, run_underlying hu, Result.andThen_ok, h16, Instr.slice, Sem.run_pure, hb, size_run h7, Option.map_some, Nat.sub_self]
        by_cases hmm : mm = 0
        · rw [if_pos hmm, if_pos hmm]
        · rw [if_neg hmm, if_neg hmm]
      · cases h6
end Go.Proofs.YtdldpehmcfbbeaaGreatDoor.Ev
