/- The evaluator's operations and the machine's: comparisons with nil, assertions, conversions. No condition. -/
import Derived.Test.YtdldpehmcfbbeaaGreatDoorEv9
namespace Go.Proofs.YtdldpehmcfbbeaaGreatDoor.Ev
variable {P : Program} {X : Ext} {G : Nat}
theorem xEq_ok {o : Oper} {op : BinOp} {t : TypeId} {x y : Operand} {t2 : TypeId} {a b : V} {T : LL} {H : Hp} {k : K1} (ho : o.op = .binOp op t x y t2) (h1 : ev G T x = some a) (h2 : ev G T y = some b) (h : xEq P G o op t a b T H k = .ok) : Ex P G o T H k := by
  unfold xEq at h
  rcases iff_ok h with ⟨h3, h4⟩ | ⟨_, h4⟩
  · have fin : ∀ r : Bool, k (.val (.bool r)) H 0 0 = .ok → (op = .eql ∧ r = false ∨ op = .neq ∧ r = true) → Ex P G o T H k := by
      intro r hk hop
      refine Ex.plain hk fun ρ w eval he => ⟨.bool r, ?_, rfl⟩
      have hx := he x (by simp [ho, Op.operands]) a h1
      have hy := he y (by simp [ho, Op.operands]) b h2
      have key : ∀ u v : Value, eval x = u → eval y = v → (∀ w, (eqGuard op t x y u v).run P w = .ok () w) → binOp .eql t u v = (Op.equal t u v >>= fun r => pure (.bool r)) → binOp .neq t u v = (Op.equal t u v >>= fun r => pure (.bool (!r))) → (Op.equalIn (9999 + 1) t u v).run P w = .ok false w → (execOp eval o).run P w = .ok (.value (.bool r)) w := by
        intro u v hu hv hg e1 e2 he
        unfold execOp
        rw [ho]
        simp only [Sem.run_bind, hu, hv, hg, Result.andThen_ok]
        rcases hop with ⟨rfl, rfl⟩ | ⟨rfl, rfl⟩
        · rw [eql_run e1 (equal_run he)]; rfl
        · rw [neq_run e2 (equal_run he)]; rfl
      unfold eqNil at h3
      split at h3
      · rename_i hu
        obtain ⟨kb, _, e⟩ := hy
        exact key _ _ hx e (fun w => by unfold eqGuard; cases op <;> rfl) rfl rfl (by rw [Op.equalIn]; simp [run_underlying hu])
      · rename_i hu
        obtain ⟨kb, _, e⟩ := hx
        exact key _ _ e hy (fun w => by unfold eqGuard; cases op <;> rfl) rfl rfl (by rw [Op.equalIn]; simp [run_underlying hu])
      · rename_i i off len c hu
        cases c <;> (first | (obtain ⟨kb, _, e⟩ := hy; exact key _ _ hx e (fun w => by unfold eqGuard; cases op <;> rfl) rfl rfl (by rw [Op.equalIn]; simp [run_underlying hu])) | (obtain ⟨kb, _, _, e⟩ := hy; exact key _ _ hx e (fun w => by unfold eqGuard; cases op <;> rfl) rfl rfl (by rw [Op.equalIn]; simp [run_underlying hu])))
      · rename_i i off len c hu
        cases c <;> (first | (obtain ⟨kb, _, e⟩ := hx; exact key _ _ e hy (fun w => by unfold eqGuard; cases op <;> rfl) rfl rfl (by rw [Op.equalIn]; simp [run_underlying hu])) | (obtain ⟨kb, _, _, e⟩ := hx; exact key _ _ e hy (fun w => by unfold eqGuard; cases op <;> rfl) rfl rfl (by rw [Op.equalIn]; simp [run_underlying hu])))
      · rename_i hu
        obtain ⟨_, _, e⟩ := hy
        exact key _ _ hx e (fun w => by unfold eqGuard; cases op <;> rfl) rfl rfl (by rw [Op.equalIn]; simp [run_underlying hu])
      · rename_i hu
        obtain ⟨_, _, e⟩ := hx
        exact key _ _ e hy (fun w => by unfold eqGuard; cases op <;> rfl) rfl rfl (by rw [Op.equalIn]; simp [run_underlying hu])
      · rename_i hu
        obtain ⟨kb, _, e⟩ := hy
        exact key _ _ hx e (fun w => by unfold eqGuard; cases op <;> rfl) rfl rfl (by rw [Op.equalIn]; simp [run_underlying hu])
      · rename_i hu
        obtain ⟨kb, _, e⟩ := hx
        exact key _ _ e hy (fun w => by unfold eqGuard; cases op <;> rfl) rfl rfl (by rw [Op.equalIn]; simp [run_underlying hu])
      · rename_i hu
        obtain ⟨_, _, e, _⟩ := hy
        exact key _ _ hx e (fun w => by unfold eqGuard; cases op <;> rfl) rfl rfl (by rw [Op.equalIn]; simp [run_underlying hu])
      · rename_i hu
        obtain ⟨_, _, e, _⟩ := hx
        exact key _ _ e hy (fun w => by unfold eqGuard; cases op <;> rfl) rfl rfl (by rw [Op.equalIn]; simp [run_underlying hu])
      · rename_i hu
        obtain ⟨_, e, _⟩ := hy
        exact key _ _ hx e (fun w => by unfold eqGuard; cases op <;> rfl) rfl rfl (by rw [Op.equalIn]; simp [run_underlying hu])
      · rename_i hu
        obtain ⟨_, e, _⟩ := hx
        exact key _ _ e hy (fun w => by unfold eqGuard; cases op <;> rfl) rfl rfl (by rw [Op.equalIn]; simp [run_underlying hu])
      · cases h3
    cases op with
    | eql => exact fin false h4 (.inl ⟨rfl, rfl⟩)
    | neq => exact fin true h4 (.inr ⟨rfl, rfl⟩)
    | _ => cases h4
  · exact plainOp_ok h4
theorem xAssert_ok {o : Oper} {x : Operand} {t0 t : TypeId} {ok : Bool} {T : LL} {H : Hp} {k : K1} (ho : o.op = .typeAssert x t0 t ok) (h : xAssertO x t0 t ok P X G o T H k = .ok) : Ex P G o T H k := by
  obtain ⟨v, h1, h2⟩ := get_ok h
  unfold xAssert at h2
  split at h2
  · rename_i s v want hu
    split at h2
    · rename_i i hi
      split at h2
      · rename_i hm
        refine Ex.plain h2 fun ρ w eval he => ?_
        obtain ⟨r, e, hr⟩ := he x (by simp [ho, Op.operands]) _ h1
        refine ⟨if ok then .tuple #[.iface s r, .bool true] else .iface s r, ?_, ?_⟩
        · unfold execOp
          rw [ho]
          simp [Instr.typeAssert, run_underlying hu, e, info_bytes hi, hm]
        · cases ok
          · exact ⟨r, rfl, hr⟩
          · exact ⟨_, rfl, _, _, rfl, ⟨r, rfl, hr⟩, _, _, rfl, rfl, rfl⟩
      · cases h2
    · cases h2
  · rename_i s v d hd hu
    rcases iff_ok h2 with ⟨h3, h4⟩ | ⟨h3, h4⟩
    · have e1 := Nat.eq_of_beq_eq_true h3
      subst e1
      refine Ex.plain h4 fun ρ w eval he => ?_
      obtain ⟨r, e, hr⟩ := he x (by simp [ho, Op.operands]) _ h1
      refine ⟨if ok then .tuple #[r, .bool true] else r, ?_, ?_⟩
      · unfold execOp
        rw [ho]
        simp only [Sem.run_bind, Instr.typeAssert, run_underlying hu, Result.andThen_ok, e]
        cases d <;> first | (exact (hd _ rfl).elim) | (simp)
      · cases ok
        · exact hr
        · exact ⟨_, rfl, _, _, rfl, hr, _, _, rfl, rfl, rfl⟩
    · have e1 := Nat.ne_of_beq_eq_false h3
      obtain ⟨h5, h6⟩ := iff_no h4
      subst h5
      obtain ⟨z, h7, h8⟩ := get_ok h6
      obtain ⟨zv, h9, h10, _⟩ := zero_run h7
      refine Ex.plain h8 fun ρ w eval he => ?_
      obtain ⟨r, e, hr⟩ := he x (by simp [ho, Op.operands]) _ h1
      refine ⟨.tuple #[zv, .bool false], ?_, _, rfl, _, _, rfl, h10 ρ, _, _, rfl, rfl, rfl⟩
      unfold execOp
      rw [ho]
      simp only [Sem.run_bind, Instr.typeAssert, run_underlying hu, Result.andThen_ok, e]
      cases d <;> first | (exact (hd _ rfl).elim) | (simp [e1, h9])
  · rename_i d hu
    obtain ⟨h5, h6⟩ := iff_no h2
    subst h5
    obtain ⟨z, h7, h8⟩ := get_ok h6
    obtain ⟨zv, h9, h10, _⟩ := zero_run h7
    refine Ex.plain h8 fun ρ w eval he => ?_
    have e := he x (by simp [ho, Op.operands]) _ h1
    refine ⟨.tuple #[zv, .bool false], ?_, _, rfl, _, _, rfl, h10 ρ, _, _, rfl, rfl, rfl⟩
    unfold execOp
    rw [ho]
    simp only [Sem.run_bind, Instr.typeAssert, run_underlying hu, Result.andThen_ok, show eval x = .nilIface from e]
    cases d <;> simp [h9]
  · cases h2
theorem toBytes_ok {ρ : Env} : ∀ (l : List V) (m : List UInt8) (rs : List Value), toBytes l = some m → VRs ρ l rs → ∃ ns : List Nat, rs = ns.map (fun n : Nat => Value.int .u8 (n : Int)) ∧ m = ns.map UInt8.ofNat
  | [], m, rs, h, hr => by
    simp only [toBytes, Option.some.injEq] at h
    subst h
    rw [VRs.nil hr]
    exact ⟨[], rfl, rfl⟩
  | v :: l, m, rs, h, hr => by
    obtain ⟨r, rs', rfl, hv, hr'⟩ := hr
    unfold toBytes at h
    split at h
    · rename_i h0; cases h0
    · rename_i b l' heq
      injection heq with e1 e2
      subst e1 e2
      obtain ⟨m', h1, rfl⟩ := Option.map_eq_some_iff.1 h
      obtain ⟨ns, h2, h3⟩ := toBytes_ok l m' rs' h1 hr'
      exact ⟨b :: ns, by rw [h2]; simp only [List.map_cons]; rw [show r = .int .u8 b from hv], by rw [h3]; rfl⟩
    · cases h
end Go.Proofs.YtdldpehmcfbbeaaGreatDoor.Ev
