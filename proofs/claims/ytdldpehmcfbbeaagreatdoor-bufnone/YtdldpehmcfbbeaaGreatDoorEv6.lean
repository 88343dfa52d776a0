/- The evaluator's operations and the machine's: numbers, places, parts. No condition. -/
import Derived.Test.YtdldpehmcfbbeaaGreatDoorEv5
namespace Go.Proofs.YtdldpehmcfbbeaaGreatDoor.Ev
variable {P : Program} {X : Ext} {G : Nat}
theorem wrap_lim (q : IntKind) (n : Nat) (h : n ≤ limK q) : q.wrap (n : Int) = n := by
  cases q <;> simp only [limK] at h <;> simp [IntKind.wrap, IntKind.bits, IntKind.signed] <;> omega
theorem intLt_eq (a b : Int) : intLt a b = decide (a < b) := by
  cases a <;> cases b <;> rename_i m n <;> unfold intLt <;> rw [Bool.eq_iff_iff] <;> simp only [Nat.ble_eq, decide_eq_true_eq]
  · constructor <;> intro h <;> (simp only [Int.ofNat_eq_natCast] at *; omega)
  · constructor <;> intro h
    · cases h
    · simp only [Int.ofNat_eq_natCast] at h; omega
  · constructor <;> intro h
    · simp only [Int.ofNat_eq_natCast]; omega
    · trivial
  · constructor <;> intro h <;> omega
theorem intEq_eq (a b : Int) : intEq a b = (a == b) := by
  cases a <;> cases b <;> rename_i m n <;> unfold intEq <;> rw [Bool.eq_iff_iff] <;> simp only [Nat.beq_eq, beq_iff_eq]
  · constructor <;> intro h
    · rw [h]
    · injection h
  · constructor <;> intro h <;> cases h
  · constructor <;> intro h <;> cases h
  · constructor <;> intro h
    · rw [h]
    · injection h with h; exact h.symm
theorem kind_eq {q q' : IntKind} (h : sameKind q q' = true) : q = q' := by
  have h1 := Nat.eq_of_beq_eq_true h
  revert h1
  cases q <;> cases q' <;> first | (intro _; rfl) | (intro h; exact absurd h (by decide))
theorem yes_ok {b : Bool} {H : Hp} {m : Nat} {k : K1} (h : yes b H m k = .ok) : k (.val (.bool b)) H m 0 = .ok := by
  cases b
  · exact h
  · exact h
theorem bin_run {o : Oper} {op : BinOp} {t : TypeId} {x y : Operand} {t2 : TypeId} (ho : o.op = .binOp op t x y t2) {q : IntKind} {a b : Int} {eval : Operand → Value} (hx : eval x = .int q a) (hy : eval y = .int q b) (w : World) :
    (execOp eval o).run P w = ((binOp op t (.int q a) (.int q b)).run P w).andThen fun v w' => .ok (.value v) w' := by
  unfold execOp
  rw [ho]
  have hg : (eqGuard op t x y (.int q a) (.int q b)).run P w = .ok () w := by
    unfold eqGuard
    cases op <;> rfl
  simp only [Sem.run_bind, hx, hy, hg, Result.andThen_ok]
  rfl
theorem notLt (a b : Int) : (!(intLt b a)) = decide (a ≤ b) := by
  rw [intLt_eq, Bool.eq_iff_iff]
  simp
theorem equal_run {t : TypeId} {x y : Value} {w : World} {r : Bool} (h : (Op.equalIn (9999 + 1) t x y).run P w = .ok r w) : (Op.equal t x y).run P w = .ok r w := h
theorem eql_run {t : TypeId} {x y : Value} {w : World} {r : Bool} (hb : binOp .eql t x y = (Op.equal t x y >>= fun r => pure (.bool r))) (h : (Op.equal t x y).run P w = .ok r w) : (binOp .eql t x y).run P w = .ok (.bool r) w := by
  rw [hb, Sem.run_bind, h]; rfl
theorem neq_run {t : TypeId} {x y : Value} {w : World} {r : Bool} (hb : binOp .neq t x y = (Op.equal t x y >>= fun r => pure (.bool (!r)))) (h : (Op.equal t x y).run P w = .ok r w) : (binOp .neq t x y).run P w = .ok (.bool (!r)) w := by
  rw [hb, Sem.run_bind, h]; rfl
theorem xBin_ok {o : Oper} {op : BinOp} {t : TypeId} {x y : Operand} {t2 : TypeId} {T : LL} {H : Hp} {k : K1} (ho : o.op = .binOp op t x y t2) (heq : ∀ a b, ev G T x = some a → ev G T y = some b → xEq P G o op t a b T H k = .ok → Ex P G o T H k) (h : xBinO op t x y t2 P X G o T H k = .ok) : Ex P G o T H k := by
  obtain ⟨a, h1, h2⟩ := get_ok h
  obtain ⟨b, h3, h4⟩ := get_ok h2
  unfold xBin at h4
  split at h4
  · rename_i q m
    split at h4
    · rename_i q' n
      rcases iff_ok h4 with ⟨hq, h5⟩ | ⟨_, h5⟩
      · have e := kind_eq hq
        subst e
        have cmp : ∀ c : Bool, k (.val (.bool c)) H 0 0 = .ok → (∀ w, (binOp op t (.int q m) (.int q n)).run P w = .ok (.bool c) w) → Ex P G o T H k := by
          intro c hk hc
          refine Ex.plain hk fun ρ w eval he => ⟨.bool c, ?_, rfl⟩
          rw [bin_run ho (he x (by simp [ho, Op.operands]) _ h1) (he y (by simp [ho, Op.operands]) _ h3), hc]
          rfl
        have num : ∀ c : Nat, k (.val (.int q (.ofNat c))) H 0 0 = .ok → (∀ w, (binOp op t (.int q m) (.int q n)).run P w = .ok (.int q c) w) → Ex P G o T H k := by
          intro c hk hc
          refine Ex.plain hk fun ρ w eval he => ⟨.int q c, ?_, rfl⟩
          rw [bin_run ho (he x (by simp [ho, Op.operands]) _ h1) (he y (by simp [ho, Op.operands]) _ h3), hc]
          rfl
        have fit : ∀ c : Nat, fits P G o q c T H k = .ok → (c ≤ limK q → ∀ w, (binOp op t (.int q m) (.int q n)).run P w = .ok (.int q c) w) → Ex P G o T H k := by
          intro c hk hc
          unfold fits at hk
          rw [nat_eq] at hk
          rcases iff_ok hk with ⟨h6, h7⟩ | ⟨_, h7⟩
          · exact num c h7 (hc (Nat.le_of_ble_eq_true h6))
          · exact plainOp_ok h7
        cases op with
        | eql => exact cmp _ (yes_ok h5) fun w => by simp [binOp, Op.intCmp, intEq_eq]
        | neq => exact cmp _ (yes_ok h5) fun w => by simp [binOp, Op.intCmp, intEq_eq, bne]
        | lss => exact cmp _ (yes_ok h5) fun w => by simp [binOp, Op.intCmp, intLt_eq]
        | leq => exact cmp _ (yes_ok h5) fun w => by rw [notLt]; simp [binOp, Op.intCmp]
        | gtr => exact cmp _ (yes_ok h5) fun w => by simp [binOp, Op.intCmp, intLt_eq]
        | geq => exact cmp _ (yes_ok h5) fun w => by rw [notLt]; simp [binOp, Op.intCmp]
        | add =>
          cases m with
          | ofNat m =>
            cases n with
            | ofNat n =>
              refine fit (m + n) h5 fun hl w => ?_
              have := wrap_lim q (m + n) hl
              simp only [binOp, Op.intArith, Int.ofNat_eq_natCast]
              simp
              rw [← Int.natCast_add, this]
            | negSucc n => exact plainOp_ok h5
          | negSucc m => exact plainOp_ok h5
        | sub =>
          cases m with
          | ofNat m =>
            cases n with
            | ofNat n =>
              rcases iff_ok h5 with ⟨h6, h7⟩ | ⟨_, h7⟩
              · have hle := Nat.le_of_ble_eq_true h6
                refine fit (m - n) h7 fun hl w => ?_
                have := wrap_lim q (m - n) hl
                simp only [binOp, Op.intArith, Int.ofNat_eq_natCast]
                simp
                rw [← Int.natCast_sub hle, this]
              · exact plainOp_ok h7
            | negSucc n => exact plainOp_ok h5
          | negSucc m => exact plainOp_ok h5
        | mul =>
          cases m with
          | ofNat m =>
            cases n with
            | ofNat n =>
              refine fit (m * n) h5 fun hl w => ?_
              have := wrap_lim q (m * n) hl
              simp only [binOp, Op.intArith, Int.ofNat_eq_natCast]
              simp
              rw [← Int.natCast_mul, this]
            | negSucc n => exact plainOp_ok h5
          | negSucc m => exact plainOp_ok h5
        | quo =>
          cases m with
          | ofNat m =>
            cases n with
            | ofNat n =>
              rcases iff_ok h5 with ⟨_, h7⟩ | ⟨h6, h7⟩
              · cases h7
              · have hn : n ≠ 0 := Nat.ne_of_beq_eq_false h6
                refine fit (m / n) h7 fun hl w => ?_
                have := wrap_lim q (m / n) hl
                simp only [binOp, Op.intDiv, Int.ofNat_eq_natCast]
                simp [hn]
                rw [← Int.natCast_ediv, this]
            | negSucc n => exact plainOp_ok h5
          | negSucc m => exact plainOp_ok h5
        | rem =>
          cases m with
          | ofNat m =>
            cases n with
            | ofNat n =>
              rcases iff_ok h5 with ⟨_, h7⟩ | ⟨h6, h7⟩
              · cases h7
              · have hn : n ≠ 0 := Nat.ne_of_beq_eq_false h6
                refine fit (m % n) h7 fun hl w => ?_
                simp only [binOp, Op.intDiv, Int.ofNat_eq_natCast]
                simp [hn]
                exact Int.tmod_eq_emod_of_nonneg (by omega)
            | negSucc n => exact plainOp_ok h5
          | negSucc m => exact plainOp_ok h5
        | _ => cases m <;> cases n <;> exact plainOp_ok h5
      · exact plainOp_ok h5
    · cases h4
  · rename_i a
    split at h4
    · rename_i b
      have cmp : ∀ c : Bool, k (.val (.bool c)) H 0 0 = .ok → (op = .eql ∧ c = (a == b) ∨ op = .neq ∧ c = (a != b)) → P.underlying t = some .bool → Ex P G o T H k := by
        intro c hk hc hu
        refine Ex.plain hk fun ρ w eval he => ⟨.bool c, ?_, rfl⟩
        have hx : eval x = .bool a := he x (by simp [ho, Op.operands]) _ h1
        have hy : eval y = .bool b := he y (by simp [ho, Op.operands]) _ h3
        unfold execOp
        rw [ho]
        have hg : (eqGuard op t x y (.bool a) (.bool b)).run P w = .ok () w := by
          unfold eqGuard
          cases op <;> rfl
        have hee : (Op.equal t (.bool a) (.bool b)).run P w = .ok (a == b) w := equal_run (by rw [Op.equalIn]; simp [run_underlying hu])
        simp only [Sem.run_bind, hx, hy, hg, Result.andThen_ok]
        rcases hc with ⟨rfl, rfl⟩ | ⟨rfl, rfl⟩
        · rw [eql_run rfl hee]; rfl
        · rw [neq_run rfl hee]; rfl
      unfold xBools at h4
      split at h4
      · obtain ⟨hu, h5⟩ := iff_no h4
        refine cmp _ (yes_ok h5) (.inl ⟨rfl, ?_⟩) ?_
        · cases a <;> cases b <;> rfl
        · unfold isBoolT at hu; split at hu <;> first | assumption | cases hu
      · obtain ⟨hu, h5⟩ := iff_no h4
        refine cmp _ (yes_ok h5) (.inr ⟨rfl, ?_⟩) ?_
        · cases a <;> cases b <;> rfl
        · unfold isBoolT at hu; split at hu <;> first | assumption | cases hu
      · exact plainOp_ok h4
    · cases h4
  · exact plainOp_ok h4
  · exact heq _ _ h1 h3 h4
theorem xUn_ok {o : Oper} {op : UnOp} {t : TypeId} {x : Operand} {T : LL} {H : Hp} {k : K1} (ho : o.op = .unOp op t x) (h : xUnO op t x P X G o T H k = .ok) : Ex P G o T H k := by
  obtain ⟨a, h1, h2⟩ := get_ok h
  unfold xUn at h2
  split at h2
  · rename_i b
    refine Ex.plain (yes_ok h2) fun ρ w eval he => ⟨.bool (!b), ?_, rfl⟩
    have hx : eval x = .bool b := he x (by simp [ho, Op.operands]) _ h1
    unfold execOp
    rw [ho]
    simp [hx, Op.unary]
  · exact plainOp_ok h2
theorem xField_ok {o : Oper} {s : TypeId} {x : Operand} {f : Nat} {T : LL} {H : Hp} {k : K1} (ho : o.op = .fieldAddr s x f) (h : xFieldAddrO s x f P X G o T H k = .ok) : Ex P G o T H k := by
  obtain ⟨a, h1, h2⟩ := get_ok h
  unfold xField at h2
  split at h2
  · rename_i i off
    split at h2
    · rename_i fs hu
      obtain ⟨fd, h3, h4⟩ := get_ok h2
      obtain ⟨sz, h5, h6⟩ := get_ok h4
      cases sz with
      | zero => cases h6
      | succ sz =>
        rw [nat_eq] at h6
        refine Ex.plain h6 fun ρ w eval he => ?_
        obtain ⟨kb, h7, h8⟩ := he x (by simp [ho, Op.operands]) _ h1
        refine ⟨_, ?_, kb, h7, rfl⟩
        unfold execOp
        rw [ho]
        simp [h8, Instr.fieldAt, Instr.sureAddr, run_underlying hu, h3, fieldPlace, size_run h5, add_eq, Nat.add_assoc]
    · cases h2
  · cases h2
theorem part_run {t : TypeId} {l : List V} {off : Nat} {v : V} {ρ : Env} {a : Array Value} (h : partT P t l off = some v) (ha : VRs ρ l a.toList) (w : World) : ∃ r, (part t a off).run P w = .ok r w ∧ VR ρ v r := by
  obtain ⟨g, h1, h2⟩ := opt_some h
  rw [iff_eq] at h2
  cases g with
  | true =>
    simp only [if_true] at h2
    obtain ⟨s, h3, h4⟩ := opt_some h2
    injection h4 with h4
    subst h4
    refine ⟨.agg (a.extract off (off + s)), ?_, _, rfl, ?_⟩
    · simp [part, isAgg_run h1, size_run h3]
    · have := (ha.take (off + s)).drop off
      simpa [Array.toList_extract, List.extract_eq_take_drop, List.drop_take] using this
  | false =>
    simp only [Bool.false_eq_true, if_false] at h2
    obtain ⟨r, h3, h4⟩ := ha.at h2
    refine ⟨r, ?_, h4⟩
    have h5 : a[off]? = some r := by rw [← Array.getElem?_toList]; exact h3
    simp [part, isAgg_run h1, h5]
theorem xFieldV_ok {o : Oper} {s : TypeId} {x : Operand} {f : Nat} {T : LL} {H : Hp} {k : K1} (ho : o.op = .field s x f) (h : xFieldO s x f P X G o T H k = .ok) : Ex P G o T H k := by
  obtain ⟨a, h1, h2⟩ := get_ok h
  unfold xFieldV at h2
  split at h2
  · rename_i l
    split at h2
    · rename_i fs hu
      obtain ⟨fd, h3, h4⟩ := get_ok h2
      obtain ⟨v, h5, h6⟩ := get_ok h4
      refine Ex.plain h6 fun ρ w eval he => ?_
      obtain ⟨a, h7, h8⟩ := he x (by simp [ho, Op.operands]) _ h1
      obtain ⟨r, h9, h10⟩ := part_run h5 h8 w
      refine ⟨r, ?_, h10⟩
      unfold execOp
      rw [ho]
      simp [h7, Instr.field, run_underlying hu, h3, asAgg, h9]
    · cases h2
  · cases h2
theorem xIndex_ok {o : Oper} {t : TypeId} {x y : Operand} {T : LL} {H : Hp} {k : K1} (ho : o.op = .index t x y) (h : xIndexO t x y P X G o T H k = .ok) : Ex P G o T H k := by
  obtain ⟨a, h1, h2⟩ := get_ok h
  obtain ⟨b, h3, h4⟩ := get_ok h2
  unfold xIndex at h4
  split at h4
  · rename_i s q j
    split at h4
    · rename_i hu
      obtain ⟨c, h5, h6⟩ := get_ok h4
      rw [nat_eq] at h6
      refine Ex.plain h6 fun ρ w eval he => ⟨.int .u8 c.toNat, ?_, rfl⟩
      have hx : eval x = .string ⟨s.toArray⟩ := he x (by simp [ho, Op.operands]) _ h1
      have hy : eval y = .int q j := he y (by simp [ho, Op.operands]) _ h3
      unfold execOp
      rw [ho]
      have h7 : (⟨s.toArray⟩ : ByteArray)[j]? = some c := by
        rw [show (⟨s.toArray⟩ : ByteArray)[j]? = s.toArray[j]? by
          simp only [getElem?_def]
          rfl]
        simpa using h5
      simp [hx, hy, Instr.index, asIntOf, run_underlying hu, h7]
    · cases h4
  · rename_i l q j
    split at h4
    · rename_i n elem hu
      obtain ⟨hj, h5⟩ := iff_no h4
      have hj : j < n := Nat.le_of_ble_eq_true hj
      obtain ⟨sz, h6, h7⟩ := get_ok h5
      rw [nat_eq] at h7
      obtain ⟨v, h8, h9⟩ := get_ok h7
      refine Ex.plain h9 fun ρ w eval he => ?_
      obtain ⟨a, h10, h11⟩ := he x (by simp [ho, Op.operands]) _ h1
      have hy : eval y = .int q j := he y (by simp [ho, Op.operands]) _ h3
      obtain ⟨r, h12, h13⟩ := part_run h8 h11 w
      refine ⟨r, ?_, h13⟩
      unfold execOp
      rw [ho]
      simp [h10, hy, Instr.index, asIntOf, run_underlying hu, hj, size_run h6, h12]
    · cases h4
  · exact plainOp_ok h4
theorem xIndexAddr_ok {o : Oper} {t : TypeId} {x y : Operand} {T : LL} {H : Hp} {k : K1} (ho : o.op = .indexAddr t x y) (h : xIndexAddrO t x y P X G o T H k = .ok) : Ex P G o T H k := by
  obtain ⟨a, h1, h2⟩ := get_ok h
  obtain ⟨b, h3, h4⟩ := get_ok h2
  unfold xIndexAddr at h4
  split at h4
  · rename_i q j
    split at h4
    · rename_i i off
      split at h4
      · rename_i n e hu
        obtain ⟨sz, h5, h6⟩ := get_ok h4
        obtain ⟨h7, h8⟩ := iff_no h6
        rw [nat_eq] at h8
        have hj : j < n := Nat.le_of_ble_eq_true h7
        refine Ex.plain h8 fun ρ w eval he => ?_
        obtain ⟨kb, h9, h10⟩ := he x (by simp [ho, Op.operands]) _ h1
        have hy : eval y = .int q j := he y (by simp [ho, Op.operands]) _ h3
        refine ⟨_, ?_, kb, h9, rfl⟩
        unfold execOp
        rw [ho]
        simp [h10, hy, Instr.indexAt, Instr.sureAddr, asIntOf, run_underlying hu, size_run h5, add_eq, Nat.add_assoc, hj]
      · cases h4
    · rename_i i off n c
      split at h4
      · rename_i e hu
        obtain ⟨sz, h5, h6⟩ := get_ok h4
        obtain ⟨h7, h8⟩ := iff_no h6
        rw [nat_eq] at h8
        have hj : j < n := Nat.le_of_ble_eq_true h7
        refine Ex.plain h8 fun ρ w eval he => ?_
        have hy : eval y = .int q j := he y (by simp [ho, Op.operands]) _ h3
        obtain ⟨kb, cc, h9, h10⟩ : ∃ kb cc, ρ i = some kb ∧ eval x = .slice (some ⟨kb.b, kb.o + off, none⟩) n cc := by
          cases c with
          | k c => obtain ⟨kb, h9, h10⟩ := he x (by simp [ho, Op.operands]) _ h1; exact ⟨kb, _, h9, h10⟩
          | g s => obtain ⟨kb, h9, _, h10⟩ := he x (by simp [ho, Op.operands]) _ h1; exact ⟨kb, _, h9, h10⟩
        refine ⟨_, ?_, kb, h9, rfl⟩
        unfold execOp
        rw [ho]
        simp [h10, hy, Instr.indexAt, asIntOf, run_underlying hu, size_run h5, add_eq, Nat.add_assoc, hj]
      · cases h4
    · cases h4
  · cases h4
end Go.Proofs.YtdldpehmcfbbeaaGreatDoor.Ev
