/- The evaluator's operations and the machine's: parts put together, slices, comparisons, conversions. No condition. -/
import Derived.Test.YtdldpehmcfbbeaaGreatDoorEv7
namespace Go.Proofs.YtdldpehmcfbbeaaGreatDoor.Ev
variable {P : Program} {X : Ext} {G : Nat}
theorem places_run (fs : Array Field) (pl : List (Nat × Nat)) (h : placesT P fs = some pl) (w : World) : (fs.mapM fun f => do pure (f.offset, ← sizeOf f.type) : Sem (Array (Nat × Nat))).run P w = .ok pl.toArray w := by
  have key : ∀ (l : List Field) (pl : List (Nat × Nat)), (l.mapM fun f => (sizeT P f.type).map fun s => (f.offset, s)) = some pl → (l.mapM fun f => do pure (f.offset, ← sizeOf f.type) : Sem (List (Nat × Nat))).run P w = .ok pl w := by
    intro l
    induction l with
    | nil => intro pl h; simp at h; subst h; rfl
    | cons f l ih =>
      intro pl h
      rw [List.mapM_cons] at h
      cases h1 : sizeT P f.type with
      | none => rw [h1] at h; simp at h
      | some s =>
        cases h2 : (l.mapM fun f => (sizeT P f.type).map fun s => (f.offset, s)) with
        | none => rw [h1, h2] at h; simp at h
        | some m =>
          rw [h1, h2] at h
          simp at h
          subst h
          rw [List.mapM_cons]
          simp only [Sem.run_bind, size_run h1, Result.andThen_ok, Sem.run_pure, ih m h2]
  have := key fs.toList pl h
  rw [Array.mapM_eq_mapM_toList, Sem.run_map, this]
  rfl
theorem xBuild_ok {o : Oper} {t : TypeId} {ps : Array (Nat × Operand)} {T : LL} {H : Hp} {k : K1} (ho : o.op = .build t ps) (h : xBuildO t ps P X G o T H k = .ok) : Ex P G o T H k := by
  obtain ⟨l, h1, h2⟩ := get_ok h
  obtain ⟨z, h3, h4⟩ := get_ok h2
  obtain ⟨cs, h5, h6⟩ := get_ok h4
  obtain ⟨zv, h7, h8, _⟩ := zero_run h3
  refine Ex.plain h6 fun ρ w eval he => ?_
  have hps : (ps.map fun (i, x) => (i, eval x)).toList = ps.toList.map fun p => (p.1, eval p.2) := by simp
  unfold buildL at h5
  split at h5
  · rename_i fs hu
    obtain ⟨pl, h9, h10⟩ := opt_some h5
    obtain ⟨rout, h11, h12⟩ := fill_ok l _ _ zv.cells cs (evp_ok _ _ (fun p hp => he p.2 (by have := Array.mem_toList_iff.1 hp; simp only [ho, Op.operands, List.mem_toArray, List.mem_map]; exact ⟨p, by simpa using this, rfl⟩)) h1) (VR.cells (h8 ρ)) h10
    refine ⟨.agg rout, ?_, _, rfl, h12⟩
    unfold execOp
    rw [ho]
    have h13 : Instr.fill (fun x => pl.toArray[x]?) zv.cells (ps.toList.map fun p => (p.1, eval p.2)) = some rout := by
      rw [show (fun x => pl.toArray[x]?) = (fun x => pl[x]?) by funext x; simp]
      exact h11
    simp only [Instr.build, Sem.run_bind, h7, Result.andThen_ok, run_underlying hu, places_run fs pl h9, hps, h13]
    rfl
  · rename_i n e hu
    obtain ⟨sz, h9, h10⟩ := opt_some h5
    obtain ⟨rout, h11, h12⟩ := fill_ok l _ _ zv.cells cs (evp_ok _ _ (fun p hp => he p.2 (by have := Array.mem_toList_iff.1 hp; simp only [ho, Op.operands, List.mem_toArray, List.mem_map]; exact ⟨p, by simpa using this, rfl⟩)) h1) (VR.cells (h8 ρ)) h10
    refine ⟨.agg rout, ?_, _, rfl, h12⟩
    unfold execOp
    rw [ho]
    simp only [Instr.build, Sem.run_bind, h7, Result.andThen_ok, run_underlying hu, size_run h9, hps, h11]
    rfl
  · cases h5
theorem growT_ok {t e : TypeId} {sz by' : Nat} {z : V} (h : growT P t = some (e, sz, by', z)) : P.underlying t = some (.slice e) ∧ sizeT P e = some sz ∧ zeroT P e = some z ∧ ∃ i, P.info? e = some i ∧ i.bytes = by' := by
  unfold growT at h
  split at h
  · rename_i e' hu
    split at h
    · rename_i i hi
      split at h
      · rename_i z' hz
        simp only [Option.some.injEq, Prod.mk.injEq] at h
        obtain ⟨rfl, rfl, rfl, rfl⟩ := h
        exact ⟨hu, by simp [sizeT, hi], by simp only [zeroT, hi, Option.bind_some]; exact hz, i, hi, rfl⟩
      · cases h
    · cases h
  · cases h
theorem repL_len (z : List V) : ∀ n, (repL z n).length = n * z.length
  | 0 => by simp [repL]
  | n + 1 => by simp [repL, repL_len z n, Nat.succ_mul]; omega
theorem repL_at (z : List V) : ∀ (n i : Nat), i < n * z.length → (repL z n)[i]? = z[i % z.length]?
  | 0, i, h => by simp at h
  | n + 1, i, h => by
    rw [Nat.succ_mul] at h
    by_cases h1 : i < z.length
    · rw [repL, List.getElem?_append_left h1, Nat.mod_eq_of_lt h1]
    · rw [repL, List.getElem?_append_right (by omega), repL_at z n _ (by omega)]
      rw [Nat.mod_eq_sub_mod (a := i) (by omega)]
theorem fillL_len {place : Nat → Option (Nat × Nat)} : ∀ (l : List (Nat × V)) (cs out : List V), fillL place cs l = some out → out.length = cs.length
  | [], cs, out, h => by simp only [fillL, Option.some.injEq] at h; rw [h]
  | (i, v) :: l, cs, out, h => by
    simp only [fillL] at h
    cases hpl : place i with
    | none => rw [hpl] at h; cases h
    | some os =>
      obtain ⟨off, size⟩ := os
      rw [hpl] at h
      simp only at h
      cases hcond : (Nat.beq v.cells.length size && Nat.ble (off + v.cells.length) cs.length) with
      | false => rw [hcond] at h; cases h
      | true =>
        rw [hcond] at h
        simp only [cond_true] at h
        simp only [Bool.and_eq_true] at hcond
        have e2 : off + v.cells.length ≤ cs.length := Nat.le_of_ble_eq_true hcond.2
        rw [fillL_len l _ _ h]
        simp
        omega
theorem xBuildSlice_ok {o : Oper} {t : TypeId} {len : Nat} {ps : Array (Nat × Operand)} {T : LL} {H : Hp} {k : K1} (ho : o.op = .buildSlice t len ps) (h : xBuildSliceO t len ps P X G o T H k = .ok) : Ex P G o T H k := by
  obtain ⟨l, h1, h2⟩ := get_ok h
  obtain ⟨⟨e, sz, by', z⟩, h3, h4⟩ := get_ok h2
  obtain ⟨hu, hsz, hz, _⟩ := growT_ok h3
  obtain ⟨zv, h7, h8, _⟩ := zero_run hz
  obtain ⟨h9, h10⟩ := iff_no h4
  simp only [Bool.and_eq_true] at h9
  have hb : len * sz ≤ 16384 := Nat.le_of_ble_eq_true h9.1
  have hzl : z.cells.length = sz := Nat.eq_of_beq_eq_true h9.2
  obtain ⟨cs, h11, h12⟩ := get_ok h10
  rw [nat_eq] at h12
  refine Ex.new h12 (by omega) fun ρ w eval he => ?_
  have hzc := VR.cells (h8 ρ)
  have hzcl := hzc.length
  simp only [Array.length_toList] at hzcl
  have hbase : ∀ zr : Array Value, (len * sz = 0 → zr = #[]) → (len * sz ≠ 0 → zr = zv.cells) → VRs ρ (repL z.cells len) ((Array.range (len * sz)).map (zr[· % zr.size]!)).toList := by
    intro zr e1 e2
    refine VRs.of_at (by simp [repL_len, hzl]) fun i v hv => ?_
    have hi : i < len * sz := by
      rcases Nat.lt_or_ge i (len * sz) with hi | hi
      · exact hi
      · rw [List.getElem?_eq_none (by rw [repL_len, hzl]; exact hi)] at hv; cases hv
    have e3 := e2 (by omega)
    subst e3
    rw [repL_at _ _ _ (by rw [hzl]; exact hi)] at hv
    obtain ⟨r, h13, h14⟩ := hzc.at hv
    refine ⟨r, ?_, h14⟩
    have h15 : zv.cells[i % zv.cells.size]? = some r := by rw [← Array.getElem?_toList, hzcl]; exact h13
    simp only [Array.toList_map, List.getElem?_map, Array.getElem?_toList]
    rw [Array.getElem?_eq_getElem (by simpa using hi)]
    simp [getElem!_def, h15]
  have hps : (ps.map fun (i, x) => (i, eval x)).toList = ps.toList.map fun p => (p.1, eval p.2) := by simp
  obtain ⟨rout, hrun, hro⟩ : ∃ rout : Array Value, (execOp eval o).run P w = .ok (.value (.slice (some ⟨w.heap.size, 0, none⟩) len len)) (pushW w (.cells rout e)) ∧ VRs ρ cs rout.toList := by
    by_cases h0 : len * sz = 0
    · obtain ⟨rout, h13, h14⟩ := fill_ok l _ _ _ cs (evp_ok _ _ (fun p hp => he p.2 (by have := Array.mem_toList_iff.1 hp; simp only [ho, Op.operands, List.mem_toArray, List.mem_map]; exact ⟨p, by simpa using this, rfl⟩)) h1) (hbase #[] (fun _ => rfl) (fun h => (h h0).elim)) h11
      refine ⟨rout, ?_, h14⟩
      unfold execOp
      rw [ho]
      simp only [Instr.buildSlice, Sem.run_bind, run_underlying hu, Result.andThen_ok, size_run hsz]
      rw [if_neg (by omega), if_pos h0]
      simp only [Sem.run_pure, Result.andThen_ok, hps, h13, newRow, newObj, Sem.run_bind, Sem.run]
      rfl
    · obtain ⟨rout, h13, h14⟩ := fill_ok l _ _ _ cs (evp_ok _ _ (fun p hp => he p.2 (by have := Array.mem_toList_iff.1 hp; simp only [ho, Op.operands, List.mem_toArray, List.mem_map]; exact ⟨p, by simpa using this, rfl⟩)) h1) (hbase zv.cells (fun h => (h0 h).elim) (fun _ => rfl)) h11
      refine ⟨rout, ?_, h14⟩
      unfold execOp
      rw [ho]
      simp only [Instr.buildSlice, Sem.run_bind, run_underlying hu, Result.andThen_ok, size_run hsz]
      rw [if_neg (by omega), if_neg h0]
      simp only [Sem.run_bind, h7, Sem.run_pure, Result.andThen_ok, hps, h13, newRow, newObj, Sem.run]
      rfl
  have hcl : cs.length = len * sz := by
    have h14 := fillL_len _ _ _ h11
    rw [h14, repL_len, hzl]
  refine ⟨rout, _, hrun, ?_, fun i v hi hv => ?_, fun ρ' hρ => ⟨_, hρ, rfl⟩⟩
  · have := hro.length
    simp at this
    omega
  · rw [rget_no, write_get _ _ _ _ (by omega)] at hv
    split at hv
    · obtain ⟨r, h15, h16⟩ := hro.at hv
      exact ⟨r, by rw [← Array.getElem?_toList]; simpa using h15, h16⟩
    · rw [get_nil] at hv; cases hv
theorem info_bytes {e : TypeId} {i : TypeInfo} (h : P.info? e = some i) (w : World) : (typeInfo e).run P w = .ok i w := by simp [typeInfo, h]
theorem xMakeSlice_ok {o : Oper} {t : TypeId} {x y : Operand} {T : LL} {H : Hp} {k : K1} (ho : o.op = .makeSlice t x y) (h : xMakeSliceO t x y P X G o T H k = .ok) : Ex P G o T H k := by
  obtain ⟨a, h1, h2⟩ := get_ok h
  obtain ⟨b, h3, h4⟩ := get_ok h2
  unfold xMakeSlice at h4
  split at h4
  · rename_i l c
    obtain ⟨⟨e, sz, by', z0⟩, h5, h6⟩ := get_ok h4
    obtain ⟨per, h7, h8⟩ := get_ok h6
    obtain ⟨hu, hsz, _, i, hi, hby⟩ := growT_ok h5
    obtain ⟨z, h9, h10, h11⟩ := perT_ok h7
    obtain ⟨zv, h12, h13, _⟩ := zero_run h9
    obtain ⟨h14, h15⟩ := iff_no h8
    simp only [Bool.and_eq_true] at h14
    obtain ⟨⟨⟨⟨h16, h17⟩, h18⟩, h19⟩, h20⟩ := h14
    have k1 : l ≤ c := Nat.le_of_ble_eq_true h16
    have k2 : c * by' ≤ 1073741824 := Nat.le_of_ble_eq_true h17
    have k3 : c ≤ 1073741824 := Nat.le_of_ble_eq_true h18
    have k4 : per.m = sz := Nat.eq_of_beq_eq_true h19
    have k5 : 1 ≤ sz := Nat.le_of_ble_eq_true h20
    rw [nat_eq] at h15
    obtain ⟨h21, h22⟩ := iff_no h15
    have hb := small_le h21
    refine Ex.new h22 hb fun ρ w eval he => ?_
    have hx : eval x = .int .i64 l := he x (by simp [ho, Op.operands]) _ h1
    have hy : eval y = .int .i64 c := he y (by simp [ho, Op.operands]) _ h3
    have hzl := (VR.cells (h13 ρ)).length
    simp only [Array.length_toList] at hzl
    have w1 : IntKind.i64.wrap (l : Int) = l := wrap_lim .i64 l (by simp only [limK]; omega)
    have w2 : IntKind.i64.wrap (c : Int) = c := wrap_lim .i64 c (by simp only [limK]; omega)
    refine ⟨(Array.range (c * sz)).map ((if c * sz = 0 then #[] else zv.cells)[· % (if c * sz = 0 then (#[] : Array Value) else zv.cells).size]!), _, ?_, by simp, fun j v hj hv => ?_, fun ρ' hρ => ⟨_, hρ, rfl⟩⟩
    · unfold execOp
      rw [ho]
      have t1 : ¬ (c : Int) < 0 := by omega
      have t2 : ¬ ((i.bytes : Int) * (c : Int) > 2 ^ 48) := by
        have e : (2 : Int) ^ 48 = 281474976710656 := by decide
        rw [hby, ← Int.natCast_mul, e, Nat.mul_comm]
        omega
      have t3 : ¬ (l : Int) < 0 := by omega
      have t4 : ¬ (l : Int) > (c : Int) := by omega
      have t5 : ¬ c * i.bytes > roomBytes := by rw [hby]; simp only [roomBytes]; omega
      simp only [Sem.run_bind, Instr.makeSlice, run_underlying hu, Result.andThen_ok, hx, hy, asInt, asIntOf, Sem.run_pure, info_bytes hi, w1, w2]
      simp only [t1, t2, t3, t4, decide_false, Bool.or_self, Bool.false_eq_true, if_false, Int.toNat_natCast]
      simp only [Sem.run_bind, askRoom, t5, if_false, Sem.run_pure, Result.andThen_ok, size_run hsz]
      by_cases h0 : c * sz = 0
      · simp only [if_pos h0, Sem.run_bind, Sem.run_pure, Result.andThen_ok, newRow, newObj, Sem.run]
        rfl
      · simp only [if_neg h0, Sem.run_bind, Sem.run_pure, h12, Result.andThen_ok, newRow, newObj, Sem.run]
        rfl
    · have hj0 : c * sz ≠ 0 := by omega
      obtain ⟨r, h23, h24⟩ := per_at h10 h11 (h13 ρ) (by
        have : 1 ≤ c := by rcases Nat.eq_zero_or_pos c with h | h; (rw [h] at hj0; simp at hj0); exact h
        have : sz ≤ c * sz := Nat.le_mul_of_pos_left sz this
        omega) hv
      refine ⟨r, ?_, h24⟩
      rw [Array.getElem?_map, Array.getElem?_eq_getElem (by simpa using hj)]
      simp only [Array.getElem_range, Option.map_some, hj0, if_false]
      rw [h10, ← hzl] at h23
      rw [getElem!_def, h23]
  · cases h4
end Go.Proofs.YtdldpehmcfbbeaaGreatDoor.Ev
