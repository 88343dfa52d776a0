/- The evaluator's operations and the machine's: memory made. No condition. -/
import Derived.Test.YtdldpehmcfbbeaaGreatDoorEv6
namespace Go.Proofs.YtdldpehmcfbbeaaGreatDoor.Ev
variable {P : Program} {X : Ext} {G : Nat}
def pushW (w : World) (ob : Obj) : World := { w with heap := w.heap.push ob }
theorem VRs.of_at {ρ : Env} : ∀ {l : List V} {rs : List Value}, rs.length = l.length → (∀ (i : Nat) v, l[i]? = some v → ∃ r, rs[i]? = some r ∧ VR ρ v r) → VRs ρ l rs
  | [], rs, h, _ => by cases rs with | nil => rfl | cons _ _ => cases h
  | v :: l, [], h, _ => by cases h
  | v :: l, r :: rs, h, ha => by
    obtain ⟨r', h1, h2⟩ := ha 0 v rfl
    simp at h1
    subst h1
    refine ⟨r, rs, rfl, h2, VRs.of_at (by simpa using h) fun i u hu => ?_⟩
    obtain ⟨r', h3, h4⟩ := ha (i + 1) u (by simpa using hu)
    exact ⟨r', by simpa using h3, h4⟩
/-- A row is made. -/
theorem Ex.new {o : Oper} {T : LL} {H : Hp} {k : K1} {e : TypeId} {sz n : Nat} {per : Per} {tr : Tr V} {f : Nat → V} (hk : newRowR H (.row e sz n per tr false) f k = .ok) (hn : n ≤ 549755813887)
    (h : ∀ (ρ : Env) (w : World) (eval : Operand → Value), EvR G ρ T o eval → ∃ (c : Array Value) (r : Value), (execOp eval o).run P w = .ok (.value r) (pushW w (.cells c e)) ∧ c.size = n ∧ (∀ i v, i < n → rget per tr i = some v → ∃ r, c[i]? = some r ∧ VR ρ v r) ∧
      ∀ ρ' : Env, ρ' H.next = some ⟨w.heap.size, 0, 0⟩ → VR ρ' (f H.next) r) : Ex P G o T H k := by
  unfold newRowR at hk
  rw [nat_eq, nat_eq] at hk
  refine ⟨_, _, _, _, hk, (by first | exact Pu.refl _ _ | exact Pu.made _ _ | exact Pu.move _ _ _ | exact Pu.put h5 | exact Pu.put h9), fun R ρ w eval he hs _ hf hG => ?_⟩
  obtain ⟨c, r, h1, h2, h3, h4⟩ := h ρ w eval he
  have hfr : ρ H.next = none := hf _ (Nat.le_refl _) (by rw [hp_new]; exact Nat.lt_succ_self _)
  refine ⟨_, _, ρ.upd H.next ⟨w.heap.size, 0, 0⟩, h1, .inl ⟨r, rfl, h4 _ Env.upd_at⟩, ?_⟩
  refine Goes.made hs hfr hG ?_ rfl rfl ⟨rfl, rfl, rfl⟩
  refine ⟨c, (0, 0), rfl, by omega, fun i v hi hv => ?_, .inr ⟨rfl, rfl, h2⟩, hn⟩
  obtain ⟨r, h5, h6⟩ := h3 i v hi hv
  exact ⟨r, by rw [Nat.zero_add]; exact h5, VR.mono (Env.upd_le hfr) _ _ h6⟩
theorem small_le {n : Nat} (h : small n = true) : n ≤ 549755813887 := Nat.le_of_ble_eq_true h
theorem zero_run {t : TypeId} {z : V} (h : zeroT P t = some z) : ∃ zv, (∀ w, (zeroValue t).run P w = .ok zv w) ∧ (∀ ρ, VR ρ z zv) ∧ ∃ i, P.info? t = some i ∧ i.zero = some zv := by
  unfold zeroT at h
  obtain ⟨zv, h1, h2⟩ := Option.bind_eq_some_iff.1 h
  obtain ⟨i, h3, h4⟩ := Option.bind_eq_some_iff.1 h1
  refine ⟨zv, fun w => ?_, fun ρ => ofV_ok 6 zv z h2, i, h3, h4⟩
  simp [zeroValue, typeInfo, h3, h4]
theorem perT_ok {t : TypeId} {per : Per} (h : perT P t = some per) : ∃ z, zeroT P t = some z ∧ per.m = z.cells.length ∧ per.t = writeCells z.cells .nil 0 := by
  obtain ⟨z, h1, h2⟩ := opt_some h
  rw [nat_eq] at h2
  injection h2 with h2
  subst h2
  exact ⟨z, h1, rfl, rfl⟩
/-- What stands in a row of noughts. -/
theorem per_at {z : V} {zv : Value} {ρ : Env} {per : Per} (hm : per.m = z.cells.length) (ht : per.t = writeCells z.cells .nil 0) (hz : VR ρ z zv) (hb : per.m ≤ 549755813887) {i : Nat} {v : V} (h : rget per .nil i = some v) : ∃ r, zv.cells[i % per.m]? = some r ∧ VR ρ v r := by
  rw [rget_eq] at h
  simp only [get_nil] at h
  rw [ht, write_get _ _ _ _ (by omega)] at h
  split at h
  · obtain ⟨r, h1, h2⟩ := (VR.cells hz).at h
    exact ⟨r, by rw [← Array.getElem?_toList]; simpa using h1, h2⟩
  · rw [get_nil] at h; cases h
theorem xAlloc_ok {o : Oper} {t : TypeId} {T : LL} {H : Hp} {k : K1} (ho : o.op = .alloc t) (h : xAllocO t P X G o T H k = .ok) : Ex P G o T H k := by
  obtain ⟨per, h1, h2⟩ := get_ok h
  obtain ⟨z, h3, h4, h5⟩ := perT_ok h1
  obtain ⟨zv, h6, h7, _⟩ := zero_run h3
  cases per with
  | mk m pt =>
    obtain ⟨h8, h9⟩ := iff_no (x := newRowR H (.row t m m ⟨m, pt⟩ .nil false) (fun i => .ptr i 0) k) h2
    have hb := small_le h8
    simp only at h4 h5
    refine Ex.new h9 hb fun ρ w eval he => ⟨zv.cells, _, ?_, ?_, fun i v hi hv => ?_, fun ρ' hρ => ⟨_, hρ, rfl⟩⟩
    · unfold execOp
      rw [ho]
      simp [Instr.alloc, h6, newVar, newRow, newObj, Sem.run, pushW]
    · have := (VR.cells (h7 ρ)).length
      simp at this
      omega
    · obtain ⟨r, h10, h11⟩ := per_at (per := ⟨m, pt⟩) h4 h5 (h7 ρ) hb hv
      rw [Nat.mod_eq_of_lt hi] at h10
      exact ⟨r, h10, h11⟩
theorem xBox_ok {o : Oper} {t : TypeId} {x : Operand} {T : LL} {H : Hp} {k : K1} (ho : o.op = .box t x) (h : xBoxO t x P X G o T H k = .ok) : Ex P G o T H k := by
  obtain ⟨v, h1, h2⟩ := get_ok h
  rw [nat_eq] at h2
  obtain ⟨h3, h4⟩ := iff_no h2
  simp only [Bool.and_eq_true] at h3
  have hb := small_le h3.1
  refine Ex.new h4 hb fun ρ w eval he => ⟨(eval x).cells, _, ?_, ?_, fun i u hi hu => ?_, fun ρ' hρ => ⟨_, hρ, rfl⟩⟩
  · unfold execOp
    rw [ho]
    simp [Instr.box, newVar, newRow, newObj, Sem.run, pushW]
  · have := (VR.cells (he x (by simp [ho, Op.operands]) _ h1)).length
    simpa using this
  · rw [rget_no, write_get _ _ _ _ (by omega)] at hu
    split at hu
    · obtain ⟨r, h5, h6⟩ := (VR.cells (he x (by simp [ho, Op.operands]) _ h1)).at hu
      exact ⟨r, by rw [← Array.getElem?_toList]; simpa using h5, h6⟩
    · rw [get_nil] at hu; cases hu
/-! Parts put together -/
theorem fold_set (vs : Array Value) (off : Nat) (cs : Array Value) : vs.zipIdx.foldl (fun cs (c, j) => cs.setIfInBounds (off + j) c) cs = setL cs off vs.toList := by
  have key : ∀ (l : List Value) (j : Nat) (cs : Array Value), (l.zipIdx j).foldl (fun cs (c, j) => cs.setIfInBounds (off + j) c) cs = setL cs (off + j) l := by
    intro l
    induction l with
    | nil => intro j cs; rfl
    | cons v l ih => intro j cs; simp only [List.zipIdx_cons, List.foldl_cons, setL, ih, Nat.add_assoc]
  rw [← Array.foldl_toList, Array.toList_zipIdx, key]
  rfl
theorem setL_list (cs : Array Value) (off : Nat) (l : List Value) (h : off + l.length ≤ cs.size) : (setL cs off l).toList = cs.toList.take off ++ l ++ cs.toList.drop (off + l.length) := by
  apply List.ext_getElem?
  intro i
  rw [Array.getElem?_toList, setL_at _ _ _ _ h]
  have h1 : (cs.toList.take off).length = off := by simp; omega
  by_cases h2 : i < off
  · rw [if_neg (by omega), List.append_assoc, List.getElem?_append_left (by omega), List.getElem?_take_of_lt h2, Array.getElem?_toList]
  · by_cases h3 : i < off + l.length
    · rw [if_pos (by omega), List.append_assoc, List.getElem?_append_right (by omega), h1, List.getElem?_append_left (by omega)]
    · rw [if_neg (by omega), List.getElem?_append_right (by simp; omega), List.getElem?_drop]
      simp only [List.length_append, h1]
      rw [show off + l.length + (i - (off + l.length)) = i by omega, Array.getElem?_toList]
def Parts (ρ : Env) : List (Nat × V) → List (Nat × Value) → Prop
  | [], rs => rs = []
  | (i, v) :: l, rs => ∃ r rs', rs = (i, r) :: rs' ∧ VR ρ v r ∧ Parts ρ l rs'
theorem evp_ok {ρ : Env} {T : LL} {eval : Operand → Value} : ∀ (l : List (Nat × Operand)) (vs : List (Nat × V)), (∀ x, x ∈ l → ∀ v, ev G T x.2 = some v → VR ρ v (eval x.2)) → evp G T l = some vs → Parts ρ vs (l.map fun p => (p.1, eval p.2))
  | [], vs, _, h => by
    injection h with h
    subst h
    rfl
  | (i, x) :: l, vs, hh, h => by
    obtain ⟨v, h1, h2⟩ := opt_some (x := ev G T x) h
    obtain ⟨vs', h3, h4⟩ := opt_some (x := evp G T l) h2
    injection h4 with h4
    subst h4
    exact ⟨_, _, rfl, hh (i, x) (by simp) v h1, evp_ok l vs' (fun y hy => hh y (by simp [hy])) h3⟩
theorem fill_ok {ρ : Env} {place : Nat → Option (Nat × Nat)} : ∀ (l : List (Nat × V)) (rs : List (Nat × Value)) (cs : List V) (rcs : Array Value) (out : List V), Parts ρ l rs → VRs ρ cs rcs.toList → fillL place cs l = some out → ∃ rout, Instr.fill place rcs rs = some rout ∧ VRs ρ out rout.toList
  | [], rs, cs, rcs, out, hp, hc, h => by
    obtain rfl := show rs = [] from hp
    simp only [fillL, Option.some.injEq] at h
    subst h
    exact ⟨rcs, rfl, hc⟩
  | (i, v) :: l, rs, cs, rcs, out, hp, hc, h => by
    obtain ⟨r, rs', rfl, hv, hp'⟩ := hp
    simp only [fillL] at h
    cases hpl : place i with
    | none => rw [hpl] at h; cases h
    | some os =>
      obtain ⟨off, size⟩ := os
      rw [hpl] at h
      simp only at h
      have hvc := VR.cells hv
      have hl1 := hvc.length
      have hl2 := hc.length
      simp only [Array.length_toList] at hl1 hl2
      cases hcond : (Nat.beq v.cells.length size && Nat.ble (off + v.cells.length) cs.length) with
      | false => rw [hcond] at h; cases h
      | true =>
        rw [hcond] at h
        simp only [cond_true] at h
        simp only [Bool.and_eq_true] at hcond
        have e1 : v.cells.length = size := Nat.eq_of_beq_eq_true hcond.1
        have e2 : off + v.cells.length ≤ cs.length := Nat.le_of_ble_eq_true hcond.2
        have hset := setL_list rcs off r.cells.toList (by simp; omega)
        obtain ⟨rout, h3, h4⟩ := fill_ok l rs' _ (setL rcs off r.cells.toList) out hp' (by
          rw [hset]
          have := ((hc.take off).append hvc).append (hc.drop (off + v.cells.length))
          rw [show off + r.cells.toList.length = off + v.cells.length by simp [hl1]]
          exact this) h
        refine ⟨rout, ?_, h4⟩
        have h5 : ¬ (r.cells.size ≠ size ∨ off + r.cells.size > rcs.size) := by omega
        rw [Instr.fill, hpl]
        simp only [ne_eq, Bool.or_eq_true, decide_eq_true_eq]
        rw [fold_set, h3]
        simp only [ne_eq, gt_iff_lt] at h5
        simp [h5]
end Go.Proofs.YtdldpehmcfbbeaaGreatDoor.Ev
