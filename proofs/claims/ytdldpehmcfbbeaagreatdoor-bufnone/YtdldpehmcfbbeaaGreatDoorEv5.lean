/- The evaluator's operations and the machine's: cells read and written. No condition. -/
import Derived.Test.YtdldpehmcfbbeaaGreatDoorEv4
namespace Go.Proofs.YtdldpehmcfbbeaaGreatDoor.Ev
variable {P : Program} {X : Ext} {G : Nat}
theorem add_eq (b o i : Nat) : (⟨b, o, none⟩ : Addr).add i = ⟨b, o + i, none⟩ := by
  unfold Addr.add
  split
  · rename_i h; rw [h]; rfl
  · rfl
theorem cell_of {w : World} {b o : Nat} {c : Array Value} {e : TypeId} {fz : Nat × Nat} (h : w.heap[b]? = some (.cells c e fz)) : w.cell? ⟨b, o, none⟩ = c[o]? := by simp [World.cell?, h]
theorem isAgg_run {t : TypeId} {a : Bool} (h : isAggT P t = some a) (w : World) : (isAgg t).run P w = .ok a w := by
  unfold isAggT at h
  cases hu : P.underlying t with
  | none => rw [hu] at h; cases h
  | some d =>
    rw [hu] at h
    simp only [isAgg, Sem.run_bind, run_underlying hu, Result.andThen_ok]
    cases d <;> (injection h with h; subst h; rfl)
theorem size_run {t : TypeId} {s : Nat} (h : sizeT P t = some s) (w : World) : (sizeOf t).run P w = .ok s w := by
  unfold sizeT at h
  obtain ⟨i, h1, h2⟩ := Option.map_eq_some_iff.1 h
  simp [sizeOf, typeInfo, h1, h2]
/-- Cells read one behind the other. -/
theorem readCells_ok {ρ : Env} {per : Per} {tr : Tr V} {c : Array Value} {d N : Nat} (hc : ∀ i v, i < N → rget per tr i = some v → ∃ r, c[d + i]? = some r ∧ VR ρ v r) : ∀ (n off : Nat) (l : List V), readCells per tr n off = some l → off + n ≤ N →
    ∃ rs : List Value, VRs ρ l rs ∧ rs.length = n ∧ l.length = n ∧ ∀ j v, rs[j]? = some v → c[d + off + j]? = some v
  | 0, off, l, h, _ => by
    injection h with h
    subst h
    exact ⟨[], rfl, rfl, rfl, by simp⟩
  | n + 1, off, l, h, hb => by
    obtain ⟨v, h1, h2⟩ := opt_some (x := rget per tr off) h
    obtain ⟨l', h3, h4⟩ := opt_some (x := readCells per tr n (off + 1)) h2
    injection h4 with h4
    subst h4
    obtain ⟨r, h5, h6⟩ := hc off v (by omega) h1
    obtain ⟨rs, h7, h8, h9, h10⟩ := readCells_ok hc n (off + 1) l' h3 (by omega)
    refine ⟨r :: rs, ⟨r, rs, rfl, h6, h7⟩, by simp [h8], by simp [h9], fun j u hj => ?_⟩
    cases j with
    | zero => simp at hj; subst hj; simpa using h5
    | succ j =>
      simp at hj
      have := h10 j u hj
      rwa [show d + (off + 1) + j = d + off + (j + 1) by omega] at this
theorem loadCells_run {w : World} {b o : Nat} {c : Array Value} {e : TypeId} {fz : Nat × Nat} (h : w.heap[b]? = some (.cells c e fz)) (rs : List Value) (hr : ∀ j v, rs[j]? = some v → c[o + j]? = some v) : (loadCells ⟨b, o, none⟩ rs.length).run P w = .ok rs.toArray w :=
  run_loadCells_list w ⟨b, o, none⟩ rs fun j v hj => by rw [add_eq, cell_of h]; exact hr j v hj
theorem loadT_ok {ρ : Env} {k : Blk} {w : World} {elem : TypeId} {sz n : Nat} {per : Per} {tr : Tr V} {gr : Bool} {ob : Obj} {t : TypeId} {off : Nat} {v : V} (hb : w.heap[k.b]? = some ob) (ho : SatO ρ k (.row elem sz n per tr gr) ob) (h : loadT P t per tr n off = some v) :
    ∃ r, (loadVar t ⟨k.b, k.o + off, none⟩).run P w = .ok r w ∧ VR ρ v r := by
  obtain ⟨c, fz, rfl, _, hc, _, _⟩ := ho
  obtain ⟨a, h1, h2⟩ := opt_some h
  rw [iff_eq] at h2
  cases a with
  | true =>
    simp only [if_true] at h2
    obtain ⟨s, h3, h4⟩ := opt_some h2
    rw [iff_eq] at h4
    split at h4
    · rename_i hle
      obtain ⟨l, h5, h6⟩ := opt_some h4
      injection h6 with h6
      subst h6
      obtain ⟨rs, h7, h8, _, h9⟩ := readCells_ok hc s off l h5 (Nat.le_of_ble_eq_true hle)
      refine ⟨.agg rs.toArray, ?_, _, rfl, h7⟩
      simp only [loadVar, Sem.run_bind, isAgg_run h1, Result.andThen_ok, if_true, size_run h3]
      have := loadCells_run (P := P) hb (o := k.o + off) rs h9
      rw [h8] at this
      simp [this]
    · cases h4
  | false =>
    simp only [Bool.false_eq_true, if_false] at h2
    rw [iff_eq] at h2
    split at h2
    · rename_i hle
      obtain ⟨r, h3, h4⟩ := hc off v (Nat.le_of_ble_eq_true hle) h2
      refine ⟨r, ?_, h4⟩
      simp only [loadVar, Sem.run_bind, isAgg_run h1, Result.andThen_ok, Bool.false_eq_true, if_false, load, Sem.run, cell_of hb, h3]
    · cases h2
theorem xLoad_ok {o : Oper} {x : Operand} {t : TypeId} {T : LL} {H : Hp} {k : K1} (ho : o.op = .load t x) (h : xLoadO t x P X G o T H k = .ok) : Ex P G o T H k := by
  obtain ⟨v, h1, h2⟩ := get_ok h
  cases v with
  | ptr i off =>
    obtain ⟨ob, h3, h4⟩ := get_ok h2
    cases ob with
    | row e sz n per tr gr =>
      obtain ⟨v, h5, h6⟩ := get_ok h4
      rw [nat_eq] at h6
      refine Ex.read h6 fun R ρ w eval he hs hr => ?_
      obtain ⟨kb, ob, h7, h8, h9⟩ := hs.sat i _ (hr i (on_bit.2 rfl)) h3
      obtain ⟨r, h10, h11⟩ := loadT_ok h8 h9 h5
      refine ⟨r, ?_, h11⟩
      obtain ⟨k2, h12, h13⟩ := he x (by simp [ho, Op.operands]) _ h1
      rw [h7] at h12
      injection h12 with h12
      subst h12
      unfold execOp
      rw [ho]
      simp [Instr.loadAt, Instr.sureAddr, h13, h10]
    | _ => cases h4
  | _ => cases h2
/-- Cells laid one behind the other. -/
def setL (c : Array Value) : Nat → List Value → Array Value
  | _, [] => c
  | o, v :: l => setL (c.setIfInBounds o v) (o + 1) l
theorem setL_size (l : List Value) : ∀ (c : Array Value) (o : Nat), (setL c o l).size = c.size := by
  induction l with
  | nil => intro c o; rfl
  | cons v l ih => intro c o; simp [setL, ih]
theorem setL_at (l : List Value) : ∀ (c : Array Value) (o i : Nat), o + l.length ≤ c.size → (setL c o l)[i]? = if o ≤ i ∧ i < o + l.length then l[i - o]? else c[i]? := by
  induction l with
  | nil => intro c o i _; simp [setL]; intro h1 h2; omega
  | cons v l ih =>
    intro c o i hb
    simp only [List.length_cons] at hb
    rw [setL, ih _ _ _ (by simp; omega)]
    by_cases h1 : i = o
    · subst h1
      rw [if_neg (by omega), if_pos ⟨Nat.le_refl _, by simp⟩, Array.getElem?_setIfInBounds_self_of_lt (by omega)]
      simp
    · by_cases h2 : o + 1 ≤ i ∧ i < o + 1 + l.length
      · rw [if_pos h2, if_pos ⟨by omega, by simp; omega⟩]
        have : i - o = (i - (o + 1)) + 1 := by omega
        rw [this]; simp
      · rw [if_neg h2, if_neg (by simp; omega), Array.getElem?_setIfInBounds_ne (by omega)]
def putW (w : World) (b : Nat) (ob : Obj) : World := { w with heap := w.heap.setIfInBounds b ob }
theorem setCell_eq {w : World} {b o : Nat} {c : Array Value} {e : TypeId} {fz : Nat × Nat} (h : w.heap[b]? = some (.cells c e fz)) (v : Value) : w.setCell ⟨b, o, none⟩ v = putW w b (.cells (c.setIfInBounds o v) e fz) := by
  unfold World.setCell putW
  congr 1
  have hlt : b < w.heap.size := by
    rcases Nat.lt_or_ge b w.heap.size with h' | h'
    · exact h'
    · rw [Array.getElem?_eq_none h'] at h; cases h
  apply Array.ext_getElem?
  intro i
  rw [Array.getElem?_modify]
  by_cases hi : b = i
  · subst hi
    rw [if_pos rfl, Array.getElem?_setIfInBounds_self_of_lt hlt, h]
    rfl
  · rw [if_neg hi, Array.getElem?_setIfInBounds_ne hi]
theorem putW_put (w : World) (b : Nat) (x y : Obj) : putW (putW w b x) b y = putW w b y := by
  unfold putW
  simp
theorem putW_at {w : World} {b : Nat} {x y : Obj} (h : w.heap[b]? = some y) : (putW w b x).heap[b]? = some x := by
  have hlt : b < w.heap.size := by
    rcases Nat.lt_or_ge b w.heap.size with h' | h'
    · exact h'
    · rw [Array.getElem?_eq_none h'] at h; cases h
  exact Array.getElem?_setIfInBounds_self_of_lt hlt
def One (r : Value) : Prop := (∀ a, r ≠ .agg a) ∧ ∀ a, r ≠ .tuple a
theorem store_run {w : World} {b o : Nat} {c : Array Value} {e : TypeId} {fz : Nat × Nat} (h : w.heap[b]? = some (.cells c e fz)) {v : Value} (hv : One v) (ho : o < c.size) (hf : ¬ (fz.1 ≤ o ∧ o < fz.2)) : (store ⟨b, o, none⟩ v).run P w = .ok () (putW w b (.cells (c.setIfInBounds o v) e fz)) := by
  have h1 : w.cell? ⟨b, o, none⟩ = some c[o] := by rw [cell_of h, Array.getElem?_eq_getElem ho]
  have h2 : w.frozen? ⟨b, o, none⟩ = false := by
    simp only [World.frozen?, h]
    simp only [Bool.and_eq_false_iff, decide_eq_false_iff_not]
    omega
  cases v with
  | agg a => exact (hv.1 a rfl).elim
  | tuple a => exact (hv.2 a rfl).elim
  | _ => simp [store, Sem.run, h1, h2, setCell_eq h]
theorem storeCells_run {b o : Nat} {e : TypeId} {fz : Nat × Nat} : ∀ (l : List Value) (i : Nat) (c : Array Value) (w : World), w.heap[b]? = some (.cells c e fz) → (∀ v ∈ l, One v) → o + i + l.length ≤ c.size → (∀ j, j < c.size → (fz.1 ≤ j → fz.1 = fz.2)) →
    (storeCells ⟨b, o, none⟩ l i).run P w = .ok () (if l = [] then w else putW w b (.cells (setL c (o + i) l) e fz))
  | [], i, c, w, _, _, _, _ => rfl
  | v :: l, i, c, w, h, hv, hb, hf => by
    simp only [List.length_cons] at hb
    simp only [storeCells, Sem.run_bind, add_eq]
    rw [store_run h (hv v (by simp)) (by omega) (fun hq => (by have := hf (o + i) (by omega) hq.1; omega))]
    simp only [Result.andThen_ok]
    rw [storeCells_run l (i + 1) _ _ (putW_at h) (fun u hu => hv u (by simp [hu])) (by simp; omega) (fun j hj => hf j (by simpa using hj))]
    simp only [reduceCtorEq, if_false, setL, ← Nat.add_assoc]
    split
    · rename_i hl; rw [hl]; rfl
    · rw [putW_put]
theorem write_get (l : List V) : ∀ (tr : Tr V) (off i : Nat), off + l.length ≤ 549755813888 → (writeCells l tr off).get i = if off ≤ i ∧ i < off + l.length then l[i - off]? else tr.get i := by
  induction l with
  | nil => intro tr off i _; rw [if_neg (by simp)]; rfl
  | cons v l ih =>
    intro tr off i hb
    simp only [List.length_cons] at hb
    have e : writeCells (v :: l) tr off = writeCells l (tr.put off v) (off + 1) := rfl
    rw [e, ih _ _ _ (by omega)]
    by_cases h1 : i = off
    · subst h1
      rw [if_neg (by omega), if_pos ⟨Nat.le_refl _, by simp⟩, put_self (by omega)]
      simp
    · by_cases h2 : off + 1 ≤ i ∧ i < off + 1 + l.length
      · rw [if_pos h2, if_pos ⟨by omega, by simp; omega⟩]
        have : i - off = (i - (off + 1)) + 1 := by omega
        rw [this]; simp
      · rw [if_neg h2, if_neg (by simp; omega), put_ne (by omega) h1]
theorem rget_eq (per : Per) (tr : Tr V) (i : Nat) : rget per tr i = match tr.get i with | some v => some v | none => per.t.get (i % per.m) := by
  cases per
  unfold rget
  cases tr.get i <;> rfl
theorem rget_no (tr : Tr V) (i : Nat) : rget noPer tr i = tr.get i := by
  rw [rget_eq]
  cases tr.get i <;> rfl
theorem rget_write {per : Per} {tr : Tr V} {l : List V} {off i : Nat} (hb : off + l.length ≤ 549755813888) : rget per (writeCells l tr off) i = if off ≤ i ∧ i < off + l.length then l[i - off]? else rget per tr i := by
  rw [rget_eq, write_get l tr off i hb]
  by_cases h : off ≤ i ∧ i < off + l.length
  · rw [if_pos h, if_pos h, List.getElem?_eq_getElem (by omega)]
  · rw [if_neg h, if_neg h, rget_eq]
/-- A row behind cells that were laid. -/
theorem SatO.write {ρ : Env} {k : Blk} {elem : TypeId} {sz n : Nat} {per : Per} {tr : Tr V} {gr : Bool} {c : Array Value} {fz : Nat × Nat} (ho : SatO ρ k (.row elem sz n per tr gr) (.cells c elem fz)) {l : List V} {rs : List Value} {off : Nat} (hl : VRs ρ l rs) (hb : off + l.length ≤ n) :
    SatO ρ k (.row elem sz n per (writeCells l tr off) gr) (.cells (setL c (k.o + off) rs) elem fz) ∧ k.o + off + rs.length ≤ c.size := by
  obtain ⟨c', fz', e, hf, hc, hg, hn⟩ := ho
  injection e with e1 e2 e3
  subst e1 e3
  have hlen := hl.length
  have hsz : k.o + n ≤ c.size := by
    rcases hg with ⟨_, h1, h2⟩ | ⟨_, h1, h2⟩ <;> omega
  have hle : k.o + off + rs.length ≤ c.size := by omega
  refine ⟨⟨_, _, rfl, fun i hi => hf i (by rwa [setL_size] at hi), fun i v hi hv => ?_, by rw [setL_size]; exact hg, hn⟩, hle⟩
  rw [rget_write (by omega)] at hv
  rw [setL_at _ _ _ _ hle]
  by_cases h1 : off ≤ i ∧ i < off + l.length
  · rw [if_pos h1] at hv
    rw [if_pos (by omega)]
    obtain ⟨r, h2, h3⟩ := hl.at hv
    exact ⟨r, by rw [show k.o + i - (k.o + off) = i - off by omega]; exact h2, h3⟩
  · rw [if_neg h1] at hv
    rw [if_neg (by omega)]
    exact hc i v hi hv
theorem ones_ok {ρ : Env} : ∀ {l : List V} {rs : List Value}, VRs ρ l rs → l.all V.one = true → ∀ r ∈ rs, One r
  | [], _, h, _ => by rw [VRs.nil h]; simp
  | v :: l, _, ⟨r, rs', e, x, y⟩, h => by
    rw [e]
    simp only [List.all_cons, Bool.and_eq_true] at h
    intro u hu
    rcases List.mem_cons.1 hu with rfl | hu
    · exact VR.one x h.1
    · exact ones_ok y h.2 u hu
theorem xStore_ok {o : Oper} {x y : Operand} {t : TypeId} {T : LL} {H : Hp} {k : K1} (ho : o.op = .store t x y) (h : xStoreO t x y P X G o T H k = .ok) : Ex P G o T H k := by
  obtain ⟨v, h1, h2⟩ := get_ok h
  obtain ⟨u, h3, h4⟩ := get_ok h2
  cases v with
  | ptr i off =>
    obtain ⟨ob, h5, h6⟩ := get_ok h4
    cases ob with
    | row e sz n per tr gr =>
      obtain ⟨s, h7, h8⟩ := get_ok h6
      obtain ⟨h9, h10⟩ := iff_no h8
      simp only [Bool.and_eq_true] at h9
      obtain ⟨⟨⟨h11, h12⟩, h13⟩, h14⟩ := h9
      have hs1 : u.cells.length = s := Nat.eq_of_beq_eq_true h11
      have hs2 : off + s ≤ n := Nat.le_of_ble_eq_true h12
      rw [nat_eq] at h10
      refine ⟨_, _, _, _, h10, (by first | exact Pu.refl _ _ | exact Pu.made _ _ | exact Pu.move _ _ _ | exact Pu.put h5 | exact Pu.put h9), fun R ρ w eval he hs hr _ _ => ?_⟩
      obtain ⟨kb, ob, h15, h16, h17⟩ := hs.sat i _ (hr i (on_bit.2 rfl)) h5
      obtain ⟨k2, h18, h19⟩ := he x (by simp [ho, Op.operands]) _ h1
      rw [h15] at h18
      injection h18 with h18
      subst h18
      have hu := he y (by simp [ho, Op.operands]) _ h3
      have huc := VR.cells hu
      have hlen := huc.length
      obtain ⟨c, fz, rfl, hf, hcc, hgg, hnn⟩ := h17
      obtain ⟨h20, h21⟩ := SatO.write (ρ := ρ) (k := kb) (sz := sz) (n := n) (per := per) (tr := tr) (gr := gr) ⟨c, fz, rfl, hf, hcc, hgg, hnn⟩ huc (off := off) (by omega)
      have hrun := storeCells_run (P := P) (b := kb.b) (o := kb.o + off) (eval y).cells.toList 0 c w h16 (ones_ok huc h13) (by simpa using h21) hf
      simp only [Nat.add_zero] at hrun
      have hrun2 : (execOp eval o).run P w = .ok .skip (if (eval y).cells.toList = [] then w else putW w kb.b (.cells (setL c (kb.o + off) (eval y).cells.toList) e fz)) := by
        unfold execOp
        rw [ho]
        have hsz : (eval y).cells.size = s := by rw [← hs1, ← hlen]; simp
        simp only [Sem.run_bind, Instr.storeAt, Instr.sureAddr, h19, Sem.run_pure, Result.andThen_ok, storeVar, size_run h7, hsz]
        simp [hrun]
      refine ⟨_, _, ρ, hrun2, .inr ⟨rfl, rfl⟩, ?_⟩
      split
      · rename_i hemp
        refine Goes.set hs (hr i (on_bit.2 rfl)) h5 h15 (Nat.le_of_ble_eq_true h14) h20 ?_ ⟨rfl, rfl, rfl⟩
        rw [hemp]
        simp only [setL]
        apply Array.ext_getElem?
        intro j
        by_cases hj : kb.b = j
        · subst hj
          rw [Array.getElem?_setIfInBounds_self_of_lt (hs.low _ _ h15), h16]
        · rw [Array.getElem?_setIfInBounds_ne hj]
      · exact Goes.set hs (hr i (on_bit.2 rfl)) h5 h15 (Nat.le_of_ble_eq_true h14) h20 rfl ⟨rfl, rfl, rfl⟩
    | _ => cases h6
  | _ => cases h4
end Go.Proofs.YtdldpehmcfbbeaaGreatDoor.Ev
