/- The evaluator's operations and the machine's: rows that grow. No condition. -/
import Derived.Test.YtdldpehmcfbbeaaGreatDoorEv10
import Derived.Laws.BytesString
namespace Go.Proofs.YtdldpehmcfbbeaaGreatDoor.Ev
variable {P : Program} {X : Ext} {G : Nat}
/-- What a grown row holds. -/
theorem SatO.grown {ρ : Env} {k : Blk} {e : TypeId} {sz nc : Nat} {cells : List V} {rs : List Value} {c : Array Value} {fz : Nat × Nat} (hl : cells.length = nc) (hb : nc ≤ 549755813887) (hr : VRs ρ cells rs) (hc : ∀ j v, rs[j]? = some v → c[k.o + j]? = some v) (hsz : k.o + k.K * sz = c.size) (hK : nc ≤ k.K * sz) (hf : ∀ i, i < c.size → (fz.1 ≤ i → fz.1 = fz.2)) :
    SatO ρ k (.row e sz nc noPer (writeCells cells .nil 0) true) (.cells c e fz) := by
  refine ⟨c, fz, rfl, hf, fun i v hi hv => ?_, .inl ⟨rfl, hsz, hK⟩, hb⟩
  rw [rget_no, write_get _ _ _ _ (by omega)] at hv
  split at hv
  · obtain ⟨r, h1, h2⟩ := hr.at hv
    exact ⟨r, hc _ _ (by simpa using h1), h2⟩
  · rw [get_nil] at hv; cases hv
/-- A row is made that has room for more. -/
theorem Ex.grow {o : Oper} {T : LL} {H : Hp} {k : K1} {e : TypeId} {sz n nc rd : Nat} {cells : List V} (hk : k (.val (.slice H.next 0 n (.g 0))) (H.new (.row e sz nc noPer (writeCells cells .nil 0) true)) rd (bit H.next) = .ok) (hl : cells.length = nc) (hn : nc = n * sz) (hb : nc ≤ 549755813887)
    (h : ∀ (R : Nat → Prop) (ρ : Env) (w : World) (eval : Operand → Value), EvR G ρ T o eval → St G R ρ H w → (∀ x, On rd x → R x) → ∃ (c : Array Value) (K : Nat) (fz : Nat × Nat) (w' : World) (rs : List Value), (execOp eval o).run P w = .ok (.value (.slice (some ⟨w.heap.size, 0, none⟩) n K)) w' ∧ w'.heap = w.heap.push (.cells c e fz) ∧ (w'.os = w.os ∧ w'.tape = w.tape ∧ w'.output = w.output) ∧
      c.size = K * sz ∧ n ≤ K ∧ VRs ρ cells rs ∧ (∀ (j : Nat) v, rs[j]? = some v → c[j]? = some v) ∧ ∀ i, i < c.size → (fz.1 ≤ i → fz.1 = fz.2)) : Ex P G o T H k := by
  refine ⟨_, _, _, _, hk, (by first | exact Pu.refl _ _ | exact Pu.made _ _ | exact Pu.move _ _ _ | exact Pu.put h5 | exact Pu.put h9), fun R ρ w eval he hs hr hf hG => ?_⟩
  obtain ⟨c, K, fz, w', rs, h1, h2, h3, h4, h5, h6, h7, h8⟩ := h R ρ w eval he hs hr
  have hfr : ρ H.next = none := hf _ (Nat.le_refl _) (by rw [hp_new]; exact Nat.lt_succ_self _)
  refine ⟨_, _, ρ.upd H.next ⟨w.heap.size, 0, K⟩, h1, .inl ⟨_, rfl, _, Env.upd_at, by simpa using h5, rfl⟩, ?_⟩
  refine Goes.made hs hfr hG (SatO.grown hl hb (VRs.mono (Env.upd_le hfr) _ _ h6) (fun j v hj => by simpa using h7 j v hj) (by simpa using h4.symm) (by rw [hn]; exact Nat.mul_le_mul_right sz h5) h8) rfl h2 h3
theorem u8s {ρ : Env} (l : List UInt8) : VRs ρ (l.map fun b => V.int .u8 (.ofNat b.toNat)) (l.map fun b => Value.int .u8 b.toNat) := by
  induction l with
  | nil => rfl
  | cons b l ih => exact ⟨_, _, rfl, rfl, ih⟩
theorem choose_run (q : Question) (hq : q.forced = false) (w : World) : (choose q).run P w = .ok (q.cut (w.tape w.drawn q)) { w with drawn := w.drawn + 1 } := by
  simp [choose, Sem.run, hq]
theorem xConvert_ok {o : Oper} {s d : TypeId} {x : Operand} {T : LL} {H : Hp} {k : K1} (ho : o.op = .convert s d x) (h : xConvertO s d x P X G o T H k = .ok) : Ex P G o T H k := by
  obtain ⟨v, h1, h2⟩ := get_ok h
  obtain ⟨ds, hds, h2⟩ := get_ok h2
  cases v with
  | str l =>
    simp only at h2
    split at h2
    · rename_i e hd
      split at h2
      · rename_i he8
        rw [nat_eq, nat_eq, nat_eq] at h2
        obtain ⟨h3, h4⟩ := iff_no h2
        refine Ex.grow h4 (by simp) (by simp) (small_le h3) fun R ρ w eval he hs hr => ?_
        have hx : eval x = .string ⟨l.toArray⟩ := he x (by simp [ho, Op.operands]) _ h1
        generalize hq : (Question.appendCap l.length 0 e).cut (w.tape w.drawn (.appendCap l.length 0 e)) = K
        have hK : l.length ≤ K := by rw [← hq]; simp only [Question.cut]; omega
        have hc := choose_run (P := P) (.appendCap l.length 0 e) rfl w
        rw [hq] at hc
        generalize hcc : ((l.map fun b => Value.int .u8 b.toNat).toArray ++ Array.replicate (K - l.length) (.int .u8 0) : Array Value) = c
        have hcs : c.size = K := by rw [← hcc]; simp; omega
        refine ⟨c, K, (K, K + 1), { w with drawn := w.drawn + 1, heap := w.heap.push (.cells c e (K, K + 1)) }, l.map fun b => Value.int .u8 b.toNat, ?_, rfl, ⟨rfl, rfl, rfl⟩, by simpa using hcs, hK, u8s l, fun j v hj => ?_, fun i hi => by omega⟩
        · unfold execOp
          rw [ho]
          have hsz : (⟨l.toArray⟩ : ByteArray).size = l.length := by simp [ByteArray.size]
          have hmap : ((⟨l.toArray⟩ : ByteArray).data.map fun b => Value.int .u8 b.toNat) = (l.map fun b => Value.int .u8 b.toNat).toArray := by simp
          simp only [Sem.run_bind, convert, run_underlying hds, run_underlying hd, Result.andThen_ok, hx, run_underlying he8, Conv.stringToBytes, hsz, hc, hmap, hcc, newRow, newObj, Sem.run, markStringish, shape, Sem.run_pure]
          simp only [World.shape?, Array.getElem?_push_size, hcs, freeze, Sem.run, Result.andThen_ok, World.freeze]
          congr 1
          simp only [Nat.one_ne_zero, if_false]
          congr 1
          apply Array.ext_getElem?
          intro i
          rw [Array.getElem?_modify]
          by_cases hi : w.heap.size = i
          · subst hi; simp
          · rw [if_neg hi]
            rcases Nat.lt_or_gt_of_ne hi with h' | h'
            · rw [Array.getElem?_eq_none (by simp; omega), Array.getElem?_eq_none (by simp; omega)]
            · rw [Array.getElem?_push_lt h', Array.getElem?_push_lt h']
        · rw [← hcc]
          have hj' : j < (l.map fun b => Value.int .u8 b.toNat).length := by
            rcases Nat.lt_or_ge j (l.map fun b => Value.int .u8 b.toNat).length with h' | h'
            · exact h'
            · rw [List.getElem?_eq_none h'] at hj; cases hj
          rw [Array.getElem?_append_left (by simpa using hj')]
          simpa using hj
      · cases h2
    · exact plainOp_ok h2
  | slice i off n c =>
    simp only at h2
    split at h2
    · rename_i e0 e hd
      obtain ⟨hsd, h2⟩ := iff_no h2
      simp only [Bool.and_eq_true] at hsd
      split at h2
      · rename_i he8
        obtain ⟨ob, h3, h4⟩ := get_ok h2
        cases ob with
        | row e' sz m per tr gr =>
          simp only [nat_eq] at h4
          refine ⟨_, _, _, _, h4, Pu.put h3, fun R ρ w eval he hs hr _ _ => ?_⟩
          obtain ⟨kb, ob, h11, h12, h13⟩ := hs.sat i _ (hr i (on_bit.2 rfl)) h3
          have hv := he x (by simp [ho, Op.operands]) _ h1
          obtain ⟨kb2, cp, h19, h20⟩ : ∃ kb2 cp, ρ i = some kb2 ∧ eval x = .slice (some ⟨kb2.b, kb2.o + off, none⟩) n cp := by
            cases c with
            | k c => obtain ⟨kb, h9, h10⟩ := hv; exact ⟨kb, _, h9, h10⟩
            | g s => obtain ⟨kb, h9, _, h10⟩ := hv; exact ⟨kb, _, h9, h10⟩
          rw [h11] at h19
          injection h19 with h19
          subst h19
          obtain ⟨cc, fz, rfl, hfz, hcell, hgr, hm⟩ := h13
          have hsd' : s = d := Nat.eq_of_beq_eq_true hsd.1
          refine ⟨.value (eval x), putW w kb.b (.cells cc e' (if fz.1 == fz.2 then (cc.size, cc.size + 1) else (min fz.1 cc.size, max fz.2 (cc.size + 1)))), ρ, ?_, .inl ⟨_, rfl, hv⟩, Goes.set hs (hr i (on_bit.2 rfl)) h3 h11 (Nat.le_of_ble_eq_true hsd.2) ⟨cc, _, rfl, fun j hj => ?_, hcell, hgr, hm⟩ rfl ⟨rfl, rfl, rfl⟩⟩
          · subst hsd'
            have hd' := hd
            rw [hds] at hd'
            injection hd' with hd'
            injection hd' with hd'
            subst hd'
            unfold execOp
            rw [ho]
            simp only [Sem.run_bind, convert, run_underlying hds, Result.andThen_ok, h20, run_underlying he8, beq_self_eq_true, markStringish, shape, Sem.run, World.shape?, h12, freeze, Sem.run_pure]
            congr 1
            simp only [World.freeze, Nat.one_ne_zero, if_false, putW]
            congr 1
            apply Array.ext_getElem?
            intro j
            rw [Array.getElem?_modify]
            by_cases hj : kb.b = j
            · subst hj
              rw [Array.getElem?_setIfInBounds_self_of_lt (hs.low _ _ h11), h12]
              simp
            · rw [Array.getElem?_setIfInBounds_ne hj, if_neg hj]
          · by_cases hq : fz.1 = fz.2
            · simp only [hq, beq_self_eq_true, if_true]
              omega
            · have hq' : ¬ fz.1 < cc.size := fun h => hq (hfz fz.1 h (Nat.le_refl _))
              rw [if_neg (by simpa using hq)]
              simp only
              omega
        | _ => cases h4
      · cases h2
    · rename_i e hd
      split at h2
      · rename_i he8
        obtain ⟨ob, h3, h4⟩ := get_ok h2
        cases ob with
        | row e' sz m per tr gr =>
          obtain ⟨h5, h6⟩ := iff_no h4
          obtain ⟨l, h7, h8⟩ := get_ok h6
          obtain ⟨bs, h9, h10⟩ := get_ok h8
          rw [nat_eq] at h10
          refine Ex.read h10 fun R ρ w eval he hs hr => ?_
          obtain ⟨kb, ob, h11, h12, h13⟩ := hs.sat i _ (hr i (on_bit.2 rfl)) h3
          obtain ⟨cc, fz, rfl, _, hcell, _, _⟩ := h13
          obtain ⟨rs, h14, h15, _, h16⟩ := readCells_ok hcell n off l h7 (Nat.le_of_ble_eq_true h5)
          obtain ⟨ns, h17, h18⟩ := toBytes_ok l bs rs h9 h14
          obtain ⟨kb2, cp, h19, h20⟩ : ∃ kb2 cp, ρ i = some kb2 ∧ eval x = .slice (some ⟨kb2.b, kb2.o + off, none⟩) n cp := by
            cases c with
            | k c => obtain ⟨kb, h9, h10⟩ := he x (by simp [ho, Op.operands]) _ h1; exact ⟨kb, _, h9, h10⟩
            | g s => obtain ⟨kb, h9, _, h10⟩ := he x (by simp [ho, Op.operands]) _ h1; exact ⟨kb, _, h9, h10⟩
          rw [h11] at h19
          injection h19 with h19
          subst h19
          refine ⟨.string ⟨bs.toArray⟩, ?_, rfl⟩
          have hload := loadCells_run (P := P) h12 (o := kb.o + off) rs h16
          rw [h15, h17, show (ns.map fun n : Nat => Value.int .u8 (n : Int)) = (ns.map fun n : Nat => (n : Int)).map (Value.int .u8) by simp] at hload
          have hb := run_bytesToString (P := P) w _ n cp _ hload
          have hfold : ∀ (ns : List Nat) (s : ByteArray), (ns.map fun n : Nat => (n : Int)).foldl (fun r n => r.push (UInt8.ofNat n.toNat)) s = ⟨s.data ++ (ns.map UInt8.ofNat).toArray⟩ := by
            intro ns
            induction ns with
            | nil => intro s; simp
            | cons n ns ih => intro s; simp only [List.map_cons, List.foldl_cons, ih]; simp [ByteArray.push]
          rw [hfold ns, show ByteArray.empty.data = #[] from rfl, Array.empty_append] at hb
          unfold execOp
          rw [ho]
          simp only [Sem.run_bind, convert, run_underlying hds, run_underlying hd, Result.andThen_ok, h20, run_underlying he8, hb, h18]
          rfl
        | _ => cases h4
      · cases h2
    · cases h2
  | int q n =>
    cases n with
    | ofNat n =>
      simp only at h2
      split at h2
      · rename_i q' hd
        rcases iff_ok h2 with ⟨h3, h4⟩ | ⟨_, h4⟩
        · refine Ex.plain h4 fun ρ w eval he => ⟨.int q' n, ?_, rfl⟩
          have hx : eval x = .int q n := he x (by simp [ho, Op.operands]) _ h1
          unfold execOp
          rw [ho]
          simp only [Sem.run_bind, convert, run_underlying hds, run_underlying hd, Result.andThen_ok, hx, Conv.intToInt, wrap_lim q' n (Nat.le_of_ble_eq_true h3)]
          rfl
        · exact plainOp_ok h4
      · exact plainOp_ok h2
    | negSucc n => exact plainOp_ok h2
  | _ => exact plainOp_ok h2
end Go.Proofs.YtdldpehmcfbbeaaGreatDoor.Ev
