/- The evaluator's operations and the machine's: append and copy, calls; all of them. Condition: what is said of functions without a Go body (X). -/
import Derived.Test.YtdldpehmcfbbeaaGreatDoorEv12
namespace Go.Proofs.YtdldpehmcfbbeaaGreatDoor.Ev
variable {P : Program} {X : Ext} {G : Nat}
/-- A row grows where it lies: its block has another name. -/
theorem Goes.move {R : Nat → Prop} {ρ : Env} {H : Hp} {w w' : World} {i : Nat} {o o' : O} {kb k : Blk} {ob : Obj} (hs : St G R ρ H w) (hi : R i) (hg : H.tr.get i = some o) (hk : ρ i = some kb) (hG : G ≤ i) (hG2 : G ≤ H.next) (hf : ρ H.next = none) (hb : k.b = kb.b)
    (ho : SatO (ρ.upd H.next k) k o' ob) (hw : w'.heap = w.heap.setIfInBounds kb.b ob) (hr : w'.os = w.os ∧ w'.tape = w.tape ∧ w'.output = w.output) : Goes G R ρ H w (Nat.lor (bit i) (bit H.next)) (ρ.upd H.next k) ((H.new o').kill i) w' := by
  have hle : ρ.Le (ρ.upd H.next k) := Env.upd_le hf
  have hne : i ≠ H.next := by intro e; rw [e, hf] at hk; cases hk
  have hsz : w'.heap.size = w.heap.size := by rw [hw]; simp
  have hlv : ∀ z oz, ((H.new o').kill i).tr.get z = some oz → z ≠ i ∧ ((z = H.next ∧ oz = o') ∨ (z ≠ H.next ∧ H.tr.get z = some oz)) := fun z oz h => by
    rw [hp_kill, hp_new] at h
    obtain ⟨h1, h2⟩ := get_cut h
    rcases get_put h2 with ⟨h3, h4⟩ | h3
    · exact ⟨h1, .inl ⟨h3, h4.symm⟩⟩
    · exact ⟨h1, .inr h3⟩
  have hnx : ((H.new o').kill i).next = H.next + 1 := by rw [hp_kill, hp_new]
  have hR : ∀ z, z ≠ i → z ≠ H.next → (R z ∨ On (Nat.lor (bit i) (bit H.next)) z) → R z := fun z h1 h2 hz => hz.elim id fun h => by
    rcases on_lor.1 h with h | h
    · exact (h1 (on_bit.1 h)).elim
    · exact (h2 (on_bit.1 h)).elim
  have hold : ∀ z kz, z ≠ H.next → ρ.upd H.next k z = some kz → ρ z = some kz := fun z kz hne h => by rwa [Env.upd_ne hne] at h
  have hlow := hs.low _ _ hk
  refine ⟨⟨?_, ?_, fun g hg => let ⟨K, h⟩ := hs.glob g hg; ⟨K, hle _ _ h⟩, ?_⟩, hle, ?_, by omega, ?_, by omega, ?_, ?_, ?_, hr⟩
  · intro z oz hz h
    obtain ⟨h1, ⟨e1, e2⟩ | ⟨h2, h3⟩⟩ := hlv z oz h
    · subst e1 e2
      exact ⟨k, ob, Env.upd_at, by rw [hw, hb, Array.getElem?_setIfInBounds_self_of_lt hlow], ho⟩
    · obtain ⟨kz, obz, h4, h5, h6⟩ := hs.sat z oz (hR z h1 h2 hz) h3
      refine ⟨kz, obz, hle _ _ h4, ?_, h6.mono hle⟩
      rw [hw, Array.getElem?_setIfInBounds_ne, h5]
      intro e
      exact h1 (hs.inj z i oz o kz kb (hR z h1 h2 hz) hi h3 hg h4 hk e.symm)
  · intro y z oy oz ky kz hy hz h1 h2 h3 h4 h5
    obtain ⟨a1, ⟨e1, _⟩ | ⟨a2, a3⟩⟩ := hlv y oy h1 <;> obtain ⟨b1, ⟨e2, _⟩ | ⟨b2, b3⟩⟩ := hlv z oz h2
    · rw [e1, e2]
    · rw [e1, Env.upd_at] at h3; injection h3 with h3
      exact (b1 (hs.inj z i oz o kz kb (hR z b1 b2 hz) hi b3 hg (hold _ _ b2 h4) hk (by rw [← h5, ← h3, hb]))).elim
    · rw [e2, Env.upd_at] at h4; injection h4 with h4
      exact (a1 (hs.inj y i oy o ky kb (hR y a1 a2 hy) hi a3 hg (hold _ _ a2 h3) hk (by rw [h5, ← h4, hb]))).elim
    · exact hs.inj y z oy oz ky kz (hR y a1 a2 hy) (hR z b1 b2 hz) a3 b3 (hold _ _ a2 h3) (hold _ _ b2 h4) h5
  · intro z kz h
    by_cases e : z = H.next
    · rw [e, Env.upd_at] at h; injection h with h
      rw [← h, hb, hsz]; exact hlow
    · rw [hsz]; exact hs.low z kz (hold _ _ e h)
  · intro z kz h1 h2
    by_cases e : z = H.next
    · rw [e, Env.upd_at] at h2; injection h2 with h2
      exact ⟨by omega, .inr ⟨i, o, kb, on_lor.2 (.inl (on_bit.2 rfl)), hg, hk, by rw [← h2, hb]⟩⟩
    · rw [hold _ _ e h2] at h1; cases h1
  · intro b hb' hn
    rw [hw, Array.getElem?_setIfInBounds_ne]
    exact hn i o kb (on_lor.2 (.inl (on_bit.2 rfl))) hg hk
  · intro z oz hz h
    obtain ⟨_, ⟨e1, _⟩ | ⟨_, h3⟩⟩ := hlv z oz h
    · exact (hz (on_lor.2 (.inr (on_bit.2 e1)))).elim
    · exact h3
  · intro z oz h
    obtain ⟨_, ⟨e1, _⟩ | ⟨_, h3⟩⟩ := hlv z oz h
    · exact .inr (by omega)
    · exact .inl ⟨oz, h3⟩
  · intro z hz
    rcases on_lor.1 hz with h | h
    · rw [on_bit.1 h]; exact ⟨.inl hi, hG⟩
    · rw [on_bit.1 h]; exact ⟨.inr (by omega), hG2⟩
theorem store_goes {R : Nat → Prop} {ρ : Env} {H : Hp} {w : World} {i : Nat} {o o' : O} {kb : Blk} {c : Array Value} {e : TypeId} {fz : Nat × Nat} {off : Nat} {rs : List Value} (hs : St G R ρ H w) (hi : R i) (hg : H.tr.get i = some o) (hk : ρ i = some kb) (hG : G ≤ i) (hb : w.heap[kb.b]? = some (.cells c e fz)) (ho : SatO ρ kb o' (.cells (setL c off rs) e fz)) :
    Goes G R ρ H w (bit i) ρ (H.put i o') (if rs = [] then w else putW w kb.b (.cells (setL c off rs) e fz)) := by
  split
  · rename_i hemp
    refine Goes.set hs hi hg hk hG ho ?_ ⟨rfl, rfl, rfl⟩
    rw [hemp]
    simp only [setL]
    apply Array.ext_getElem?
    intro j
    by_cases hj : kb.b = j
    · subst hj
      rw [Array.getElem?_setIfInBounds_self_of_lt (hs.low _ _ hk), hb]
    · rw [Array.getElem?_setIfInBounds_ne hj]
  · exact Goes.set hs hi hg hk hG ho rfl ⟨rfl, rfl, rfl⟩
theorem two_args {ρ : Env} {T : LL} {eval : Operand → Value} {c : Call} (he : ∀ x, x ∈ c.args.toList → ∀ v, ev G T x = some v → VR ρ v (eval x)) {a b : V} (h : evs G T c.args.toList = some [a, b]) : ∃ ra rb, c.args.map eval = #[ra, rb] ∧ VR ρ a ra ∧ VR ρ b rb := by
  obtain ⟨ra, rs, h1, h2, rb, rs', h3, h4, h5⟩ := evs_ok _ _ he h
  obtain rfl := show rs' = [] from h5
  refine ⟨ra, rb, ?_, h2, h4⟩
  apply Array.ext'
  rw [Array.toList_map, h1, h3]
theorem list_two {ts : Array TypeId} {t t2 : TypeId} {l : List TypeId} (h : ts.toList = t :: t2 :: l) : ts[0]? = some t ∧ ts[1]? = some t2 := by
  rw [← Array.getElem?_toList, ← Array.getElem?_toList, h]
  exact ⟨rfl, rfl⟩
theorem appendOp_ok {o : Oper} {c : Call} {t t2 : TypeId} {ts : List TypeId} {s x : V} {T : LL} {H : Hp} {k : K1} (ho : o.op = .call c) (hc : c.callee = .builtin .append) (ha : evs G T c.args.toList = some [s, x]) (ht : c.argTypes.toList = t :: t2 :: ts) (h : appendOp P G t t2 s x H k = .ok) : Ex P G o T H k := by
  obtain ⟨z, h1, h2⟩ := get_ok h
  rcases iff_ok h2 with ⟨_, h3⟩ | ⟨rfl, h3⟩
  · cases h3
  obtain ⟨⟨e, sz, by', z0⟩, h4, h5⟩ := get_ok h3
  obtain ⟨hu, hsz, hzero, inf, hinf, hby⟩ := growT_ok h4
  obtain ⟨h6, h7⟩ := iff_no h5
  have hz0 : z0.cells.length = sz := Nat.eq_of_beq_eq_true h6
  obtain ⟨zv, hzv, hzr, _⟩ := zero_run hzero
  have hzs : zv.cells.size = sz := by
    have := (VR.cells (hzr (fun _ => none))).length
    simp only [Array.length_toList] at this
    omega
  obtain ⟨new, n, rx, len0, h8, hn0, hnl, hsrc⟩ := source_ok (P := P) (G := G) rfl (fun n => Nat.le_refl n) h7
  subst hn0
  obtain ⟨t0, t1⟩ := list_two ht
  have hrun : ∀ (eval : Operand → Value) (ra rb : Value) (w : World), c.args.map eval = #[ra, rb] → (execOp eval o).run P w = ((Builtin.append_ c.argTypes o.type #[ra, rb]).run P w).andThen fun v w' => .ok (.value v) w' := by
    intro eval ra rb w e
    rw [builtin_run ho hc, e]
    simp only [builtin, Sem.run_bind]
    rfl
  have hone : ∀ {ρ : Env} {rs : List Value}, VRs ρ new rs → rs.length = n * sz := fun h => by rw [h.length, hnl]
  cases s with
  | nils =>
    rcases iff_ok h8 with ⟨h9, h10⟩ | ⟨h9, h10⟩
    · have e0 := Nat.eq_of_beq_eq_true h9
      subst e0
      refine Ex.read h10 fun R ρ w eval he hs hr => ?_
      obtain ⟨ra, rb, e, hra, hrb⟩ := two_args (fun x hx => he x (by have := Array.mem_toList_iff.1 hx; simp [ho, Op.operands, Call.operands, hc, this])) ha
      obtain rfl := show ra = .slice none 0 0 from hra
      obtain ⟨rs, a1, a2⟩ := hsrc R ρ w rb hs hr hrb
      refine ⟨.slice none 0 0, ?_, rfl⟩
      rw [hrun eval _ _ w e, append_in t0 t1 hu h1 hsz (a2 w rfl).1 (a2 w rfl).2 (by omega)]
      rfl
    · have e0 := Nat.ne_of_beq_eq_false h9
      obtain ⟨h11, h12⟩ := iff_no h10
      simp only [Bool.and_eq_true] at h11
      rw [nat_eq, nat_eq, nat_eq] at h12
      refine Ex.grow h12 hnl rfl (small_le h11.1.2) fun R ρ w eval he hs hr => ?_
      obtain ⟨ra, rb, e, hra, hrb⟩ := two_args (fun x hx => he x (by have := Array.mem_toList_iff.1 hx; simp [ho, Op.operands, Call.operands, hc, this])) ha
      obtain rfl := show ra = .slice none 0 0 from hra
      obtain ⟨rs, a1, a2⟩ := hsrc R ρ w rb hs hr hrb
      obtain ⟨K, cc, w', b1, b2, b3, b4, b5, b6⟩ := append_new (ty := o.type) (len := 0) (cap := 0) (base := none) (os := []) t0 t1 hu h1 hsz hinf hzv hzs (a2 w rfl).1 (fun w' _ => rfl) (fun w' hw => (a2 w' hw).2) (by simp) (hone a1) (by omega) (by
        have := Nat.le_of_ble_eq_true h11.1.1
        rw [hby, Nat.zero_add]
        exact this) (by
        have := Nat.le_of_ble_eq_true h11.2
        omega)
      refine ⟨cc, K, (0, 0), w', rs, ?_, b2, b3, b5, by omega, a1, fun j v hj => b6 j v (by simpa using hj), fun i hi => by omega⟩
      rw [hrun eval _ _ w e, b1]
      simp
  | slice i off len cp =>
    have knew : ∀ (e' : TypeId) (sz' m : Nat) (per : Per) (tr : Tr V) (gr : Bool), H.tr.get i = some (.row e' sz' m per tr gr) → ∀ old, readCells per tr (len * sz) off = some old → off + len * sz ≤ m → ∀ (R : Nat → Prop) (ρ : Env) (w : World), St G R ρ H w → R i → ∀ kb, ρ i = some kb → ∃ (cc : Array Value) (fz : Nat × Nat) (os : List Value), w.heap[kb.b]? = some (.cells cc e' fz) ∧ VRs ρ old os ∧ os.length = len * sz ∧ old.length = len * sz ∧ (∀ (j : Nat) v, os[j]? = some v → cc[kb.o + off + j]? = some v) ∧ SatO ρ kb (.row e' sz' m per tr gr) (.cells cc e' fz) ∧
        ∀ cap w', w'.heap = w.heap → (Builtin.firstCells sz len (.slice (some ⟨kb.b, kb.o + off, none⟩) len cap)).run P w' = .ok os.toArray w' := by
      intro e' sz' m per tr gr hg old hold hle R ρ w hs hi kb hkb
      obtain ⟨kb', ob, a1, a2, a3⟩ := hs.sat i _ hi hg
      rw [hkb] at a1
      injection a1 with a1
      subst a1
      obtain ⟨cc, fz, rfl, a4, a5, a6, a7⟩ := a3
      obtain ⟨os, b1, b2, b3, b4⟩ := readCells_ok a5 (len * sz) off old hold hle
      refine ⟨cc, fz, os, a2, b1, b2, b3, b4, ⟨cc, fz, rfl, a4, a5, a6, a7⟩, fun cap w' hw => ?_⟩
      have hload := loadCells_run (P := P) (w := w') (by rw [hw]; exact a2) (o := kb.o + off) os b4
      rw [b2] at hload
      exact hload
    cases cp with
    | k cap =>
      obtain ⟨ob, h9, h10⟩ := get_ok h8
      cases ob with
      | row e' sz' m per tr gr =>
        rcases iff_ok h10 with ⟨h11, h12⟩ | ⟨h11, h12⟩
        · obtain ⟨h13, h14⟩ := iff_no h12
          simp only [Bool.and_eq_true] at h13
          obtain ⟨⟨h15, h16⟩, h17⟩ := h13
          rw [nat_eq, nat_eq, nat_eq] at h14
          refine ⟨_, _, _, _, h14, (by first | exact Pu.refl _ _ | exact Pu.made _ _ | exact Pu.move _ _ _ | exact Pu.put h5 | exact Pu.put h9), fun R ρ w eval he hs hr _ _ => ?_⟩
          have hi : R i := hr i (on_lor.2 (.inr (on_bit.2 rfl)))
          obtain ⟨ra, rb, e1, hra, hrb⟩ := two_args (fun x hx => he x (by have := Array.mem_toList_iff.1 hx; simp [ho, Op.operands, Call.operands, hc, this])) ha
          obtain ⟨kb, hkb, rfl⟩ := hra
          obtain ⟨rs, a1, a2⟩ := hsrc R ρ w rb hs (fun x hx => hr x (on_lor.2 (.inl hx))) hrb
          obtain ⟨kb', ob, b1, b2, b3⟩ := hs.sat i _ hi h9
          rw [hkb] at b1
          injection b1 with b1
          subst b1
          obtain ⟨cc, fz, rfl, b4, b5, b6, b7⟩ := b3
          have hle2 : off + (len + n) * sz ≤ m := Nat.le_of_ble_eq_true h15
          rw [Nat.add_mul] at hle2
          obtain ⟨c1, c2⟩ := SatO.write (ρ := ρ) (k := kb) (sz := sz') (n := m) (per := per) (tr := tr) (gr := gr) ⟨cc, fz, rfl, b4, b5, b6, b7⟩ a1 (off := off + len * sz) (by omega)
          have hst := storeCells_run (P := P) (b := kb.b) (o := kb.o + (off + len * sz)) rs 0 cc w b2 (ones_ok a1 h17) (by simpa using c2) b4
          simp only [Nat.add_zero] at hst
          refine ⟨_, _, ρ, ?_, .inl ⟨_, rfl, kb, hkb, rfl⟩, store_goes hs hi h9 hkb (Nat.le_of_ble_eq_true h16) b2 c1⟩
          rw [hrun eval _ _ w e1, append_in t0 t1 hu h1 hsz (a2 w rfl).1 (a2 w rfl).2 (Nat.le_of_ble_eq_true h11)]
          simp only [add_eq, Nat.add_assoc] at hst ⊢
          rw [hst]
          rfl
        · obtain ⟨h13, h14⟩ := iff_no h12
          simp only [Bool.and_eq_true] at h13
          obtain ⟨⟨⟨⟨h15, h16⟩, h17⟩, h18⟩, h19⟩ := h13
          obtain ⟨old, h20, h21⟩ := get_ok h14
          rw [nat_eq, nat_eq, nat_eq, nat_eq] at h21
          simp only [iff_eq, Bool.false_eq_true, if_false, nat_eq] at h21
          have hgt : cap < len + n := by
            rcases Nat.lt_or_ge cap (len + n) with h' | h'
            · exact h'
            · have := Nat.ble_eq_true_of_le h'; rw [h11] at this; cases this
          have hol : old.length = len * sz := by
            have : ∀ (nn off : Nat) (l : List V), readCells per tr nn off = some l → l.length = nn := by
              intro nn
              induction nn with
              | zero => intro off l h; injection h with h; subst h; rfl
              | succ nn ih =>
                intro off l h
                obtain ⟨v, _, h2⟩ := opt_some (x := rget per tr off) h
                obtain ⟨l', h3, h4⟩ := opt_some (x := readCells per tr nn (off + 1)) h2
                injection h4 with h4
                subst h4
                simp [ih _ _ h3]
            exact this _ _ _ h20
          refine Ex.grow h21 (by rw [List.length_append, hnl, hol, Nat.add_mul]) rfl (small_le h17) fun R ρ w eval he hs hr => ?_
          have hi : R i := hr i (on_lor.2 (.inr (on_bit.2 rfl)))
          obtain ⟨ra, rb, e1, hra, hrb⟩ := two_args (fun x hx => he x (by have := Array.mem_toList_iff.1 hx; simp [ho, Op.operands, Call.operands, hc, this])) ha
          obtain ⟨kb, hkb, rfl⟩ := hra
          obtain ⟨rs, a1, a2⟩ := hsrc R ρ w rb hs (fun x hx => hr x (on_lor.2 (.inl hx))) hrb
          obtain ⟨cc, fz, os, b1, b2, b3, _, b4, b5, b6⟩ := knew e' sz' m per tr gr h9 old h20 (Nat.le_of_ble_eq_true h16) R ρ w hs hi kb hkb
          obtain ⟨K, c2, w', d1, d2, d3, d4, d5, d6⟩ := append_new (ty := o.type) (len := len) (cap := cap) (base := some ⟨kb.b, kb.o + off, none⟩) (os := os) t0 t1 hu h1 hsz hinf hzv hzs (a2 w rfl).1 (b6 cap) (fun w' hw => (a2 w' hw).2) b3 (hone a1) hgt (by rw [hby]; exact Nat.le_of_ble_eq_true h15) (Nat.le_of_ble_eq_true h19)
          refine ⟨c2, K, (0, 0), w', os ++ rs, ?_, d2, d3, d5, d4, b2.append a1, d6, fun i hi => by omega⟩
          rw [hrun eval _ _ w e1, d1]
          rfl
      | _ => cases h10
    | g s0 =>
      obtain ⟨ob, h9, h10⟩ := get_ok h8
      cases ob with
      | row e' sz' m per tr gr =>
        cases gr with
        | false => cases h10
        | true =>
          obtain ⟨h11, h12⟩ := iff_no h10
          simp only [Bool.and_eq_true] at h11
          obtain ⟨⟨⟨⟨k1, k2⟩, k3⟩, k4⟩, k5⟩ := h11
          have e1 := Nat.eq_of_beq_eq_true k1
          have e2 := Nat.eq_of_beq_eq_true k2
          have hoff : off = s0 * sz := Nat.eq_of_beq_eq_true k3
          subst e1 e2
          obtain ⟨h13, h14⟩ := iff_no h12
          simp only [Bool.and_eq_true] at h13
          obtain ⟨⟨⟨⟨h15, h16⟩, h17⟩, h18⟩, h19⟩ := h13
          obtain ⟨old, h20, h21⟩ := get_ok h14
          rw [nat_eq, nat_eq, nat_eq, nat_eq] at h21
          simp only [iff_eq, if_true, nat_eq] at h21
          refine ⟨_, _, _, _, h21, (by first | exact Pu.refl _ _ | exact Pu.made _ _ | exact Pu.move _ _ _ | exact Pu.put h5 | exact Pu.put h9), fun R ρ w eval he hs hr hf hG => ?_⟩
          have hi : R i := hr i (on_lor.2 (.inr (on_bit.2 rfl)))
          have hfr : ρ H.next = none := hf _ (Nat.le_refl _) (by rw [hp_kill, hp_new]; exact Nat.lt_succ_self _)
          obtain ⟨ra, rb, e1, hra, hrb⟩ := two_args (fun x hx => he x (by have := Array.mem_toList_iff.1 hx; simp [ho, Op.operands, Call.operands, hc, this])) ha
          obtain ⟨kb, hkb, hcap, rfl⟩ := hra
          obtain ⟨rs, a1, a2⟩ := hsrc R ρ w rb hs (fun x hx => hr x (on_lor.2 (.inl hx))) hrb
          have hrsl := hone a1
          obtain ⟨cc, fz, os, b1, b2, b3, b3', b4, b5, b6⟩ := knew e sz m per tr true h9 old h20 (Nat.le_of_ble_eq_true h16) R ρ w hs hi kb hkb
          obtain ⟨cc', fz', ee, b7, b8, b9, b10⟩ := b5
          injection ee with ee1 _ ee2
          subst ee1 ee2
          have hsz2 : kb.o + kb.K * sz = cc.size := by
            rcases b9 with ⟨_, h, _⟩ | ⟨h, _⟩
            · exact h
            · cases h
          have hlen : (old ++ new).length = (len + n) * sz := by rw [List.length_append, hnl, b3', Nat.add_mul]
          by_cases hfit : len + n ≤ kb.K - s0
          · have hmul : (len + n) * sz ≤ (kb.K - s0) * sz := Nat.mul_le_mul_right sz hfit
            have hKs : s0 * sz + (kb.K - s0) * sz = kb.K * sz := by rw [← Nat.add_mul]; congr 1; omega
            have hle3 : kb.o + (off + len * sz) + rs.length ≤ cc.size := by
              rw [Nat.add_mul] at hmul
              omega
            have hst := storeCells_run (P := P) (b := kb.b) (o := kb.o + (off + len * sz)) rs 0 cc w b1 (ones_ok a1 h18) (by simpa using hle3) b7
            simp only [Nat.add_zero] at hst
            refine ⟨.value (.slice (some ⟨kb.b, kb.o + off, none⟩) (len + n) (kb.K - s0)), (if rs = [] then w else putW w kb.b (.cells (setL cc (kb.o + (off + len * sz)) rs) e fz)), ρ.upd H.next ⟨kb.b, kb.o + off, kb.K - s0⟩, ?_, .inl ⟨_, rfl, _, Env.upd_at, by simpa using hfit, rfl⟩, Goes.move (k := ⟨kb.b, kb.o + off, kb.K - s0⟩) (ob := .cells (setL cc (kb.o + (off + len * sz)) rs) e fz) hs hi h9 hkb (Nat.le_of_ble_eq_true k4) hG hfr rfl ?_ ?_ ?_⟩
            · rw [hrun eval _ _ w e1, append_in t0 t1 hu h1 hsz (a2 w rfl).1 (a2 w rfl).2 hfit]
              simp only [add_eq, Nat.add_assoc] at hst ⊢
              rw [hst]
              rfl
            · refine SatO.grown hlen (small_le h17) (VRs.mono (Env.upd_le hfr) _ _ (b2.append a1)) (fun j v hj => ?_) (by simp only [setL_size]; omega) hmul (fun j hj => b7 j (by rwa [setL_size] at hj))
              rw [setL_at _ _ _ _ hle3]
              by_cases hjl : j < os.length
              · rw [List.getElem?_append_left hjl] at hj
                rw [if_neg (by simp only; omega)]
                exact b4 j v hj
              · rw [List.getElem?_append_right (by omega)] at hj
                have hj2 : j - os.length < rs.length := by
                  rcases Nat.lt_or_ge (j - os.length) rs.length with h' | h'
                  · exact h'
                  · rw [List.getElem?_eq_none h'] at hj; cases hj
                rw [if_pos (by simp only; omega), show kb.o + off + j - (kb.o + (off + len * sz)) = j - os.length by omega]
                exact hj
            · split
              · rename_i hemp
                rw [hemp]
                simp only [setL]
                apply Array.ext_getElem?
                intro j
                by_cases hj : kb.b = j
                · subst hj
                  rw [Array.getElem?_setIfInBounds_self_of_lt (hs.low _ _ hkb), b1]
                · rw [Array.getElem?_setIfInBounds_ne hj]
              · rfl
            · split <;> exact ⟨rfl, rfl, rfl⟩
          · obtain ⟨K, c2, w', d1, d2, d3, d4, d5, d6⟩ := append_new (ty := o.type) (len := len) (cap := kb.K - s0) (base := some ⟨kb.b, kb.o + off, none⟩) (os := os) t0 t1 hu h1 hsz hinf hzv hzs (a2 w rfl).1 (b6 _) (fun w' hw => (a2 w' hw).2) b3 hrsl (by omega) (by rw [hby]; exact Nat.le_of_ble_eq_true h15) (Nat.le_of_ble_eq_true h19)
            refine ⟨_, w', ρ.upd H.next ⟨w.heap.size, 0, K⟩, by rw [hrun eval _ _ w e1, d1]; rfl, .inl ⟨_, rfl, _, Env.upd_at, by simpa using d4, rfl⟩, ?_⟩
            have g1 := Goes.made (o := .row e sz ((len + n) * sz) noPer (writeCells (old ++ new) .nil 0) true) (k := ⟨w.heap.size, 0, K⟩) hs hfr hG (SatO.grown hlen (small_le h17) (VRs.mono (Env.upd_le hfr) _ _ (b2.append a1)) (fun j v hj => by simpa using d6 j v hj) (by simpa using d5.symm) (Nat.mul_le_mul_right sz d4) (fun i hi => by simp)) rfl d2 d3
            have g2 := Goes.kill (x := i) g1.st (.inl hi) (Nat.le_of_ble_eq_true k4)
            have g3 := Goes.trans (fun x h1 h2 => hf x h1 (by rw [hp_kill]; exact h2)) g1 g2
            rw [show Nat.lor (bit i) (bit H.next) = Nat.lor (bit H.next) (bit i) from Nat.or_comm _ _]
            exact g3
      | _ => cases h10
  | mt =>
    obtain ⟨h9, h10⟩ := iff_no h8
    have e0 := Nat.eq_of_beq_eq_true h9
    subst e0
    refine Ex.read h10 fun R ρ w eval he hs hr => ?_
    obtain ⟨ra, rb, e, hra, hrb⟩ := two_args (fun x hx => he x (by have := Array.mem_toList_iff.1 hx; simp [ho, Op.operands, Call.operands, hc, this])) ha
    obtain ⟨a, cp, rfl⟩ := hra
    obtain ⟨rs, a1, a2⟩ := hsrc R ρ w rb hs hr hrb
    have hrs : rs = [] := List.eq_nil_of_length_eq_zero (by rw [hone a1]; omega)
    subst hrs
    refine ⟨.slice (some a) 0 cp, ?_, _, _, rfl⟩
    rw [hrun eval _ _ w e, append_in t0 t1 hu h1 hsz (a2 w rfl).1 (a2 w rfl).2 (by omega)]
    rfl
  | _ => cases h8
end Go.Proofs.YtdldpehmcfbbeaaGreatDoor.Ev
