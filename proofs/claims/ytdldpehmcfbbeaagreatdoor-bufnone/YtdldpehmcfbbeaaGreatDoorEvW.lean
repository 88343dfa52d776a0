/- The evaluator's operations and the machine's: bytes of an unknown number are appended. No condition. -/
import Derived.Test.YtdldpehmcfbbeaaGreatDoorEv13
namespace Go.Proofs.YtdldpehmcfbbeaaGreatDoor.Ev
variable {P : Program} {X : Ext} {G : Nat}
theorem appendW_ok {o : Oper} {c : Call} {t t2 : TypeId} {ts : List TypeId} {s : V} {j n sl L : Nat} {T : LL} {H : Hp} {k : K1} (ho : o.op = .call c) (hc : c.callee = .builtin .append) (ha : evs G T c.args.toList = some [s, .vs j n sl L]) (ht : c.argTypes.toList = t :: t2 :: ts) (h : appendW P G t t2 s j n sl L H k = .ok) : Ex P G o T H k := by
  obtain ⟨z, h1, h2⟩ := get_ok h
  rcases iff_ok h2 with ⟨_, h3⟩ | ⟨rfl, h3⟩
  · cases h3
  obtain ⟨⟨e, sz, by', z0⟩, h4, h5⟩ := get_ok h3
  obtain ⟨hu, hsz, hzero, inf, hinf, hby⟩ := growT_ok h4
  obtain ⟨h6, h7⟩ := iff_no h5
  simp only [Bool.and_eq_true] at h6
  have hz0 : z0.cells.length = sz := Nat.eq_of_beq_eq_true h6.1.1
  have es : sz = 1 := Nat.eq_of_beq_eq_true h6.1.2
  have eb : by' = 1 := Nat.eq_of_beq_eq_true h6.2
  subst es eb
  obtain ⟨zv, hzv, hzr, _⟩ := zero_run hzero
  have hzs : zv.cells.size = 1 := by
    have := (VR.cells (hzr (fun _ => none))).length
    simp only [Array.length_toList] at this
    omega
  obtain ⟨src, h8, h9⟩ := get_ok h7
  obtain ⟨h10, h11⟩ := iff_no h9
  obtain ⟨t0, t1⟩ := list_two ht
  have hrun : ∀ (eval : Operand → Value) (ra rb : Value) (w : World), c.args.map eval = #[ra, rb] → (execOp eval o).run P w = ((Builtin.append_ c.argTypes o.type #[ra, rb]).run P w).andThen fun v w' => .ok (.value v) w' := by
    intro eval ra rb w e
    rw [builtin_run ho hc, e]
    simp only [builtin, Sem.run_bind]
    rfl
  have fresh : ∀ {ρ' : Env} {K m : Nat} {b : Nat} {cc : Array Value} {el : TypeId} {os rs : List Value}, (∀ r ∈ os, One r) → (∀ r ∈ rs, One r) → os.length + rs.length = m → m ≤ K → cc.size = K * 1 → (∀ (i : Nat) v, (os ++ rs)[i]? = some v → cc[i]? = some v) → SatO ρ' ⟨b, 0, m⟩ .ones (.cells cc el) := by
    intro ρ' K m b cc el os rs h1 h2 h3 h4 h5 h6
    refine ⟨cc, el, _, rfl, by simp only; omega, fun i r hi hr => ?_⟩
    simp only at hi
    rw [Nat.zero_add] at hr
    have hl : i < (os ++ rs).length := by rw [List.length_append]; omega
    have := h6 i _ (List.getElem?_eq_getElem hl)
    rw [hr] at this
    injection this with this
    rw [this]
    rcases List.mem_append.1 (List.getElem_mem hl) with hm | hm
    · exact h1 _ hm
    · exact h2 _ hm
  cases s with
  | slice i off len cp =>
    have knew : ∀ (e' : TypeId) (sz' m : Nat) (per : Per) (tr : Tr V) (gr : Bool), H.tr.get i = some (.row e' sz' m per tr gr) → ∀ old, readCells per tr len off = some old → old.all V.one = true → off + len ≤ m → ∀ (R : Nat → Prop) (ρ : Env) (w : World), St G R ρ H w → R i → ∀ kb, ρ i = some kb → ∃ (cc : Array Value) (fz : Nat × Nat) (os : List Value), w.heap[kb.b]? = some (.cells cc e' fz) ∧ (∀ r ∈ os, One r) ∧ os.length = len ∧ (∀ (j : Nat) v, os[j]? = some v → cc[kb.o + off + j]? = some v) ∧ SatO ρ kb (.row e' sz' m per tr gr) (.cells cc e' fz) ∧
        ∀ cap w', w'.heap = w.heap → (Builtin.firstCells 1 len (.slice (some ⟨kb.b, kb.o + off, none⟩) len cap)).run P w' = .ok os.toArray w' := by
      intro e' sz' m per tr gr hg old hold hone hle R ρ w hs hi kb hkb
      obtain ⟨kb', ob, a1, a2, a3⟩ := hs.sat i _ hi hg
      rw [hkb] at a1
      injection a1 with a1
      subst a1
      obtain ⟨cc, fz, rfl, a4, a5, a6, a7⟩ := a3
      obtain ⟨os, b1, b2, b3, b4⟩ := readCells_ok a5 len off old hold hle
      refine ⟨cc, fz, os, a2, ones_ok b1 hone, b2, b4, ⟨cc, fz, rfl, a4, a5, a6, a7⟩, fun cap w' hw => ?_⟩
      have hload := loadCells_run (P := P) (w := w') (by rw [hw]; exact a2) (o := kb.o + off) os b4
      rw [b2] at hload
      simpa [Builtin.firstCells] using hload
    cases cp with
    | k cap =>
      obtain ⟨ob, h12, h13⟩ := get_ok h11
      cases ob with
      | row e' sz' m per tr gr =>
        obtain ⟨h14, h15⟩ := iff_no h13
        simp only [Bool.and_eq_true] at h14
        obtain ⟨⟨k1, k2⟩, k3⟩ := h14
        have hgt : cap < n + len := Nat.le_of_ble_eq_true k1
        have hsl : len ≤ sl := Nat.le_of_ble_eq_true k2
        obtain ⟨old, h16, h17⟩ := get_ok h15
        obtain ⟨h18, h19⟩ := iff_no h17
        rw [nat_eq, nat_eq, nat_eq, nat_eq] at h19
        refine ⟨_, _, _, _, h19, Pu.made _ _, fun R ρ w eval he hs hr hf hG => ?_⟩
        have hfr : ρ H.next = none := hf _ (Nat.le_refl _) (by rw [hp_new]; exact Nat.lt_succ_self _)
        have hi : R i := hr i (on_lor.2 (.inl (on_bit.2 rfl)))
        obtain ⟨ra, rb, e1, hra, hrb⟩ := two_args (fun x hx => he x (by have := Array.mem_toList_iff.1 hx; simp [ho, Op.operands, Call.operands, hc, this])) ha
        obtain ⟨kb, hkb, rfl⟩ := hra
        obtain ⟨hbd, hrd⟩ := ones_read (P := P) hs (hr j (on_lor.2 (.inr (on_bit.2 rfl)))) h8 h10 hrb
        obtain ⟨rs, a0, a1, a2⟩ := hrd n (Nat.le_refl _)
        obtain ⟨cc, fz, os, b1, b2, b3, b4, b5, b6⟩ := knew e' sz' m per tr gr h12 old h16 h18 (Nat.le_of_ble_eq_true k3) R ρ w hs hi kb hkb
        obtain ⟨K, c2, w', d1, d2, d3, d4, d5, d6⟩ := append_newG (ty := o.type) (len := len) (cap := cap) (base := some ⟨kb.b, kb.o + off, none⟩) (os := os) (rs := rs) t0 t1 hu h1 hsz hinf hzv hzs (a2 w rfl).1 (b6 cap) (fun w' hw => (a2 w' hw).2) (by omega) (by omega) (by omega) (by rw [hby]; omega) (by omega)
        refine ⟨_, w', ρ.upd H.next ⟨w.heap.size, 0, n + len⟩, by rw [hrun eval _ _ w e1, d1]; rfl, .inl ⟨_, rfl, _, K, 0, Env.upd_at, by simp, by omega, by omega, by omega, by rw [Nat.add_comm len n]⟩, ?_⟩
        exact Goes.made hs hfr hG (fresh b2 a1 (by omega) (by omega) d5 d6) rfl d2 d3
      | _ => cases h13
    | g s0 =>
      obtain ⟨ob, h12, h13⟩ := get_ok h11
      cases ob with
      | row e' sz' m per tr gr =>
        cases gr with
        | false => cases h13
        | true =>
          obtain ⟨h14, h15⟩ := iff_no h13
          simp only [Bool.and_eq_true] at h14
          obtain ⟨⟨⟨⟨⟨⟨k1, k2⟩, k3⟩, k4⟩, k5⟩, k6⟩, k7⟩ := h14
          have ee := Nat.eq_of_beq_eq_true k1
          have es := Nat.eq_of_beq_eq_true k2
          have eo := Nat.eq_of_beq_eq_true k3
          subst ee es eo
          have hsl : len ≤ sl := Nat.le_of_ble_eq_true k6
          have hij : i ≠ j := fun e => by subst e; simp at k5
          obtain ⟨old, h16, h17⟩ := get_ok h15
          obtain ⟨h18, h19⟩ := iff_no h17
          rw [nat_eq, nat_eq, nat_eq, nat_eq] at h19
          refine ⟨_, _, _, _, h19, Pu.move _ _ _, fun R ρ w eval he hs hr hf hG => ?_⟩
          have hfr : ρ H.next = none := hf _ (Nat.le_refl _) (by rw [hp_kill, hp_new]; exact Nat.lt_succ_self _)
          have hi : R i := hr i (on_lor.2 (.inl (on_bit.2 rfl)))
          obtain ⟨ra, rb, e1, hra, hrb⟩ := two_args (fun x hx => he x (by have := Array.mem_toList_iff.1 hx; simp [ho, Op.operands, Call.operands, hc, this])) ha
          obtain ⟨kb, hkb, hcap, rfl⟩ := hra
          obtain ⟨hbd, hrd⟩ := ones_read (P := P) hs (hr j (on_lor.2 (.inr (on_bit.2 rfl)))) h8 h10 hrb
          obtain ⟨rs, a0, a1, a2⟩ := hrd n (Nat.le_refl _)
          obtain ⟨cc, fz, os, b1, b2, b3, b4, b5, b6⟩ := knew e 1 m per tr true h12 old h16 h18 (Nat.le_of_ble_eq_true k7) R ρ w hs hi kb hkb
          obtain ⟨cc', fz', ee, b7, b8, b9, b10⟩ := b5
          injection ee with ee1 _ ee2
          subst ee1 ee2
          have hsz2 : kb.o + kb.K * 1 = cc.size := by
            rcases b9 with ⟨_, h, _⟩ | ⟨h, _⟩
            · exact h
            · cases h
          by_cases hfit : len + n ≤ kb.K - off
          · have hle3 : kb.o + (off + len * 1) + rs.length ≤ cc.size := by omega
            have hst := storeCells_run (P := P) (b := kb.b) (o := kb.o + (off + len * 1)) rs 0 cc w b1 a1 (by simpa using hle3) b7
            simp only [Nat.add_zero] at hst
            refine ⟨.value (.slice (some ⟨kb.b, kb.o + off, none⟩) (len + n) (kb.K - off)), (if rs = [] then w else putW w kb.b (.cells (setL cc (kb.o + (off + len * 1)) rs) e fz)), ρ.upd H.next ⟨kb.b, kb.o + off, n + len⟩, ?_, .inl ⟨_, rfl, _, kb.K - off, 0, Env.upd_at, by simp, by omega, by omega, by omega, by rw [Nat.add_comm len n]; rfl⟩, Goes.move (k := ⟨kb.b, kb.o + off, n + len⟩) (ob := .cells (setL cc (kb.o + (off + len * 1)) rs) e fz) hs hi h12 hkb (Nat.le_of_ble_eq_true k4) hG hfr rfl ?_ ?_ ?_⟩
            · rw [hrun eval _ _ w e1, append_in t0 t1 hu h1 hsz (a2 w rfl).1 (a2 w rfl).2 hfit]
              simp only [add_eq, Nat.add_assoc] at hst ⊢
              rw [hst]
              rfl
            · refine ⟨_, _, _, rfl, by simp only [setL_size]; omega, fun q r hq hr => ?_⟩
              simp only at hq hr
              rw [setL_at _ _ _ _ hle3] at hr
              split at hr
              · exact a1 r (List.mem_of_getElem? hr)
              · rename_i hno
                have hqo : q < os.length := by omega
                have := b4 q _ (List.getElem?_eq_getElem hqo)
                rw [this] at hr
                injection hr with hr
                rw [← hr]
                exact b2 _ (List.getElem_mem hqo)
            · split
              · rename_i hemp
                rw [hemp]
                simp only [setL]
                apply Array.ext_getElem?
                intro j
                by_cases hj : kb.b = j
                · subst hj
                  rw [Array.getElem?_setIfInBounds_self_of_lt (hs.low _ _ hkb), b1]
                · rw [Array.getElem?_setIfInBounds_ne hj]
              · rfl
            · split <;> exact ⟨rfl, rfl, rfl⟩
          · obtain ⟨K, c2, w', d1, d2, d3, d4, d5, d6⟩ := append_newG (ty := o.type) (len := len) (cap := kb.K - off) (base := some ⟨kb.b, kb.o + off, none⟩) (os := os) (rs := rs) t0 t1 hu h1 hsz hinf hzv hzs (a2 w rfl).1 (b6 _) (fun w' hw => (a2 w' hw).2) (by omega) (by omega) (by omega) (by rw [hby]; omega) (by omega)
            refine ⟨_, w', ρ.upd H.next ⟨w.heap.size, 0, n + len⟩, by rw [hrun eval _ _ w e1, d1]; rfl, .inl ⟨_, rfl, _, K, 0, Env.upd_at, by simp, by omega, by omega, by omega, by rw [Nat.add_comm len n]⟩, ?_⟩
            have g1 := Goes.made (o := .ones) (k := ⟨w.heap.size, 0, n + len⟩) hs hfr hG (fresh b2 a1 (by omega) (by omega) d5 d6) rfl d2 d3
            have g2 := Goes.kill (x := i) g1.st (.inl hi) (Nat.le_of_ble_eq_true k4)
            have g3 := Goes.trans (fun x h1 h2 => hf x h1 (by rw [hp_kill]; exact h2)) g1 g2
            rw [show Nat.lor (bit i) (bit H.next) = Nat.lor (bit H.next) (bit i) from Nat.or_comm _ _]
            exact g3
      | _ => cases h13
  | _ => cases h11
end Go.Proofs.YtdldpehmcfbbeaaGreatDoor.Ev
