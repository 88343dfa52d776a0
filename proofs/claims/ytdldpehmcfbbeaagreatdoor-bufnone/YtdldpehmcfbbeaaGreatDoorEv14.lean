/- The evaluator's operations and the machine's: copy, calls; all of them. Condition: what is said of functions without a Go body (X). -/
import Derived.Test.YtdldpehmcfbbeaaGreatDoorEvM
import Derived.Test.YtdldpehmcfbbeaaGreatDoorEvW
import Derived.Lib.BytesEntry
namespace Go.Proofs.YtdldpehmcfbbeaaGreatDoor.Ev
variable {P : Program} {X : Ext} {G : Nat}
/-- A row of bytes, or the text that it reads as. -/
def SameB (P : Program) (w : World) (r r' : Value) : Prop := r = r' ∨ ∃ bs : List UInt8, r' = .string ⟨bs.toArray⟩ ∧ (Extern.Bytes.bytesOf r).run P w = .ok ⟨bs.toArray⟩ w
/-- What is said of functions without a Go body. -/
def ExtOk (P : Program) (X : Ext) : Prop := (∀ f e, X.ext f = some e → ∀ (args : Array Value) (w : World), (callFunc f args).run P w = ((e args).run P w).andThen fun v w' => .ok (.value v) w') ∧
  ∀ f e, X.bytes f = true → X.ext f = some e → ∀ (r0 r1 s0 s1 : Value) (w : World), SameB P w r0 s0 → SameB P w r1 s1 → (e #[r0, r1]).run P w = (e #[s0, s1]).run P w
theorem rdB_ok {R : Nat → Prop} {ρ : Env} {H : Hp} {w : World} {v v' : V} {a : Nat} {r : Value} (h : rdB v H = some (v', a)) (hs : St G R ρ H w) (hr : ∀ x, On a x → R x) (hv : VR ρ v r) : ∃ r', VR ρ v' r' ∧ SameB P w r r' := by
  cases v with
  | slice i off n cp =>
    obtain ⟨ob, h3, h4⟩ := opt_some h
    cases ob with
    | row e' sz m per tr gr =>
      simp only [iff_eq] at h4
      split at h4
      · rename_i h5
        obtain ⟨l, h7, h8⟩ := opt_some h4
        obtain ⟨bs, h9, h10⟩ := opt_some h8
        injection h10 with h10
        injection h10 with h10 h11
        subst h10 h11
        obtain ⟨kb, ob, c1, c2, c3⟩ := hs.sat i _ (hr i (on_bit.2 rfl)) h3
        obtain ⟨cc, fz, rfl, _, hcell, _, _⟩ := c3
        obtain ⟨rs, h14, h15, _, h16⟩ := readCells_ok hcell n off l h7 (Nat.le_of_ble_eq_true h5)
        obtain ⟨ns, h17, h18⟩ := toBytes_ok l bs rs h9 h14
        obtain ⟨kb2, cap2, h19, h20⟩ : ∃ kb2 cap2, ρ i = some kb2 ∧ r = .slice (some ⟨kb2.b, kb2.o + off, none⟩) n cap2 := by
          cases cp with
          | k c => obtain ⟨kb, h9, h10⟩ := hv; exact ⟨kb, _, h9, h10⟩
          | g s => obtain ⟨kb, h9, _, h10⟩ := hv; exact ⟨kb, _, h9, h10⟩
        rw [c1] at h19
        injection h19 with h19
        subst h19 h20
        refine ⟨.string ⟨bs.toArray⟩, rfl, .inr ⟨bs, rfl, ?_⟩⟩
        have hx := Lib.run_loadBytesX (P := P) w (ns.map fun n : Nat => (n : Int)) ⟨kb.b, kb.o + off, none⟩ .empty (fun j x hj => by
          rw [add_eq, cell_of c2]
          refine h16 j _ ?_
          rw [h17]
          simp only [List.getElem?_map] at hj ⊢
          obtain ⟨q, hq, rfl⟩ := Option.map_eq_some_iff.1 hj
          rw [hq]
          rfl)
        have hlen : (ns.map fun n : Nat => (n : Int)).length = n := by rw [← h15, h17]; simp
        rw [hlen] at hx
        have hbs : (ByteArray.empty.data ++ (Lib.bytesOf (ns.map fun n : Nat => (n : Int))).toArray) = bs.toArray := by
          rw [h18]
          rw [show ByteArray.empty.data = #[] from rfl, Array.empty_append]
          simp [Lib.bytesOf]
        rw [hbs] at hx
        exact hx
      · cases h4
    | _ => cases h4
  | nils =>
    injection h with h
    injection h with h1 h2
    subst h1 h2
    have hv' : r = .slice none 0 0 := hv
    subst hv'
    exact ⟨.string ⟨#[]⟩, rfl, .inr ⟨[], rfl, rfl⟩⟩
  | mt =>
    injection h with h
    injection h with h1 h2
    subst h1 h2
    obtain ⟨a, c, rfl⟩ := hv
    exact ⟨.string ⟨#[]⟩, rfl, .inr ⟨[], rfl, rfl⟩⟩
  | _ =>
    injection h with h
    injection h with h1 h2
    subst h1 h2
    exact ⟨r, hv, .inl rfl⟩
theorem copyOp_ok {o : Oper} {c : Call} {t : TypeId} {ts : List TypeId} {s x : V} {T : LL} {H : Hp} {k : K1} (ho : o.op = .call c) (hc : c.callee = .builtin .copy) (ha : evs G T c.args.toList = some [s, x]) (ht : c.argTypes.toList = t :: ts) (h : copyOp P G t s x H k = .ok) : Ex P G o T H k := by
  obtain ⟨⟨e, sz, by', z0⟩, h4, h5⟩ := get_ok h
  obtain ⟨hu, hsz, _, _⟩ := growT_ok h4
  have t0 : c.argTypes[0]? = some t := by rw [← Array.getElem?_toList, ht]; rfl
  have hrun : ∀ (eval : Operand → Value) (ra rb : Value) (w : World), c.args.map eval = #[ra, rb] → (execOp eval o).run P w = ((Builtin.copy_ c.argTypes o.type #[ra, rb]).run P w).andThen fun v w' => .ok (.value v) w' := by
    intro eval ra rb w e
    rw [builtin_run ho hc, e]
    simp only [builtin, Sem.run_bind]
    rfl
  cases s with
  | slice i off len cp =>
    obtain ⟨new, n, rx, l0, h8, hn0, hnl, hsrc⟩ := source_ok (P := P) (G := G) (lim := fun n => Nat.min n len) (by simp) (fun n => Nat.min_le_left _ _) h5
    obtain ⟨ob, h9, h10⟩ := get_ok h8
    cases ob with
    | row e' sz' m per tr gr =>
      obtain ⟨h13, h14⟩ := iff_no h10
      simp only [Bool.and_eq_true] at h13
      obtain ⟨⟨h15, h16⟩, h17⟩ := h13
      rw [nat_eq, nat_eq] at h14
      refine ⟨_, _, _, _, h14, (by first | exact Pu.refl _ _ | exact Pu.made _ _ | exact Pu.move _ _ _ | exact Pu.put h5 | exact Pu.put h9), fun R ρ w eval he hs hr _ _ => ?_⟩
      have hi : R i := hr i (on_lor.2 (.inr (on_bit.2 rfl)))
      obtain ⟨ra, rb, e1, hra, hrb⟩ := two_args (fun x hx => he x (by have := Array.mem_toList_iff.1 hx; simp [ho, Op.operands, Call.operands, hc, this])) ha
      obtain ⟨kb, cap, hkb, rfl⟩ : ∃ kb cap, ρ i = some kb ∧ ra = .slice (some ⟨kb.b, kb.o + off, none⟩) len cap := by
        cases cp with
        | k c => obtain ⟨kb, h9, h10⟩ := hra; exact ⟨kb, _, h9, h10⟩
        | g s => obtain ⟨kb, h9, _, h10⟩ := hra; exact ⟨kb, _, h9, h10⟩
      obtain ⟨rs, a1, a2⟩ := hsrc R ρ w rb hs (fun x hx => hr x (on_lor.2 (.inl hx))) hrb
      obtain ⟨kb', ob, b1, b2, b3⟩ := hs.sat i _ hi h9
      rw [hkb] at b1
      injection b1 with b1
      subst b1
      obtain ⟨cc, fz, rfl, b4, b5, b6, b7⟩ := b3
      have hle2 : off + n * sz ≤ m := Nat.le_of_ble_eq_true h15
      obtain ⟨c1, c2⟩ := SatO.write (ρ := ρ) (k := kb) (sz := sz') (n := m) (per := per) (tr := tr) (gr := gr) ⟨cc, fz, rfl, b4, b5, b6, b7⟩ a1 (off := off) (by omega)
      have hst := storeCells_run (P := P) (b := kb.b) (o := kb.o + off) rs 0 cc w b2 (ones_ok a1 h17) (by simpa using c2) b4
      simp only [Nat.add_zero] at hst
      refine ⟨_, _, ρ, ?_, .inl ⟨_, rfl, rfl⟩, store_goes hs hi h9 hkb (Nat.le_of_ble_eq_true h16) b2 c1⟩
      rw [hrun eval _ _ w e1]
      unfold Builtin.copy_
      simp only [t0, Array.getElem?_eq_getElem (show 0 < (#[Value.slice (some ⟨kb.b, kb.o + off, none⟩) len cap, rb] : Array Value).size by simp), Array.getElem?_eq_getElem (show 1 < (#[Value.slice (some ⟨kb.b, kb.o + off, none⟩) len cap, rb] : Array Value).size by simp)]
      simp only [List.getElem_toArray, List.getElem_cons_zero, List.getElem_cons_succ, Sem.run_bind, run_underlying hu, Result.andThen_ok, (a2 w rfl).1, ← hn0, size_run hsz, (a2 w rfl).2, hst]
      rfl
    | _ => cases h10
  | _ => cases h5
theorem okFn_ok {f : FuncId} (h : okFn P f = true) (args : Array Value) (w : World) : (callFunc f args).run P w = .ok (.enter f args) w := by
  unfold okFn at h
  split at h
  · rename_i fn hfn
    simp only [Bool.and_eq_true, Bool.not_eq_true', beq_eq_false_iff_ne, ne_eq] at h
    simp [callFunc, hfn, h.1]
    intro hn
    have := h.2
    rw [hn] at this
    cases this
  · cases h
theorem callV_ok (hX : ExtOk P X) {o : Oper} {c : Call} {x : Operand} {v : V} {args : List V} {T : LL} {H : Hp} {k : K1} (ho : o.op = .call c) (hc : c.callee = .value x) (ha : evs G T c.args.toList = some args) (hv : ev G T x = some v) (h : callV P X v args H k = .ok) : Ex P G o T H k := by
  cases v with
  | func f first cap =>
    have hrun : ∀ (ρ : Env) (eval : Operand → Value) (w : World), EvR G ρ T o eval → ∃ ra : Array Value, (execOp eval o).run P w = (callFunc f ra).run P w ∧ VRs ρ (first ++ args ++ cap) ra.toList := by
      intro ρ eval w he
      obtain ⟨r1, r2, e, a1, a2⟩ := he x (by simp [ho, Op.operands, Call.operands, hc]) _ hv
      refine ⟨r1 ++ c.args.map eval ++ r2, ?_, ?_⟩
      · unfold execOp
        rw [ho]
        simp [resolve, hc, e, Deferred.ofValue, invoke]
      · simp only [Array.toList_append, Array.toList_map]
        exact (a1.append (evs_ok _ _ (fun x hx => he x (by have := Array.mem_toList_iff.1 hx; simp [ho, Op.operands, Call.operands, hc, this])) ha)).append a2
    rcases iff_ok h with ⟨h1, h2⟩ | ⟨h1, h2⟩
    · refine ⟨_, _, _, _, h2, (by first | exact Pu.refl _ _ | exact Pu.made _ _ | exact Pu.move _ _ _ | exact Pu.put h5 | exact Pu.put h9), fun R ρ w eval he hs _ _ _ => ?_⟩
      obtain ⟨ra, a1, a2⟩ := hrun ρ eval w he
      exact ⟨_, w, ρ, by rw [a1, okFn_ok h1], ⟨ra, rfl, a2⟩, Goes.refl hs rfl ⟨rfl, rfl, rfl⟩⟩
    rcases iff_ok h2 with ⟨hby, h2⟩ | ⟨_, h2⟩
    · unfold extM at h2
      split at h2
      · rename_i x0 y0 hargs
        obtain ⟨⟨x1, ma⟩, h3, h4⟩ := get_ok h2
        obtain ⟨⟨y1, mb⟩, h5, h6⟩ := get_ok h4
        obtain ⟨a, h11, h12⟩ := get_ok h6
        rw [firm_eq, nat_eq] at h12
        refine Ex.read h12 fun R ρ w eval he hs hr => ?_
        obtain ⟨ra, a1, a2⟩ := hrun ρ eval w he
        rw [hargs] at a2
        obtain ⟨r0, rs0, e0, hv0, r1, rs1, e1, hy, hnil⟩ := a2
        have hnil' : rs1 = [] := hnil
        subst hnil' e1
        obtain ⟨s0, g1, g2⟩ := rdB_ok (P := P) h3 hs (fun x hx => hr x (on_lor.2 (.inl hx))) hv0
        obtain ⟨s1, g3, g4⟩ := rdB_ok (P := P) h5 hs (fun x hx => hr x (on_lor.2 (.inr hx))) hy
        obtain ⟨e, b1, b2⟩ := opt_some h11
        obtain ⟨lv, b3, b4⟩ := opt_some b2
        obtain ⟨u, b5, b6⟩ := opt_some b4
        have hl : [s0, s1] = lv := toV_mapM (ρ := ρ) (fun a v r => toV_ok 6 a v r) _ _ _ b3 ⟨_, _, rfl, g1, _, _, rfl, g3, rfl⟩
        have hra : ra = #[r0, r1] := by
          rcases ra with ⟨q⟩
          simp only at e0
          rw [e0]
        refine ⟨u, ?_, ofV_ok 6 u a b6⟩
        rw [a1, hX.1 f e b1, hra, hX.2 f e hby b1 _ _ _ _ _ g2 g4, show #[s0, s1] = lv.toArray by rw [← hl], pureRun_ok _ _ b5]
        rfl
      · cases h2
    · obtain ⟨a, h3, h4⟩ := get_ok h2
      rw [firm_eq] at h4
      refine Ex.plain h4 fun ρ w eval he => ?_
      obtain ⟨ra, a1, a2⟩ := hrun ρ eval w he
      obtain ⟨e, b1, b2⟩ := opt_some h3
      obtain ⟨l, b3, b4⟩ := opt_some b2
      obtain ⟨u, b5, b6⟩ := opt_some b4
      have hl : ra.toList = l := toV_mapM (fun a v r => toV_ok 6 a v r) _ _ _ b3 a2
      have hra : ra = l.toArray := by rw [← hl]
      refine ⟨u, ?_, ofV_ok 6 u a b6⟩
      rw [a1, hX.1 f e b1, hra, pureRun_ok _ _ b5]
      rfl
  | yield i =>
    obtain ⟨ob, h1, h2⟩ := get_ok h
    cases ob with
    | loop st pend fn T' nt ps a b df =>
      obtain ⟨h3, h4⟩ := iff_no h2
      rw [nat_eq] at h4
      refine ⟨_, _, _, _, h4, (by first | exact Pu.refl _ _ | exact Pu.made _ _ | exact Pu.move _ _ _ | exact Pu.put h5 | exact Pu.put h9), fun R ρ w eval he hs hr _ _ => ?_⟩
      obtain ⟨kb, e1, e2⟩ := he x (by simp [ho, Op.operands, Call.operands, hc]) _ hv
      obtain ⟨kb', ob, b1, b2, b3⟩ := hs.sat i _ (hr i (on_bit.2 rfl)) h1
      rw [e1] at b1
      injection b1 with b1
      subst b1
      obtain ⟨l, kd, rfl, c1, c2, c3, c4, c5, c6, c7, c8, c9⟩ := b3
      have hargs := evs_ok _ _ (fun x hx => he x (by have := Array.mem_toList_iff.1 hx; simp [ho, Op.operands, Call.operands, hc, this])) ha
      refine ⟨_, w, ρ, ?_, ⟨kb, l, c.args.map eval, e1, b2, rfl, by rw [Array.toList_map]; exact hargs, fun o2 h2 => by (have h2 := (show H.tr.get i = _ from h1).symm.trans h2; injection h2 with h2; subst h2; exact ⟨l, kd, rfl, c1, c2, c3, c4, c5, c6, c7, c8, c9⟩)⟩, Goes.refl hs rfl ⟨rfl, rfl, rfl⟩⟩
      have hsize : (c.args.map eval).size = l.params.size := by
        have h5 := hargs.length
        have h6 := Nat.eq_of_beq_eq_true h3
        rw [← c5] at h6
        simp at h5 h6 ⊢
        omega
      unfold execOp
      rw [ho]
      simp only [Sem.run_bind, resolve, hc, e2, Deferred.ofValue, Sem.run_pure, Result.andThen_ok, invoke, Instr.yield, Instr.getLoop, getObj, Sem.run, b2]
      simp only [Array.empty_append, hsize]
      simp
    | _ => cases h2
  | _ => cases h
theorem methT_ok {t : TypeId} {name : String} {f : FuncId} (h : methT P t name = some f) (v : Value) (n : Nat) (w : World) : (method (n + 1) t v name).run P w = .ok (f, v) w := by
  unfold methT at h
  split at h
  · rename_i i hi
    split at h
    · rename_i m hm
      have hp : ∀ hz : m.path.size = 0, m.path.toList = [] := fun hz => by
        have := Array.eq_empty_of_size_eq_zero hz
        rw [this]
      split at h
      · rename_i f' e hz hf hu
        injection h with h
        subst h
        simp [method, info_bytes hi, hm, hp hz, follow, hf, receiverAt, run_underlying hu, Place.get]
      · cases h
      · cases h
      · rename_i f' d hd hz hf hu
        injection h with h
        subst h
        simp only [method, Sem.run_bind, info_bytes hi, Result.andThen_ok, hm, hp hz, follow, Sem.run_pure, hf, receiverAt, run_underlying hu]
        cases d <;> first | (exact (hd _ hz hf hu).elim) | (exact (hd _ rfl).elim) | rfl
      · cases h
    · cases h
  · cases h
theorem callM_ok {o : Oper} {c : Call} {x : Operand} {name : String} {v : V} {args : List V} {T : LL} {H : Hp} {k : K1} (ho : o.op = .call c) (hc : c.callee = .invoke x name) (ha : evs G T c.args.toList = some args) (hv : ev G T x = some v) (h : callM P v name args H k = .ok) : Ex P G o T H k := by
  cases v with
  | iface t u =>
    obtain ⟨f, h1, h2⟩ := get_ok h
    obtain ⟨h3, h4⟩ := iff_no h2
    refine ⟨_, _, _, _, h4, (by first | exact Pu.refl _ _ | exact Pu.made _ _ | exact Pu.move _ _ _ | exact Pu.put h5 | exact Pu.put h9), fun R ρ w eval he hs _ _ _ => ?_⟩
    obtain ⟨r, e, hr⟩ := he x (by simp [ho, Op.operands, Call.operands, hc]) _ hv
    have hargs := evs_ok _ _ (fun x hx => he x (by have := Array.mem_toList_iff.1 hx; simp [ho, Op.operands, Call.operands, hc, this])) ha
    refine ⟨.enter f (#[r] ++ c.args.map eval), w, ρ, ?_, ⟨_, rfl, by simpa using ⟨r, _, rfl, hr, hargs⟩⟩, Goes.refl hs rfl ⟨rfl, rfl, rfl⟩⟩
    unfold execOp
    rw [ho]
    have hm := fun n => methT_ok (P := P) h1 r n w
    simp only [Sem.run_bind, resolve, hc, Sem.run_pure, Result.andThen_ok, invoke, e]
    have e2 : (#[Value.iface t r] ++ c.args.map eval)[0]? = some (.iface t r) := by rw [Array.getElem?_append_left (by simp)]; rfl
    have e3 : (#[Value.iface t r] ++ c.args.map eval).extract 1 (#[Value.iface t r] ++ c.args.map eval).size = c.args.map eval := by
      apply Array.ext'
      rw [Array.toList_extract, List.extract_eq_take_drop]
      simp only [Array.toList_append, List.cons_append, List.nil_append, List.drop_succ_cons, List.drop_zero, Array.size_append]
      exact List.take_of_length_le (by simp)
    simp only [e2, e3, callMethod, Sem.run_bind, run_program, Result.andThen_ok]
    have hd : 0 < Made.depth := by decide
    have e4 : P.types.size + Made.depth = (P.types.size + Made.depth - 1) + 1 := by omega
    rw [e4, hm]
    simp only [Result.andThen_ok, okFn_ok h3]
  | _ => cases h
theorem args_one {ρ : Env} {T : LL} {eval : Operand → Value} {c : Call} (he : ∀ x, x ∈ c.args.toList → ∀ v, ev G T x = some v → VR ρ v (eval x)) {a : V} (h : evs G T c.args.toList = some [a]) : ∃ ra, c.args.map eval = #[ra] ∧ VR ρ a ra := by
  obtain ⟨ra, rs, h1, h2, h3⟩ := evs_ok _ _ he h
  obtain rfl := show rs = [] from h3
  refine ⟨ra, ?_, h2⟩
  apply Array.ext'
  rw [Array.toList_map, h1]
theorem callB_ok {o : Oper} {c : Call} {b : Builtin} {args : List V} {T : LL} {H : Hp} {k : K1} (ho : o.op = .call c) (hc : c.callee = .builtin b) (ha : evs G T c.args.toList = some args) (h : callB P G o b args c.argTypes.toList T H k = .ok) : Ex P G o T H k := by
  unfold callB at h
  split at h
  · rename_i s j n sl L t t2 ts hts
    rcases iff_ok h with ⟨_, h'⟩ | ⟨_, h'⟩
    · exact appendW_ok ho hc ha hts h'
    · exact appendOp_ok ho hc ha hts h'
  · rename_i s x t t2 ts _ hts
    exact appendOp_ok ho hc ha hts h
  · rename_i s x t ts hts
    exact copyOp_ok ho hc ha hts h
  · rename_i i off n cp t ts hts
    split at h
    · rename_i e hu
      refine Ex.plain h fun ρ w eval he => ?_
      obtain ⟨ra, e1, hra⟩ := args_one (fun x hx => he x (by have := Array.mem_toList_iff.1 hx; simp [ho, Op.operands, Call.operands, hc, this])) ha
      have t0 : c.argTypes[0]? = some t := by rw [← Array.getElem?_toList, hts]; rfl
      obtain ⟨a, cap, rfl⟩ : ∃ a cap, ra = .slice a n cap := by
        cases cp with
        | k c => obtain ⟨kb, _, h10⟩ := hra; exact ⟨_, _, h10⟩
        | g s => obtain ⟨kb, _, _, h10⟩ := hra; exact ⟨_, _, h10⟩
      refine ⟨.int .i64 n, ?_, rfl⟩
      rw [builtin_run ho hc, e1]
      simp [builtin, Builtin.len_, t0, run_underlying hu, goInt]
    · cases h
  · rename_i i n sl L t ts hts
    split at h
    · rename_i e hu
      refine Ex.plain h fun ρ w eval he => ?_
      obtain ⟨ra, e1, hra⟩ := args_one (fun x hx => he x (by have := Array.mem_toList_iff.1 hx; simp [ho, Op.operands, Call.operands, hc, this])) ha
      have t0 : c.argTypes[0]? = some t := by rw [← Array.getElem?_toList, hts]; rfl
      obtain ⟨kb, cp, off, _, _, _, _, _, rfl⟩ := hra
      refine ⟨.int .i64 n, ?_, rfl⟩
      rw [builtin_run ho hc, e1]
      simp [builtin, Builtin.len_, t0, run_underlying hu, goInt]
    · cases h
  · rename_i s t ts hts
    split at h
    · rename_i hu
      rw [nat_eq] at h
      refine Ex.plain h fun ρ w eval he => ?_
      obtain ⟨ra, e1, hra⟩ := args_one (fun x hx => he x (by have := Array.mem_toList_iff.1 hx; simp [ho, Op.operands, Call.operands, hc, this])) ha
      have t0 : c.argTypes[0]? = some t := by rw [← Array.getElem?_toList, hts]; rfl
      obtain rfl := show ra = .string ⟨s.toArray⟩ from hra
      refine ⟨.int .i64 s.length, ?_, rfl⟩
      rw [builtin_run ho hc, e1]
      have hsz : (⟨s.toArray⟩ : ByteArray).size = s.length := by simp [ByteArray.size]
      simp [builtin, Builtin.len_, t0, run_underlying hu, goInt, hsz]
    · cases h
  · rename_i t ts hts
    split at h
    · rename_i e hu
      refine Ex.plain h fun ρ w eval he => ?_
      obtain ⟨ra, e1, hra⟩ := args_one (fun x hx => he x (by have := Array.mem_toList_iff.1 hx; simp [ho, Op.operands, Call.operands, hc, this])) ha
      have t0 : c.argTypes[0]? = some t := by rw [← Array.getElem?_toList, hts]; rfl
      obtain ⟨a, cap, rfl⟩ := hra
      refine ⟨.int .i64 0, ?_, rfl⟩
      rw [builtin_run ho hc, e1]
      simp [builtin, Builtin.len_, t0, run_underlying hu, goInt]
    · cases h
  · refine ⟨_, _, _, _, h, (by first | exact Pu.refl _ _ | exact Pu.made _ _ | exact Pu.move _ _ _ | exact Pu.put h5 | exact Pu.put h9), fun R ρ w eval he hs _ _ _ => ⟨.recover, w, ρ, ?_, rfl, Goes.refl hs rfl ⟨rfl, rfl, rfl⟩⟩⟩
    rw [builtin_run ho hc]
    rfl
  · exact plainOp_ok h
theorem xCall_ok (hX : ExtOk P X) {o : Oper} {c : Call} {T : LL} {H : Hp} {k : K1} (ho : o.op = .call c) (h : xCallO c P X G o T H k = .ok) : Ex P G o T H k := by
  obtain ⟨args, h1, h2⟩ := get_ok h
  split at h2
  · rename_i x hc
    obtain ⟨v, h3, h4⟩ := get_ok h2
    exact callV_ok hX ho hc h1 h3 h4
  · rename_i x name hc
    obtain ⟨v, h3, h4⟩ := get_ok h2
    exact callM_ok ho hc h1 h3 h4
  · rename_i b hc
    exact callB_ok ho hc h1 h2
theorem xDefer_ok {o : Oper} {c : Call} {T : LL} {H : Hp} {k : K1} (ho : o.op = .defer c) (h : xDeferO c P X G o T H k = .ok) : Ex P G o T H k := by
  unfold xDeferO xDefer at h
  split at h
  · rename_i x hc
    obtain ⟨args, h1, h2⟩ := get_ok h
    obtain ⟨v, h3, h4⟩ := get_ok h2
    cases v with
    | func f first cap =>
      refine ⟨_, _, _, _, h4, (by first | exact Pu.refl _ _ | exact Pu.made _ _ | exact Pu.move _ _ _ | exact Pu.put h5 | exact Pu.put h9), fun R ρ w eval he hs _ _ _ => ?_⟩
      obtain ⟨r1, r2, e, a1, a2⟩ := he x (by simp [ho, Op.operands, Call.operands, hc]) _ h3
      refine ⟨.defer { target := .fn (.func f) r2, args := r1 ++ c.args.map eval }, w, ρ, ?_, ⟨_, rfl, r1 ++ c.args.map eval, r2, rfl, ?_, a2⟩, Goes.refl hs rfl ⟨rfl, rfl, rfl⟩⟩
      · unfold execOp
        rw [ho]
        simp [resolve, hc, e, Deferred.ofValue]
      · simp only [Array.toList_append, Array.toList_map]
        exact a1.append (evs_ok _ _ (fun x hx => he x (by have := Array.mem_toList_iff.1 hx; simp [ho, Op.operands, Call.operands, hc, this])) h1)
    | _ => cases h4
  · cases h
/-- An operation that the evaluator goes through: the machine does so. -/
theorem exec_ok (hX : ExtOk P X) {o : Oper} {T : LL} {H : Hp} {k : K1} (h : execF o.op P X G o T H k = .ok) : Ex P G o T H k := by
  cases ho : o.op with
  | move x => rw [ho] at h; exact xMove_ok (X := X) (.inl ho) h
  | assign x => rw [ho] at h; exact xMove_ok (X := X) (.inr ho) h
  | pick c a b => rw [ho] at h; exact xPick_ok (X := X) ho h
  | alloc t => rw [ho] at h; exact xAlloc_ok (X := X) ho h
  | box t x => rw [ho] at h; exact xBox_ok (X := X) ho h
  | build t ps => rw [ho] at h; exact xBuild_ok (X := X) ho h
  | buildSlice t n ps => rw [ho] at h; exact xBuildSlice_ok (X := X) ho h
  | load t x => rw [ho] at h; exact xLoad_ok (X := X) ho h
  | store t x y => rw [ho] at h; exact xStore_ok (X := X) ho h
  | nilCheck x => rw [ho] at h; exact xNilCheck_ok (X := X) ho h
  | binOp op t x y t2 => rw [ho] at h; exact xBin_ok (X := X) ho (fun a b h1 h2 h3 => xEq_ok ho h1 h2 h3) h
  | unOp op t x => rw [ho] at h; exact xUn_ok (X := X) ho h
  | convert s d x => rw [ho] at h; exact xConvert_ok (X := X) ho h
  | makeInterface t x => rw [ho] at h; exact xMakeIface_ok (X := X) ho h
  | makeFunc f a b => rw [ho] at h; exact xMakeFunc_ok (X := X) ho h
  | makeSlice t a b => rw [ho] at h; exact xMakeSlice_ok (X := X) ho h
  | slice t x lo hi mx => rw [ho] at h; exact xSlice_ok (X := X) ho h
  | fieldAddr s x f => rw [ho] at h; exact xField_ok (X := X) ho h
  | field s x f => rw [ho] at h; exact xFieldV_ok (X := X) ho h
  | indexAddr t x y => rw [ho] at h; exact xIndexAddr_ok (X := X) ho h
  | index t x y => rw [ho] at h; exact xIndex_ok (X := X) ho h
  | makeMap t r => rw [ho] at h; exact xMakeMap_ok (X := X) ho h
  | lookup t x y ok => rw [ho] at h; exact xLookup_ok (X := X) ho h
  | mapUpdate t x y z => rw [ho] at h; exact xMapUpdate_ok (X := X) (.inl ho) h
  | insert t x y z => rw [ho] at h; exact xMapUpdate_ok (X := X) (.inr ho) h
  | mapEntry t x y => rw [ho] at h; exact xMapEntry_ok (X := X) ho h
  | entryStore t x y z => rw [ho] at h; exact xEntryStore_ok (X := X) ho h
  | range t x => rw [ho] at h; exact xRange_ok (X := X) ho h
  | next x b => rw [ho] at h; exact xNext_ok (X := X) ho h
  | typeAssert x t0 t ok => rw [ho] at h; exact xAssert_ok (X := X) ho h
  | extract x j => rw [ho] at h; exact xExtract_ok (X := X) ho h
  | call c => rw [ho] at h; exact xCall_ok hX ho h
  | defer c => rw [ho] at h; exact xDefer_ok (X := X) ho h
  | _ => rw [ho] at h; cases h
end Go.Proofs.YtdldpehmcfbbeaaGreatDoor.Ev
