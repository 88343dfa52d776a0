/- The evaluator's operations and the machine's: append and copy. No condition. -/
import Derived.Test.YtdldpehmcfbbeaaGreatDoorEv11
namespace Go.Proofs.YtdldpehmcfbbeaaGreatDoor.Ev
variable {P : Program} {X : Ext} {G : Nat}
theorem iff_t {a b : Bool} (h : iff a b false = true) : a = true ∧ b = true := by
  cases a with
  | true => exact ⟨rfl, h⟩
  | false => cases h
theorem allOnes_ok {per : Per} {tr : Tr V} : ∀ {n : Nat}, allOnes per tr n = true → ∀ i, i < n → ∃ v, rget per tr i = some v ∧ v.one = true
  | 0, _, i, hi => by omega
  | n + 1, h, i, hi => by
    obtain ⟨h1, h2⟩ := iff_t (show iff (match rget per tr n with | some v => v.one | none => false) (allOnes per tr n) false = true from h)
    by_cases e : i = n
    · subst e
      cases hg : rget per tr i with
      | none => rw [hg] at h1; cases h1
      | some v => rw [hg] at h1; exact ⟨v, rfl, h1⟩
    · exact allOnes_ok h2 i (by omega)
/-- What is read of a block of which nothing is known but that its cells are single. -/
theorem ones_read {R : Nat → Prop} {ρ : Env} {H : Hp} {w : World} {j n sl L : Nat} {src : O} {rb : Value} (hs : St G R ρ H w) (hj : R j) (hg : H.tr.get j = some src) (ho : isOnes src L = true) (hv : VR ρ (.vs j n sl L) rb) :
    n + sl ≤ 140737488355328 ∧ ∀ m, m ≤ n → ∃ rs : List Value, rs.length = m ∧ (∀ r ∈ rs, One r) ∧ ∀ w', w'.heap = w.heap → (Builtin.lenOf rb).run P w' = .ok n w' ∧ (Builtin.firstCells 1 m rb).run P w' = .ok rs.toArray w' := by
  obtain ⟨kb, ob, a1, a2, a3⟩ := hs.sat j _ hj hg
  obtain ⟨kb', cp, off, b1, b2, b2', b3, b4, rfl⟩ := hv
  rw [a1] at b1
  injection b1 with b1
  subst b1
  obtain ⟨cc, el, fz, rfl, c1, c2⟩ : ∃ cc el fz, ob = .cells cc el fz ∧ kb.o + off + n ≤ cc.size ∧ ∀ i r, i < n → cc[kb.o + off + i]? = some r → One r := by
    cases src with
    | ones =>
      obtain ⟨cc, el, fz, rfl, d1, d2⟩ := a3
      exact ⟨cc, el, fz, rfl, by omega, fun i r hi hr => d2 (off + i) r (by omega) (by rw [← Nat.add_assoc]; exact hr)⟩
    | row e sz m per tr gr =>
      cases gr with
      | true => cases ho
      | false =>
        obtain ⟨h1, h2⟩ := iff_t (show iff (Nat.ble L m) (allOnes per tr m) false = true from ho)
        have hLm := Nat.le_of_ble_eq_true h1
        obtain ⟨cc, fz, rfl, d1, d2, d3, d4⟩ := a3
        obtain ⟨d5, d6⟩ : kb.o = 0 ∧ cc.size = m := by
          rcases d3 with ⟨h, _⟩ | ⟨_, h⟩
          · cases h
          · exact h
        refine ⟨cc, _, fz, rfl, by omega, fun i r hi hr => ?_⟩
        obtain ⟨v, e1, e2⟩ := allOnes_ok h2 (off + i) (by omega)
        obtain ⟨r', e3, e4⟩ := d2 (off + i) v (by omega) e1
        rw [← Nat.add_assoc, hr] at e3
        injection e3 with e3
        rw [e3]
        exact VR.one e4 e2
    | _ => cases ho
  refine ⟨b4, fun m hm => ?_⟩
  have hat : ∀ (i : Nat) v, ((cc.toList.drop (kb.o + off)).take m)[i]? = some v → i < m ∧ cc[kb.o + off + i]? = some v := by
    intro i v hi
    rw [List.getElem?_take] at hi
    split at hi
    · rename_i hin
      rw [List.getElem?_drop] at hi
      exact ⟨hin, by rw [← Array.getElem?_toList]; exact hi⟩
    · cases hi
  have hlen : ((cc.toList.drop (kb.o + off)).take m).length = m := by
    rw [List.length_take, List.length_drop, Array.length_toList]
    omega
  refine ⟨(cc.toList.drop (kb.o + off)).take m, hlen, fun r hr => ?_, fun w' hw => ⟨rfl, ?_⟩⟩
  · obtain ⟨i, hi⟩ := List.getElem?_of_mem hr
    obtain ⟨e1, e2⟩ := hat i r hi
    exact c2 i r (by omega) e2
  · have hload := loadCells_run (P := P) (w := w') (by rw [hw]; exact a2) (o := kb.o + off) ((cc.toList.drop (kb.o + off)).take m) fun i v hi => (hat i v hi).2
    rw [hlen] at hload
    simpa [Builtin.firstCells] using hload
theorem unks_ok {ρ : Env} : ∀ {rs : List Value}, (∀ r ∈ rs, One r) → VRs ρ (List.replicate rs.length .unk) rs
  | [], _ => rfl
  | r :: rs, h => ⟨r, rs, rfl, h r (by simp), unks_ok fun x hx => h x (by simp [hx])⟩
/-- What is appended or copied, and how the machine reads it. -/
theorem source_ok {sz : Nat} {x : V} {lim : Nat → Nat} {H : Hp} {k : List V → Nat → Nat → Ans} (h0 : lim 0 = 0) (hlim : ∀ n, lim n ≤ n) (h : source sz x lim H k = .ok) :
    ∃ new n rx len, k new n rx = .ok ∧ n = lim len ∧ new.length = n * sz ∧
      ∀ (R : Nat → Prop) (ρ : Env) (w : World) (r : Value), St G R ρ H w → (∀ x, On rx x → R x) → VR ρ x r → ∃ rs : List Value, VRs ρ new rs ∧ ∀ w', w'.heap = w.heap → (Builtin.lenOf r).run P w' = .ok len w' ∧ (Builtin.firstCells sz n r).run P w' = .ok rs.toArray w' := by
  cases x with
  | nils =>
    refine ⟨[], 0, 0, 0, h, h0.symm, by simp, fun R ρ w r _ _ hr => ?_⟩
    obtain rfl := show r = .slice none 0 0 from hr
    exact ⟨[], rfl, fun w' _ => ⟨rfl, rfl⟩⟩
  | mt =>
    refine ⟨[], 0, 0, 0, h, h0.symm, by simp, fun R ρ w r _ _ hr => ?_⟩
    obtain ⟨a, c, rfl⟩ := hr
    exact ⟨[], rfl, fun w' _ => ⟨rfl, by simp [Builtin.firstCells, loadCells, loadCellsFrom]⟩⟩
  | str l =>
    obtain ⟨h1, h2⟩ := iff_no h
    have e := Nat.eq_of_beq_eq_true h1
    subst e
    rw [nat_eq] at h2
    refine ⟨_, _, _, l.length, h2, rfl, by simp; exact Nat.min_eq_left (hlim _), fun R ρ w r _ _ hr => ?_⟩
    obtain rfl := show r = .string ⟨l.toArray⟩ from hr
    refine ⟨_, u8s (l.take (lim l.length)), fun w' _ => ⟨by simp [Builtin.lenOf, ByteArray.size], ?_⟩⟩
    simp only [Builtin.firstCells, Sem.run_pure]
    congr 1
    simp [ByteArray.data_extract]
  | slice j off n c =>
    simp only [source, nat_eq] at h
    obtain ⟨ob, h2, h3⟩ := get_ok h
    cases ob with
    | row e sz' m per tr gr =>
      obtain ⟨h4, h5⟩ := iff_no h3
      obtain ⟨l, h6, h7⟩ := get_ok h5
      have hl : ∀ (nn off : Nat) (l : List V), readCells per tr nn off = some l → l.length = nn := by
        intro nn
        induction nn with
        | zero => intro off l h; injection h with h; subst h; rfl
        | succ nn ih =>
          intro off l h
          obtain ⟨v, _, h2⟩ := opt_some (x := rget per tr off) h
          obtain ⟨l', h3, h4⟩ := opt_some (x := readCells per tr nn (off + 1)) h2
          injection h4 with h4
          subst h4
          simp [ih _ _ h3]
      refine ⟨l, lim n, bit j, n, h7, rfl, hl _ _ _ h6, fun R ρ w r hs hr hv => ?_⟩
      obtain ⟨kb, ob, h8, h9, h10⟩ := hs.sat j _ (hr j (on_bit.2 rfl)) h2
      obtain ⟨cc, fz, rfl, _, hcell, _, _⟩ := h10
      obtain ⟨rs, h14, h15, _, h16⟩ := readCells_ok hcell (lim n * sz) off l h6 (Nat.le_of_ble_eq_true h4)
      obtain ⟨kb2, cp, h19, h20⟩ : ∃ kb2 cp, ρ j = some kb2 ∧ r = .slice (some ⟨kb2.b, kb2.o + off, none⟩) n cp := by
        cases c with
        | k c => obtain ⟨kb, h9, h10⟩ := hv; exact ⟨kb, _, h9, h10⟩
        | g s => obtain ⟨kb, h9, _, h10⟩ := hv; exact ⟨kb, _, h9, h10⟩
      rw [h8] at h19
      injection h19 with h19
      subst h19 h20
      refine ⟨rs, h14, fun w' hw => ⟨rfl, ?_⟩⟩
      rw [← hw] at h9
      have hload := loadCells_run (P := P) h9 (o := kb.o + off) rs h16
      rw [h15] at hload
      exact hload
    | look m tr =>
      obtain ⟨h4, h5⟩ := iff_no h3
      obtain ⟨l, h6, h7⟩ := get_ok h5
      have hl : ∀ (nn off : Nat) (l : List V), readCells noPer tr nn off = some l → l.length = nn := by
        intro nn
        induction nn with
        | zero => intro off l h; injection h with h; subst h; rfl
        | succ nn ih =>
          intro off l h
          obtain ⟨v, _, h2⟩ := opt_some (x := rget noPer tr off) h
          obtain ⟨l', h3, h4⟩ := opt_some (x := readCells noPer tr nn (off + 1)) h2
          injection h4 with h4
          subst h4
          simp [ih _ _ h3]
      refine ⟨l, lim n, bit j, n, h7, rfl, hl _ _ _ h6, fun R ρ w r hs hr hv => ?_⟩
      obtain ⟨kb, ob, h8, h9, h10⟩ := hs.sat j _ (hr j (on_bit.2 rfl)) h2
      obtain ⟨cc, el, fz, rfl, hcell⟩ := h10
      obtain ⟨rs, h14, h15, _, h16⟩ := readCells_ok hcell (lim n * sz) off l h6 (Nat.le_of_ble_eq_true h4)
      obtain ⟨kb2, cp, h19, h20⟩ : ∃ kb2 cp, ρ j = some kb2 ∧ r = .slice (some ⟨kb2.b, kb2.o + off, none⟩) n cp := by
        cases c with
        | k c => obtain ⟨kb, h9, h10⟩ := hv; exact ⟨kb, _, h9, h10⟩
        | g s => obtain ⟨kb, h9, _, h10⟩ := hv; exact ⟨kb, _, h9, h10⟩
      rw [h8] at h19
      injection h19 with h19
      subst h19 h20
      refine ⟨rs, h14, fun w' hw => ⟨rfl, ?_⟩⟩
      rw [← hw] at h9
      have hload := loadCells_run (P := P) h9 (o := kb.o + off) rs h16
      rw [h15] at hload
      exact hload
    | _ => cases h3
  | vs j n sl L =>
    obtain ⟨h1, h2⟩ := iff_no h
    have e := Nat.eq_of_beq_eq_true h1
    subst e
    rw [nat_eq] at h2
    obtain ⟨src, h3, h4⟩ := get_ok h2
    obtain ⟨h5, h6⟩ := iff_no h4
    rw [nat_eq] at h6
    refine ⟨_, lim n, bit j, n, h6, rfl, by simp, fun R ρ w r hs hr hv => ?_⟩
    obtain ⟨_, hrd⟩ := ones_read (P := P) hs (hr j (on_bit.2 rfl)) h3 h5 hv
    obtain ⟨rs, a1, a2, a3⟩ := hrd (lim n) (hlim n)
    exact ⟨rs, a1 ▸ unks_ok a2, a3⟩
  | _ => cases h
theorem next_le {n c : Nat} (h : c < n) : Builtin.nextslicecap n c ≤ 2 * n := by
  unfold Builtin.nextslicecap
  split
  · omega
  · split
    · omega
    · have key : ∀ r c, c ≤ 2 * n → 256 ≤ n → Builtin.growBy n r c ≤ 2 * n := by
        intro r
        induction r with
        | zero => intro c h _; exact h
        | succ r ih =>
          intro c h hn
          unfold Builtin.growBy
          split
          · exact h
          · exact ih _ (by omega) hn
      exact key 4 c (by omega) (by omega)
theorem builtin_run {o : Oper} {c : Call} {b : Builtin} (ho : o.op = .call c) (hc : c.callee = .builtin b) (eval : Operand → Value) : execOp eval o = builtin b c.argTypes o.type (c.args.map fun | .const _ => true | _ => false) (c.args.map eval) := by
  unfold execOp
  rw [ho]
  simp only [resolve, hc]
  rfl
theorem isInt_no {t2 : TypeId} (h : isIntT P t2 = some false) : ∃ d, P.underlying t2 = some d ∧ ∀ k, d ≠ .int k := by
  unfold isIntT at h
  split at h
  · cases h
  · rename_i d hd hu
    exact ⟨d, hu, fun k e => hd k e⟩
  · cases h
theorem append_in {ts : Array TypeId} {ty t t2 e : TypeId} {sz n len cap : Nat} {base : Option Addr} {x : Value} {w : World} {rs : List Value} (h0 : ts[0]? = some t) (h1 : ts[1]? = some t2) (hu : P.underlying t = some (.slice e)) (hz : isIntT P t2 = some false) (hsz : sizeT P e = some sz)
    (hl : (Builtin.lenOf x).run P w = .ok n w) (hf : (Builtin.firstCells sz n x).run P w = .ok rs.toArray w) (hle : len + n ≤ cap) :
    (Builtin.append_ ts ty #[.slice base len cap, x]).run P w = ((match base with | some a => storeCells (a.add (len * sz)) rs | none => pure ()).run P w).andThen fun _ w' => .ok (.slice base (len + n) cap) w' := by
  obtain ⟨d, hu2, hd⟩ := isInt_no hz
  unfold Builtin.append_
  simp only [h0, h1, Array.getElem?_eq_getElem (show 0 < (#[Value.slice base len cap, x] : Array Value).size by simp), Array.getElem?_eq_getElem (show 1 < (#[Value.slice base len cap, x] : Array Value).size by simp)]
  simp only [List.getElem_toArray, List.getElem_cons_zero, List.getElem_cons_succ, Sem.run_bind, run_underlying hu, Result.andThen_ok, size_run hsz, run_underlying hu2]
  cases d with
  | int k => exact (hd k rfl).elim
  | _ =>
    simp only [Sem.run_pure, Result.andThen_ok, Bool.false_eq_true, if_false, Sem.run_bind, hl, if_pos hle, Bool.not_false, if_true, hf]
    cases base <;> simp
theorem append_newG {ts : Array TypeId} {ty t t2 e : TypeId} {sz n len cap : Nat} {base : Option Addr} {x : Value} {w : World} {os rs : List Value} {i : TypeInfo} {zv : Value} (h0 : ts[0]? = some t) (h1 : ts[1]? = some t2) (hu : P.underlying t = some (.slice e)) (hz : isIntT P t2 = some false) (hsz : sizeT P e = some sz) (hi : P.info? e = some i) (hzv : ∀ w, (zeroValue e).run P w = .ok zv w) (hzs : zv.cells.size = sz)
    (hl : (Builtin.lenOf x).run P w = .ok n w) (ho : ∀ w', w'.heap = w.heap → (Builtin.firstCells sz len (.slice base len cap)).run P w' = .ok os.toArray w') (hf : ∀ w', w'.heap = w.heap → (Builtin.firstCells sz n x).run P w' = .ok rs.toArray w') (hos : os.length = len * sz) (hrs : rs.length = n * sz) (hgt : cap < len + n) (hb : 2 * (len + n) * i.bytes ≤ 281474976710656) (hn : len + n ≤ 281474976710656) :
    ∃ (K : Nat) (c : Array Value) (w' : World), (Builtin.append_ ts ty #[.slice base len cap, x]).run P w = .ok (.slice (some ⟨w.heap.size, 0, none⟩) (len + n) K) w' ∧ w'.heap = w.heap.push (.cells c e) ∧ (w'.os = w.os ∧ w'.tape = w.tape ∧ w'.output = w.output) ∧ len + n ≤ K ∧ c.size = K * sz ∧ ∀ (j : Nat) v, (os ++ rs)[j]? = some v → c[j]? = some v := by
  obtain ⟨d, hu2, hd⟩ := isInt_no hz
  generalize hq : (Question.appendCap (len + n) cap e).cut (w.tape w.drawn (.appendCap (len + n) cap e)) = K
  have hK : len + n ≤ K := by rw [← hq]; simp only [Question.cut]; omega
  have hc := choose_run (P := P) (.appendCap (len + n) cap e) rfl w
  rw [hq] at hc
  have hcs : (os.toArray ++ rs.toArray ++ Builtin.zeroCells zv.cells (K - (len + n))).size = K * sz := by
    simp only [Builtin.zeroCells, Array.size_append, List.size_toArray, Array.size_map, Array.size_range, hos, hrs, hzs]
    rw [← Nat.add_mul, ← Nat.add_mul]
    congr 1
    omega
  refine ⟨K, os.toArray ++ rs.toArray ++ Builtin.zeroCells zv.cells (K - (len + n)), { w with drawn := w.drawn + 1, heap := w.heap.push (.cells (os.toArray ++ rs.toArray ++ Builtin.zeroCells zv.cells (K - (len + n))) e) }, ?_, rfl, ⟨rfl, rfl, rfl⟩, hK, hcs, fun j v hj => ?_⟩
  · have t1 : ¬ (((len + n : Nat) : Int) > IntKind.i64.max ∧ (false = true ∨ i.bytes = 0)) := by
      rintro ⟨h, _⟩
      have : IntKind.i64.max = 9223372036854775807 := by decide
      omega
    have t2 : ¬ (Builtin.nextslicecap (len + n) cap * i.bytes > 2 ^ 48) := by
      have h1 := next_le hgt
      have h2 : Builtin.nextslicecap (len + n) cap * i.bytes ≤ 2 * (len + n) * i.bytes := Nat.mul_le_mul_right _ h1
      have e : (2 : Nat) ^ 48 = 281474976710656 := by decide
      omega
    have hask : ∀ (b : Nat) (w : World), (askRoom b).run P w = .ok () w := by
      intro b w
      unfold askRoom
      split <;> rfl
    unfold Builtin.append_
    simp only [h0, h1, Array.getElem?_eq_getElem (show 0 < (#[Value.slice base len cap, x] : Array Value).size by simp), Array.getElem?_eq_getElem (show 1 < (#[Value.slice base len cap, x] : Array Value).size by simp)]
    simp only [List.getElem_toArray, List.getElem_cons_zero, List.getElem_cons_succ, Sem.run_bind, run_underlying hu, Result.andThen_ok, size_run hsz, run_underlying hu2]
    simp only [Bool.false_eq_true] at t1
    cases d with
    | int k => exact (hd k rfl).elim
    | _ => simp only [Sem.run_pure, Result.andThen_ok, Bool.false_eq_true, if_false, Sem.run_bind, hl, if_neg (Nat.not_le.2 hgt), Bool.not_false, if_true, info_bytes hi, if_neg t1, if_neg t2, hc, hask, ho { w with drawn := w.drawn + 1 } rfl, hf { w with drawn := w.drawn + 1 } rfl, hzv, newRow, newObj, Sem.run]
  · have hj' : j < (os ++ rs).length := by
      rcases Nat.lt_or_ge j (os ++ rs).length with h' | h'
      · exact h'
      · rw [List.getElem?_eq_none h'] at hj; cases hj
    rw [Array.getElem?_append_left (by simpa using hj')]
    simpa using hj
theorem append_new {ts : Array TypeId} {ty t t2 e : TypeId} {sz n len cap : Nat} {base : Option Addr} {x : Value} {w : World} {os rs : List Value} {i : TypeInfo} {zv : Value} (h0 : ts[0]? = some t) (h1 : ts[1]? = some t2) (hu : P.underlying t = some (.slice e)) (hz : isIntT P t2 = some false) (hsz : sizeT P e = some sz) (hi : P.info? e = some i) (hzv : ∀ w, (zeroValue e).run P w = .ok zv w) (hzs : zv.cells.size = sz)
    (hl : (Builtin.lenOf x).run P w = .ok n w) (ho : ∀ w', w'.heap = w.heap → (Builtin.firstCells sz len (.slice base len cap)).run P w' = .ok os.toArray w') (hf : ∀ w', w'.heap = w.heap → (Builtin.firstCells sz n x).run P w' = .ok rs.toArray w') (hos : os.length = len * sz) (hrs : rs.length = n * sz) (hgt : cap < len + n) (hb : 2 * (len + n) * i.bytes ≤ 70368744177664) (hn : len + n ≤ 70368744177664) :
    ∃ (K : Nat) (c : Array Value) (w' : World), (Builtin.append_ ts ty #[.slice base len cap, x]).run P w = .ok (.slice (some ⟨w.heap.size, 0, none⟩) (len + n) K) w' ∧ w'.heap = w.heap.push (.cells c e) ∧ (w'.os = w.os ∧ w'.tape = w.tape ∧ w'.output = w.output) ∧ len + n ≤ K ∧ c.size = K * sz ∧ ∀ (j : Nat) v, (os ++ rs)[j]? = some v → c[j]? = some v :=
  append_newG h0 h1 hu hz hsz hi hzv hzs hl ho hf hos hrs hgt (by omega) (by omega)
end Go.Proofs.YtdldpehmcfbbeaaGreatDoor.Ev
