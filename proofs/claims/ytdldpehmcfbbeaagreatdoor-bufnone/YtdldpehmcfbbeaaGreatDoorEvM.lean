/- The evaluator's operations and the machine's: maps. No condition. -/
import Derived.Test.YtdldpehmcfbbeaaGreatDoorEv13
namespace Go.Proofs.YtdldpehmcfbbeaaGreatDoor.Ev
variable {P : Program} {X : Ext} {G : Nat}
theorem getMap_run {w : World} {r : Nat} {es : Array MapEntry} {c : Nat} (h : w.heap[r]? = some (.map es c)) : (getObj r).run P w = .ok (.map es c) w := by simp [getObj, Sem.run, h]
theorem setMap_run {w : World} {r : Nat} {es : Array MapEntry} {c : Nat} (o : Obj) (h : w.heap[r]? = some (.map es c)) : (setObj r o).run P w = .ok () (putW w r o) := by simp [setObj, Sem.run, h, putW]
/-- What a search finds: where, and what stands there. -/
def Found (es : List MapEntry) (i : Nat) (r r' : Option (Nat × Value)) : Prop :=
  match r, r' with
  | none, none => True
  | some p, some p' => p'.1 = p.1 ∧ ∃ j e, p.1 = i + j ∧ es[j]? = some e ∧ p'.2 = e.val
  | _, _ => False
theorem Found.cons {e : MapEntry} {es : List MapEntry} {i : Nat} {r r' : Option (Nat × Value)} (h : Found es (i + 1) r r') : Found (e :: es) i r r' := by
  cases r with
  | none => cases r' with
    | none => trivial
    | some _ => exact h.elim
  | some p => cases r' with
    | none => exact h.elim
    | some p' =>
      obtain ⟨h1, j, e', h2, h3, h4⟩ := h
      exact ⟨h1, j + 1, e', by omega, by simpa using h3, h4⟩
theorem findNow_ok {d : TypeDesc} {k : Value} : ∀ (es es' : List MapEntry) (i : Nat), es.map (·.key) = es'.map (·.key) → (Instr.findNow d k es' i = none → Instr.findNow d k es i = none) ∧ ∀ r, Instr.findNow d k es' i = some r → ∃ r', Instr.findNow d k es i = some r' ∧ Found es i r r'
  | [], [], i, _ => ⟨fun h => h, fun r h => by simp only [Instr.findNow, Option.some.injEq] at h; subst h; exact ⟨none, rfl, trivial⟩⟩
  | [], _ :: _, _, h => by simp at h
  | _ :: _, [], _, h => by simp at h
  | e :: es, e' :: es', i, h => by
    simp only [List.map_cons, List.cons.injEq] at h
    obtain ⟨h1, h2⟩ := h
    obtain ⟨a1, a2⟩ := findNow_ok es es' (i + 1) h2
    simp only [Instr.findNow, h1]
    cases hs : Instr.sameNow d k e'.key with
    | none => exact ⟨fun _ => rfl, fun r h => (by cases h)⟩
    | some b =>
      cases b with
      | true => exact ⟨fun h => (by cases h), fun r h => (by simp only [Option.some.injEq] at h; subst h; exact ⟨_, rfl, rfl, 0, e, rfl, rfl, rfl⟩)⟩
      | false => exact ⟨a1, fun r h => let ⟨r', b1, b2⟩ := a2 r h; ⟨r', b1, b2.cons⟩⟩
theorem findAsking_ok {t : TypeId} {k : Value} : ∀ (es es' : List MapEntry) (i : Nat) (w w' : World) (r : Option (Nat × Value)), es.map (·.key) = es'.map (·.key) → (Instr.findAsking t k es' i).run P w = .ok r w' → ∃ r', (Instr.findAsking t k es i).run P w = .ok r' w' ∧ Found es i r r'
  | [], [], i, w, w', r, _, h => by
    simp only [Instr.findAsking, Sem.run_pure, Result.ok.injEq] at h
    obtain ⟨h1, h2⟩ := h
    subst h1 h2
    exact ⟨none, rfl, trivial⟩
  | [], _ :: _, _, _, _, _, h, _ => by simp at h
  | _ :: _, [], _, _, _, _, h, _ => by simp at h
  | e :: es, e' :: es', i, w, w', r, h, hr => by
    simp only [List.map_cons, List.cons.injEq] at h
    obtain ⟨h1, h2⟩ := h
    simp only [Instr.findAsking, Sem.run_bind, h1] at hr ⊢
    cases hq : (Op.equal t k e'.key).run P w with
    | ok b w1 =>
      rw [hq] at hr
      simp only [Result.andThen_ok] at hr ⊢
      cases b with
      | true =>
        simp only [if_true, Sem.run_pure, Result.ok.injEq] at hr ⊢
        obtain ⟨a1, a2⟩ := hr
        subst a1 a2
        exact ⟨_, ⟨rfl, rfl⟩, rfl, 0, e, rfl, rfl, rfl⟩
      | false =>
        simp only [Bool.false_eq_true, if_false] at hr ⊢
        obtain ⟨r', a1, a2⟩ := findAsking_ok es es' (i + 1) w1 w' r h2 hr
        exact ⟨r', a1, a2.cons⟩
    | _ => rw [hq] at hr; cases hr
theorem findKey_ok {t : TypeId} {k : Value} {es es' : List MapEntry} {w w' : World} {r : Option (Nat × Value)} (h : es.map (·.key) = es'.map (·.key)) (hr : (Instr.findKey t k es').run P w = .ok r w') : ∃ r', (Instr.findKey t k es).run P w = .ok r' w' ∧ Found es 0 r r' := by
  simp only [Instr.findKey, Sem.run_bind] at hr ⊢
  cases hq : (underlying t).run P w with
  | ok d w1 =>
    rw [hq] at hr
    simp only [Result.andThen_ok] at hr ⊢
    obtain ⟨a1, a2⟩ := findNow_ok (d := d) (k := k) es es' 0 h
    cases hn : Instr.findNow d k es' 0 with
    | none =>
      rw [hn] at hr
      rw [a1 hn]
      exact findAsking_ok es es' 0 w1 w' r h hr
    | some x =>
      rw [hn] at hr
      obtain ⟨r', b1, b2⟩ := a2 x hn
      rw [b1]
      simp only [Sem.run_pure, Result.ok.injEq] at hr ⊢
      obtain ⟨c1, c2⟩ := hr
      subst c1 c2
      exact ⟨r', ⟨rfl, rfl⟩, b2⟩
  | _ => rw [hq] at hr; cases hr
/-- A map's entries, and the machine's. -/
def EsR (ρ : Env) (es : List (V × V × Nat)) (res : Array MapEntry) : Prop := res.size = es.length ∧ ∀ (i : Nat) (a b : V) (n : Nat), es[i]? = some (a, b, n) → ∃ e : MapEntry, res[i]? = some e ∧ VR ρ a e.key ∧ VR ρ b e.val ∧ e.born = n
theorem keysOf_ok {ρ : Env} : ∀ (es : List (V × V × Nat)) (l res : List MapEntry), keysOf es = some l → res.length = es.length → (∀ (i : Nat) (a b : V) (n : Nat), es[i]? = some (a, b, n) → ∃ e : MapEntry, res[i]? = some e ∧ VR ρ a e.key ∧ VR ρ b e.val ∧ e.born = n) → res.map (·.key) = l.map (·.key)
  | [], l, res, h, hl, _ => by
    simp only [keysOf, Option.some.injEq] at h
    subst h
    rw [List.length_eq_zero_iff.1 hl]
  | (a, b, n) :: es, l, [], _, hl, _ => by simp at hl
  | (a, b, n) :: es, l, e :: res, h, hl, ha => by
    simp only [keysOf] at h
    split at h
    · rename_i k r h1 h2
      simp only [Option.some.injEq] at h
      subst h
      obtain ⟨e', c1, c2, c3, c4⟩ := ha 0 a b n rfl
      simp only [List.getElem?_cons_zero, Option.some.injEq] at c1
      subst c1
      have := keysOf_ok es r res h2 (by simpa using hl) fun i a b n hi => by simpa using ha (i + 1) a b n (by simpa using hi)
      simp only [List.map_cons, this, toV_ok 6 a k _ h1 c2]
    · cases h
theorem mapFind_ok {ρ : Env} {t : TypeId} {em : Bool} {x : V} {es : List (V × V × Nat)} {r : Option Nat} (h : mapFind P t em x es = some r) {kx : Value} (hx : VR ρ x kx) {res : Array MapEntry} (he : EsR ρ es res) (w : World) :
    (Instr.checkKey em 10000 t kx).run P w = .ok () w ∧ ∃ r', (Instr.findKey t kx res.toList).run P w = .ok r' w ∧ (r = none ∧ r' = none ∨ ∃ j e, r = some j ∧ res[j]? = some e ∧ r' = some (j, e.val)) := by
  obtain ⟨kv, h1, h2⟩ := opt_some h
  obtain ⟨l, h3, h4⟩ := opt_some h2
  obtain ⟨u, h5, h6⟩ := opt_some h4
  obtain ⟨q, h7, h8⟩ := opt_some h6
  simp only [Option.some.injEq] at h8
  obtain rfl := toV_ok 6 x kv kx h1 hx
  refine ⟨pureRun_ok _ _ h5 w, ?_⟩
  have hk := keysOf_ok (ρ := ρ) es l res.toList h3 (by simpa using he.1) fun i a b n hi => by simpa using he.2 i a b n hi
  obtain ⟨r', a1, a2⟩ := findKey_ok (P := P) hk (pureRun_ok _ _ h7 w)
  refine ⟨r', a1, ?_⟩
  subst h8
  cases q with
  | none => cases r' with
    | none => exact .inl ⟨rfl, rfl⟩
    | some _ => exact a2.elim
  | some p => cases r' with
    | none => exact a2.elim
    | some p' =>
      obtain ⟨b1, j, e, b2, b3, b4⟩ := a2
      refine .inr ⟨j, e, by simp; omega, by simpa using b3, ?_⟩
      rw [show p' = (p'.1, p'.2) from rfl, b1, b4, b2, Nat.zero_add]
theorem EsR.mono {ρ ρ' : Env} (h : ρ.Le ρ') {es : List (V × V × Nat)} {res : Array MapEntry} (x : EsR ρ es res) : EsR ρ' es res := ⟨x.1, fun i a b n hi => let ⟨e, c1, c2, c3, c4⟩ := x.2 i a b n hi; ⟨e, c1, VR.mono h _ _ c2, VR.mono h _ _ c3, c4⟩⟩
theorem EsR.push {ρ : Env} {es : List (V × V × Nat)} {res : Array MapEntry} (x : EsR ρ es res) {a b : V} {ka kb : Value} (ha : VR ρ a ka) (hb : VR ρ b kb) (n : Nat) : EsR ρ (es ++ [(a, b, n)]) (res.push ⟨ka, kb, n⟩) := by
  refine ⟨by simp [x.1], fun i p q m hi => ?_⟩
  rcases Nat.lt_trichotomy i es.length with h | h | h
  · rw [List.getElem?_append_left h] at hi
    obtain ⟨e, c1, c2⟩ := x.2 i p q m hi
    exact ⟨e, by rw [Array.getElem?_push_lt (by rw [x.1]; exact h), ← c1, Array.getElem?_eq_getElem (by rw [x.1]; exact h)], c2⟩
  · subst h
    simp only [List.getElem?_concat_length, Option.some.injEq, Prod.mk.injEq] at hi
    obtain ⟨rfl, rfl, rfl⟩ := hi
    exact ⟨⟨ka, kb, n⟩, (by rw [← x.1]; simp), ha, hb, rfl⟩
  · rw [List.getElem?_eq_none (by simp; omega)] at hi
    cases hi
theorem EsR.set {ρ : Env} {es : List (V × V × Nat)} {res : Array MapEntry} (x : EsR ρ es res) {j : Nat} {a b : V} {n : Nat} {e : MapEntry} (he : res[j]? = some e) (f : MapEntry → MapEntry) (ha : VR ρ a (f e).key) (hb : VR ρ b (f e).val) (hn : (f e).born = n) : EsR ρ (es.set j (a, b, n)) (res.modify j f) := by
  have hj : j < res.size := by
    rcases Nat.lt_or_ge j res.size with h | h
    · exact h
    · rw [Array.getElem?_eq_none h] at he; cases he
  refine ⟨by simp [x.1], fun i p q m hi => ?_⟩
  by_cases hij : j = i
  · subst hij
    rw [List.getElem?_set_self (by rw [← x.1]; exact hj)] at hi
    simp only [Option.some.injEq, Prod.mk.injEq] at hi
    obtain ⟨rfl, rfl, rfl⟩ := hi
    refine ⟨f e, ?_, ha, hb, hn⟩
    rw [Array.getElem?_modify]
    simp [he]
  · rw [List.getElem?_set_ne hij] at hi
    obtain ⟨e', c1, c2⟩ := x.2 i p q m hi
    refine ⟨e', ?_, c2⟩
    rw [Array.getElem?_modify]
    simp [hij, c1]
theorem EsR.at {ρ : Env} {es : List (V × V × Nat)} {res : Array MapEntry} (x : EsR ρ es res) {j : Nat} {e : V × V × Nat} (h : es[j]? = some e) : ∃ r, res[j]? = some r ∧ VR ρ e.1 r.key ∧ VR ρ e.2.1 r.val ∧ r.born = e.2.2 := x.2 j e.1 e.2.1 e.2.2 h
theorem sat_map {ρ : Env} {k : Blk} {es : List (V × V × Nat)} {c : Nat} {ob : Obj} (h : SatO ρ k (.map es c) ob) : ∃ res, ob = .map res c ∧ EsR ρ es res := h
theorem told_ok {t : TypeId} {ok : Bool} {x : Option V} {f : V → Ans} (h : told P t ok x f = .ok) : ∃ v, f (iff ok (.tuple [v, .bool x.isSome]) v) = .ok ∧ (x = some v ∨ x = none ∧ ∃ zv, (∀ w, (zeroValue t).run P w = .ok zv w) ∧ ∀ ρ, VR ρ v zv) := by
  cases x with
  | some v => exact ⟨v, h, .inl rfl⟩
  | none =>
    obtain ⟨z, h1, h2⟩ := get_ok h
    obtain ⟨zv, h3, h4, _⟩ := zero_run h1
    exact ⟨z, h2, .inr ⟨rfl, zv, h3, h4⟩⟩
theorem told_VR {ρ : Env} {v : V} {r : Value} {ok b : Bool} (h : VR ρ v r) : VR ρ (iff ok (.tuple [v, .bool b]) v) (if ok then .tuple #[r, .bool b] else r) := by
  cases ok with
  | true => exact ⟨#[r, .bool b], rfl, _, _, rfl, h, _, _, rfl, rfl, rfl⟩
  | false => exact h
theorem xMakeMap_ok {o : Oper} {t : TypeId} {r : Option Operand} {T : LL} {H : Hp} {k : K1} (ho : o.op = .makeMap t r) (h : xMakeMapO t r P X G o T H k = .ok) : Ex P G o T H k := by
  cases r with
  | some _ => cases h
  | none =>
    have hk : newRowR H (.map [] 0) (fun i => .map i) k = .ok := h
    unfold newRowR at hk
    rw [nat_eq, nat_eq] at hk
    refine ⟨_, _, _, _, hk, Pu.made _ _, fun R ρ w eval he hs _ hf hG => ?_⟩
    have hfr : ρ H.next = none := hf _ (Nat.le_refl _) (by rw [hp_new]; exact Nat.lt_succ_self _)
    refine ⟨.value (.map (some w.heap.size)), pushW w (.map #[] 0), ρ.upd H.next ⟨w.heap.size, 0, 0⟩, ?_, .inl ⟨_, rfl, ⟨w.heap.size, 0, 0⟩, Env.upd_at, rfl⟩, ?_⟩
    · unfold execOp
      rw [ho]
      simp [Instr.makeMap, newObj, Sem.run, pushW]
      try rfl
    · exact Goes.made hs hfr hG ⟨#[], rfl, rfl, fun i a b n hi => by simp at hi⟩ rfl rfl ⟨rfl, rfl, rfl⟩
theorem xLookup_ok {o : Oper} {t : TypeId} {x y : Operand} {ok : Bool} {T : LL} {H : Hp} {k : K1} (ho : o.op = .lookup t x y ok) (h : xLookupO t x y ok P X G o T H k = .ok) : Ex P G o T H k := by
  obtain ⟨v, h1, h2⟩ := get_ok h
  obtain ⟨u, h3, h4⟩ := get_ok h2
  unfold xLookup at h4
  split at h4
  · rename_i kt et hu
    cases v with
    | nilm =>
      obtain ⟨r, h5, h6⟩ := get_ok h4
      obtain ⟨z, h7, h8⟩ := told_ok h6
      rcases h8 with h8 | ⟨_, zv, h9, h10⟩
      · cases h8
      refine Ex.plain h7 fun ρ w eval he => ?_
      have hx : eval x = .map none := he x (by simp [ho, Op.operands]) _ h1
      have hy := he y (by simp [ho, Op.operands]) _ h3
      obtain ⟨a1, r', a2, a3⟩ := mapFind_ok h5 hy (res := #[]) ⟨rfl, fun i a b n hi => by simp at hi⟩ w
      have hr' : r' = none := by
        rcases a3 with ⟨_, h⟩ | ⟨j, e, _, h, _⟩
        · exact h
        · simp at h
      subst hr'
      refine ⟨if ok then .tuple #[zv, .bool false] else zv, ?_, told_VR (h10 ρ)⟩
      unfold execOp
      rw [ho]
      simp only [Sem.run_bind, Instr.lookup, run_underlying hu, Result.andThen_ok, hx, Sem.run_pure, Array.isEmpty_empty, a1, a2, h9]
    | map i =>
      obtain ⟨ob, h5, h6⟩ := get_ok h4
      cases ob with
      | map es c =>
        obtain ⟨r, h7, h8⟩ := get_ok h6
        have key : ∀ (v : V), (∀ (ρ : Env) (w : World) (res : Array MapEntry) (ky : Value), VR ρ u ky → EsR ρ es res → ∃ (r' : Option (Nat × Value)) (v0 : Value) (b : Bool), (Instr.findKey kt ky res.toList).run P w = .ok r' w ∧
            ((∃ j, r' = some (j, v0) ∧ b = true) ∨ (r' = none ∧ b = false ∧ (zeroValue et).run P w = .ok v0 w)) ∧ VR ρ v (if ok then .tuple #[v0, .bool b] else v0)) → k (.val v) H (bit i) 0 = .ok → Ex P G o T H k := by
          intro v hv hk
          refine Ex.read hk fun R ρ w eval he hs hr => ?_
          obtain ⟨kb, ob, b1, b2, b3⟩ := hs.sat i _ (hr i (on_bit.2 rfl)) h5
          obtain ⟨k2, b4, b5⟩ := he x (by simp [ho, Op.operands]) _ h1
          rw [b1] at b4
          injection b4 with b4
          subst b4
          have hy := he y (by simp [ho, Op.operands]) _ h3
          obtain ⟨res, rfl, b6⟩ := sat_map b3
          obtain ⟨r', v0, b, c1, c3, c2⟩ := hv ρ w res _ hy b6
          obtain ⟨a1, _⟩ := mapFind_ok h7 hy b6 w
          have hem : res.isEmpty = es.isEmpty := by
            rw [Bool.eq_iff_iff]
            simp only [Array.isEmpty_iff_size_eq_zero, List.isEmpty_iff_length_eq_zero, b6.1]
          refine ⟨_, ?_, c2⟩
          unfold execOp
          rw [ho]
          rcases c3 with ⟨j, rfl, rfl⟩ | ⟨rfl, rfl, c4⟩
          · simp only [Sem.run_bind, Instr.lookup, run_underlying hu, Result.andThen_ok, b5, getMap_run b2, Sem.run_pure, hem, a1, c1]
          · simp only [Sem.run_bind, Instr.lookup, run_underlying hu, Result.andThen_ok, b5, getMap_run b2, Sem.run_pure, hem, a1, c1, c4]
        cases r with
        | some j =>
          obtain ⟨e, h9, h10⟩ := get_ok h8
          obtain ⟨z, h11, h12⟩ := told_ok h10
          rw [nat_eq] at h11
          refine key _ (fun ρ w res ky hy he => ?_) h11
          rcases h12 with h12 | ⟨h12, _⟩
          · injection h12 with h12
            subst h12
            obtain ⟨_, r', a2, a3⟩ := mapFind_ok h7 hy he w
            obtain ⟨r0, d1, d2, d3, d4⟩ := he.at h9
            rcases a3 with ⟨h, _⟩ | ⟨j', e', e1, e2, rfl⟩
            · cases h
            · injection e1 with e1
              subst e1
              rw [d1] at e2
              injection e2 with e2
              subst e2
              exact ⟨_, r0.val, true, a2, .inl ⟨_, rfl, rfl⟩, told_VR d3⟩
          · cases h12
        | none =>
          obtain ⟨z, h11, h12⟩ := told_ok h8
          rw [nat_eq] at h11
          refine key _ (fun ρ w res ky hy he => ?_) h11
          rcases h12 with h12 | ⟨_, zv, h9, h10⟩
          · cases h12
          · obtain ⟨_, r', a2, a3⟩ := mapFind_ok h7 hy he w
            rcases a3 with ⟨_, rfl⟩ | ⟨j', e', e1, e2, rfl⟩
            · exact ⟨_, zv, false, a2, .inr ⟨rfl, rfl, h9 w⟩, told_VR (h10 ρ)⟩
            · cases e1
      | _ => cases h6
    | _ => cases h4
  · cases h4
theorem setKey_ok {es : List (V × V × Nat)} {j : Nat} {f : V × Nat → V × V × Nat} {a : V} {k : List (V × V × Nat) → V → Nat → Ans} (h : setKey es j f a k = .ok) : ∃ e old new, es[j]? = some e ∧ toV 6 e.1 = some old ∧ toV 6 a = some new ∧ Instr.sameBits 10000 old new = true ∧ k (es.set j (f e.2)) e.2.1 e.2.2 = .ok := by
  obtain ⟨e, h1, h2⟩ := get_ok h
  obtain ⟨old, h3, h4⟩ := get_ok h2
  obtain ⟨new, h5, h6⟩ := get_ok h4
  obtain ⟨h7, h8⟩ := iff_no h6
  exact ⟨e, old, new, h1, h3, h5, h7, h8⟩
theorem stays_run {a b : Value} (h : Instr.sameBits 10000 a b = true) (w : World) : (Instr.keyThatStays a b).run P w = .ok b w := by simp [Instr.keyThatStays, h]
/-- A map is written. -/
theorem map_goes {R : Nat → Prop} {ρ : Env} {H : Hp} {w : World} {i : Nat} {o : O} {kb : Blk} {es : List (V × V × Nat)} {c : Nat} {res : Array MapEntry} (hs : St G R ρ H w) (hi : R i) (h5 : H.tr.get i = some o) (hk : ρ i = some kb) (hG : G ≤ i) (he : EsR ρ es res) : Goes G R ρ H w (bit i) ρ (H.put i (.map es c)) (putW w kb.b (.map res c)) :=
  Goes.set hs hi h5 hk hG ⟨res, rfl, he.1, he.2⟩ rfl ⟨rfl, rfl, rfl⟩
theorem xMapUpdate_ok {o : Oper} {t : TypeId} {x y z : Operand} {T : LL} {H : Hp} {k : K1} (ho : o.op = .mapUpdate t x y z ∨ o.op = .insert t x y z) (h : xMapUpdateO t x y z P X G o T H k = .ok) : Ex P G o T H k := by
  obtain ⟨v, h1, h2⟩ := get_ok h
  obtain ⟨u, h3, h4⟩ := get_ok h2
  obtain ⟨q, h5, h6⟩ := get_ok h4
  have hex : ∀ (eval : Operand → Value), execOp eval o = (do Instr.mapUpdate t (eval x) (eval y) (eval z); pure .skip) := by
    intro eval
    rcases ho with ho | ho <;> (unfold execOp; rw [ho])
  have hop : x ∈ o.op.operands ∧ y ∈ o.op.operands ∧ z ∈ o.op.operands := by rcases ho with ho | ho <;> (rw [ho]; simp [Op.operands])
  unfold xMapUpdate at h6
  split at h6
  · rename_i kt et hu
    cases v with
    | map i =>
      obtain ⟨ob, h7, h8⟩ := get_ok h6
      cases ob with
      | map es c =>
        obtain ⟨h9, h10⟩ := iff_no h8
        obtain ⟨r, h11, h12⟩ := get_ok h10
        have hG : G ≤ i := Nat.le_of_ble_eq_true h9
        cases r with
        | some j =>
          obtain ⟨e, old, new, a1, a2, a3, a4, a5⟩ := setKey_ok h12
          rw [nat_eq] at a5
          refine ⟨_, _, _, _, a5, Pu.put h7, fun R ρ w eval he hs hr _ _ => ?_⟩
          obtain ⟨kb, ob, b1, b2, b3⟩ := hs.sat i _ (hr i (on_bit.2 rfl)) h7
          obtain ⟨k2, b4, b5⟩ := he x hop.1 _ h1
          rw [b1] at b4
          injection b4 with b4
          subst b4
          have hy := he y hop.2.1 _ h3
          have hz := he z hop.2.2 _ h5
          obtain ⟨res, rfl, b6⟩ := sat_map b3
          obtain ⟨c1, r', c2, c3⟩ := mapFind_ok h11 hy b6 w
          obtain ⟨r0, d1, d2, d3, d4⟩ := b6.at a1
          rcases c3 with ⟨h, _⟩ | ⟨j', e', e1, e2, rfl⟩
          · cases h
          · injection e1 with e1
            subst e1
            rw [d1] at e2
            injection e2 with e2
            subst e2
            have f1 := toV_ok 6 _ _ _ a2 d2
            have f2 := toV_ok 6 _ _ _ a3 hy
            have hst : Instr.sameBits 10000 r0.key (eval y) = true := by rw [f1, f2]; exact a4
            refine ⟨_, _, ρ, ?_, .inr ⟨rfl, rfl⟩, map_goes hs (hr i (on_bit.2 rfl)) h7 b1 hG (b6.set (a := u) (b := q) (n := e.2.2) d1 (fun e => { e with key := eval y, val := eval z }) hy hz d4)⟩
            rw [hex]
            simp only [Sem.run_bind, Instr.mapUpdate, run_underlying hu, Result.andThen_ok, b5, getMap_run b2, c1, c2, d1, Option.map_some, Option.getD_some, stays_run hst, setMap_run _ b2, Sem.run_pure]
        | none =>
          rw [nat_eq, nat_eq] at h12
          refine ⟨_, _, _, _, h12, Pu.put h7, fun R ρ w eval he hs hr _ _ => ?_⟩
          obtain ⟨kb, ob, b1, b2, b3⟩ := hs.sat i _ (hr i (on_bit.2 rfl)) h7
          obtain ⟨k2, b4, b5⟩ := he x hop.1 _ h1
          rw [b1] at b4
          injection b4 with b4
          subst b4
          have hy := he y hop.2.1 _ h3
          have hz := he z hop.2.2 _ h5
          obtain ⟨res, rfl, b6⟩ := sat_map b3
          obtain ⟨c1, r', c2, c3⟩ := mapFind_ok h11 hy b6 w
          rcases c3 with ⟨_, rfl⟩ | ⟨j', e', e1, e2, rfl⟩
          · refine ⟨_, _, ρ, ?_, .inr ⟨rfl, rfl⟩, map_goes hs (hr i (on_bit.2 rfl)) h7 b1 hG (b6.push hy hz c)⟩
            rw [hex]
            simp only [Sem.run_bind, Instr.mapUpdate, run_underlying hu, Result.andThen_ok, b5, getMap_run b2, c1, c2, setMap_run _ b2, Sem.run_pure]
          · cases e1
      | _ => cases h8
    | _ => cases h6
  · cases h6
theorem xMapEntry_ok {o : Oper} {t : TypeId} {x y : Operand} {T : LL} {H : Hp} {k : K1} (ho : o.op = .mapEntry t x y) (h : xMapEntryO t x y P X G o T H k = .ok) : Ex P G o T H k := by
  obtain ⟨v, h1, h2⟩ := get_ok h
  obtain ⟨u, h3, h6⟩ := get_ok h2
  unfold xMapEntry at h6
  split at h6
  · rename_i kt et hu
    cases v with
    | map i =>
      obtain ⟨ob, h7, h8⟩ := get_ok h6
      cases ob with
      | map es c =>
        obtain ⟨h9, h10⟩ := iff_no h8
        obtain ⟨r, h11, h12⟩ := get_ok h10
        have hG : G ≤ i := Nat.le_of_ble_eq_true h9
        cases r with
        | some j =>
          obtain ⟨e, old, new, a1, a2, a3, a4, a5⟩ := setKey_ok h12
          rw [nat_eq] at a5
          refine ⟨_, _, _, _, a5, Pu.put h7, fun R ρ w eval he hs hr _ _ => ?_⟩
          obtain ⟨kb, ob, b1, b2, b3⟩ := hs.sat i _ (hr i (on_bit.2 rfl)) h7
          obtain ⟨k2, b4, b5⟩ := he x (by simp [ho, Op.operands]) _ h1
          rw [b1] at b4
          injection b4 with b4
          subst b4
          have hy := he y (by simp [ho, Op.operands]) _ h3
          obtain ⟨res, rfl, b6⟩ := sat_map b3
          obtain ⟨c1, r', c2, c3⟩ := mapFind_ok h11 hy b6 w
          obtain ⟨r0, d1, d2, d3, d4⟩ := b6.at a1
          rcases c3 with ⟨h, _⟩ | ⟨j', e', e1, e2, rfl⟩
          · cases h
          · injection e1 with e1
            subst e1
            rw [d1] at e2
            injection e2 with e2
            subst e2
            have f1 := toV_ok 6 _ _ _ a2 d2
            have f2 := toV_ok 6 _ _ _ a3 hy
            have hst : Instr.sameBits 10000 r0.key (eval y) = true := by rw [f1, f2]; exact a4
            refine ⟨_, _, ρ, ?_, .inl ⟨.tuple #[r0.val, goInt r0.born], rfl, ⟨_, rfl, _, _, rfl, d3, _, _, rfl, (by rw [← d4]; rfl), rfl⟩⟩, map_goes hs (hr i (on_bit.2 rfl)) h7 b1 hG (b6.set (a := u) (b := e.2.1) (n := e.2.2) d1 (fun e => { e with key := eval y }) hy d3 d4)⟩
            unfold execOp
            rw [ho]
            simp only [Sem.run_bind, Instr.mapEntry, run_underlying hu, Result.andThen_ok, b5, getMap_run b2, c1, c2, d1, Option.map_some, Option.getD_some, stays_run hst, setMap_run _ b2, Sem.run_pure]
        | none =>
          obtain ⟨z, h13, h14⟩ := get_ok h12
          obtain ⟨zv, g1, g2, _⟩ := zero_run h13
          rw [nat_eq, nat_eq] at h14
          refine ⟨_, _, _, _, h14, Pu.put h7, fun R ρ w eval he hs hr _ _ => ?_⟩
          obtain ⟨kb, ob, b1, b2, b3⟩ := hs.sat i _ (hr i (on_bit.2 rfl)) h7
          obtain ⟨k2, b4, b5⟩ := he x (by simp [ho, Op.operands]) _ h1
          rw [b1] at b4
          injection b4 with b4
          subst b4
          have hy := he y (by simp [ho, Op.operands]) _ h3
          obtain ⟨res, rfl, b6⟩ := sat_map b3
          obtain ⟨c1, r', c2, c3⟩ := mapFind_ok h11 hy b6 w
          rcases c3 with ⟨_, rfl⟩ | ⟨j', e', e1, e2, rfl⟩
          · refine ⟨_, _, ρ, ?_, .inl ⟨.tuple #[zv, goInt c], rfl, ⟨_, rfl, _, _, rfl, g2 ρ, _, _, rfl, rfl, rfl⟩⟩, map_goes hs (hr i (on_bit.2 rfl)) h7 b1 hG (b6.push hy (g2 ρ) c)⟩
            unfold execOp
            rw [ho]
            simp only [Sem.run_bind, Instr.mapEntry, run_underlying hu, Result.andThen_ok, b5, getMap_run b2, c1, c2, g1, setMap_run _ b2, Sem.run_pure]
          · cases e1
      | _ => cases h8
    | _ => cases h6
  · cases h6
theorem bornAt_ok {ρ : Env} {n : Nat} : ∀ (es : List (V × V × Nat)) (j : Nat) (res : List MapEntry), bornAt n es = some j → res.length = es.length → (∀ (i : Nat) (a b : V) (m : Nat), es[i]? = some (a, b, m) → ∃ e : MapEntry, res[i]? = some e ∧ VR ρ a e.key ∧ VR ρ b e.val ∧ e.born = m) → res.findIdx? (fun e => (e.born : Int) == (n : Int)) = some j
  | [], j, _, h, _, _ => by cases h
  | (a, b, m) :: es, j, [], _, hl, _ => by simp at hl
  | (a, b, m) :: es, j, e :: res, h, hl, ha => by
    obtain ⟨e', c1, _, _, c4⟩ := ha 0 a b m rfl
    simp only [List.getElem?_cons_zero, Option.some.injEq] at c1
    subst c1
    have h' : iff (Nat.beq m n) (some 0) (opt (bornAt n es) fun j => some (Nat.succ j)) = some j := h
    rw [iff_eq] at h'
    rw [List.findIdx?_cons]
    split at h'
    · rename_i hm
      have := Nat.eq_of_beq_eq_true hm
      injection h' with h'
      subst h' this
      simp [c4]
    · rename_i hm
      have hne : m ≠ n := fun e => hm (by rw [e]; exact Nat.beq_refl n)
      obtain ⟨j', h1, h2⟩ := opt_some h'
      injection h2 with h2
      subst h2
      have := bornAt_ok es j' res h1 (by simpa using hl) fun i a b n hi => by simpa using ha (i + 1) a b n (by simpa using hi)
      rw [if_neg (by rw [c4]; simp; omega), this]
      rfl
theorem xEntryStore_ok {o : Oper} {t : TypeId} {x y z : Operand} {T : LL} {H : Hp} {k : K1} (ho : o.op = .entryStore t x y z) (h : xEntryStoreO t x y z P X G o T H k = .ok) : Ex P G o T H k := by
  obtain ⟨v, h1, h2⟩ := get_ok h
  obtain ⟨u, h3, h4⟩ := get_ok h2
  obtain ⟨q, h5, h6⟩ := get_ok h4
  unfold xEntryStore at h6
  split at h6
  · rename_i i
    split at h6
    · rename_i n
      obtain ⟨ob, h7, h8⟩ := get_ok h6
      cases ob with
      | map es c =>
        obtain ⟨h9, h10⟩ := iff_no h8
        obtain ⟨j, h11, h12⟩ := get_ok h10
        obtain ⟨e, h13, h14⟩ := get_ok h12
        have hG : G ≤ i := Nat.le_of_ble_eq_true h9
        rw [nat_eq] at h14
        refine ⟨_, _, _, _, h14, Pu.put h7, fun R ρ w eval he hs hr _ _ => ?_⟩
        obtain ⟨kb, ob, b1, b2, b3⟩ := hs.sat i _ (hr i (on_bit.2 rfl)) h7
        obtain ⟨k2, b4, b5⟩ := he x (by simp [ho, Op.operands]) _ h1
        rw [b1] at b4
        injection b4 with b4
        subst b4
        have hy : eval y = .int .i64 (.ofNat n) := he y (by simp [ho, Op.operands]) _ h3
        have hz := he z (by simp [ho, Op.operands]) _ h5
        obtain ⟨res, rfl, b6⟩ := sat_map b3
        obtain ⟨r0, d1, d2, d3, d4⟩ := b6.at h13
        have hf := bornAt_ok (ρ := ρ) es j res.toList h11 (by simpa using b6.1) fun i a b n hi => by simpa using b6.2 i a b n hi
        have hf' : res.findIdx? (fun e => (e.born : Int) == (Int.ofNat n)) = some j := by
          rcases res with ⟨l⟩
          rw [List.findIdx?_toArray]
          exact hf
        refine ⟨_, _, ρ, ?_, .inr ⟨rfl, rfl⟩, map_goes hs (hr i (on_bit.2 rfl)) h7 b1 hG (b6.set (a := e.1) (b := q) (n := e.2.2) d1 (fun e => { e with val := eval z }) d2 hz d4)⟩
        unfold execOp
        rw [ho]
        simp only [Sem.run_bind, Instr.entryStore, Result.andThen_ok, b5, hy, getMap_run b2, asInt, asIntOf, Sem.run_pure, hf', setMap_run _ b2]
      | _ => cases h8
    · cases h6
  · cases h6
/-! Iterators -/
theorem made_ok {o : Oper} {T : LL} {H : Hp} {k : K1} {ob' : O} {obj : Obj} (hk : newRowR H ob' (fun i => .ptr i 0) k = .ok) (hsat : ∀ (ρ : Env) (b : Nat), SatO ρ ⟨b, 0, 0⟩ ob' obj)
    (h : ∀ (ρ : Env) (w : World) (eval : Operand → Value), EvR G ρ T o eval → (execOp eval o).run P w = .ok (.value (.pointer (some ⟨w.heap.size, 0, none⟩))) (pushW w obj)) : Ex P G o T H k := by
  unfold newRowR at hk
  rw [nat_eq, nat_eq] at hk
  refine ⟨_, _, _, _, hk, Pu.made _ _, fun R ρ w eval he hs _ hf hG => ?_⟩
  have hfr : ρ H.next = none := hf _ (Nat.le_refl _) (by rw [hp_new]; exact Nat.lt_succ_self _)
  exact ⟨_, pushW w obj, ρ.upd H.next ⟨w.heap.size, 0, 0⟩, h ρ w eval he, .inl ⟨_, rfl, ⟨w.heap.size, 0, 0⟩, Env.upd_at, rfl⟩, Goes.made hs hfr hG (hsat _ _) rfl rfl ⟨rfl, rfl, rfl⟩⟩
theorem xRange_ok {o : Oper} {t : TypeId} {x : Operand} {T : LL} {H : Hp} {k : K1} (ho : o.op = .range t x) (h : xRangeO t x P X G o T H k = .ok) : Ex P G o T H k := by
  obtain ⟨v, h1, h2⟩ := get_ok h
  unfold xRange at h2
  split at h2
  · rename_i hu
    split at h2
    · rename_i s
      refine made_ok (obj := .stringIter ⟨s.toArray⟩ 0) h2 (fun ρ b => ⟨rfl, rfl⟩) fun ρ w eval he => ?_
      have hx : eval x = .string ⟨s.toArray⟩ := he x (by simp [ho, Op.operands]) _ h1
      unfold execOp
      rw [ho]
      simp only [Sem.run_bind, Instr.range, run_underlying hu, Result.andThen_ok, hx, Sem.run_pure, newObj, Sem.run, pushW]
    · cases h2
  · rename_i kt et hu
    split at h2
    · refine made_ok (obj := .mapIter none 0 #[] 0) h2 (fun ρ b => ⟨rfl, rfl⟩) fun ρ w eval he => ?_
      have hx : eval x = .map none := he x (by simp [ho, Op.operands]) _ h1
      unfold execOp
      rw [ho]
      simp only [Sem.run_bind, Instr.range, run_underlying hu, Result.andThen_ok, hx, Sem.run_pure, newObj, Sem.run, pushW]
    · cases h2
  · cases h2
theorem xNext_ok {o : Oper} {x : Operand} {str : Bool} {T : LL} {H : Hp} {k : K1} (ho : o.op = .next x str) (h : xNextO x str P X G o T H k = .ok) : Ex P G o T H k := by
  obtain ⟨v, h1, h2⟩ := get_ok h
  unfold xNext at h2
  split at h2
  · rename_i i
    obtain ⟨ob, h3, h4⟩ := get_ok h2
    have hx : ∀ {R : Nat → Prop} {ρ : Env} {w : World} {eval : Operand → Value}, EvR G ρ T o eval → St G R ρ H w → R i → ∃ kb ob', ρ i = some kb ∧ w.heap[kb.b]? = some ob' ∧ SatO ρ kb ob ob' ∧ eval x = .pointer (some ⟨kb.b, kb.o + 0, none⟩) := by
      intro R ρ w eval he hs hi
      obtain ⟨kb, ob', b1, b2, b3⟩ := hs.sat i _ hi h3
      obtain ⟨k2, b4, b5⟩ := he x (by simp [ho, Op.operands]) _ h1
      rw [b1] at b4
      injection b4 with b4
      subst b4
      exact ⟨kb, ob', b1, b2, b3, b5⟩
    have hget : ∀ {w : World} {b : Nat} {ob' : Obj}, w.heap[b]? = some ob' → (∀ c e f, ob' ≠ .cells c e f) → (getObj b).run P w = .ok ob' w := by
      intro w b ob' hb hc
      cases ob' <;> first | exact absurd rfl (hc _ _ _) | simp [getObj, Sem.run, hb]
    cases ob with
    | iter s pos =>
      cases s with
      | some s =>
        obtain ⟨h5, h6⟩ := iff_no h4
        subst h5
        have hsz : (⟨s.toArray⟩ : ByteArray).size = s.length := by simp [ByteArray.size]
        rcases iff_ok h6 with ⟨h7, h8⟩ | ⟨h7, h8⟩
        · obtain ⟨h9, h10⟩ := iff_no h8
          rw [nat_eq, nat_eq, nat_eq, firm_eq] at h10
          refine ⟨_, _, _, _, h10, Pu.put h3, fun R ρ w eval he hs hr _ _ => ?_⟩
          obtain ⟨kb, ob', b1, b2, ⟨b3, rfl⟩, b5⟩ := hx he hs (hr i (on_bit.2 rfl))
          refine ⟨.value (.tuple #[.bool true, goInt pos, .int .i32 (Utf8.decode ⟨s.toArray⟩ pos).1]), putW w kb.b (.stringIter ⟨s.toArray⟩ (pos + (Utf8.decode ⟨s.toArray⟩ pos).2)), ρ, ?_, .inl ⟨_, rfl, ⟨_, rfl, _, _, rfl, rfl, _, _, rfl, rfl, _, _, rfl, rfl, rfl⟩⟩, Goes.set hs (hr i (on_bit.2 rfl)) h3 b1 (Nat.le_of_ble_eq_true h9) ⟨b3, rfl⟩ rfl ⟨rfl, rfl, rfl⟩⟩
          unfold execOp
          rw [ho]
          have hlt : pos < (⟨s.toArray⟩ : ByteArray).size := by rw [hsz]; exact Nat.le_of_ble_eq_true h7
          simp only [Sem.run_bind, Instr.next, b5, b3, Nat.add_zero, hget b2 (fun _ _ _ e => by cases e), Result.andThen_ok, if_pos hlt, setObj, Sem.run, b2, Sem.run_pure, putW]
        · rw [nat_eq] at h8
          refine Ex.read h8 fun R ρ w eval he hs hr => ?_
          obtain ⟨kb, ob', b1, b2, ⟨b3, rfl⟩, b5⟩ := hx he hs (hr i (on_bit.2 rfl))
          refine ⟨.tuple #[.bool false], ?_, ⟨_, rfl, _, _, rfl, rfl, rfl⟩⟩
          unfold execOp
          rw [ho]
          have hlt : ¬ pos < (⟨s.toArray⟩ : ByteArray).size := by rw [hsz]; intro e; rw [Nat.ble_eq_true_of_le e] at h7; cases h7
          simp only [Sem.run_bind, Instr.next, b5, b3, Nat.add_zero, hget b2 (fun _ _ _ e => by cases e), Result.andThen_ok, if_neg hlt, Sem.run_pure]
      | none =>
        cases str with
        | true => cases h4
        | false =>
          have h5 : nat (bit i) (fun b => k (.val (.tuple [.bool false])) H b 0) = .ok := h4
          rw [nat_eq] at h5
          refine Ex.read h5 fun R ρ w eval he hs hr => ?_
          obtain ⟨kb, ob', b1, b2, ⟨b3, rfl⟩, b5⟩ := hx he hs (hr i (on_bit.2 rfl))
          refine ⟨.tuple #[.bool false], ?_, ⟨_, rfl, _, _, rfl, rfl, rfl⟩⟩
          unfold execOp
          rw [ho]
          simp only [Sem.run_bind, Instr.next, b5, b3, Nat.add_zero, hget b2 (fun _ _ _ e => by cases e), Result.andThen_ok, Sem.run_pure]
    | _ => cases h4
  · cases h2
end Go.Proofs.YtdldpehmcfbbeaaGreatDoor.Ev
