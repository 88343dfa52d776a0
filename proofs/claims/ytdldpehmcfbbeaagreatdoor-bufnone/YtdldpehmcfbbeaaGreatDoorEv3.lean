/- The evaluator's memory laid over the machine's; what a step may do to it. No condition. -/
import Derived.Test.YtdldpehmcfbbeaaGreatDoorEv2
import Derived.Below
namespace Go.Proofs.YtdldpehmcfbbeaaGreatDoor.Ev
/-- Deferred calls, and the machine's. -/
def DR (ρ : Env) : D → Deferred → Prop
  | .call f a c, d => ∃ ra rc : Array Value, d = { target := .fn (.func f) rc, args := ra } ∧ VRs ρ a ra.toList ∧ VRs ρ c rc.toList
  | .mark i, d => ∃ k, ρ i = some k ∧ d = { target := .collected k.b, args := #[] }
def DRs (ρ : Env) : List D → List Deferred → Prop
  | [], ds => ds = []
  | x :: l, ds => ∃ d ds', ds = d :: ds' ∧ DR ρ x d ∧ DRs ρ l ds'
theorem DR.mono {ρ ρ' : Env} (h : ρ.Le ρ') : ∀ {x : D} {d : Deferred}, DR ρ x d → DR ρ' x d
  | .call _ a c, _, ⟨ra, rc, e, x, y⟩ => ⟨ra, rc, e, VRs.mono h a _ x, VRs.mono h c _ y⟩
  | .mark _, _, ⟨k, a, b⟩ => ⟨k, h _ _ a, b⟩
theorem DRs.mono {ρ ρ' : Env} (h : ρ.Le ρ') : ∀ {l : List D} {ds : List Deferred}, DRs ρ l ds → DRs ρ' l ds
  | [], _, x => x
  | _ :: _, _, ⟨d, ds', e, x, y⟩ => ⟨d, ds', e, x.mono h, DRs.mono h y⟩
theorem DRs.append {ρ : Env} : ∀ {a : List D} {x : List Deferred} {b : List D} {y : List Deferred}, DRs ρ a x → DRs ρ b y → DRs ρ (a ++ b) (x ++ y)
  | [], _, _, _, h, h' => by rw [show _ = [] from h]; exact h'
  | _ :: _, _, _, _, ⟨d, ds', e, x, y⟩, h' => by rw [e]; exact ⟨d, _, rfl, x, DRs.append y h'⟩
/-- Temporaries, and the machine's. -/
def TmR (ρ : Env) (T : Tr V) (n : Nat) (tmps : Array Value) : Prop := tmps.size = n ∧ ∀ i v, T.get i = some v → ∃ r, tmps[i]? = some r ∧ VR ρ v r
theorem TmR.mono {ρ ρ' : Env} (h : ρ.Le ρ') {T : Tr V} {n : Nat} {tmps : Array Value} (x : TmR ρ T n tmps) : TmR ρ' T n tmps :=
  ⟨x.1, fun i v hi => let ⟨r, a, b⟩ := x.2 i v hi; ⟨r, a, VR.mono h v r b⟩⟩
/-- A block of the evaluator's, and the machine's. -/
def SatO (ρ : Env) (k : Blk) : O → Obj → Prop
  | .row elem sz n per tr gr, ob => ∃ c fz, ob = .cells c elem fz ∧ (∀ i, i < c.size → (fz.1 ≤ i → fz.1 = fz.2)) ∧ (∀ i v, i < n → rget per tr i = some v → ∃ r, c[k.o + i]? = some r ∧ VR ρ v r) ∧
      ((gr = true ∧ k.o + k.K * sz = c.size ∧ n ≤ k.K * sz) ∨ (gr = false ∧ k.o = 0 ∧ c.size = n)) ∧ n ≤ 549755813887
  | .map es clock, ob => ∃ res : Array MapEntry, ob = .map res clock ∧ res.size = es.length ∧ ∀ (i : Nat) (a b : V) (n : Nat), es[i]? = some (a, b, n) → ∃ e : MapEntry, res[i]? = some e ∧ VR ρ a e.key ∧ VR ρ b e.val ∧ e.born = n
  | .loop st pend fn T nt params assign body df, ob => ∃ (l : Loop) (kd : Blk), ob = .loop l ∧ l.state = st ∧ l.pending = pend ∧ l.fn = fn ∧ TmR ρ T nt l.tmps ∧ l.params.toList = params ∧ l.assign = assign ∧ l.body = body ∧ ρ df = some kd ∧ l.defers = kd.b
  | .defd none, ob => ob = .deferred none
  | .defd (some l), ob => ∃ ds, ob = .deferred (some ds) ∧ DRs ρ l ds
  | .iter (some s) pos, ob => k.o = 0 ∧ ob = .stringIter ⟨s.toArray⟩ pos
  | .iter none _, ob => k.o = 0 ∧ ob = .mapIter none 0 #[] 0
  | .look n tr, ob => ∃ c elem fz, ob = .cells c elem fz ∧ ∀ i v, i < n → rget noPer tr i = some v → ∃ r, c[k.o + i]? = some r ∧ VR ρ v r
  | .ones, ob => ∃ c elem fz, ob = .cells c elem fz ∧ k.o + k.K ≤ c.size ∧ ∀ i r, i < k.K → c[k.o + i]? = some r → (∀ a, r ≠ .agg a) ∧ ∀ a, r ≠ .tuple a
theorem SatO.mono {ρ ρ' : Env} (h : ρ.Le ρ') {k : Blk} {o : O} {ob : Obj} (x : SatO ρ k o ob) : SatO ρ' k o ob := by
  cases o with
  | row elem sz n per tr gr =>
    obtain ⟨c, fz, a, b, d, e⟩ := x
    exact ⟨c, fz, a, b, fun i v hi hv => let ⟨r, p, q⟩ := d i v hi hv; ⟨r, p, VR.mono h v r q⟩, e⟩
  | map es clock =>
    obtain ⟨res, a, b, c⟩ := x
    exact ⟨res, a, b, fun i p q n hi => let ⟨e, u, v, w, z⟩ := c i p q n hi; ⟨e, u, VR.mono h _ _ v, VR.mono h _ _ w, z⟩⟩
  | loop st pend fn T nt params assign body df =>
    obtain ⟨l, kd, a, b, c, d, e, f, g, i, j, m⟩ := x
    exact ⟨l, kd, a, b, c, d, e.mono h, f, g, i, h _ _ j, m⟩
  | defd ds =>
    cases ds with
    | none => exact x
    | some l => obtain ⟨ds, a, b⟩ := x; exact ⟨ds, a, b.mono h⟩
  | iter s pos =>
    cases s with
    | none => exact x
    | some s => exact x
  | look n tr =>
    obtain ⟨c, el, fz, a, d⟩ := x
    exact ⟨c, el, fz, a, fun i v hi hv => let ⟨r, p, q⟩ := d i v hi hv; ⟨r, p, VR.mono h v r q⟩⟩
  | ones => exact x
/-- The evaluator's memory lies in the machine's, as far as R goes. G: how many package-level variables there are. -/
structure St (G : Nat) (R : Nat → Prop) (ρ : Env) (H : Hp) (w : World) : Prop where
  sat : ∀ x o, R x → H.tr.get x = some o → ∃ k ob, ρ x = some k ∧ w.heap[k.b]? = some ob ∧ SatO ρ k o ob
  inj : ∀ x y o o' k k', R x → R y → H.tr.get x = some o → H.tr.get y = some o' → ρ x = some k → ρ y = some k' → k.b = k'.b → x = y
  glob : ∀ g, g < G → ∃ K, ρ g = some ⟨g, 0, K⟩
  low : ∀ x k, ρ x = some k → k.b < w.heap.size
/-- What a step does: wr are the names of the blocks that it wrote or made. -/
structure Goes (G : Nat) (R : Nat → Prop) (ρ : Env) (H : Hp) (w : World) (wr : Nat) (ρ' : Env) (H' : Hp) (w' : World) : Prop where
  st : St G (fun x => R x ∨ On wr x) ρ' H' w'
  le : ρ.Le ρ'
  new : ∀ x k, ρ x = none → ρ' x = some k → (H.next ≤ x ∧ x < H'.next) ∧ (w.heap.size ≤ k.b ∨ ∃ y o ky, On wr y ∧ H.tr.get y = some o ∧ ρ y = some ky ∧ ky.b = k.b)
  size : w.heap.size ≤ w'.heap.size
  same : ∀ b, b < w.heap.size → (∀ x o k, On wr x → H.tr.get x = some o → ρ x = some k → k.b ≠ b) → w'.heap[b]? = w.heap[b]?
  next : H.next ≤ H'.next
  old : ∀ x o, ¬ On wr x → H'.tr.get x = some o → H.tr.get x = some o
  live : ∀ x o, H'.tr.get x = some o → (∃ o', H.tr.get x = some o') ∨ (H.next ≤ x ∧ x < H'.next)
  own : ∀ x, On wr x → (R x ∨ (H.next ≤ x ∧ x < H'.next)) ∧ G ≤ x
  rest : w'.os = w.os ∧ w'.tape = w.tape ∧ w'.output = w.output
/-- What a step does to the evaluator's own memory. -/
structure Pu (H H' : Hp) (wr : Nat) : Prop where
  next : H.next ≤ H'.next
  old : ∀ x o, ¬ On wr x → H'.tr.get x = some o → H.tr.get x = some o
  live : ∀ x o, H'.tr.get x = some o → (∃ o', H.tr.get x = some o') ∨ (H.next ≤ x ∧ x < H'.next)
theorem Pu.refl (H : Hp) (wr : Nat) : Pu H H wr := ⟨Nat.le_refl _, fun _ _ _ h => h, fun _ o h => .inl ⟨o, h⟩⟩
theorem Pu.put {H : Hp} {i : Nat} {o o0 : O} (h0 : H.tr.get i = some o0) : Pu H (H.put i o) (bit i) := by
  have hlv : ∀ z oz, (H.put i o).tr.get z = some oz → z = i ∨ H.tr.get z = some oz := fun z oz h => by
    rw [hp_put] at h
    rcases get_put h with ⟨h1, _⟩ | ⟨_, h⟩
    · exact .inl h1
    · exact .inr h
  refine ⟨Nat.le_refl _, fun x ox hx h => ?_, fun x ox h => ?_⟩
  · rcases hlv x ox h with e | h
    · exact (hx (on_bit.2 e)).elim
    · exact h
  · rcases hlv x ox h with e | h
    · exact .inl ⟨o0, e ▸ h0⟩
    · exact .inl ⟨ox, h⟩
theorem Pu.made (H : Hp) (o : O) : Pu H (H.new o) (bit H.next) := by
  have hlv : ∀ z oz, (H.new o).tr.get z = some oz → z = H.next ∨ H.tr.get z = some oz := fun z oz h => by
    rw [hp_new] at h
    rcases get_put h with ⟨h1, _⟩ | ⟨_, h⟩
    · exact .inl h1
    · exact .inr h
  have hn : (H.new o).next = H.next + 1 := by rw [hp_new]
  refine ⟨by omega, fun x ox hx h => ?_, fun x ox h => ?_⟩
  · rcases hlv x ox h with e | h
    · exact (hx (on_bit.2 e)).elim
    · exact h
  · rcases hlv x ox h with e | h
    · exact .inr (by omega)
    · exact .inl ⟨ox, h⟩
theorem Pu.move (H : Hp) (o : O) (i : Nat) : Pu H ((H.new o).kill i) (Nat.lor (bit i) (bit H.next)) := by
  have hk : ∀ z oz, ((H.new o).kill i).tr.get z = some oz → (H.new o).tr.get z = some oz := fun z oz h => by
    rw [hp_kill] at h
    exact (get_cut h).2
  have h1 := Pu.made H o
  have hn : ((H.new o).kill i).next = (H.new o).next := by rw [hp_kill]
  exact ⟨by rw [hn]; exact h1.next, fun x ox hx h => h1.old x ox (fun h' => hx (on_lor.2 (.inr h'))) (hk x ox h), fun x ox h => by rw [hn]; exact h1.live x ox (hk x ox h)⟩
theorem Pu.trans {H H1 H2 : Hp} {a b : Nat} (x : Pu H H1 a) (y : Pu H1 H2 b) (hab : ∀ z, On a z → On b z) : Pu H H2 b :=
  ⟨Nat.le_trans x.next y.next, fun z o hz h => x.old z o (fun h' => hz (hab z h')) (y.old z o hz h), fun z o h => by
    rcases y.live z o h with ⟨o', h1⟩ | h1
    · rcases x.live z o' h1 with h2 | h2
      · exact .inl h2
      · exact .inr ⟨h2.1, Nat.lt_of_lt_of_le h2.2 y.next⟩
    · exact .inr ⟨Nat.le_trans x.next h1.1, h1.2⟩⟩
theorem Pu.more {H H1 : Hp} {a b : Nat} (x : Pu H H1 a) (hab : ∀ z, On a z → On b z) : Pu H H1 b := ⟨x.next, fun z o hz => x.old z o fun h => hz (hab z h), x.live⟩
/-- These names are still free. -/
def Fresh (ρ : Env) (a b : Nat) : Prop := ∀ x, a ≤ x → x < b → ρ x = none
theorem St.congr {G : Nat} {R R' : Nat → Prop} {ρ : Env} {H : Hp} {w w' : World} (h : St G R ρ H w) (hR : ∀ x, R' x → R x) (hw : w'.heap = w.heap) : St G R' ρ H w' :=
  ⟨fun x o hx hg => let ⟨k, ob, a, b, c⟩ := h.sat x o (hR x hx) hg; ⟨k, ob, a, hw ▸ b, c⟩,
   fun x y o o' k k' hx hy => h.inj x y o o' k k' (hR x hx) (hR y hy), h.glob, fun x k hx => hw ▸ h.low x k hx⟩
theorem Goes.refl {G : Nat} {R : Nat → Prop} {ρ : Env} {H : Hp} {w w' : World} (h : St G R ρ H w) (hw : w'.heap = w.heap) (hr : w'.os = w.os ∧ w'.tape = w.tape ∧ w'.output = w.output) : Goes G R ρ H w 0 ρ H w' :=
  ⟨h.congr (fun x hx => hx.resolve_right on_zero) hw, fun _ _ h => h, fun x k h1 h2 => (by rw [h1] at h2; cases h2), (by rw [hw]; exact Nat.le_refl _), fun b _ _ => (by rw [hw]), Nat.le_refl _, fun _ _ _ h => h, fun x o h => .inl ⟨o, h⟩, fun x hx => (on_zero hx).elim, hr⟩
theorem Goes.trans {G : Nat} {R : Nat → Prop} {ρ ρ1 ρ2 : Env} {H H1 H2 : Hp} {w w1 w2 : World} {a b : Nat} (hf : Fresh ρ H.next H1.next)
    (x : Goes G R ρ H w a ρ1 H1 w1) (y : Goes G (fun x => R x ∨ On a x) ρ1 H1 w1 b ρ2 H2 w2) : Goes G R ρ H w (Nat.lor a b) ρ2 H2 w2 := by
  have key : ∀ z o k c, On b z → H1.tr.get z = some o → ρ1 z = some k → k.b = c → c < w.heap.size → ∃ y o ky, (On a y ∨ On b y) ∧ H.tr.get y = some o ∧ ρ y = some ky ∧ ky.b = c := by
    intro z o k c hz hg hk hc hlt
    cases hρ : ρ z with
    | none =>
      obtain ⟨_, h2⟩ := x.new z k hρ hk
      rcases h2 with h2 | ⟨y, o, ky, h3, h4, h5, h6⟩
      · omega
      · exact ⟨y, o, ky, .inl h3, h4, h5, h6.trans hc⟩
    | some k0 =>
      have e := x.le _ _ hρ
      rw [hk] at e
      injection e with e
      subst e
      rcases x.live z o hg with ⟨o', h2⟩ | h2
      · exact ⟨z, o', k, .inr hz, h2, hρ, hc⟩
      · rw [hf z h2.1 h2.2] at hρ; cases hρ
  refine ⟨y.st.congr (fun z hz => ?_) rfl, fun z k h => y.le _ _ (x.le _ _ h), ?_, Nat.le_trans x.size y.size, ?_, Nat.le_trans x.next y.next, ?_, ?_, ?_, ?_⟩
  · rcases hz with hz | hz
    · exact .inl (.inl hz)
    · rcases on_lor.1 hz with hz | hz
      · exact .inl (.inr hz)
      · exact .inr hz
  · intro z k h1 h2
    cases h3 : ρ1 z with
    | some k1 =>
      have e := y.le _ _ h3
      rw [h2] at e
      injection e with e
      subst e
      obtain ⟨h4, h5⟩ := x.new z k h1 h3
      refine ⟨⟨h4.1, Nat.lt_of_lt_of_le h4.2 y.next⟩, h5.imp_right ?_⟩
      rintro ⟨y', o, ky, h6, h7⟩
      exact ⟨y', o, ky, on_lor.2 (.inl h6), h7⟩
    | none =>
      obtain ⟨h4, h5⟩ := y.new z k h3 h2
      refine ⟨⟨Nat.le_trans x.next h4.1, h4.2⟩, ?_⟩
      rcases h5 with h5 | ⟨y', o, ky, h6, h7, h8, h9⟩
      · exact .inl (Nat.le_trans x.size h5)
      · rcases Nat.lt_or_ge k.b w.heap.size with hlt | hge
        · obtain ⟨y2, o2, k2, h10, h11⟩ := key y' o ky k.b h6 h7 h8 h9 hlt
          exact .inr ⟨y2, o2, k2, on_lor.2 h10, h11⟩
        · exact .inl hge
  · intro c hc hn
    rw [y.same c (Nat.lt_of_lt_of_le hc x.size), x.same c hc (fun z o k h1 h2 h3 => hn z o k (on_lor.2 (.inl h1)) h2 h3)]
    intro z o k h1 h2 h3 h4
    obtain ⟨y', o', ky, h5, h6, h7, h8⟩ := key z o k c h1 h2 h3 h4 hc
    exact hn y' o' ky (on_lor.2 h5) h6 h7 h8
  · intro z o h1 h2
    have h3 : ¬ On a z ∧ ¬ On b z := ⟨fun h => h1 (on_lor.2 (.inl h)), fun h => h1 (on_lor.2 (.inr h))⟩
    exact x.old z o h3.1 (y.old z o h3.2 h2)
  · intro z o h
    rcases y.live z o h with ⟨o', h⟩ | h
    · rcases x.live z o' h with h | h
      · exact .inl h
      · exact .inr ⟨h.1, Nat.lt_of_lt_of_le h.2 y.next⟩
    · exact .inr ⟨Nat.le_trans x.next h.1, h.2⟩
  · intro z hz
    rcases on_lor.1 hz with hz | hz
    · obtain ⟨h1, h2⟩ := x.own z hz
      exact ⟨h1.imp_right fun h => ⟨h.1, Nat.lt_of_lt_of_le h.2 y.next⟩, h2⟩
    · obtain ⟨h1, h2⟩ := y.own z hz
      refine ⟨?_, h2⟩
      rcases h1 with (h1 | h1) | h1
      · exact .inl h1
      · exact (x.own z h1).1.imp_right fun h => ⟨h.1, Nat.lt_of_lt_of_le h.2 y.next⟩
      · exact .inr ⟨Nat.le_trans x.next h1.1, h1.2⟩
  · exact ⟨y.rest.1.trans x.rest.1, y.rest.2.1.trans x.rest.2.1, y.rest.2.2.trans x.rest.2.2⟩
/-- The names read so far may be more. -/
theorem Goes.more {G : Nat} {R : Nat → Prop} {ρ ρ' : Env} {H H' : Hp} {w w' : World} {a : Nat} (x : Goes G R ρ H w a ρ' H' w') {m : Nat} (h0 : ∀ x, On m x → R x ∧ G ≤ x) : Goes G R ρ H w (Nat.lor m a) ρ' H' w' := by
  refine ⟨x.st.congr (fun z hz => ?_) rfl, x.le, fun z k h1 h2 => ?_, x.size, fun b hb hn => x.same b hb fun z o k h => hn z o k (on_lor.2 (.inr h)), x.next, fun z o h => x.old z o fun h' => h (on_lor.2 (.inr h')), x.live, fun z hz => ?_, x.rest⟩
  · rcases hz with hz | hz
    · exact .inl hz
    · rcases on_lor.1 hz with hz | hz
      · exact .inl (h0 z hz).1
      · exact .inr hz
  · obtain ⟨h3, h4⟩ := x.new z k h1 h2
    exact ⟨h3, h4.imp_right fun ⟨y, o, ky, h5, h6⟩ => ⟨y, o, ky, on_lor.2 (.inr h5), h6⟩⟩
  · rcases on_lor.1 hz with hz | hz
    · exact ⟨.inl (h0 z hz).1, (h0 z hz).2⟩
    · exact x.own z hz
def Env.upd (ρ : Env) (j : Nat) (k : Blk) : Env := fun x => if x = j then some k else ρ x
theorem Env.upd_le {ρ : Env} {j : Nat} {k : Blk} (h : ρ j = none) : ρ.Le (ρ.upd j k) := by
  intro x kx hx
  unfold Env.upd
  split
  · rename_i e; rw [e, h] at hx; cases hx
  · exact hx
theorem Env.upd_at {ρ : Env} {j : Nat} {k : Blk} : ρ.upd j k j = some k := by simp [Env.upd]
theorem Env.upd_ne {ρ : Env} {j x : Nat} {k : Blk} (h : x ≠ j) : ρ.upd j k x = ρ x := by simp [Env.upd, h]
/-- A block is laid anew. -/
theorem Goes.set {G : Nat} {R : Nat → Prop} {ρ : Env} {H : Hp} {w w' : World} {x : Nat} {o o' : O} {k : Blk} {ob : Obj} (hs : St G R ρ H w) (hx : R x) (hg : H.tr.get x = some o) (hk : ρ x = some k) (hG : G ≤ x)
    (ho : SatO ρ k o' ob) (hw : w'.heap = w.heap.setIfInBounds k.b ob) (hr : w'.os = w.os ∧ w'.tape = w.tape ∧ w'.output = w.output) : Goes G R ρ H w (bit x) ρ (H.put x o') w' := by
  have hsz : w'.heap.size = w.heap.size := by rw [hw]; simp
  have hR : ∀ z, (R z ∨ On (bit x) z) → R z := fun z hz => hz.elim id fun h => (on_bit.1 h) ▸ hx
  have hlv : ∀ z oz, (H.put x o').tr.get z = some oz → (z = x ∧ oz = o') ∨ (z ≠ x ∧ H.tr.get z = some oz) := fun z oz h => by
    rw [hp_put] at h
    rcases get_put h with ⟨h1, h2⟩ | h
    · exact .inl ⟨h1, h2.symm⟩
    · exact .inr h
  refine ⟨⟨?_, ?_, hs.glob, fun z kz hz => hsz ▸ hs.low z kz hz⟩, fun _ _ h => h, fun z kz h1 h2 => (by rw [h1] at h2; cases h2), Nat.le_of_eq hsz.symm, ?_, Nat.le_refl _, ?_, ?_, ?_, hr⟩
  · intro z oz hz h
    rcases hlv z oz h with ⟨rfl, rfl⟩ | ⟨hne, h⟩
    · exact ⟨k, ob, hk, by rw [hw, Array.getElem?_setIfInBounds_self_of_lt (hs.low _ _ hk)], ho⟩
    · obtain ⟨kz, obz, h1, h2, h3⟩ := hs.sat z oz (hR z hz) h
      refine ⟨kz, obz, h1, ?_, h3⟩
      rw [hw, Array.getElem?_setIfInBounds_ne, h2]
      intro e
      exact hne (hs.inj z x oz o kz k (hR z hz) hx h hg h1 hk e.symm)
  · intro y z oy oz ky kz hy hz h1 h2
    have hg' : ∀ v ov, (H.put x o').tr.get v = some ov → ∃ o2, H.tr.get v = some o2 := fun v ov h => (hlv v ov h).elim (fun e => ⟨o, e.1 ▸ hg⟩) fun e => ⟨ov, e.2⟩
    obtain ⟨o1, h3⟩ := hg' y oy h1
    obtain ⟨o2, h4⟩ := hg' z oz h2
    exact hs.inj y z o1 o2 ky kz (hR _ hy) (hR _ hz) h3 h4
  · intro b hb hn
    rw [hw, Array.getElem?_setIfInBounds_ne]
    exact hn x o k (on_bit.2 rfl) hg hk
  · intro z oz hz h
    rcases hlv z oz h with ⟨rfl, _⟩ | ⟨_, h⟩
    · exact (hz (on_bit.2 rfl)).elim
    · exact h
  · intro z oz h
    rcases hlv z oz h with ⟨rfl, _⟩ | ⟨_, h⟩
    · exact .inl ⟨o, hg⟩
    · exact .inl ⟨oz, h⟩
  · intro z hz
    rw [on_bit.1 hz]
    exact ⟨.inl hx, hG⟩
/-- A block is made; 'i': one that is given up for it, or none. -/
theorem Goes.made {G : Nat} {R : Nat → Prop} {ρ : Env} {H : Hp} {w w' : World} {o : O} {k : Blk} {ob : Obj} (hs : St G R ρ H w) (hf : ρ H.next = none) (hG : G ≤ H.next)
    (ho : SatO (ρ.upd H.next k) k o ob) (hb : k.b = w.heap.size) (hw : w'.heap = w.heap.push ob) (hr : w'.os = w.os ∧ w'.tape = w.tape ∧ w'.output = w.output) : Goes G R ρ H w (bit H.next) (ρ.upd H.next k) (H.new o) w' := by
  have hle : ρ.Le (ρ.upd H.next k) := Env.upd_le hf
  have hsz : w'.heap.size = w.heap.size + 1 := by rw [hw]; simp
  have hlv : ∀ z oz, (H.new o).tr.get z = some oz → (z = H.next ∧ oz = o) ∨ (z ≠ H.next ∧ H.tr.get z = some oz) := fun z oz h => by
    rw [hp_new] at h
    rcases get_put h with ⟨h1, h2⟩ | h
    · exact .inl ⟨h1, h2.symm⟩
    · exact .inr h
  have hR : ∀ z, z ≠ H.next → (R z ∨ On (bit H.next) z) → R z := fun z hne hz => hz.elim id fun h => (hne (on_bit.1 h)).elim
  have hnx : (H.new o).next = H.next + 1 := by rw [hp_new]
  have hold : ∀ z kz, z ≠ H.next → ρ.upd H.next k z = some kz → ρ z = some kz := fun z kz hne h => by rwa [Env.upd_ne hne] at h
  refine ⟨⟨?_, ?_, fun g hg => let ⟨K, h⟩ := hs.glob g hg; ⟨K, hle _ _ h⟩, ?_⟩, hle, ?_, by omega, ?_, by omega, ?_, ?_, ?_, hr⟩
  · intro z oz hz h
    rcases hlv z oz h with ⟨rfl, rfl⟩ | ⟨hne, h⟩
    · exact ⟨k, ob, Env.upd_at, by rw [hw, hb]; simp, ho⟩
    · obtain ⟨kz, obz, h1, h2, h3⟩ := hs.sat z oz (hR z hne hz) h
      refine ⟨kz, obz, hle _ _ h1, ?_, h3.mono hle⟩
      have hlt := hs.low z kz h1
      rw [hw, Array.getElem?_push_lt hlt, ← Array.getElem?_eq_getElem hlt]
      exact h2
  · intro y z oy oz ky kz hy hz h1 h2 h3 h4 h5
    rcases hlv y oy h1 with ⟨e1, _⟩ | ⟨hne, h1⟩ <;> rcases hlv z oz h2 with ⟨e2, _⟩ | ⟨hne', h2⟩
    · rw [e1, e2]
    · rw [e1, Env.upd_at] at h3; injection h3 with h3
      have := hs.low z kz (hold _ _ hne' h4)
      rw [← h5, ← h3, hb] at this
      omega
    · rw [e2, Env.upd_at] at h4; injection h4 with h4
      have := hs.low y ky (hold _ _ hne h3)
      rw [h5, ← h4, hb] at this
      omega
    · exact hs.inj y z oy oz ky kz (hR _ hne hy) (hR _ hne' hz) h1 h2 (hold _ _ hne h3) (hold _ _ hne' h4) h5
  · intro z kz h
    by_cases e : z = H.next
    · rw [e, Env.upd_at] at h; injection h with h
      rw [← h, hb, hsz]; omega
    · have := hs.low z kz (hold _ _ e h); omega
  · intro z kz h1 h2
    by_cases e : z = H.next
    · rw [e, Env.upd_at] at h2; injection h2 with h2
      exact ⟨by omega, .inl (by rw [← h2, hb]; exact Nat.le_refl _)⟩
    · rw [hold _ _ e h2] at h1; cases h1
  · intro b hb' _
    rw [hw, Array.getElem?_push_lt hb', ← Array.getElem?_eq_getElem hb']
  · intro z oz hz h
    rcases hlv z oz h with ⟨rfl, _⟩ | ⟨_, h⟩
    · exact (hz (on_bit.2 rfl)).elim
    · exact h
  · intro z oz h
    rcases hlv z oz h with ⟨rfl, _⟩ | ⟨_, h⟩
    · exact .inr (by omega)
    · exact .inl ⟨oz, h⟩
  · intro z hz
    rw [on_bit.1 hz]
    exact ⟨.inr (by omega), hG⟩
/-- A block is given up. -/
theorem Goes.kill {G : Nat} {R : Nat → Prop} {ρ : Env} {H : Hp} {w : World} {x : Nat} (hs : St G R ρ H w) (hx : R x) (hG : G ≤ x) : Goes G R ρ H w (bit x) ρ (H.kill x) w := by
  have hlv : ∀ z oz, (H.kill x).tr.get z = some oz → z ≠ x ∧ H.tr.get z = some oz := fun z oz h => by rw [hp_kill] at h; exact get_cut h
  have hR : ∀ z, (R z ∨ On (bit x) z) → R z := fun z hz => hz.elim id fun h => (on_bit.1 h) ▸ hx
  exact ⟨⟨fun z oz hz h => hs.sat z oz (hR z hz) (hlv z oz h).2, fun y z oy oz ky kz hy hz h1 h2 => hs.inj y z oy oz ky kz (hR _ hy) (hR _ hz) (hlv _ _ h1).2 (hlv _ _ h2).2, hs.glob, hs.low⟩,
    fun _ _ h => h, fun z kz h1 h2 => by (rw [h1] at h2; cases h2), Nat.le_refl _, fun _ _ _ => rfl, Nat.le_refl _, fun z oz _ h => (hlv z oz h).2, fun z oz h => .inl ⟨oz, (hlv z oz h).2⟩, fun z hz => by (rw [on_bit.1 hz]; exact ⟨.inl hx, hG⟩), ⟨rfl, rfl, rfl⟩⟩
end Go.Proofs.YtdldpehmcfbbeaaGreatDoor.Ev
