/- The evaluator with panics: the deferred call that recovers, the frame that goes on behind it, whole runs. Conditions: what is said of functions without a Go body (X), and that the machine lets all orders in (mixedOrders). -/
import Derived.Test.YtdldpehmcfbbeaaGreatDoorEvP2
import Derived.Below
namespace Go.Proofs.YtdldpehmcfbbeaaGreatDoor.Ev
open Go.RowKit
variable {P : Program} {X : Ext} {G : Nat}
theorem st_recoverS {f : Frame} {cs cs' : List Frame} {w w' : World} {s : Sem Next} {v : Value} (hm : f.mode = .run) (hr : f.roundOf = none) (hn : tryRecover f cs = some (v, cs')) (he : stepG.exec P true true f cs none w = stepG.apply P true f cs none s w) (h : s.run P w = .ok .recover w') : step P (lone f cs w) = .next (lone (f.finish v) cs' w') :=
  stp hm (by rw [he]; simp [stepG.apply, h, hr, hn])
/-- A deferred call that recovers what its caller panics with. -/
theorem rec_ok (hX : XOk P G X) {K : Hint} {run : Runner} (hR : RunOk P G run) {g : Fr} {v : V} {H : Hp} {rd wr : Nat} {q : K2} (h : recA P X G K run g v H rd wr q = .ok) :
    ∃ v' H' rd' wr', q v' H' rd' wr' = .ok ∧ Pu H H' wr' ∧ (∀ x, On rd x → On rd' x) ∧ (∀ x, On wr x → On wr' x) ∧
      ∀ (R : Nat → Prop) (ρ : Env) (w : World) (f c : Frame) (cs : List Frame) (r : Value), FR ρ g f → VR ρ v r → c.mode = .panicking (one1 r) → St G R ρ H w → (∀ x, On rd' x → R x) → (∀ x, On wr x → R x ∧ G ≤ x) → Fresh ρ H.next H'.next → G ≤ H.next →
        ∃ w' ρ', Steps P (lone f (c :: cs) w) (lone { c with mode := .returning } cs w') ∧ Goes G R ρ H w wr' ρ' H' w' := by
  unfold recA at h
  split at h
  · rename_i fn T n id ops rest
    obtain ⟨l, hl, h1⟩ := get_ok h
    split at h1
    · rename_i o bef l
      obtain ⟨out, H1, r1, w1m, h2, hnx1, hdoes⟩ := exec_ok hX.1 h1
      cases out with
      | recover =>
        simp only [nat_eq] at h2
        obtain ⟨T1, h3, hT⟩ := lay_ok h2
        obtain ⟨T2, ds2, H2, rd2, wr2, h4, hpu2, hrd2, hwr2, hdo⟩ := inTurn_ok hX hR l _ _ _ _ _ h3
        obtain ⟨v', H', rd', wr', hq, hpu', hrd', hwr', hrest⟩ := hR _ _ _ _ _ h4
        have hnx2 := hpu2.next
        have hnx' := hpu'.next
        have hnx1' := hnx1.next
        refine ⟨v', H', rd', wr', hq, (hnx1.more fun z hz => hwr2 z (on_lor.2 (.inr hz))).trans hpu2 (fun x hx => hx) |>.trans hpu' hwr', fun x hx => hrd' x (hrd2 x (on_lor.2 (.inl hx))), fun x hx => hwr' x (hwr2 x (on_lor.2 (.inl hx))), ?_⟩
        intro R ρ w f c cs r fr hv hc hs hR' hw' hf hG
        obtain ⟨b1, b2⟩ := prepS_left _ _ hl
        have hleft := left_of b1 b2
        have hlen : l.length + 1 = ops.size := by simpa using congrArg List.length b1
        obtain ⟨y, k', e, a1, a2⟩ := fr.todo rfl
        obtain rfl : y = .code (.seq (.region id ops false) rest) := a1
        obtain rfl : k' = [] := a2
        have hm : f.mode = .run := fr.mode
        have hkd : f.kind = .deferred := fr.kind
        have hro : f.roundOf = none := fr.rnd.1 rfl
        have s1 : step P (lone f (c :: cs) w) = .next (lone { f with todo := [.code (.region id ops false), .code rest] } (c :: cs) w) := stp hm (by simp [stepG.exec, e])
        have s2 : step P (lone { f with todo := [.code (.region id ops false), .code rest] } (c :: cs) w) = .next (lone { f with todo := [.inRegion ops (0 :: List.range' 1 l.length), .code rest] } (c :: cs) w) := stp hm (by simp [stepG.exec, ← hlen, List.range_eq_range', List.range'_succ])
        obtain ⟨ho, hg⟩ := hleft 0 _ rfl
        have hf1 : Fresh ρ H.next H1.next := fun x x1 x2 => hf x x1 (by omega)
        obtain ⟨nx, w1, ρ1, d1, d2, d3⟩ := hdoes R ρ w f.eval ((LmR.base fr.tm).ev hs o) hs (fun x hx => hR' x (hrd' x (hrd2 x (on_lor.2 (.inr hx))))) hf1 hG
        obtain rfl := show nx = .recover from d2
        have hev : ({ f with todo := [.inRegion ops (0 :: List.range' 1 l.length), .code rest] } : Frame).eval = f.eval := rfl
        have hx := st_oper (P := P) (f := { f with todo := [.inRegion ops (0 :: List.range' 1 l.length), .code rest] }) (cs := c :: cs) (w := w) rfl ho (wanted_ok (T := .base T) (ρ := ρ) hg rfl (fun d b e => by cases e)) (.inl hro)
        rw [hev] at hx
        have htr : tryRecover { f with todo := [.inRegion ops (0 :: List.range' 1 l.length), .code rest] } (c :: cs) = some (r, { c with mode := .panicking [{ v := r, recovered := true }] } :: cs) := by
          simp [tryRecover, hkd, hc, one1]
        have s3 : step P (lone { f with todo := [.inRegion ops (0 :: List.range' 1 l.length), .code rest] } (c :: cs) w) = .next (lone (({ f with todo := [.inRegion ops (0 :: List.range' 1 l.length), .code rest] } : Frame).finish r) ({ c with mode := .panicking [{ v := r, recovered := true }] } :: cs) w1) :=
          st_recoverS hm hro htr hx d1
        rw [finish_eq (f := { f with todo := [.inRegion ops (0 :: List.range' 1 l.length), .code rest] }) rfl ho] at s3
        have hl1 : LmR ρ1 T1 n (match o.dst with | some d => f.tmps.setIfInBounds d r | none => f.tmps) := by
          rcases hT with ⟨e1, e2⟩ | ⟨d, e1, e2, e3⟩
          · rw [e1, e2]
            exact (LmR.base fr.tm).mono d3.le
          · rw [e1, e3]
            exact ((LmR.base fr.tm).mono d3.le).put e2 (VR.mono d3.le v r hv)
        have hcs : CsOk { f with tmps := (match o.dst with | some d => f.tmps.setIfInBounds d r | none => f.tmps), todo := [.inRegion ops (List.range' 1 l.length), .code rest] } ({ c with mode := .panicking [{ v := r, recovered := true }] } :: cs) := ⟨fun h => (by simp [hro] at h), fun _ => ⟨_, _, rfl, .inr ⟨r, rfl⟩⟩⟩
        obtain ⟨w2, ρ2, tm2, dd2, s4, l2, dr2, g2⟩ := hdo _ ρ1 w1 { f with tmps := (match o.dst with | some d => f.tmps.setIfInBounds d r | none => f.tmps), todo := [.inRegion ops (List.range' 1 l.length), .code rest] } ({ c with mode := .panicking [{ v := r, recovered := true }] } :: cs) ops 1 [.code rest] hleft.tail hm (.inr hkd) (fr.rnd.mono d3.le) (fr.ds.mono d3.le) hl1 rfl d3.st (fun x hx => .inl (hR' x (hrd' x hx))) (fun x hx => by
          rcases on_lor.1 hx with hx | hx
          · exact ⟨.inl (hw' x hx).1, (hw' x hx).2⟩
          · exact ⟨.inr hx, (d3.own x hx).2⟩) (fun x x1 x2 => fresh_on d3 hf x x1 (by omega)) (Nat.le_trans hG d3.next) hcs
        have hFR : FR ρ2 ⟨fn, T2.flush (K fn id), n, [.code rest], ds2, false, true, none⟩ { f with tmps := tm2, defers := dd2, todo := [.code rest] } := ⟨fr.fn, l2.flush _, fun _ => ⟨_, _, rfl, rfl, rfl⟩, dr2, hm, hkd, (fr.rnd.mono d3.le).mono g2.le⟩
        have g12 := Goes.trans hf1 d3 g2
        obtain ⟨r3, w3, ρ3, e1, e2, e3⟩ := hrest _ ρ2 w2 { f with tmps := tm2, defers := dd2, todo := [.code rest] } ({ c with mode := .panicking [{ v := r, recovered := true }] } :: cs) hFR g12.st (fun x hx => .inl (hR' x hx)) (fun x hx => ⟨.inr (on_lor.2 (.inr hx)), (g2.own x hx).2⟩) (fresh_on g12 hf) (Nat.le_trans hG g12.next) ⟨fun h => (by simp [hro] at h), fun _ => ⟨_, _, rfl, .inr ⟨r, rfl⟩⟩⟩
        obtain ⟨f', c1, c2, c3, c4, c5, F, c6, c7⟩ := e1.1 hro
        have s5 := step_going_returned (P := P) (c := { c with mode := .panicking [{ v := r, recovered := true }] }) (cs := cs) (c4.trans hkd) ⟨c2, c3, F, c6, c7⟩
        have hset : settle (.panicking [{ v := r, recovered := true }]) = .returning := by simp [settle]
        simp only at s5
        rw [hset] at s5
        refine ⟨w3, ρ3, .head s1 (.head s2 (.head s3 (s4.trans (c1.trans (.one s5))))), ?_⟩
        exact Goes.congr (fun x => ⟨fun h => (on_lor.1 h).elim (fun h => (on_lor.1 h).elim (fun h => hwr' x (hwr2 x (on_lor.2 (.inr h)))) (hwr' x)) fun h => h, fun h => on_lor.2 (.inr h)⟩) (Goes.trans (fun x x1 x2 => hf x x1 (by omega)) g12 e3)
      | _ => cases h2
    · cases h1
  · cases h
/-- A frame whose work gives up, and whose first deferred call recovers. -/
theorem catch_ok (hX : XOk P G X) {K : Hint} {run : Runner} (hR : RunOk P G run) {die : Dier} (hD : DieAll P G die) {S : Sites} {g : Fr} {H : Hp} {rd wr : Nat} {q : K2} (h : catchA P X G K run die S g H rd wr q = .ok) : FrOk P G g H rd wr q := by
  unfold catchA at h
  split at h
  · rename_i fn T n todo ds
    obtain ⟨s, _, h1⟩ := get_ok h
    obtain ⟨v, T', ds', H1, rd1, wr1, h2, hpu, hrd, hwr, hdo⟩ := hD _ _ _ _ _ _ _ h1
    simp only at h2
    split at h2
    · rename_i fid args cap ds1
      obtain ⟨hok, h3⟩ := iff_no h2
      obtain ⟨g, h4, h5⟩ := get_ok h3
      obtain ⟨v2, H2, rd2, wr2, h6, hpu2, hrd2, hwr2, hdo2⟩ := rec_ok hX hR h5
      obtain ⟨v3, H3, rd3, wr3, h7, hpu3, hrd3, hwr3, hdo3⟩ := hR _ _ _ _ _ h6
      have n2 := hpu2.next
      have n3 := hpu3.next
      refine ⟨v3, H3, rd3, wr3, h7, (hpu.trans hpu2 hwr2).trans hpu3 hwr3, fun x hx => hrd3 x (hrd2 x (hrd x hx)), fun x hx => hwr3 x (hwr2 x (hwr x hx)), ?_⟩
      intro R ρ w f cs fr hs hR' hw' hf hG hcs
      have hf1 : Fresh ρ H.next H1.next := fun x x1 x2 => hf x x1 (by omega)
      have hf2 : Fresh ρ H.next H2.next := fun x x1 x2 => hf x x1 (by omega)
      obtain ⟨r, w1, ρ1, f1, s1, m1, k1, e1, o1, t1, d1, v1, g1⟩ := hdo R ρ w f cs fr hs (fun x hx => hR' x (hrd3 x (hrd2 x hx))) hw' hf1 hG hcs
      obtain ⟨d, dd, ed, ⟨ra, rc, c1, c2, c3⟩, e2⟩ := d1
      subst c1
      have hi : (invoke (.fn (.func fid) rc) ra).run P w1 = .ok (.enter fid (ra ++ rc)) w1 := by
        simp only [invoke, okFn_ok hok]
      have s2 := step_defer (P := P) (fr := f1) (cs := cs) (w := w1) (by rw [m1]; exact fun h => (by cases h)) ed rfl hi
      obtain ⟨hFR, _, _, _⟩ := enter_FR h4 (ra := ra ++ rc) (by rw [Array.toList_append]; exact c2.append c3)
      have hf2' : Fresh ρ1 H1.next H2.next := fresh_on g1 hf2
      obtain ⟨w2, ρ2, s3, g2⟩ := hdo2 _ ρ1 w1 _ { f1 with defers := dd } cs r hFR v1 m1 g1.st (fun x hx => .inl (hR' x (hrd3 x hx))) (fun x hx => ⟨.inr hx, (g1.own x hx).2⟩) hf2' (Nat.le_trans hG g1.next)
      have g12 := Goes.congr (fun x => ⟨fun h => (on_lor.1 h).elim (hwr2 x) fun h => h, fun h => on_lor.2 (.inr h)⟩) (Goes.trans hf1 g1 g2)
      have hFR3 : FR ρ2 ⟨fn, T', n, [], ds1, true, false, none⟩ { f1 with defers := dd, mode := .returning } := ⟨e1.trans fr.fn, t1.mono g2.le, fun h => (by cases h), e2.mono g2.le, rfl, k1.trans fr.kind, ⟨fun _ => o1.trans (fr.rnd.1 rfl), fun i hi => (by cases hi)⟩⟩
      obtain ⟨r3, w3, ρ3, a1, a2, a3⟩ := hdo3 _ ρ2 w2 _ cs hFR3 g12.st (fun x hx => .inl (hR' x hx)) (fun x hx => ⟨.inr hx, (g12.own x hx).2⟩) (fresh_on g12 hf) (Nat.le_trans hG g12.next) ⟨fun h => hcs.1 (o1 ▸ h), fun h => hcs.2 (k1 ▸ h)⟩
      refine ⟨r3, w3, ρ3, Ends.after (s1.trans (.head s2 s3)) o1 k1 e1 a1, a2, Goes.congr (fun x => ⟨fun h => (on_lor.1 h).elim (hwr3 x) fun h => h, fun h => on_lor.2 (.inr h)⟩) (Goes.trans hf2 g12 a3)⟩
    · cases h2
  · cases h
/-- A region with loads that tell the same whenever they are made. -/
theorem regF_ok (hX : XOk P G X) (hM : P.follows .mixedOrders = true) {F : Frees} {K : Hint} {run : Runner} (hR : RunOk P G run) {g : Fr} {H : Hp} {rd wr : Nat} {q : K2} {els : Ans} (he : els = .ok → FrOk P G g H rd wr q) (h : regF F P X G K run g H rd wr q els = .ok) : FrOk P G g H rd wr q := by
  unfold regF at h
  split at h
  · rename_i fn T n id ops k ds dfd rnd
    rcases hF : F fn id with _ | M <;> rw [hF] at h
    · exact he h
    · obtain ⟨l, hl, h2⟩ := get_ok h
      obtain ⟨T', H', rd', wr', h3, hpu, hdo⟩ := drawF_ok hX hM hR hl h2
      rw [nat_eq, nat_eq] at h3
      refine via hR h3 (hpu.more fun z hz => on_lor.2 (.inr hz)) (fun x hx => on_lor.2 (.inl hx)) (fun x hx => on_lor.2 (.inl hx)) ?_
      intro R ρ w f cs fr hs hR' hw' hf hG hcs
      obtain ⟨y, k', e, a1, a2⟩ := fr.todo rfl
      cases (show y = .code (.region id ops true) from a1)
      obtain ⟨w1, ρ1, tm2, ds2, s1, l1, d1, g1⟩ := hdo R ρ w f cs id k' fr.mode fr.kinds fr.rnd fr.ds (LmR.base fr.tm) e hs (fun x hx => hR' x (on_lor.2 (.inr hx))) hf hG hcs
      exact ⟨w1, ρ1, _, s1, rfl, rfl, rfl, ⟨fr.fn, l1.flush _, fun _ => a2.mono g1.le, d1, fr.mode, fr.kind, fr.rnd.mono g1.le⟩, Goes.more g1 hw'⟩
  · exact he h
theorem stepR_ok (hX : XOk P G X) (hM : P.follows .mixedOrders = true) {F : Frees} {K : Hint} {run : Runner} (hR : RunOk P G run) {g : Fr} {H : Hp} {rd wr : Nat} {q : K2} (h : stepR F P X G K run g H rd wr q = .ok) : FrOk P G g H rd wr q :=
  regF_ok hX hM hR (fun h => stepA_ok hX hM (K := K) hR h) h
theorem stepB_ok (hX : XOk P G X) (hM : P.follows .mixedOrders = true) {K : Hint} {C : Catches} {run : Runner} (hR : RunOk P G run) {die : Dier} (hD : DieAll P G die) {g : Fr} {H : Hp} {rd wr : Nat} {q : K2} (h : stepB P X G K C run die g H rd wr q = .ok) : FrOk P G g H rd wr q := by
  unfold stepB at h
  rcases iff_ok h with ⟨_, h1⟩ | ⟨_, h1⟩
  · rcases iff_ok h1 with ⟨_, h2⟩ | ⟨_, h2⟩
    · cases hc : C.at_ g.fn H.next with
      | none => rw [hc] at h2; exact stepR_ok hX hM (K := K) hR h2
      | some S => rw [hc] at h2; exact catch_ok hX hR hD h2
    · exact stepR_ok hX hM (K := K) hR h2
  · exact stepR_ok hX hM (K := K) hR h1
theorem both_ok (hX : XOk P G X) (hM : P.follows .mixedOrders = true) {K : Hint} {C : Catches} : ∀ n, RunOk P G (bothA P X G K C n).1 ∧ DieAll P G (bothA P X G K C n).2
  | 0 => ⟨fun _ _ _ _ _ h => (by cases h), fun _ _ _ _ _ _ _ h => (by cases h)⟩
  | n + 1 => ⟨fun g H rd wr q h => stepB_ok hX hM (K := K) (C := C) (both_ok hX hM n).1 (both_ok hX hM n).2 h, fun S c g H rd wr Q h => dieS_ok hX hM (K := K) (both_ok hX hM (C := C) n).1 (both_ok hX hM n).2 h⟩
/-- A call that the evaluator with panics ran to its end: the machine's comes there too. -/
theorem callC_ok (hX : XOk P G X) (hM : P.follows .mixedOrders = true) {K : Hint} {C : Catches} {n : Nat} {f : FuncId} {args : List V} {H : Hp} {q : K2} (h : callC P X G K C n f args H q = .ok) :
    ∃ v H' rd' wr', q v H' rd' wr' = .ok ∧ ∀ (ρ : Env) (w : World) (ra : Array Value), VRs ρ args ra.toList → St G (fun _ => True) ρ H w → (∀ x, H.next ≤ x → ρ x = none) → G ≤ H.next →
      Calls P f ra w fun e w' => ∃ r ρ', e = .returned r ∧ VR ρ' v r ∧ Goes G (fun _ => True) ρ H w wr' ρ' H' w' := by
  obtain ⟨g, h1, h2⟩ := get_ok h
  obtain ⟨v, H', rd', wr', h3, _, _, _, hrun⟩ := (both_ok hX hM (K := K) (C := C) n).1 g H 0 0 q h2
  refine ⟨v, H', rd', wr', h3, ?_⟩
  intro ρ w ra hra hs hf hG cs
  obtain ⟨hFR, hd1, hd2, hd3⟩ := enter_FR h1 hra
  obtain ⟨r, w', ρ', b1, b2, b3⟩ := hrun (fun _ => True) ρ w _ cs hFR hs (fun _ _ => trivial) (fun x hx => (on_zero hx).elim) (fun x h1 _ => hf x h1) hG ⟨fun h => (by cases h), fun h => (by cases h)⟩
  obtain ⟨f', c1, c2, c3, c4, c5, F, c6, c7⟩ := b1.1 rfl
  exact ⟨.returned r, w', f', ⟨r, ρ', rfl, b2, b3⟩, c1, c5, c2, c3, c4, F, c6, c7⟩
theorem true_of_runC (hX : XOk P 0 X) (hM : P.follows .mixedOrders = true) {K : Hint} {C : Catches} {n f m : Nat} (hr : callC P X 0 K C n f [] ⟨m, .nil⟩ saysTrue = .ok) (w : World) : Calls P f #[] w fun e w' => e = .returned (.bool true) ∧ Below w.heap.size w w' := by
  obtain ⟨v, H', rd', wr', h1, h2⟩ := callC_ok hX hM hr
  have hv : v = .bool true := by
    unfold saysTrue at h1
    split at h1
    · rfl
    · cases h1
  subst hv
  refine (h2 (fun _ => none) w #[] rfl ⟨fun x o _ h => (by cases h), fun x y o o' k k' _ _ h => (by cases h), fun g hg => (by omega), fun x k h => (by cases h)⟩ (fun _ _ => rfl) (Nat.zero_le _)).mono ?_
  rintro e w' ⟨r, ρ', rfl, a1, a2⟩
  exact ⟨by rw [show r = .bool true from a1], a2.rest.1, a2.rest.2.1, a2.rest.2.2, a2.size, fun b hb => a2.same b hb fun x o k _ h => (by cases h)⟩
end Go.Proofs.YtdldpehmcfbbeaaGreatDoor.Ev
