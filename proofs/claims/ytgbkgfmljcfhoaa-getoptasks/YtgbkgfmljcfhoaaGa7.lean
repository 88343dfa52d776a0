/- The walks of the program's takeWithArgument, takeCluster and take. Conditions: the parting lies in memory as 'Pt' says; lengths that fit. -/
import Derived.Test.YtgbkgfmljcfhoaaGa6
namespace Go.Proofs.Ytgbkgfmljcfhoaa
open Go.RowKit
attribute [local go_sem] ext_eq app_eq get_eq
def Bd (w W : World) (B pb : Nat) (nm : List UInt8) (ms : Bool) : Prop := Below B w W ∧ B ≤ W.heap.size ∧ W.cell? ⟨pb, 6, none⟩ = some (.string ⟨nm.toArray⟩) ∧ W.cell? ⟨pb, 7, none⟩ = some (.bool ms)
def twa (nm bh : List UInt8) (left : List (List UInt8)) (o : List Ga.Opt) : Sum (List UInt8 × Bool) (List Ga.Opt × List (List UInt8)) :=
  if bh = [] then (match left with
    | [] => .inl (nm, true)
    | x :: r => .inr (o ++ [(nm, x)], r))
  else .inr (o ++ [(nm, bh)], left)
def OutC (w W : World) (B pb qb : Nat) (st : Bool) (al tk : List UInt8) (vr : Value) (rest : List (List UInt8)) (e : Ending) : Sum (List UInt8 × Bool) (List Ga.Opt × List (List UInt8)) → Prop
  | .inl b => e = .returned (.bool false) ∧ Bd w W B pb b.1 b.2
  | .inr x => e = .returned (.bool true) ∧ ∃ a c vo, Pt w W B pb qb st al tk a c x.2 vo vr x.1 rest
theorem OutC.ret {w W : World} {B pb qb : Nat} {st : Bool} {al tk : List UInt8} {vr : Value} {rest : List (List UInt8)} {e : Ending} {r : Sum (List UInt8 × Bool) (List Ga.Opt × List (List UInt8))} (h : OutC w W B pb qb st al tk vr rest e r) : ∃ b, e = .returned (.bool b) := by
  cases r with
  | inl b => exact ⟨_, h.1⟩
  | inr b => exact ⟨_, h.1⟩
section
variable {w W : World} {B pb qb : Nat} {st : Bool} {al tk : List UInt8} {a : Option Addr} {c : Nat} {left : List (List UInt8)} {vo vr : Value} {opts : List Ga.Opt} {rest : List (List UInt8)}
theorem Pt.bad (h : Pt w W B pb qb st al tk a c left vo vr opts rest) (nm : List UInt8) (ms : Bool) : Bd w ((W.setCell ⟨pb, 6, none⟩ (.string ⟨nm.toArray⟩)).setCell ⟨pb, 7, none⟩ (.bool ms)) B pb nm ms :=
  ⟨(h.bel.setCell h.p1 _).setCell h.p1 _, by have := h.hB; simp [World.setCell]; exact this, (sc_out (by simp)).trans (sc_in h.c6), sc_in ((sc_out (by simp)).trans h.c7)⟩
set_option maxRecDepth 100000 in
set_option maxHeartbeats 4000000 in
theorem gTwa (h : Pt w W B pb qb st al tk a c left vo vr opts rest) (nm bh : List UInt8) (hM : opts.length ≤ 2 ^ 40) : Calls Try.prog 49 #[.pointer (some ⟨pb, 0, none⟩), .string ⟨nm.toArray⟩, .string ⟨bh.toArray⟩] W fun e W' =>
    OutC w W' B pb qb st al tk vr rest e (twa nm bh left opts) := by
  obtain ⟨i0, hi, hz0, hz1, hz2⟩ := infoO
  have H : Hid (Pt w W B pb qb st al tk a c left vo vr opts rest) := h
  have c3 := h.c3
  have c4 := h.c4
  have f4 := h.fp 4
  have hbs : B ≤ W.heap.size := h.hB
  have HO : Hid (W.ownsRow B 67 2 vo opts.length (opCs opts)) := h.oo
  clear h
  by_cases hb : bh = []
  · subst hb
    cases left with
    | nil =>
      have HE : Hid (twa nm [] [] opts = .inl (nm, true)) := rfl
      have HX : Hid (∀ W e, OutC w W B pb qb st al tk vr rest e (twa nm [] [] opts) = (e = .returned (.bool false) ∧ Bd w W B pb nm true)) := fun _ _ => rfl
      generalize twa nm [] [] opts = R at *
      have c6 := H.out.c6
      have c7 := H.out.c7
      have f6 := H.out.fp 6
      have f7 := H.out.fp 7
      go_enter Try.func49, Try.ntmps49
      go_wp2_with fail
      refine (gNextP H.out).mono ?_
      rintro e w1 ⟨rfl, a1, c1, hP1⟩
      have HP1 : Hid (Pt w w1 B pb qb st al tk a1 c1 [] vo vr opts rest) := hP1
      have d6 := HP1.out.c6
      have d7 := HP1.out.c7
      have g6 := HP1.out.fp 6
      have g7 := HP1.out.fp 7
      clear hP1 c3
      go_wp2
      go_ret
      rw [HX.out]
      exact ⟨rfl, HP1.out.bad nm true⟩
    | cons x r =>
      have HX : Hid (∀ W e, OutC w W B pb qb st al tk vr rest e (twa nm [] (x :: r) opts) = (e = .returned (.bool true) ∧ ∃ a c vo, Pt w W B pb qb st al tk a c r vo vr (opts ++ [(nm, x)]) rest)) := fun _ _ => rfl
      generalize twa nm [] (x :: r) opts = R at *
      go_enter Try.func49, Try.ntmps49
      go_wp2_with fail
      refine (gNextP H.out).mono ?_
      rintro e w1 ⟨rfl, a1, c1, hP1⟩
      have HP1 : Hid (Pt w w1 B pb qb st al tk a1 c1 r vo vr opts rest) := hP1
      have d4 := HP1.out.c4
      have g4 := HP1.out.fp 4
      have hbs1 : B ≤ w1.heap.size := HP1.out.hB
      have HO1 : Hid (w1.ownsRow B 67 2 vo opts.length (opCs opts)) := HP1.out.oo
      clear hP1 c3
      go_wp2_with (at_builtin; refine wpList_append_own_at _ rfl _ _ 23 rfl B 67 i0 (.agg #[.string ⟨#[]⟩, .string ⟨#[]⟩]) 2 32 Try.underlying23 hi hz0 hz1 hz2 rfl (by decide) _ _ _ rfl (HO1.out.alloc _) ⟨w1.heap.size, 0, none⟩ 1 1 [.string ⟨nm.toArray⟩, .string ⟨x.toArray⟩] rfl rfl (cell_two_new _ _ _ _) (two_cell _ _) (by unfold maxLen; omega) (by omega) (by simp; omega) ?_; intro v' w2 hown hg _ hat; obtain ⟨va, vn, vc, hv⟩ := own_slice hown; subst hv; have HA := HP1.out.after hg HP1.out.op; have HP2 : Hid (Pt w (w2.setCell ⟨pb, 4, none⟩ (.slice va vn vc)) B pb qb st al tk a1 c1 r (.slice va vn vc) vr (opts ++ [(nm, x)]) rest) := HP1.out.pushO nm x hown hg hat; have c4' := (HA.1 4).trans HP1.out.c4; have f4' := HA.2 4; clear hown hg hat HA)
      go_ret
      rw [HX.out]
      exact ⟨rfl, _, _, _, HP2.out⟩
  · have hb' : (bh == []) = false := by simpa using hb
    have hb2 : bh.isEmpty = false := by simpa using hb
    have HX : Hid (∀ W e, OutC w W B pb qb st al tk vr rest e (twa nm bh left opts) = (e = .returned (.bool true) ∧ ∃ a c vo, Pt w W B pb qb st al tk a c left vo vr (opts ++ [(nm, bh)]) rest)) := fun _ _ => by rw [show twa nm bh left opts = .inr (opts ++ [(nm, bh)], left) from if_neg hb]; rfl
    generalize twa nm bh left opts = R at *
    clear hb
    go_enter Try.func49, Try.ntmps49
    go_wp2_with (at_builtin; refine wpList_append_own_at _ rfl _ _ 23 rfl B 67 i0 (.agg #[.string ⟨#[]⟩, .string ⟨#[]⟩]) 2 32 Try.underlying23 hi hz0 hz1 hz2 rfl (by decide) _ _ _ rfl (HO.out.alloc _) ⟨W.heap.size, 0, none⟩ 1 1 [.string ⟨nm.toArray⟩, .string ⟨bh.toArray⟩] rfl rfl (cell_two_new _ _ _ _) (two_cell _ _) (by unfold maxLen; omega) (by omega) (by simp; omega) ?_; intro v' w2 hown hg _ hat; obtain ⟨va, vn, vc, hv⟩ := own_slice hown; subst hv; have HA := H.out.after hg H.out.op; have HP2 : Hid (Pt w (w2.setCell ⟨pb, 4, none⟩ (.slice va vn vc)) B pb qb st al tk a c left (.slice va vn vc) vr (opts ++ [(nm, bh)]) rest) := H.out.pushO nm bh hown hg hat; have c4' := (HA.1 4).trans H.out.c4; have f4' := HA.2 4; clear hown hg hat HA)
    go_ret
    rw [HX.out]
    exact ⟨rfl, _, _, _, HP2.out⟩
/-- Another block of its own has turned. -/
theorem Pt.turn {W' : World} {ib : Nat} (h : Pt w W B pb qb st al tk a c left vo vr opts rest) (hg : W.grownBy W' (some ib)) (hi : B ≤ ib) (hp : pb ≠ ib) (hq : qb ≠ ib) (ho : vo.ownBlock ≠ some ib) (hr : vr.ownBlock ≠ some ib) : Pt w W' B pb qb st al tk a c left vo vr opts rest := by
  have hp' := h.plt
  have hq' := h.qlt
  have hb := h.hB
  have eP : W'.heap[pb]? = W.heap[pb]? := hg.block _ hp' (fun e => hp (Option.some.inj e))
  have eQ : W'.heap[qb]? = W.heap[qb]? := hg.block _ hq' (fun e => hq (Option.some.inj e))
  have hB : Below B W W' := ⟨hg.os, hg.tape, hg.output, hg.size, fun k hk => hg.block k (by omega) (fun e => by have := Option.some.inj e; omega)⟩
  have cP : ∀ o, W'.cell? ⟨pb, o, none⟩ = W.cell? ⟨pb, o, none⟩ := fun o => World.cell?_of_block (a := ⟨pb, o, none⟩) eP
  have h1 := hB.size
  exact {
    bel := h.bel.trans hB, hB := by omega, p1 := h.p1, q1 := h.q1, pq := h.pq
    c0 := (cP 0).trans h.c0, c1 := (cP 1).trans h.c1, c2 := (cP 2).trans h.c2, c3 := (cP 3).trans h.c3, c4 := (cP 4).trans h.c4, c5 := (cP 5).trans h.c5, c6 := (cP 6).trans h.c6, c7 := (cP 7).trans h.c7
    fp := fun o => (World.frozen?_of_block (a := ⟨pb, o, none⟩) eP).trans (h.fp o)
    q0 := (World.cell?_of_block (a := ⟨qb, 0, none⟩) eQ).trans h.q0
    fq := (World.frozen?_of_block (a := ⟨qb, 0, none⟩) eQ).trans h.fq
    cl := h.cl, cm := h.cm, strs := h.strs.below hB h.aB, aB := h.aB
    oo := h.oo.kept hg (.inr ho), ro := h.ro.kept hg (.inr hr)
    op := h.op, oq := h.oq, rp := h.rp, rq := h.rq, orr := h.orr }
theorem grown_iterAt (W : World) (k : Nat) (s : ByteArray) (p : Nat) : W.grownBy (W.iterAt k s p) (some k) :=
  ⟨rfl, rfl, rfl, by rw [Lib.iterAt_size]; exact Nat.le_refl _, fun j _ hne => Lib.iterAt_other W k j s p (fun e => hne (by rw [e]))⟩
/-- The state of a cluster that is being taken. -/
structure Cl (w V : World) (B pb qb : Nat) (st : Bool) (al tk : List UInt8) (a : Option Addr) (c : Nat) (left : List (List UInt8)) (vo vr : Value) (opts : List Ga.Opt) (rest : List (List UInt8)) (ib : Nat) (cl : List UInt8) (i : Nat) : Prop where
  pt : Pt w V B pb qb st al tk a c left vo vr opts rest
  it : V.heap[ib]? = some (.stringIter ⟨cl.toArray⟩ i)
  ip : pb ≠ ib
  iq : qb ≠ ib
  io : vo.ownBlock ≠ some ib
  ir : vr.ownBlock ≠ some ib
  iB : B ≤ ib
theorem Cl.next {V : World} {ib : Nat} {cl : List UInt8} {i : Nat} (h : Cl w V B pb qb st al tk a c left vo vr opts rest ib cl i) (k : Nat) : Cl w (V.iterAt ib ⟨cl.toArray⟩ k) B pb qb st al tk a c left vo vr opts rest ib cl k :=
  ⟨h.pt.turn (grown_iterAt _ _ _ _) h.iB h.ip h.iq h.io h.ir, Lib.iterAt_heap _ _ _ _ _ h.it, h.ip, h.iq, h.io, h.ir, h.iB⟩
theorem Cl.grow {V V' : World} {ib : Nat} {cl : List UInt8} {i : Nat} (h : Cl w V B pb qb st al tk a c left vo vr opts rest ib cl i) (hB : Below V.heap.size V V') : Cl w V' B pb qb st al tk a c left vo vr opts rest ib cl i :=
  ⟨h.pt.grow hB, (hB.block _ (iter_lt h.it)).trans h.it, h.ip, h.iq, h.io, h.ir, h.iB⟩
theorem Cl.drewN {V : World} {ib : Nat} {cl : List UInt8} {i : Nat} (h : Cl w V B pb qb st al tk a c left vo vr opts rest ib cl i) (n : Nat) : Cl w (V.drewN n) B pb qb st al tk a c left vo vr opts rest ib cl i :=
  h.grow ⟨rfl, rfl, rfl, Nat.le_refl _, fun _ _ => rfl⟩
theorem Cl.pushO {V : World} {ib : Nat} {cl : List UInt8} {i : Nat} (h : Cl w V B pb qb st al tk a c left vo vr opts rest ib cl i) {o : Obj} {v' : Value} {w1 : World} (x y : List UInt8) (hown : w1.ownsRow B 67 2 v' (opts.length + 1) (opCs opts ++ [.string ⟨x.toArray⟩, .string ⟨y.toArray⟩])) (hg : (V.alloc o).grownBy w1 vo.ownBlock) (hat : v'.ownBlock = vo.ownBlock ∨ v'.ownBlock = some (V.alloc o).heap.size) :
    Cl w (w1.setCell ⟨pb, 4, none⟩ v') B pb qb st al tk a c left v' vr (opts ++ [(x, y)]) rest ib cl i := by
  have hlt := iter_lt h.it
  refine ⟨h.pt.pushO x y hown hg hat, ?_, h.ip, h.iq, ?_, h.ir, h.iB⟩
  · rw [Below.heap_setCell _ _ _ _ (show ib ≠ pb from fun e => h.ip e.symm), hg.block ib (by simp; omega) (fun e => h.io e.symm), Below.heap_alloc _ _ _ hlt]
    exact h.it
  · rcases hat with e | e
    · rw [e]; exact h.io
    · rw [e]; intro e2; have := Option.some.inj e2; simp at this; omega
theorem kndS_one (al tk : List UInt8) (x : UInt8) : kndS al tk [x] = Ga.knd al tk x := rfl
theorem clu_cons (k : UInt8 → Option Bool) (x : UInt8) (r : List UInt8) (as' : List (List UInt8)) (o : List Ga.Opt) : Ga.clu k (x :: r) as' o = match k x with
    | none => .inl ([x], false)
    | some false => Ga.clu k r as' (o ++ [([x], [])])
    | some true => twa [x] r as' o := by
  cases h : k x with
  | none => simp only [Ga.clu, h]
  | some b =>
    cases b with
    | false => simp only [Ga.clu, h]
    | true => cases r <;> cases as' <;> simp [Ga.clu, h, twa]
set_option maxRecDepth 100000 in
set_option maxHeartbeats 4000000 in
theorem gCluster (h : Pt w W B pb qb st al tk a c left vo vr opts rest) (cl : List UInt8) (hA : ∀ x, Ga.knd al tk x ≠ none → x.toNat < 128) (hM : opts.length + cl.length ≤ 2 ^ 40) : Calls Try.prog 40 #[.pointer (some ⟨pb, 0, none⟩), .string ⟨cl.toArray⟩] W fun e W' =>
    OutC w W' B pb qb st al tk vr rest e (Ga.clu (Ga.knd al tk) cl left opts) := by
  obtain ⟨i0, hi, hz0, hz1, hz2⟩ := infoO
  have HA : Hid (∀ x, Ga.knd al tk x ≠ none → x.toNat < 128) := hA
  have H0 : Hid (Cl w (W.iter ⟨cl.toArray⟩ 0) B pb qb st al tk a c left vo vr opts rest W.heap.size cl 0) := by
    have hp := h.plt
    have hq := h.qlt
    exact ⟨h.grow ((Below.refl _ _).alloc (Nat.le_refl _) _), World.iter_heap _ _ _, by omega, by omega, fun e => by have := (h.oo.lt _ e).2; omega, fun e => by have := (h.ro.lt _ e).2; omega, h.hB⟩
  clear h hA
  have HR : Hid (Ga.clu (Ga.knd al tk) (cl.drop 0) left opts = Ga.clu (Ga.knd al tk) cl left opts) := rfl
  generalize Ga.clu (Ga.knd al tk) cl left opts = R at *
  go_enter Try.func40, Try.ntmps40
  go_wp2_with fail
  go_loopw [5] (fun _ V => ∃ (i : Nat) (vo : Value) (o : List Ga.Opt), i ≤ cl.length ∧ o.length + (cl.length - i) ≤ 2 ^ 40 ∧ Hid (Cl w V B pb qb st al tk a c left vo vr o rest W.heap.size cl i) ∧ Hid (Ga.clu (Ga.knd al tk) (cl.drop i) left o = R)) (fun _ V => cl.length - itPos V W.heap.size)
  case atStart => exact ⟨0, vo, opts, Nat.zero_le _, by omega, H0, HR⟩
  case round =>
    obtain ⟨i, vo, o, hi', ho', HC, HE⟩ := hrel
    have HM : Hid (itPos wr W.heap.size = i) := itPos_eq HC.out.it
    by_cases hlt : i < cl.length
    · obtain ⟨x, hx⟩ : ∃ x, x = cl[i] := ⟨_, rfl⟩
      have HSL : Hid ((cl.take (i + 1)).drop i = [x]) := by
        show _ = _
        rw [take_get cl i hlt, List.drop_append_of_le_length (by simp; omega), List.drop_of_length_le (by simp; omega), hx]; simp
      have HD : Hid (cl.drop i = x :: cl.drop (i + 1)) := by show _ = _; rw [hx]; exact List.drop_eq_getElem_cons hlt
      have HN : Hid (∃ (W1 : World) (j : Nat) (rn : Int), (∀ ty, (Instr.next (.pointer (some ⟨W.heap.size, 0, none⟩)) true ty).run Try.prog wr = .ok (.tuple #[.bool true, .int .i64 i, .int .i32 rn]) W1) ∧ Cl w W1 B pb qb st al tk a c left vo vr o rest W.heap.size cl j ∧ (x.toNat < 128 → j = i + 1)) := by
        by_cases hhi : 128 ≤ cl[i].toNat
        · exact ⟨_, _, _, fun ty => Lib.run_next_any_at wr _ _ i ty HC.out.it (by rw [str_size]; exact hlt), HC.out.next _, fun h => by rw [hx] at h; omega⟩
        · exact ⟨_, i + 1, _, fun ty => Lib.run_next_ascii_at wr _ _ i ty HC.out.it (by rw [str_size]; exact hlt) (by show cl[i].toNat < 128; omega), HC.out.next _, fun _ => rfl⟩
      clear hx
      obtain ⟨W1, j, rn, hnx, hC1, HJ⟩ := HN.out
      have HJ : Hid (x.toNat < 128 → j = i + 1) := HJ
      have HC1 : Hid (Cl w W1 B pb qb st al tk a c left vo vr o rest W.heap.size cl j) := hC1
      clear hC1 HC HN
      have c0 := HC1.out.pt.c0
      have c1 := HC1.out.pt.c1
      have c2 := HC1.out.pt.c2
      have HQ : Hid (∀ V, Calls Try.prog 32 #[.agg #[.bool st, .string ⟨al.toArray⟩, .string ⟨tk.toArray⟩], .string ⟨((cl.take (i + 1)).drop i).toArray⟩] V fun e w' => e = .returned (.int .i64 (Ga.kndN (Ga.knd al tk x))) ∧ Below V.heap.size V w') := by
        intro V
        have := gKind st al tk ((cl.take (i + 1)).drop i) V (by rw [HSL.out]; simp)
        rw [show kndS al tk ((cl.take (i + 1)).drop i) = Ga.knd al tk x by rw [HSL.out]; rfl] at this
        exact this
      have HK : Hid (Ga.clu (Ga.knd al tk) (cl.drop i) left o = match Ga.knd al tk x with
        | none => .inl ([x], false)
        | some false => Ga.clu (Ga.knd al tk) (cl.drop (i + 1)) left (o ++ [([x], [])])
        | some true => twa [x] (cl.drop (i + 1)) left o) := by show _ = _; rw [HD.out, clu_cons]
      cases hk : Ga.knd al tk x with
      | none =>
        rw [hk, show Ga.kndN none = 0 from rfl] at HQ
        rw [hk] at HK
        have HX : Hid (R = .inl ([x], false)) := by show _ = _; rw [← HE.out, HK.out]
        clear hk
        go_wp2_with (first
            | go_quiet (fail)
            | (go_at_call 32; refine (HQ.out _).mono ?_; rintro e w2 ⟨rfl, hB2⟩; have HC2 : Hid (Cl w w2 B pb qb st al tk a c left vo vr o rest W.heap.size cl j) := (HC1.out.drewN _).grow hB2; have d6 := HC2.out.pt.c6; have d7 := HC2.out.pt.c7; have g := HC2.out.pt.fp; clear hB2))
        go_ret
        rw [HX.out]
        refine ⟨rfl, ?_⟩
        rw [HSL.out]
        exact HC2.out.pt.bad [x] false
      | some b =>
        have HJ2 : Hid (j = i + 1) := HJ.out (HA.out x (by rw [hk]; simp))
        cases b with
        | false =>
          rw [hk, show Ga.kndN (some false) = 1 from rfl] at HQ
          rw [hk] at HK
          have HX : Hid (Ga.clu (Ga.knd al tk) (cl.drop (i + 1)) left (o ++ [([x], [])]) = R) := by show _ = _; rw [← HE.out, HK.out]
          clear hk
          have hol : o.length ≤ 2 ^ 40 := by omega
          go_wp2_with (first
            | go_quiet (fail)
            | (go_at_call 32; refine (HQ.out _).mono ?_; rintro e w2 ⟨rfl, hB2⟩; have HC2 : Hid (Cl w w2 B pb qb st al tk a c left vo vr o rest W.heap.size cl j) := (HC1.out.drewN _).grow hB2; have d4 := HC2.out.pt.c4; have g := HC2.out.pt.fp; have HO2 : Hid (w2.ownsRow B 67 2 vo o.length (opCs o)) := HC2.out.pt.oo; have hbs : B ≤ w2.heap.size := HC2.out.pt.hB; rw [HSL.out]; clear hB2)
            | (at_builtin; refine wpList_append_own_at _ rfl _ _ 23 rfl B 67 i0 (.agg #[.string ⟨#[]⟩, .string ⟨#[]⟩]) 2 32 Try.underlying23 hi hz0 hz1 hz2 rfl (by decide) _ _ _ rfl (HO2.out.alloc _) ⟨w2.heap.size, 0, none⟩ 1 1 [.string ⟨#[x]⟩, .string ⟨#[]⟩] rfl rfl (cell_two_new _ _ _ _) (two_cell [x] []) (by unfold maxLen; omega) (by omega) (by simp; omega) ?_; intro v' w3 hown hg _ hat; obtain ⟨va, vn, vc, hv⟩ := own_slice hown; subst hv; have HA3 := HC2.out.pt.after hg HC2.out.pt.op; have HC3 : Hid (Cl w (w3.setCell ⟨pb, 4, none⟩ (.slice va vn vc)) B pb qb st al tk a c left (.slice va vn vc) vr (o ++ [([x], [])]) rest W.heap.size cl j) := HC2.out.pushO [x] [] hown hg hat; have c4' := (HA3.1 4).trans HC2.out.pt.c4; have f4' := HA3.2 4; clear hown hg hat HA3))
          have h3 := HC3.out
          rw [HJ2.out] at h3
          exact ⟨⟨i + 1, _, o ++ [([x], [])], by omega, by simp; omega, h3, HX⟩, by rw [HM.out, itPos_eq h3.it]; omega⟩
        | true =>
          rw [hk, show Ga.kndN (some true) = 2 from rfl] at HQ
          rw [hk] at HK
          have HX : Hid (twa [x] (cl.drop (i + 1)) left o = R) := by show _ = _; rw [← HE.out, HK.out]
          clear hk
          have hol : o.length ≤ 2 ^ 40 := by omega
          go_wp2_with (first
            | go_quiet (fail)
            | (go_at_call 32; refine (HQ.out _).mono ?_; rintro e w2 ⟨rfl, hB2⟩; have HC2 : Hid (Cl w w2 B pb qb st al tk a c left vo vr o rest W.heap.size cl j) := (HC1.out.drewN _).grow hB2; rw [HSL.out]; clear hB2)
            | (go_at_call 49; refine (gTwa HC2.out.pt [x] (cl.drop (i + 1)) hol).mono ?_; rintro e w3 hO; obtain ⟨rb, he⟩ := hO.ret; subst he; have HO3 : Hid (OutC w w3 B pb qb st al tk vr rest (.returned (.bool rb)) R) := (by rw [← HX.out]; exact hO); clear hO))
          go_ret
          exact HO3.out
    · have hnx : ∀ ty, (Instr.next (.pointer (some ⟨W.heap.size, 0, none⟩)) true ty).run Try.prog wr = .ok (.tuple #[.bool false]) wr := fun ty => Lib.run_next_end_at wr _ _ i ty HC.out.it (by rw [str_size]; exact hlt)
      have HX : Hid (R = .inr (o, left)) := by show _ = _; rw [← HE.out, List.drop_of_length_le (by omega)]; rfl
      go_wp2
      go_ret
      rw [HX.out]
      exact ⟨rfl, _, _, _, HC.out.pt⟩
end
end Go.Proofs.Ytgbkgfmljcfhoaa
