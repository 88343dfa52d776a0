/- Appending bytes that are read; the plain answer's Number. Condition: a length that fits. -/
import Derived.Test.YtplnojohlbbalaaDoorM14
import Derived.Deep.Cut
import Derived.Deep.DeepCutAuto
import Derived.Laws.OwnMore
namespace Go.Proofs.YtplnojohlbbalaaDoor
open Go.RowKit
attribute [local go_sem] ext_eq app_eq get_eq
theorem run_sr_at (ty : TypeId) (w : World) (B : Nat) (v : Value) (p x : List UInt8) (a : Option Addr) (c : Nat) (hO : By B w v p) (hS : Sr w a c x) (h : p.length + x.length ≤ 2 ^ 46) (hB : B ≤ w.heap.size) : ∃ v' w', (Builtin.append_ #[22, 22] ty #[v, .slice a x.length c]).run Tryd.prog w = .ok v' w' ∧ By B w' v' (p ++ x) ∧ w.grownBy w' v.ownBlock ∧ (v'.ownBlock = v.ownBlock ∨ v'.ownBlock = some w.heap.size) := by
  obtain ⟨iB, hiB, hb0, hb1, hb2⟩ := infoB
  cases a with
  | none =>
    have h2 := hS.nil rfl
    have h3 := hS.le
    obtain rfl : x = [] := List.length_eq_zero_iff.1 (by omega)
    subst h2
    exact ⟨v, w, run_append_owned_none w B 22 ty 5 iB 1 Tryd.underlying22 hiB v p.length (bCs p) hO.own, by rw [List.append_nil]; exact hO, ⟨rfl, rfl, rfl, Nat.le_refl _, fun _ _ _ => rfl⟩, .inl rfl⟩
  | some ad =>
    obtain ⟨v', w', hr, h2, h3, _, h5⟩ := run_append_own_at (P := Tryd.prog) w B 22 ty 5 iB (.int .u8 0) 1 1 Tryd.underlying22 hiB hb0 hb1 hb2 rfl (by decide) v p.length (bCs p) hO.own ad x.length c (bCs x) (by rw [bCs_len, Nat.mul_one]) (fun j u hj => hS.src.cells_at j u hj) (bCs_one x) (by unfold maxLen; omega) (by omega) hB
    exact ⟨v', w', hr, By.of_app h2, h3, h5⟩
theorem wpList_sr_at {w : World} {ops : Array Oper} {rest : List Oper} {o : Oper} {a : Act} {Q : Exit → Act → World → Prop} (hgd : o.guard = none) (sl x : Operand)
    (ho : o.op = .call { callee := .builtin .append, args := #[sl, x], argTypes := #[22, 22] }) (B : Nat) (v : Value) (p D : List UInt8) (aD : Option Addr) (cD : Nat) (hs : a.eval sl = v) (hO : By B w v p) (hx : a.eval x = .slice aD D.length cD) (hS : Sr w aD cD D)
    (h : p.length + D.length ≤ 2 ^ 46) (hB : B ≤ w.heap.size)
    (hk : ∀ v' w', By B w' v' (p ++ D) → w.grownBy w' v.ownBlock → (v'.ownBlock = v.ownBlock ∨ v'.ownBlock = some w.heap.size) → wpList Tryd.prog ops Q rest (a.put o.dst v') w') : wpList Tryd.prog ops Q (o :: rest) a w := by
  refine wpList_plain hgd fun K hK => ?_
  obtain ⟨v', w', hr, h2, h3, h4⟩ := run_sr_at o.type w B v p D aD cD hO hS h hB
  unfold Oper.wp execOp
  simp only [ho, resolve, invoke, builtin, Sem.run_bind, Sem.run_pure, Result.andThen_ok, List.map_toArray, List.map_cons, List.map_nil, hs, hx, hr]
  exact hK _ _ (hk v' w' h2 h3 h4)
theorem nls_wh_le (l : List UInt8) (hl : l.length ≤ 1048576) (all : Bool) (st n0 : Int) (wd : Nat) (hwd : wd ≤ 100) (hn0 : -9223372036854775808 ≤ n0) (hn1 : n0 ≤ 9223372036854775807) : (Tl.wh (Tl.nls all st wd (some n0) (Tl.ls l)) (Tl.eb l)).length ≤ 2 ^ 44 := by
  rw [← Tl.prs_no_wh]
  have h1 := Tl.no_len (all := all) (st := st) hwd (s := some n0) (A := Tl.prs l) (fun n e => by injection e with e; omega)
  have h2 := Tl.prs_len l.length l (Nat.le_refl _)
  have h5 := congrArg List.length (Tl.flat_all l)
  omega
theorem inr_nsi {all : Bool} {st : Int} {s : Option Int} {X : List (List UInt8)} (h : Tl.inr s) : ∀ i, Tl.inr (Tl.nsi all st s X i) := by
  intro i
  unfold Tl.nsi
  generalize X.take i = A
  induction A generalizing s with
  | nil => exact h
  | cons x r ih => exact ih (Tl.inr_ns h)
set_option maxRecDepth 100000 in
set_option maxHeartbeats 8000000 in
theorem rNumber (l : List UInt8) (a : Option Addr) (c : Nat) (n0 st wd : Int) (all : Bool) (hl : l.length ≤ 1048576) (hn0 : -9223372036854775808 ≤ n0) (hn1 : n0 ≤ 9223372036854775807) (s0 : -9223372036854775808 ≤ st) (s1 : st ≤ 9223372036854775807) (w : World) (hS : Src w a l) : Calls Tryd.prog 18 #[.slice a l.length c, .int .i64 n0, .int .i64 st, .int .i64 wd, .bool all] w fun e w' => ∃ v, e = .returned v ∧ By w.heap.size w' v (Tl.wh (Tl.nls all st (Tl.wdt wd) (some n0) (Tl.ls l)) (Tl.eb l)) ∧ Below w.heap.size w w' := by
  obtain ⟨iB, hiB, hb0, hb1, hb2⟩ := infoB
  have HL := hidA (rLinesB l a c (by omega) w hS)
  have hX := Tl.ls_le l
  have hXe := hidA (Tl.ls_each l (by omega))
  have hwdl := Tl.wdt_le wd
  have hwl := nls_wh_le l hl all st n0 (Tl.wdt wd) hwdl hn0 hn1
  have hYl := Tl.nls_len all st (Tl.wdt wd) (some n0) (Tl.ls l)
  have HYa := hidA (fun i (h : i < (Tl.ls l).length) => Tl.nls_at all st (Tl.wdt wd) (some n0) (Tl.ls l) i h (by rw [hYl]; exact h))
  have HNs := hidA (fun i (h : i < (Tl.ls l).length) => Tl.nsi_succ all st (some n0) h)
  have HIn := hidA (fun i => inr_nsi (all := all) (st := st) (s := some n0) (X := Tl.ls l) (fun n e => by injection e with e; omega) i)
  have hz : Tl.nsi all st (some n0) (Tl.ls l) 0 = some n0 := rfl
  generalize Tl.nsi all st (some n0) (Tl.ls l) = σ at *
  have hwdv : ((Tl.wdt wd : Nat) : Int) = min (max wd 1) 100 := by unfold Tl.wdt; omega
  generalize Tl.wdt wd = wn at *
  generalize Tl.nls all st wn (some n0) (Tl.ls l) = Y at *
  have HWh := hidA (fun (W : World) (aX : Option Addr) (cX : Nat) (h : Rd W aX Y) => (show Calls Tryd.prog 28 #[.slice aX (Tl.ls l).length cX, .bool (Tl.eb l)] W fun y w' => ∃ v, y = .returned v ∧ By W.heap.size w' v (Tl.wh Y (Tl.eb l)) ∧ Below W.heap.size W w' from by
    have := rWholeG Y (Tl.eb l) aX cX (by rw [hYl]; omega) hwl W h
    rw [hYl] at this
    exact this))
  clear hS hwl
  generalize Tl.eb l = y at *
  generalize Tl.ls l = X at *
  have hXl : X.length ≤ 1048576 := by omega
  go_enter Tryd.func18, Tryd.ntmps18
  go_upto_if 21 with fail
  go_cut [3] (fun v wc => w = wc ∧ v = .int .i64 (max wd 1))
  case first =>
    by_cases h1 : wd < 1
    · have e1 : max wd 1 = 1 := by omega
      go_wp2_with fail
      go_meet
      exact ⟨rfl, by rw [e1]⟩
    · have e1 : max wd 1 = wd := by omega
      go_wp2_with fail
      go_meet
      exact ⟨rfl, by rw [e1]⟩
  case rest =>
  obtain ⟨rfl, rfl⟩ := hcut
  go_upto_if 23 with fail
  go_cut [3] (fun v wc => w = wc ∧ v = .int .i64 wn)
  case first =>
    by_cases h1 : 100 < max wd 1
    · have e1 : (wn : Int) = 100 := by omega
      go_wp2_with fail
      go_meet
      exact ⟨rfl, by rw [e1]⟩
    · have e1 : (wn : Int) = max wd 1 := by omega
      go_wp2_with fail
      go_meet
      exact ⟨rfl, by rw [e1]⟩
  case rest =>
  obtain ⟨rfl, rfl⟩ := hcut
  clear hwdv
  go_upto_region 8 with (go_at_call 23; (with_reducible refine HL.out.mono ?_); rintro e w1 ⟨v, rfl, h1, b1⟩; obtain ⟨aX, cX, hv⟩ := h1.slice; subst hv; have HR0 := hidA h1; have HB0 := hidA b1; clear h1 b1 HL)
  go_loopw [13, 14, 32] (fun s13 s14 s32 W => ∃ (i : Nat) (n : Int), s32 = .int .i64 i ∧ s13 = .int .i64 n ∧ s14 = .bool (σ i).isNone ∧ i ≤ X.length ∧ (∀ m, σ i = some m → m = n) ∧ -9223372036854775808 ≤ n ∧ n ≤ 9223372036854775807 ∧ Hid (RB w.heap.size W (.slice aX X.length cX) (Tl.nv Y X i)) ∧ Hid (Below w.heap.size w W)) (fun _ _ s32 _ => X.length - (intOf s32).toNat)
  case atStart => exact ⟨0, n0, rfl, rfl, by rw [hz]; rfl, Nat.zero_le _, by rw [hz]; intro m e; injection e with e; exact e.symm, hn0, hn1, hidA (by show RB _ _ _ _; rw [Tl.nv_zero]; exact HR0.out), HB0⟩
  case round =>
    obtain ⟨i, n, rfl, rfl, rfl, hi, hσn, hnn0, hnn1, HR, HB⟩ := hrel
    clear HR0 HB0
    by_cases hiX : i < X.length
    · have hiR : i < (Tl.nv Y X i).length := by rw [Tl.nv_len hYl]; exact hiX
      obtain ⟨g, a', c', rfl, hgB, hgw, hc, hf, hs⟩ := HR.out.cell hiR
      rw [Tl.nv_at hYl hiX hiR] at hc hs
      have hxl := hXe.out i hiX
      have hwi : IntKind.i64.wrap ((i : Int) + 1) = ((i + 1 : Nat) : Int) := by rw [IntKind.wrap_i64]; omega
      have HSt := hidA (fun (W : World) (v : Value) (b : Below wr.heap.size wr W) (hv : By wr.heap.size W v (Tl.nt all wn (σ i) X[i])) => (show W.cell? ⟨g, i, none⟩ = some (.slice a' X[i].length c') ∧ W.frozen? ⟨g, i, none⟩ = false ∧ RB w.heap.size (W.setCell ⟨g, i, none⟩ v) (.slice (some ⟨g, 0, none⟩) X.length cX) (Tl.nv Y X (i + 1)) ∧ Below w.heap.size w (W.setCell ⟨g, i, none⟩ v) from by
        refine ⟨(b.cell (p := ⟨g, i, none⟩) hgw).trans hc, ?_, ?_, (HB.out.trans (b.mono HB.out.size)).setCell hgB _⟩
        · rw [← hf]; simp [World.frozen?, b.block g hgw]
        · rw [Tl.nv_succ hYl hiX, HYa.out i hiX]
          exact (HR.out.grow b).store hiR (hv.mono HB.out.size)))
      have HSx := hidA hs
      have hσs := HNs.out i hiX
      have HI1 := hidA (HIn.out i)
      have HI2 := hidA (HIn.out (i + 1))
      clear hs hf HR HIn HNs HYa
      generalize X[i] = x at *
      generalize hsd : σ (i + 1) = s' at *
      generalize hse : σ i = s at *
      cases s with
      | none =>
        have HBl := hidA (fun W => (show Calls Tryd.prog 39 #[.int .i64 ((wn : Int) + 1)] W fun e w' => ∃ v', e = .returned v' ∧ By W.heap.size w' v' (List.replicate (wn + 1) 32) ∧ Below W.heap.size W w' from by
          have h := rBlanks ((wn : Int) + 1) (by omega) (by omega) W
          rw [show ((wn : Int) + 1).toNat = wn + 1 by omega] at h
          exact h))
        have hw1 : IntKind.i64.wrap ((wn : Int) + 1) = (wn : Int) + 1 := by rw [IntKind.wrap_i64]; omega
        have hs2 : s' = none := hσs
        have hrl : (List.replicate (wn + 1) (32 : UInt8)).length + x.length ≤ 2 ^ 46 := by rw [List.length_replicate]; omega
        have HSt2 : Hid (∀ (W : World) (v : Value), Below wr.heap.size wr W → By wr.heap.size W v (List.replicate (wn + 1) 32 ++ x) → _) := HSt
        clear hσs HSt
        generalize List.replicate (wn + 1) (32 : UInt8) = q at *
        obtain ⟨zz, hzz⟩ : ∃ zz, q ++ x = zz := ⟨_, rfl⟩
        rw [hzz] at HSt2
        go_wp2_with (first
          | (go_at_call 39; with_reducible refine (HBl.out _).mono ?_; rintro e w2 ⟨v2, rfl, h1, b1⟩; have HO2 := hidA h1; have HB2 := hidA b1; have HS2 := hidA (HSx.out.grow b1); clear h1 b1)
          | (at_builtin; refine wpList_sr_at rfl _ _ rfl wr.heap.size v2 q x a' c' rfl HO2.out rfl HS2.out hrl HB2.out.size ?_; intro v3 w3 g1 g2 g3; rw [hzz] at g1; obtain ⟨a3, c3, hv3⟩ := g1.slice; subst hv3; have HB3 : Hid (Below wr.heap.size wr w3) := HB2.out.grown g2 HB2.out.size (fun k hk => (HO2.out.own.lt k hk).1); obtain ⟨q1, q2, q3, q4⟩ := HSt2.out w3 _ HB3.out g1; have Q3 := hidA q3; have Q4 := hidA q4; clear q3 q4 g1 g2 g3))
        exact ⟨⟨i + 1, n, by first | rfl | go_num, rfl, (by rw [hsd, hs2]; rfl), hiX, (by rw [hsd, hs2]; intro m e; cases e), hnn0, hnn1, Q3, Q4⟩, by simp [intOf]; omega⟩
      | some m =>
        obtain rfl := hσn m rfl
        by_cases hsk : x = [] ∧ all = false
        · obtain ⟨hx0, rfl⟩ := hsk
          have HBl := hidA (fun W => (show Calls Tryd.prog 39 #[.int .i64 ((wn : Int) + 1)] W fun e w' => ∃ v', e = .returned v' ∧ By W.heap.size w' v' (List.replicate (wn + 1) 32) ∧ Below W.heap.size W w' from by
            have h := rBlanks ((wn : Int) + 1) (by omega) (by omega) W
            rw [show ((wn : Int) + 1).toNat = wn + 1 by omega] at h
            exact h))
          have hw1 : IntKind.i64.wrap ((wn : Int) + 1) = (wn : Int) + 1 := by rw [IntKind.wrap_i64]; omega
          have hno : ¬ (x ≠ [] ∨ false = true) := by rw [hx0]; simp
          have hs2 : s' = some m := hσs.trans (if_neg hno)
          have hnt : Tl.nt false wn (some m) x = List.replicate (wn + 1) 32 ++ x := if_neg hno
          rw [hnt] at HSt
          have hrl : (List.replicate (wn + 1) (32 : UInt8)).length + x.length ≤ 2 ^ 46 := by rw [List.length_replicate]; omega
          have hxn : x.length = 0 := by rw [hx0]; rfl
          have e1 : ((x.length : Int) == 0) = true := by rw [hxn]; rfl
          have e2 : (x.length : Int) = 0 := by omega
          clear hσs hnt hno hx0 hxn
          generalize List.replicate (wn + 1) (32 : UInt8) = q at *
          obtain ⟨zz, hzz⟩ : ∃ zz, q ++ x = zz := ⟨_, rfl⟩
          rw [hzz] at HSt
          go_wp2_with (first
            | (go_at_call 39; with_reducible refine (HBl.out _).mono ?_; rintro e w2 ⟨v2, rfl, h1, b1⟩; have HO2 := hidA h1; have HB2 := hidA b1; have HS2 := hidA (HSx.out.grow b1); clear h1 b1)
            | (at_builtin; refine wpList_sr_at rfl _ _ rfl wr.heap.size v2 q x a' c' rfl HO2.out rfl HS2.out hrl HB2.out.size ?_; intro v3 w3 g1 g2 g3; rw [hzz] at g1; obtain ⟨a3, c3, hv3⟩ := g1.slice; subst hv3; have HB3 : Hid (Below wr.heap.size wr w3) := HB2.out.grown g2 HB2.out.size (fun k hk => (HO2.out.own.lt k hk).1); obtain ⟨q1, q2, q3, q4⟩ := HSt.out w3 _ HB3.out g1; have Q3 := hidA q3; have Q4 := hidA q4; clear q3 q4 g1 g2 g3))
          exact ⟨⟨i + 1, m, by first | rfl | go_num, rfl, (by rw [hsd, hs2]; rfl), hiX, (by rw [hsd, hs2]; intro k e; injection e with e; exact e.symm), hnn0, hnn1, Q3, Q4⟩, by simp [intOf]; omega⟩
        · have hyes : x ≠ [] ∨ all = true := by
            by_cases hx : x = []
            · right
              cases all with
              | true => rfl
              | false => exact absurd ⟨hx, rfl⟩ hsk
            · exact .inl hx
          have hcs : (((x.length : Int) == 0) = false ∧ ¬ (x.length : Int) = 0) ∨ (((x.length : Int) == 0) = true ∧ (x.length : Int) = 0 ∧ all = true) := by
            by_cases hx : x = []
            · right
              subst hx
              exact ⟨rfl, rfl, hyes.resolve_left (fun h => h rfl)⟩
            · left
              have := List.length_pos_iff.2 hx
              have h2 : ¬ (x.length : Int) = 0 := by omega
              exact ⟨by rw [beq_eq_false_iff_ne]; exact h2, h2⟩
          have hs2 : s' = Tl.nx m st := hσs.trans (if_pos hyes)
          have hnt : Tl.nt all wn (some m) x = Tl.pd m wn ++ [9] ++ x := if_pos hyes
          have HIt := hidA (fun W => rItoa m hnn0 hnn1 W)
          have hDl := Lib.itoa_length_le m hnn0 hnn1
          have HBl := hidA (fun W => (show Calls Tryd.prog 39 #[.int .i64 ((wn : Int) - (Lib.itoa m).length)] W fun e w' => ∃ v', e = .returned v' ∧ By W.heap.size w' v' (List.replicate (wn - (Lib.itoa m).length) 32) ∧ Below W.heap.size W w' from by
            have h := rBlanks ((wn : Int) - (Lib.itoa m).length) (by omega) (by omega) W
            rw [show ((wn : Int) - (Lib.itoa m).length).toNat = wn - (Lib.itoa m).length by omega] at h
            exact h))
          unfold Tl.pd at hnt
          rw [hnt] at HSt
          have hpl : (List.replicate (wn - (Lib.itoa m).length) (32 : UInt8)).length ≤ 100 := by rw [List.length_replicate]; omega
          have hws : IntKind.i64.wrap ((wn : Int) - (Lib.itoa m).length) = (wn : Int) - (Lib.itoa m).length := by rw [IntKind.wrap_i64]; omega
          generalize List.replicate (wn - (Lib.itoa m).length) (32 : UInt8) = q at *
          generalize Lib.itoa m = D at *
          have hql : q.length + D.length ≤ 2 ^ 46 := by omega
          have hqd : (q ++ D).length ≤ 121 := by rw [List.length_append]; omega
          have hqx : (q ++ D ++ [9]).length + x.length ≤ 2 ^ 46 := by simp only [List.length_append, List.length_cons, List.length_nil] at hqd ⊢; omega
          obtain ⟨qd, hqe⟩ : ∃ qd, q ++ D = qd := ⟨_, rfl⟩
          rw [hqe] at hqd hqx HSt
          obtain ⟨zz, hzz⟩ : ∃ zz, qd ++ [9] ++ x = zz := ⟨_, rfl⟩
          rw [hzz] at HSt
          obtain ⟨nm, hnm⟩ : ∃ nm, IntKind.i64.wrap (m + st) = nm := ⟨_, rfl⟩
          have hnr := hnm
          rw [IntKind.wrap_i64] at hnr
          clear hσs hnt hyes
          rcases hcs with ⟨e1, e2⟩ | ⟨e1, e2, rfl⟩
          · go_upto_region 16 with (first
              | (go_at_call 40; with_reducible refine (HIt.out _).mono ?_; rintro e w1 ⟨rfl, b1⟩; have HB1 := hidA b1; clear b1)
              | (go_at_call 39; with_reducible refine (HBl.out _).mono ?_; rintro e w2 ⟨v2, rfl, h1, b1⟩; have HO2 := hidA (h1.mono HB1.out.size); have HB2 := hidA (HB1.out.trans (b1.mono HB1.out.size)); clear h1 b1)
              | (at_builtin; refine wpList_str_at rfl _ _ rfl wr.heap.size v2 q D rfl HO2.out rfl hql HB2.out.size ?_; intro v3 w3 g1 g2 g3; have HB3 : Hid (Below wr.heap.size wr w3) := HB2.out.grown g2 HB2.out.size (fun k hk => (HO2.out.own.lt k hk).1); rw [hqe] at g1; have HO3 := hidA g1; have hs3 := HB3.out.size; clear g1 g2 g3)
              | (at_builtin; refine wpList_append_own_at _ rfl _ _ 22 rfl wr.heap.size 5 iB (.int .u8 0) 1 1 Tryd.underlying22 hiB hb0 hb1 hb2 rfl (by decide) _ _ _ rfl (HO3.out.own.alloc _) ⟨w3.heap.size, 0, none⟩ 1 1 [.int .u8 9] rfl rfl (cell_one_new _ _ _) (one_u8 _) (by unfold maxLen; omega) (by omega) (by simp; omega) ?_; intro v4 w4 hown hg2 _ hat; have HO4 := hidA (By.app1 (x := 9) hown); have HB4 : Hid (Below wr.heap.size wr w4) := (HB3.out.alloc hs3 _).grown hg2 (by simp; omega) (fun k hk => (HO3.out.own.lt k hk).1); have HS4 := hidA (HSx.out.grow HB4.out); clear hown hg2 hat HO3)
              | (at_builtin; refine wpList_sr_at rfl _ _ rfl wr.heap.size v4 (qd ++ [9]) x a' c' rfl HO4.out rfl HS4.out hqx HB4.out.size ?_; intro v5 w5 g1 g2 g3; rw [hzz] at g1; obtain ⟨a5, c5, hv5⟩ := g1.slice; subst hv5; have HB5 : Hid (Below wr.heap.size wr w5) := HB4.out.grown g2 HB4.out.size (fun k hk => (HO4.out.own.lt k hk).1); obtain ⟨q1, q2, q3, q4⟩ := HSt.out w5 _ HB5.out g1; have Q3 := hidA q3; have Q4 := hidA q4; clear q3 q4 g1 g2 g3))
            clear HSt HO4 HS4 HB4 HB3 hs3 HO2 HB2 HB1 HSx q1 q2
            rcases Int.lt_trichotomy st 0 with hneg | hzr | hpos
            · have f1 : ¬ 0 < st := by omega
              by_cases hov : m + st < -9223372036854775808
              · have hnx : Tl.nx m st = none := if_pos (.inl hov)
                have f3 : m < nm := by omega
                go_wp2_with (go_quiet (fail))
                exact ⟨⟨i + 1, nm, by first | rfl | go_num, rfl, (by rw [hsd, hs2, hnx]; rfl), hiX, (by rw [hsd, hs2, hnx]; intro k e; cases e), by omega, by omega, Q3, Q4⟩, by simp [intOf]; omega⟩
              · have hnx : Tl.nx m st = some (m + st) := if_neg (by omega)
                have f3 : ¬ m < nm := by omega
                go_wp2_with (go_quiet (fail))
                exact ⟨⟨i + 1, nm, by first | rfl | go_num, rfl, (by rw [hsd, hs2, hnx]; rfl), hiX, (by rw [hsd, hs2, hnx]; intro k e; injection e with e; omega), by omega, by omega, Q3, Q4⟩, by simp [intOf]; omega⟩
            · have hnx : Tl.nx m st = some (m + st) := if_neg (by omega)
              have f1 : ¬ 0 < st := by omega
              have f2 : ¬ st < 0 := by omega
              go_wp2_with (go_quiet (fail))
              exact ⟨⟨i + 1, nm, by first | rfl | go_num, rfl, (by rw [hsd, hs2, hnx]; rfl), hiX, (by rw [hsd, hs2, hnx]; intro k e; injection e with e; omega), by omega, by omega, Q3, Q4⟩, by simp [intOf]; omega⟩
            · have f2 : ¬ st < 0 := by omega
              by_cases hov : 9223372036854775807 < m + st
              · have hnx : Tl.nx m st = none := if_pos (.inr hov)
                have f3 : nm < m := by omega
                go_wp2_with (go_quiet (fail))
                exact ⟨⟨i + 1, nm, by first | rfl | go_num, rfl, (by rw [hsd, hs2, hnx]; rfl), hiX, (by rw [hsd, hs2, hnx]; intro k e; cases e), by omega, by omega, Q3, Q4⟩, by simp [intOf]; omega⟩
              · have hnx : Tl.nx m st = some (m + st) := if_neg (by omega)
                have f3 : ¬ nm < m := by omega
                go_wp2_with (go_quiet (fail))
                exact ⟨⟨i + 1, nm, by first | rfl | go_num, rfl, (by rw [hsd, hs2, hnx]; rfl), hiX, (by rw [hsd, hs2, hnx]; intro k e; injection e with e; omega), by omega, by omega, Q3, Q4⟩, by simp [intOf]; omega⟩
          · go_upto_region 16 with (first
              | (go_at_call 40; with_reducible refine (HIt.out _).mono ?_; rintro e w1 ⟨rfl, b1⟩; have HB1 := hidA b1; clear b1)
              | (go_at_call 39; with_reducible refine (HBl.out _).mono ?_; rintro e w2 ⟨v2, rfl, h1, b1⟩; have HO2 := hidA (h1.mono HB1.out.size); have HB2 := hidA (HB1.out.trans (b1.mono HB1.out.size)); clear h1 b1)
              | (at_builtin; refine wpList_str_at rfl _ _ rfl wr.heap.size v2 q D rfl HO2.out rfl hql HB2.out.size ?_; intro v3 w3 g1 g2 g3; have HB3 : Hid (Below wr.heap.size wr w3) := HB2.out.grown g2 HB2.out.size (fun k hk => (HO2.out.own.lt k hk).1); rw [hqe] at g1; have HO3 := hidA g1; have hs3 := HB3.out.size; clear g1 g2 g3)
              | (at_builtin; refine wpList_append_own_at _ rfl _ _ 22 rfl wr.heap.size 5 iB (.int .u8 0) 1 1 Tryd.underlying22 hiB hb0 hb1 hb2 rfl (by decide) _ _ _ rfl (HO3.out.own.alloc _) ⟨w3.heap.size, 0, none⟩ 1 1 [.int .u8 9] rfl rfl (cell_one_new _ _ _) (one_u8 _) (by unfold maxLen; omega) (by omega) (by simp; omega) ?_; intro v4 w4 hown hg2 _ hat; have HO4 := hidA (By.app1 (x := 9) hown); have HB4 : Hid (Below wr.heap.size wr w4) := (HB3.out.alloc hs3 _).grown hg2 (by simp; omega) (fun k hk => (HO3.out.own.lt k hk).1); have HS4 := hidA (HSx.out.grow HB4.out); clear hown hg2 hat HO3)
              | (at_builtin; refine wpList_sr_at rfl _ _ rfl wr.heap.size v4 (qd ++ [9]) x a' c' rfl HO4.out rfl HS4.out hqx HB4.out.size ?_; intro v5 w5 g1 g2 g3; rw [hzz] at g1; obtain ⟨a5, c5, hv5⟩ := g1.slice; subst hv5; have HB5 : Hid (Below wr.heap.size wr w5) := HB4.out.grown g2 HB4.out.size (fun k hk => (HO4.out.own.lt k hk).1); obtain ⟨q1, q2, q3, q4⟩ := HSt.out w5 _ HB5.out g1; have Q3 := hidA q3; have Q4 := hidA q4; clear q3 q4 g1 g2 g3))
            clear HSt HO4 HS4 HB4 HB3 hs3 HO2 HB2 HB1 HSx q1 q2
            rcases Int.lt_trichotomy st 0 with hneg | hzr | hpos
            · have f1 : ¬ 0 < st := by omega
              by_cases hov : m + st < -9223372036854775808
              · have hnx : Tl.nx m st = none := if_pos (.inl hov)
                have f3 : m < nm := by omega
                go_wp2_with (go_quiet (fail))
                exact ⟨⟨i + 1, nm, by first | rfl | go_num, rfl, (by rw [hsd, hs2, hnx]; rfl), hiX, (by rw [hsd, hs2, hnx]; intro k e; cases e), by omega, by omega, Q3, Q4⟩, by simp [intOf]; omega⟩
              · have hnx : Tl.nx m st = some (m + st) := if_neg (by omega)
                have f3 : ¬ m < nm := by omega
                go_wp2_with (go_quiet (fail))
                exact ⟨⟨i + 1, nm, by first | rfl | go_num, rfl, (by rw [hsd, hs2, hnx]; rfl), hiX, (by rw [hsd, hs2, hnx]; intro k e; injection e with e; omega), by omega, by omega, Q3, Q4⟩, by simp [intOf]; omega⟩
            · have hnx : Tl.nx m st = some (m + st) := if_neg (by omega)
              have f1 : ¬ 0 < st := by omega
              have f2 : ¬ st < 0 := by omega
              go_wp2_with (go_quiet (fail))
              exact ⟨⟨i + 1, nm, by first | rfl | go_num, rfl, (by rw [hsd, hs2, hnx]; rfl), hiX, (by rw [hsd, hs2, hnx]; intro k e; injection e with e; omega), by omega, by omega, Q3, Q4⟩, by simp [intOf]; omega⟩
            · have f2 : ¬ st < 0 := by omega
              by_cases hov : 9223372036854775807 < m + st
              · have hnx : Tl.nx m st = none := if_pos (.inr hov)
                have f3 : nm < m := by omega
                go_wp2_with (go_quiet (fail))
                exact ⟨⟨i + 1, nm, by first | rfl | go_num, rfl, (by rw [hsd, hs2, hnx]; rfl), hiX, (by rw [hsd, hs2, hnx]; intro k e; cases e), by omega, by omega, Q3, Q4⟩, by simp [intOf]; omega⟩
              · have hnx : Tl.nx m st = some (m + st) := if_neg (by omega)
                have f3 : ¬ nm < m := by omega
                go_wp2_with (go_quiet (fail))
                exact ⟨⟨i + 1, nm, by first | rfl | go_num, rfl, (by rw [hsd, hs2, hnx]; rfl), hiX, (by rw [hsd, hs2, hnx]; intro k e; injection e with e; omega), by omega, by omega, Q3, Q4⟩, by simp [intOf]; omega⟩
    · have ei : i = X.length := by omega
      rw [ei, show Tl.nv Y X X.length = Y from Tl.nv_all hYl] at HR
      rw [ei]
      have hkf : ¬ (X.length : Int) < (X.length : Int) := by omega
      clear hiX hi
      go_wp2_with (go_at_call 28; (with_reducible refine (HWh.out _ _ _ (hYl ▸ HR.out).rdr).mono ?_); rintro e w4 ⟨v, rfl, h1, b1⟩; have HO := hidA h1; have HBl := hidA (HB.out.trans (b1.mono HB.out.size)); have HBs := hidA (Below.refl wr.heap.size wr); clear h1 b1)
      go_ret
      exact ⟨_, rfl, HO.out.mono HB.out.size, HBl.out⟩
end Go.Proofs.YtplnojohlbbalaaDoor
