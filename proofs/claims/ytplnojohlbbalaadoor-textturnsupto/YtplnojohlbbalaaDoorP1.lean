/- Several texts of this claim, one behind the other, in their order. -/
import Derived.Test.YtplnojohlbbalaaDoorM13
/- A numbering's state; its teller: lines without a number. Condition: numbers that fit. -/
namespace Go.Proofs.YtplnojohlbbalaaDoor
open Go.RowKit
attribute [local go_sem] ext_eq app_eq get_eq
namespace Tl
/-- What is told of a line x with s as the next number (none: it is over). -/
def nt (all : Bool) (wd : Nat) (s : Option Int) (x : List UInt8) : List UInt8 :=
  match s with
  | some n => if x ≠ [] ∨ all = true then pd n wd ++ [9] ++ x else List.replicate (wd + 1) 32 ++ x
  | none => List.replicate (wd + 1) 32 ++ x
/-- The next number behind the line x. -/
def ns (all : Bool) (st : Int) (s : Option Int) (x : List UInt8) : Option Int :=
  match s with
  | some n => if x ≠ [] ∨ all = true then nx n st else some n
  | none => none
end Tl
/-- What the world says of a numbering with the state s; B: the table lies below it. -/
def NI (B g : Nat) (st : Int) (wd : Nat) (all : Bool) (s : Option Int) (W : World) : Prop :=
  Tab W ∧ (∃ t, Tryd.prog.globalNamed "internal/strconv.uint64pow10" = some t ∧ t < B ∧ t < W.heap.size) ∧
    match s with
    | some n => (-9223372036854775808 ≤ n ∧ n ≤ 9223372036854775807) ∧ Nb W g n st wd all false
    | none => ∃ n, Nb W g n st wd all true
theorem Tab.at {W W' : World} (h : Tab W) {t : Nat} (ht : Tryd.prog.globalNamed "internal/strconv.uint64pow10" = some t) (e : W'.heap[t]? = W.heap[t]?) : Tab W' := by
  unfold Tab Lib.TabIs World.var? at h ⊢
  rw [ht] at h ⊢
  simp only [Option.bind_some] at h ⊢
  rw [e]; exact h
theorem NI.at {B g : Nat} {st : Int} {wd : Nat} {all : Bool} {s : Option Int} {W W' : World} (h : NI B g st wd all s W) (hs : W.heap.size ≤ W'.heap.size) (ht : ∀ t, t < B → t < W.heap.size → Tryd.prog.globalNamed "internal/strconv.uint64pow10" = some t → W'.heap[t]? = W.heap[t]?) (hg : W'.heap[g]? = W.heap[g]?) : NI B g st wd all s W' := by
  obtain ⟨h1, ⟨t, h2, h3, h4⟩, h5⟩ := h
  refine ⟨h1.at h2 (ht t h3 h4 h2), ⟨t, h2, h3, by omega⟩, ?_⟩
  cases s with
  | none => obtain ⟨n, hn⟩ := h5; exact ⟨n, hn.at hg⟩
  | some n => exact ⟨h5.1, h5.2.at hg⟩
theorem NI.nb {B g : Nat} {st : Int} {wd : Nat} {all : Bool} {s : Option Int} {W : World} (h : NI B g st wd all s W) : ∃ n, Nb W g n st wd all s.isNone := by
  obtain ⟨h1, h2, h5⟩ := h
  cases s with
  | none => exact h5
  | some n => exact ⟨n, h5.2⟩
theorem ni_firm (B g : Nat) (st : Int) (wd : Nat) (all : Bool) (s : Option Int) : Firm B (NI B g st wd all s) := by
  refine ⟨fun W w2 h hb => ?_, fun W w2 v n vs h hr hg => ?_⟩
  · obtain ⟨n, hn⟩ := h.nb
    exact h.at hb.size (fun t _ h4 _ => hb.block t h4) (hb.block g hn.lt)
  · obtain ⟨n, hn⟩ := h.nb
    refine h.at hg.size (fun t h3 h4 _ => hg.block t h4 (fun e => ?_)) (hg.block g hn.lt (hn.ne hr))
    have := (hr.lt t e.symm).1
    omega
theorem NI.km {B g : Nat} {st : Int} {wd : Nat} {all : Bool} {s : Option Int} {W W' : World} {v v' : Value} {p : List UInt8} (h : NI B g st wd all s W) (hO : By B W v p) (hk : Km none W v W' v') : NI B g st wd all s W' := by
  obtain ⟨n, hn⟩ := h.nb
  refine h.at hk.size (fun t h3 h4 _ => hk.blk t h4 (fun e => ?_) (by simp)) (hk.blk g hn.lt (hn.ne hO.own) (by simp))
  have := (by_at hO e.symm).1
  omega
theorem Km.any {w W : World} {v v' : Value} (h : Km none w v W v') (m : Option Nat) : Km m w v W v' := ⟨fun b hb hr _ => h.blk b hb hr (by simp), h.own, h.size⟩
set_option maxRecDepth 100000 in
set_option maxHeartbeats 2000000 in
theorem blankTells (w0 : World) (B0 B g : Nat) (st : Int) (wd : Nat) (all : Bool) (s : Option Int) (p x : List UInt8) (hwd : wd ≤ 100) (hp : p.length ≤ 2 ^ 45) (hx : x.length ≤ 2 ^ 45 - 200) (hw0 : w0.heap.size ≤ B0) (hB0 : B0 ≤ B) (hc : s = none ∨ (x = [] ∧ all = false)) : Tells w0 38 #[.pointer (some ⟨g, 0, none⟩)] #[] B0 B (some g) (NI B g st wd all s) (NI B g st wd all s) p x (p ++ (List.replicate (wd + 1) 32 ++ x)) := by
  intro w v a c hI hO hS hw hB
  obtain ⟨iB, hiB, hb0, hb1, hb2⟩ := infoB
  show Calls Tryd.prog 38 #[.pointer (some ⟨g, 0, none⟩), v, .slice a x.length c] w _
  obtain ⟨n, hn⟩ := hI.nb
  have hc0 := hn.c0
  have hc2 := hn.c2
  have hc3 := hn.c3
  have hc4 := hn.c4
  have HF := hidA (fun W (hO : By B W v p) (hB : B ≤ W.heap.size) => (show Calls Tryd.prog 54 #[v, .int .u8 32, .int .i64 ((wd : Int) + 1)] W fun e w' => ∃ v', e = .returned v' ∧ By B w' v' (p ++ List.replicate (wd + 1) 32) ∧ Below B W w' ∧ Km none W v w' v' from by
    have h := oFill p 32 ((wd : Int) + 1) v B (by omega) (by omega) hp W hO hB
    have e : ((wd : Int) + 1).toNat = wd + 1 := by omega
    rw [e] at h
    exact h))
  have hwr : IntKind.i64.wrap ((wd : Int) + 1) = (wd : Int) + 1 := by rw [IntKind.wrap_i64]; omega
  have hql : (p ++ List.replicate (wd + 1) 32).length + x.length ≤ 2 ^ 46 := by rw [List.length_append, List.length_replicate]; omega
  rw [← List.append_assoc]
  have hqp : 0 < (p ++ List.replicate (wd + 1) 32).length := by rw [List.length_append, List.length_replicate]; omega
  generalize p ++ List.replicate (wd + 1) 32 = q at *
  have hb : s.isNone = true ∨ (s.isNone = false ∧ x = [] ∧ all = false) := by
    rcases hc with h | h
    · exact .inl (by rw [h]; rfl)
    · cases hs : s.isNone
      · exact .inr ⟨rfl, h⟩
      · exact .inl rfl
  have HI := hidA hI
  have HO := hidA hO
  have HS := hidA hS
  have HW := hidA hw
  have HB := hidA hB
  clear hI hO hS hw hn hB
  have HwB := hidA (Nat.le_trans hw0 hB0)
  clear hw0
  by_cases hx0 : x = []
  · subst hx0
    cases a with
    | none =>
      have hc'0 := HS.out.nil rfl
      subst hc'0
      rw [List.append_nil]
      have h0le : (0 : Int) = 0 := rfl
      cases s with
      | none =>
        go_enter Tryd.func38, Tryd.ntmps38
        go_wp2_with (go_at_call 54; (with_reducible refine (HF.out _ HO.out HB.out).mono ?_); rintro e w2 ⟨v2, rfl, g1, g2, g3⟩; have HO2 := hidA g1; have HB2 := hidA g2; have HK2 := hidA g3; obtain ⟨g2, c2, hv2⟩ := g1.some hqp; clear g1 g3; subst hv2; have hpc5 := HO2.out.sr.le)
        go_ret
        exact ⟨_, rfl, HO2.out, HI.out.km HO.out HK2.out, HB2.out.mono hB0, HK2.out.any _⟩
      | some m =>
        have ha : all = false := by
          rcases hb with h | h
          · cases h
          · exact h.2.2
        subst ha
        go_enter Tryd.func38, Tryd.ntmps38
        go_wp2_with (go_at_call 54; (with_reducible refine (HF.out _ HO.out HB.out).mono ?_); rintro e w2 ⟨v2, rfl, g1, g2, g3⟩; have HO2 := hidA g1; have HB2 := hidA g2; have HK2 := hidA g3; obtain ⟨g2, c2, hv2⟩ := g1.some hqp; clear g1 g3; subst hv2; have hpc5 := HO2.out.sr.le)
        go_ret
        exact ⟨_, rfl, HO2.out, HI.out.km HO.out HK2.out, HB2.out.mono hB0, HK2.out.any _⟩
    | some ad =>
      cases s with
      | none =>
        go_enter Tryd.func38, Tryd.ntmps38
        go_wp2_with (first
          | (go_at_call 54; (with_reducible refine (HF.out _ HO.out HB.out).mono ?_); rintro e w2 ⟨v2, rfl, g1, g2, g3⟩; have HO2 := hidA g1; have HB2 := hidA g2; have HK2 := hidA g3; have HS2 := hidA (HS.out.grow (HW.out.trans (g2.mono HwB.out))); clear g1 g2 g3)
          | (at_builtin; refine wpList_append_own_at _ rfl _ _ 22 rfl B 5 iB (.int .u8 0) 1 1 Tryd.underlying22 hiB hb0 hb1 hb2 rfl (by decide) _ _ _ rfl HO2.out.own ad ([] : List UInt8).length c (bCs ([] : List UInt8)) rfl (by rw [bCs_len, Nat.mul_one]) (fun i u hi => HS2.out.src.cells_at i u hi) (bCs_one ([] : List UInt8)) (by unfold maxLen; simp only [List.length_nil]; omega) (by simp only [List.length_nil]; omega) (Nat.le_trans HB.out HB2.out.size) ?_; intro v4 w4 g1 g2 _ g3; have HO4 := hidA (By.of_app g1); have HB4 : Hid (Below B w w4) := HB2.out.grown g2 (Nat.le_trans HB.out HB2.out.size) (fun k hk => (HO2.out.own.lt k hk).1); have HK4 := hidA (HK2.out.trans (Km.grown none g2 g3)); clear g1 g2 g3))
        go_ret
        exact ⟨_, rfl, HO4.out, HI.out.km HO.out HK4.out, HB4.out.mono hB0, HK4.out.any _⟩
      | some m =>
        have ha : all = false := by
          rcases hb with h | h
          · cases h
          · exact h.2.2
        subst ha
        go_enter Tryd.func38, Tryd.ntmps38
        go_wp2_with (first
          | (go_at_call 54; (with_reducible refine (HF.out _ HO.out HB.out).mono ?_); rintro e w2 ⟨v2, rfl, g1, g2, g3⟩; have HO2 := hidA g1; have HB2 := hidA g2; have HK2 := hidA g3; have HS2 := hidA (HS.out.grow (HW.out.trans (g2.mono HwB.out))); clear g1 g2 g3)
          | (at_builtin; refine wpList_append_own_at _ rfl _ _ 22 rfl B 5 iB (.int .u8 0) 1 1 Tryd.underlying22 hiB hb0 hb1 hb2 rfl (by decide) _ _ _ rfl HO2.out.own ad ([] : List UInt8).length c (bCs ([] : List UInt8)) rfl (by rw [bCs_len, Nat.mul_one]) (fun i u hi => HS2.out.src.cells_at i u hi) (bCs_one ([] : List UInt8)) (by unfold maxLen; simp only [List.length_nil]; omega) (by simp only [List.length_nil]; omega) (Nat.le_trans HB.out HB2.out.size) ?_; intro v4 w4 g1 g2 _ g3; have HO4 := hidA (By.of_app g1); have HB4 : Hid (Below B w w4) := HB2.out.grown g2 (Nat.le_trans HB.out HB2.out.size) (fun k hk => (HO2.out.own.lt k hk).1); have HK4 := hidA (HK2.out.trans (Km.grown none g2 g3)); clear g1 g2 g3))
        go_ret
        exact ⟨_, rfl, HO4.out, HI.out.km HO.out HK4.out, HB4.out.mono hB0, HK4.out.any _⟩
  · have hs : s.isNone = true := by
      rcases hb with h | h
      · exact h
      · exact absurd h.2.1 hx0
    rw [hs] at hc4
    cases a with
    | none => exact absurd (List.length_eq_zero_iff.1 (by have h1 := HS.out.nil rfl; have h2 := HS.out.le; omega)) hx0
    | some ad =>
      go_enter Tryd.func38, Tryd.ntmps38
      go_wp2_with (first
        | (go_at_call 54; (with_reducible refine (HF.out _ HO.out HB.out).mono ?_); rintro e w2 ⟨v2, rfl, g1, g2, g3⟩; have HO2 := hidA g1; have HB2 := hidA g2; have HK2 := hidA g3; have HS2 := hidA (HS.out.grow (HW.out.trans (g2.mono HwB.out))); clear g1 g2 g3)
        | (at_builtin; refine wpList_append_own_at _ rfl _ _ 22 rfl B 5 iB (.int .u8 0) 1 1 Tryd.underlying22 hiB hb0 hb1 hb2 rfl (by decide) _ _ _ rfl HO2.out.own ad x.length c (bCs x) rfl (by rw [bCs_len, Nat.mul_one]) (fun i u hi => HS2.out.src.cells_at i u hi) (bCs_one x) (by unfold maxLen; omega) (by omega) (Nat.le_trans HB.out HB2.out.size) ?_; intro v4 w4 g1 g2 _ g3; have HO4 := hidA (By.of_app g1); have HB4 : Hid (Below B w w4) := HB2.out.grown g2 (Nat.le_trans HB.out HB2.out.size) (fun k hk => (HO2.out.own.lt k hk).1); have HK4 := hidA (HK2.out.trans (Km.grown none g2 g3)); clear g1 g2 g3))
      go_ret
      exact ⟨_, rfl, HO4.out, HI.out.km HO.out HK4.out, HB4.out.mono hB0, HK4.out.any _⟩
end Go.Proofs.YtplnojohlbbalaaDoor
/- A numbering's teller: lines with a number. Condition: numbers that fit. -/
namespace Go.Proofs.YtplnojohlbbalaaDoor
open Go.RowKit
attribute [local go_sem] ext_eq app_eq get_eq
theorem bl_ad (w : World) (o : Obj) : Below w.heap.size w ((w.alloc o).drew) := ((Below.refl _ _).alloc (Nat.le_refl _) o).trans ((bl_drew1 _).mono (by simp))
theorem tab_ne {W : World} {t g : Nat} {n st wd : Int} {all over : Bool} (hT : Tab W) (ht : Tryd.prog.globalNamed "internal/strconv.uint64pow10" = some t) (hn : Nb W g n st wd all over) : t ≠ g := fun e => by
  have h := Lib.TabIs.cell hT ht 0 (by decide)
  subst e
  have h0 := hn.c0
  rw [h] at h0
  cases h0
theorem oStep (B0 B g : Nat) (st : Int) (wd : Nat) (all : Bool) (n : Int) (hn0 : -9223372036854775808 ≤ n) (hn1 : n ≤ 9223372036854775807) (s0 : -9223372036854775808 ≤ st) (s1 : st ≤ 9223372036854775807) (hg : B0 ≤ g) (w : World) (v : Value) (q : List UInt8) (hT : Tab w) (htb : ∃ t, Tryd.prog.globalNamed "internal/strconv.uint64pow10" = some t ∧ t < B ∧ t < w.heap.size) (hN : Nb w g n st wd all false) (hO : By B w v q) : Calls Tryd.prog 56 #[.pointer (some ⟨g, 0, none⟩)] w fun e w' => (∃ v, e = .returned v) ∧ NI B g st wd all (Tl.nx n st) w' ∧ By B w' v q ∧ Below B0 w w' ∧ Km (some g) w v w' v := by
  refine (oAdvance g n st wd all hn0 hn1 s0 s1 w hN).mono ?_
  rintro e w' ⟨e1, k, rfl⟩
  have key : ∀ (i : Nat) (u : Value), Tab ((w.drewN k).setCell ⟨g, i, none⟩ u) ∧ (∃ t, Tryd.prog.globalNamed "internal/strconv.uint64pow10" = some t ∧ t < B ∧ t < ((w.drewN k).setCell ⟨g, i, none⟩ u).heap.size) ∧ By B ((w.drewN k).setCell ⟨g, i, none⟩ u) v q ∧ Below B0 w ((w.drewN k).setCell ⟨g, i, none⟩ u) ∧ Km (some g) w v ((w.drewN k).setCell ⟨g, i, none⟩ u) v := fun i u => by
    obtain ⟨t, h2, h3, h4⟩ := htb
    have ho : ∀ b, b ≠ g → ((w.drewN k).setCell ⟨g, i, none⟩ u).heap[b]? = w.heap[b]? := fun b hb => heap_setCell_other (w.drewN k) ⟨g, i, none⟩ b u hb
    have hsz : ((w.drewN k).setCell ⟨g, i, none⟩ u).heap.size = w.heap.size := by simp [World.setCell, World.drewN]
    have hd : Below B0 w (w.drewN k) := ⟨rfl, rfl, rfl, Nat.le_refl _, fun _ _ => rfl⟩
    refine ⟨hT.at h2 (ho t (tab_ne hT h2 hN)), ⟨t, h2, h3, by omega⟩, own_on hO (fun g' c h9 => ?_), hd.setCell (p := ⟨g, i, none⟩) hg u, fun b _ _ hm => ho b (fun e => hm (by rw [e])), .inl rfl, by omega⟩
    refine ho g' (fun e => ?_)
    subst e
    obtain ⟨c2, hk⟩ := hN.kd
    exact absurd rfl (heap_ne hk h9 (by decide))
  refine ⟨e1, ?_⟩
  unfold Tl.nx
  split
  · obtain ⟨k1, k2, k3, k4, k5⟩ := key 4 (.bool true)
    exact ⟨⟨k1, k2, n, (hN.at (W' := w.drewN k) rfl).stop⟩, k3, k4, k5⟩
  · rename_i hr
    obtain ⟨k1, k2, k3, k4, k5⟩ := key 0 (.int .i64 (n + st))
    exact ⟨⟨k1, k2, ⟨by omega, by omega⟩, (hN.at (W' := w.drewN k) rfl).next _⟩, k3, k4, k5⟩
theorem stepAppend1 {ops : Array Oper} {o : Oper} {a : Act} {w : World} {K : Act → World → Prop} {Q : Exit → Act → World → Prop} {E : Prop} (hgd : o.guard = none) (s x : Operand)
    (ho : o.op = .call { callee := .builtin .append, args := #[s, x], argTypes := #[22, 22] }) (B : Nat) (v : Value) (q : List UInt8) (hs : a.eval s = v) (hO : By B w v q) (g c : Nat) (ch : UInt8) (hx : a.eval x = .slice (some ⟨g, 0, none⟩) 1 c)
    (hnew : w.cell? ⟨g, 0, none⟩ = some (.int .u8 ch.toNat)) (hl : q.length + 1 ≤ 2 ^ 46) (hB : B ≤ w.heap.size)
    (h : ∀ v' w', By B w' v' (q ++ [ch]) → w.grownBy w' v.ownBlock → (v'.ownBlock = v.ownBlock ∨ v'.ownBlock = some w.heap.size) → K (a.put o.dst v') w') :
    if Region.wanted o (yielded ops a.tmps) = true then Oper.wp Tryd.prog o a w K Q else E := by
  obtain ⟨iB, hiB, hb0, hb1, hb2⟩ := infoB
  rw [if_pos (by simp [Region.wanted, hgd])]
  obtain ⟨v', w', hr, h2, h3, _, h4⟩ := run_append_own_at (P := Tryd.prog) w B 22 o.type 5 iB (.int .u8 0) 1 1 Tryd.underlying22 hiB hb0 hb1 hb2 rfl (by decide) v q.length (bCs q) hO.own ⟨g, 0, none⟩ 1 c [.int .u8 ch.toNat] rfl (fun j u hj => by
    cases j with
    | zero => simp at hj; subst hj; rw [add0]; exact hnew
    | succ j => simp at hj) (one_u8 _) (by unfold maxLen; omega) (by omega) hB
  unfold Oper.wp execOp
  simp only [ho, resolve, invoke, builtin, Sem.run_bind, Sem.run_pure, Result.andThen_ok, List.map_toArray, List.map_cons, List.map_nil, hs, hx, hr]
  exact h v' w' (By.app1 h2) h3 h4
set_option maxRecDepth 100000 in
set_option maxHeartbeats 4000000 in
theorem numTells (w0 : World) (B0 B g : Nat) (st : Int) (wd : Nat) (all : Bool) (n : Int) (p x : List UInt8) (hwd : wd ≤ 100) (s0 : -9223372036854775808 ≤ st) (s1 : st ≤ 9223372036854775807) (hp : p.length ≤ 2 ^ 45) (hx : x.length ≤ 2 ^ 45 - 200) (hw0 : w0.heap.size ≤ B0) (hB0 : B0 ≤ B) (hg : B0 ≤ g) (hc : x ≠ [] ∨ all = true) : Tells w0 38 #[.pointer (some ⟨g, 0, none⟩)] #[] B0 B (some g) (NI B g st wd all (some n)) (NI B g st wd all (Tl.nx n st)) p x (p ++ (Tl.pd n wd ++ [9] ++ x)) := by
  intro w v a c hI hO hS hw hB
  obtain ⟨iB, hiB, hb0, hb1, hb2⟩ := infoB
  show Calls Tryd.prog 38 #[.pointer (some ⟨g, 0, none⟩), v, .slice a x.length c] w _
  obtain ⟨hT, htb, ⟨hn0, hn1⟩, hn⟩ := hI
  have hc0 := hn.c0
  have hc2 := hn.c2
  have hc3 := hn.c3
  have hc4 := hn.c4
  have HP := hidA (fun W (b : Below w.heap.size w W) => (show Calls Tryd.prog 55 #[v, .int .i64 n, .int .i64 10, .int .u8 32, .int .i64 wd] W fun e w' => ∃ v', e = .returned v' ∧ By B w' v' (p ++ Tl.pd n wd) ∧ Below B w w' ∧ Km none w v w' v' ∧ Nb w' g n st wd all false ∧ (∀ k u, w.heap.size ≤ k → W.cell? ⟨k, 0, none⟩ = some u → w'.cell? ⟨k, 0, none⟩ = some u) from by
    refine (oPadded p n wd hn0 hn1 hwd v B hp W (by obtain ⟨t, h2, h3, h4⟩ := htb; exact hT.at h2 (b.block t h4)) (hO.grow b) (Nat.le_trans hB b.size)).mono ?_
    rintro e w' ⟨v', e1, g1, g2, g3⟩
    have hk := (Km.below none v b).trans g3
    exact ⟨v', e1, g1, (b.mono hB).trans g2, hk, hn.at (hk.blk g hn.lt (hn.ne hO.own) (by simp)), fun k u h5 h6 => g3.cell h6 (fun e9 => by have := (by_at hO e9.symm).2; omega) (by simp)⟩))
  have hpdl := Tl.pd_len n wd hn0 hn1 hwd
  have hql : (p ++ Tl.pd n wd).length + 1 ≤ 2 ^ 46 := by rw [List.length_append]; omega
  have hqp : (p ++ Tl.pd n wd).length + 1 ≤ maxLen := by unfold maxLen; omega
  have hq8 : ((p ++ Tl.pd n wd).length + 1) * 1 ≤ 140737488355328 := by omega
  have HB := hidA hB
  have HNe := hidA (hn.ne hO.own)
  have HTab : Hid (∀ W v', Km none w v W v' → Tab W ∧ ∃ t, Tryd.prog.globalNamed "internal/strconv.uint64pow10" = some t ∧ t < B ∧ t < W.heap.size) := fun W v' hk => by
    obtain ⟨t, h2, h3, h4⟩ := htb
    exact ⟨hT.at h2 (hk.blk t h4 (fun e => by have := (by_at hO e.symm).1; omega) (by simp)), t, h2, h3, Nat.lt_of_lt_of_le h4 hk.size⟩
  have HS := hidA hS
  have HW := hidA hw
  clear hT htb hS hw hO hn hB
  obtain ⟨q, hq⟩ : ∃ q, q = p ++ Tl.pd n wd := ⟨_, rfl⟩
  rw [← hq] at HP hql hqp hq8
  obtain ⟨r, hr⟩ : ∃ r, r = q ++ [9] := ⟨_, rfl⟩
  have HR := hidA hr
  have HOut : Hid (p ++ (Tl.pd n wd ++ [9] ++ x) = r ++ x) := by show _ = _; rw [hr, hq]; simp [List.append_assoc]
  have hrp : 0 < r.length := by rw [hr]; simp
  have hrl : r.length + x.length ≤ 2 ^ 46 := by rw [hr, hq]; simp only [List.length_append, List.length_cons, List.length_nil]; omega
  clear hq hr
  by_cases hx0 : x = []
  · subst hx0
    have ha : all = true := by
      rcases hc with h | h
      · exact absurd rfl h
      · exact h
    subst ha
    cases a with
    | none =>
      have hc'0 := HS.out.nil rfl
      subst hc'0
      go_enter Tryd.func38, Tryd.ntmps38
      go_upto_region 3 with fail
      go_region_held3 (fun W' : World => W'.cell? ⟨g, 0, none⟩ = some (.int .i64 n) ∧ W'.cell? ⟨g, 2, none⟩ = some (.int .i64 wd)) (first | exact ⟨hc0, hc2⟩ | exact hS | go_keep)
        (first
          | (go_at_call 55; (with_reducible refine (HP.out _ (by first | exact bl_drew1 _ | exact bl_ad _ _)).mono ?_); rintro e w2 ⟨v2, rfl, g1, g2, g3, g4, g5⟩; have HO2 := hidA g1; have HB2 := hidA g2; have HK2 := hidA g3; have HN2 := hidA g4; have HC2 := hidA g5; have hS := And.intro g4.c0 g4.c2; clear g1 g2 g3 g4 g5)
          | (refine stepAppend1 ?_ (.tmp 39) (.tmp 40) ?_ B v2 q ?_ (HO2.out.grow ((Below.refl _ _).alloc (Nat.le_refl _) _)) w2.heap.size 1 9 ?_ ?_ hql (by have := HB2.out.size; have := HB.out; simp; omega) ?_; exact rfl; exact rfl; exact rfl; exact rfl; exact World.cell?_alloc_at _ _ _ _ rfl; intro v3 w3 t1 t2 t3; have HO3 : Hid (By B w3 v3 r) := (by rw [HR.out]; exact t1); have HN3 := hidA ((HN2.out.grow ((Below.refl _ _).alloc (Nat.le_refl _) _)).at (t2.block g (by have := HN2.out.lt; simp; omega) (HN2.out.ne HO2.out.own))); have HB3 : Hid (Below B w w3) := (HB2.out.alloc (Nat.le_trans HB.out HB2.out.size) _).grown t2 (by have := HB2.out.size; have := HB.out; simp; omega) (fun k hk => (HO2.out.own.lt k hk).1); have HK3 := hidA ((HK2.out.trans (Km.alloc none w2 _ _)).trans (Km.grown none t2 t3)); have hS := And.intro HN3.out.c0 HN3.out.c2; clear t1 t2 t3)
          | (refine stepAppend1 ?_ (.tmp 39) (.tmp 40) ?_ B v2 q ?_ HO2.out w.heap.size 1 9 ?_ ?_ hql (Nat.le_trans HB.out HB2.out.size) ?_; exact rfl; exact rfl; exact rfl; exact rfl; exact HC2.out w.heap.size _ (Nat.le_refl _) (World.cell?_alloc_at _ _ _ _ rfl); intro v3 w3 t1 t2 t3; have HO3 : Hid (By B w3 v3 r) := (by rw [HR.out]; exact t1); have HN3 := hidA (HN2.out.at (t2.block g (HN2.out.lt) (HN2.out.ne HO2.out.own))); have HB3 : Hid (Below B w w3) := HB2.out.grown t2 (Nat.le_trans HB.out HB2.out.size) (fun k hk => (HO2.out.own.lt k hk).1); have HK3 := hidA (HK2.out.trans (Km.grown none t2 t3)); have hS := And.intro HN3.out.c0 HN3.out.c2; clear t1 t2 t3)
          | fail)
      all_goals
        have HSt := hidA (oStep B0 B g st wd _ n hn0 hn1 s0 s1 hg w3 v3 r (HTab.out _ _ HK3.out).1 (HTab.out _ _ HK3.out).2 HN3.out HO3.out)
        obtain ⟨g9, c9, hv9⟩ := HO3.out.some hrp
        subst hv9
        have hpc9 := HO3.out.sr.le
        go_wp2_with (go_at_call 56; (with_reducible refine HSt.out.mono ?_); rintro e w4 ⟨⟨ve, rfl⟩, f1, f2, f3, f4⟩; have HI4 := hidA f1; have HO4 := hidA f2; have HB4 := hidA ((HB3.out.mono hB0).trans f3); have HK4 := hidA ((HK3.out.any (some g)).trans f4); have HS4 := hidA (HS.out.grow (HW.out.trans (HB4.out.mono hw0))); clear f1 f2 f3 f4)
        go_ret
        exact ⟨_, rfl, by rw [HOut.out, List.append_nil]; exact HO4.out, HI4.out, HB4.out, HK4.out⟩
    | some ad =>
      go_enter Tryd.func38, Tryd.ntmps38
      go_upto_region 3 with fail
      go_region_held3 (fun W' : World => W'.cell? ⟨g, 0, none⟩ = some (.int .i64 n) ∧ W'.cell? ⟨g, 2, none⟩ = some (.int .i64 wd)) (first | exact ⟨hc0, hc2⟩ | exact hS | go_keep)
        (first
          | (go_at_call 55; (with_reducible refine (HP.out _ (by first | exact bl_drew1 _ | exact bl_ad _ _)).mono ?_); rintro e w2 ⟨v2, rfl, g1, g2, g3, g4, g5⟩; have HO2 := hidA g1; have HB2 := hidA g2; have HK2 := hidA g3; have HN2 := hidA g4; have HC2 := hidA g5; have hS := And.intro g4.c0 g4.c2; clear g1 g2 g3 g4 g5)
          | (refine stepAppend1 ?_ (.tmp 39) (.tmp 40) ?_ B v2 q ?_ (HO2.out.grow ((Below.refl _ _).alloc (Nat.le_refl _) _)) w2.heap.size 1 9 ?_ ?_ hql (by have := HB2.out.size; have := HB.out; simp; omega) ?_; exact rfl; exact rfl; exact rfl; exact rfl; exact World.cell?_alloc_at _ _ _ _ rfl; intro v3 w3 t1 t2 t3; have HO3 : Hid (By B w3 v3 r) := (by rw [HR.out]; exact t1); have HN3 := hidA ((HN2.out.grow ((Below.refl _ _).alloc (Nat.le_refl _) _)).at (t2.block g (by have := HN2.out.lt; simp; omega) (HN2.out.ne HO2.out.own))); have HB3 : Hid (Below B w w3) := (HB2.out.alloc (Nat.le_trans HB.out HB2.out.size) _).grown t2 (by have := HB2.out.size; have := HB.out; simp; omega) (fun k hk => (HO2.out.own.lt k hk).1); have HK3 := hidA ((HK2.out.trans (Km.alloc none w2 _ _)).trans (Km.grown none t2 t3)); have hS := And.intro HN3.out.c0 HN3.out.c2; clear t1 t2 t3)
          | (refine stepAppend1 ?_ (.tmp 39) (.tmp 40) ?_ B v2 q ?_ HO2.out w.heap.size 1 9 ?_ ?_ hql (Nat.le_trans HB.out HB2.out.size) ?_; exact rfl; exact rfl; exact rfl; exact rfl; exact HC2.out w.heap.size _ (Nat.le_refl _) (World.cell?_alloc_at _ _ _ _ rfl); intro v3 w3 t1 t2 t3; have HO3 : Hid (By B w3 v3 r) := (by rw [HR.out]; exact t1); have HN3 := hidA (HN2.out.at (t2.block g (HN2.out.lt) (HN2.out.ne HO2.out.own))); have HB3 : Hid (Below B w w3) := HB2.out.grown t2 (Nat.le_trans HB.out HB2.out.size) (fun k hk => (HO2.out.own.lt k hk).1); have HK3 := hidA (HK2.out.trans (Km.grown none t2 t3)); have hS := And.intro HN3.out.c0 HN3.out.c2; clear t1 t2 t3)
          | fail)
      all_goals
        have HSt := hidA (oStep B0 B g st wd _ n hn0 hn1 s0 s1 hg w3 v3 r (HTab.out _ _ HK3.out).1 (HTab.out _ _ HK3.out).2 HN3.out HO3.out)
        go_wp2_with (first
          | (go_at_call 56; (with_reducible refine HSt.out.mono ?_); rintro e w4 ⟨⟨ve, rfl⟩, f1, f2, f3, f4⟩; have HI4 := hidA f1; have HO4 := hidA f2; have HB4 := hidA ((HB3.out.mono hB0).trans f3); have HK4 := hidA ((HK3.out.any (some g)).trans f4); have HS4 := hidA (HS.out.grow (HW.out.trans (HB4.out.mono hw0))); clear f1 f2 f3 f4)
          | (at_builtin; refine wpList_append_own_at _ rfl _ _ 22 rfl B 5 iB (.int .u8 0) 1 1 Tryd.underlying22 hiB hb0 hb1 hb2 rfl (by decide) _ _ _ rfl HO4.out.own ad ([] : List UInt8).length c (bCs ([] : List UInt8)) rfl (by rw [bCs_len, Nat.mul_one]) (fun i u hi => HS4.out.src.cells_at i u hi) (bCs_one ([] : List UInt8)) (by unfold maxLen; simp only [List.length_nil]; omega) (by simp only [List.length_nil]; omega) (Nat.le_trans HB.out HB4.out.size) ?_; intro v5 w5 g1 g2 _ g3; have HO5 := hidA (By.of_app g1); have HI5 := hidA ((ni_firm B g st wd _ (Tl.nx n st)).other _ _ _ _ _ HI4.out HO4.out.own g2); have HB5 : Hid (Below B0 w w5) := HB4.out.grown g2 (Nat.le_trans hB0 (Nat.le_trans HB.out HB4.out.size)) (fun k hk => Nat.le_trans hB0 (HO4.out.own.lt k hk).1); have HK5 := hidA (HK4.out.trans (Km.grown (some g) g2 g3)); clear g1 g2 g3))
        go_ret
        exact ⟨_, rfl, by rw [HOut.out]; exact HO5.out, HI5.out, HB5.out, HK5.out⟩
  · have hxl : ¬ (x.length : Int) = 0 := fun h => hx0 (List.length_eq_zero_iff.1 (by omega))
    cases a with
    | none => exact absurd (List.length_eq_zero_iff.1 (by have h1 := HS.out.nil rfl; have h2 := HS.out.le; omega)) hx0
    | some ad =>
      go_enter Tryd.func38, Tryd.ntmps38
      go_upto_region 3 with fail
      go_region_held3 (fun W' : World => W'.cell? ⟨g, 0, none⟩ = some (.int .i64 n) ∧ W'.cell? ⟨g, 2, none⟩ = some (.int .i64 wd)) (first | exact ⟨hc0, hc2⟩ | exact hS | go_keep)
        (first
          | (go_at_call 55; (with_reducible refine (HP.out _ (by first | exact bl_drew1 _ | exact bl_ad _ _)).mono ?_); rintro e w2 ⟨v2, rfl, g1, g2, g3, g4, g5⟩; have HO2 := hidA g1; have HB2 := hidA g2; have HK2 := hidA g3; have HN2 := hidA g4; have HC2 := hidA g5; have hS := And.intro g4.c0 g4.c2; clear g1 g2 g3 g4 g5)
          | (refine stepAppend1 ?_ (.tmp 39) (.tmp 40) ?_ B v2 q ?_ (HO2.out.grow ((Below.refl _ _).alloc (Nat.le_refl _) _)) w2.heap.size 1 9 ?_ ?_ hql (by have := HB2.out.size; have := HB.out; simp; omega) ?_; exact rfl; exact rfl; exact rfl; exact rfl; exact World.cell?_alloc_at _ _ _ _ rfl; intro v3 w3 t1 t2 t3; have HO3 : Hid (By B w3 v3 r) := (by rw [HR.out]; exact t1); have HN3 := hidA ((HN2.out.grow ((Below.refl _ _).alloc (Nat.le_refl _) _)).at (t2.block g (by have := HN2.out.lt; simp; omega) (HN2.out.ne HO2.out.own))); have HB3 : Hid (Below B w w3) := (HB2.out.alloc (Nat.le_trans HB.out HB2.out.size) _).grown t2 (by have := HB2.out.size; have := HB.out; simp; omega) (fun k hk => (HO2.out.own.lt k hk).1); have HK3 := hidA ((HK2.out.trans (Km.alloc none w2 _ _)).trans (Km.grown none t2 t3)); have hS := And.intro HN3.out.c0 HN3.out.c2; clear t1 t2 t3)
          | (refine stepAppend1 ?_ (.tmp 39) (.tmp 40) ?_ B v2 q ?_ HO2.out w.heap.size 1 9 ?_ ?_ hql (Nat.le_trans HB.out HB2.out.size) ?_; exact rfl; exact rfl; exact rfl; exact rfl; exact HC2.out w.heap.size _ (Nat.le_refl _) (World.cell?_alloc_at _ _ _ _ rfl); intro v3 w3 t1 t2 t3; have HO3 : Hid (By B w3 v3 r) := (by rw [HR.out]; exact t1); have HN3 := hidA (HN2.out.at (t2.block g (HN2.out.lt) (HN2.out.ne HO2.out.own))); have HB3 : Hid (Below B w w3) := HB2.out.grown t2 (Nat.le_trans HB.out HB2.out.size) (fun k hk => (HO2.out.own.lt k hk).1); have HK3 := hidA (HK2.out.trans (Km.grown none t2 t3)); have hS := And.intro HN3.out.c0 HN3.out.c2; clear t1 t2 t3)
          | fail)
      all_goals
        have HSt := hidA (oStep B0 B g st wd _ n hn0 hn1 s0 s1 hg w3 v3 r (HTab.out _ _ HK3.out).1 (HTab.out _ _ HK3.out).2 HN3.out HO3.out)
        go_wp2_with (first
          | (go_at_call 56; (with_reducible refine HSt.out.mono ?_); rintro e w4 ⟨⟨ve, rfl⟩, f1, f2, f3, f4⟩; have HI4 := hidA f1; have HO4 := hidA f2; have HB4 := hidA ((HB3.out.mono hB0).trans f3); have HK4 := hidA ((HK3.out.any (some g)).trans f4); have HS4 := hidA (HS.out.grow (HW.out.trans (HB4.out.mono hw0))); clear f1 f2 f3 f4)
          | (at_builtin; refine wpList_append_own_at _ rfl _ _ 22 rfl B 5 iB (.int .u8 0) 1 1 Tryd.underlying22 hiB hb0 hb1 hb2 rfl (by decide) _ _ _ rfl HO4.out.own ad x.length c (bCs x) rfl (by rw [bCs_len, Nat.mul_one]) (fun i u hi => HS4.out.src.cells_at i u hi) (bCs_one x) (by unfold maxLen; omega) (by omega) (Nat.le_trans HB.out HB4.out.size) ?_; intro v5 w5 g1 g2 _ g3; have HO5 := hidA (By.of_app g1); have HI5 := hidA ((ni_firm B g st wd _ (Tl.nx n st)).other _ _ _ _ _ HI4.out HO4.out.own g2); have HB5 : Hid (Below B0 w w5) := HB4.out.grown g2 (Nat.le_trans hB0 (Nat.le_trans HB.out HB4.out.size)) (fun k hk => Nat.le_trans hB0 (HO4.out.own.lt k hk).1); have HK5 := hidA (HK4.out.trans (Km.grown (some g) g2 g3)); clear g1 g2 g3))
        go_ret
        exact ⟨_, rfl, by rw [HOut.out]; exact HO5.out, HI5.out, HB5.out, HK5.out⟩
end Go.Proofs.YtplnojohlbbalaaDoor
