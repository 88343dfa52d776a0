/- Several texts of this claim, one behind the other, in their order. -/
import Derived.Test.YtplnojohlbbalaaDoorM7
import Derived.Test.YtplnojohlbbalaaDoorM9
import Derived.Test.YtplnojohlbbalaaDoorM8
/- The plain answer's Rev. Condition: a length that fits. -/
namespace Go.Proofs.YtplnojohlbbalaaDoor
open Go.RowKit
attribute [local go_sem] ext_eq app_eq get_eq
theorem RB.rdr {B : Nat} {W : World} {a : Option Addr} {n c : Nat} {X : List (List UInt8)} (h : RB B W (.slice a n c) X) : Rd W a X := fun i hi => by
  obtain ⟨vs, h1, h2, h3, h4⟩ := h
  rcases h1.2 with ⟨e, h0⟩ | ⟨g, cap, cur, e, hb, hg, hnc, hcm, hsz, ht⟩
  · omega
  · injection e with e1 e2 e3
    subst e1 e3
    have hb4 := h4 i hi
    obtain ⟨a', c', ev⟩ := hb4.slice
    have := h1.cells (g := g) (by rfl) i (vs[i]'(by omega)) (by simp [h2, hi])
    rw [add0] at this
    rw [ev] at hb4
    exact ⟨g, 0, a', c', rfl, heap_lt hg, by rw [Nat.zero_add, this, ev], hb4.sr⟩
theorem By.setR2 {B' : Nat} {W : World} {v : Value} {x : List UInt8} (h : By B' W v x) {g j : Nat} {u : Value} (hk : ∃ c fz, W.heap[g]? = Option.some (.cells c 22 fz)) : By B' (W.setCell ⟨g, j, Option.none⟩ u) v x := by
  refine By.on h (fun g' c hc => ?_)
  obtain ⟨c2, f2, h2⟩ := hk
  exact heap_setCell_other W ⟨g, j, none⟩ g' u (by show g' ≠ g; exact heap_ne hc h2 (by decide))
theorem By.one2 {B : Nat} {W : World} {v : Value} {x : List UInt8} (h : By B W v x) : v.oneCell' = true := by
  obtain ⟨a, c, rfl⟩ := h.slice
  rfl
/-- One of the rows is replaced by another of one's own. -/
theorem RB.store {B : Nat} {W : World} {X : List (List UInt8)} {k g n cap : Nat} {v2 : Value} {y : List UInt8} (h : RB B W (.slice (some ⟨g, 0, none⟩) n cap) X) (_ : k < X.length) (h2 : By B W v2 y) : RB B (W.setCell ⟨g, k, none⟩ v2) (.slice (some ⟨g, 0, none⟩) n cap) (X.set k y) := by
  obtain ⟨vs, o1, o2, o3, o5⟩ := h
  have hkd := own_kind o1 g rfl
  have en : n = X.length := by
    obtain ⟨a', c', e'⟩ := own_slice o1
    injection e' with _ e2 _
  subst en
  refine ⟨vs.set k v2, by rw [List.length_set]; exact (o1.stored k v2).1, by simp [o2], fun u hu => ?_, fun i hi => ?_⟩
  · rcases List.mem_or_eq_of_mem_set hu with h | h
    · exact o3 u h
    · rw [h]; exact h2.one2
  · rw [List.getElem_set, List.getElem_set]
    by_cases e : k = i
    · subst e
      rw [if_pos rfl, if_pos rfl]
      exact h2.setR2 hkd
    · rw [if_neg e, if_neg e]
      exact (o5 i (by simpa using hi)).setR2 hkd
theorem RB.cell {B : Nat} {W : World} {a : Option Addr} {n cap : Nat} {X : List (List UInt8)} {k : Nat} (h : RB B W (.slice a n cap) X) (hk : k < X.length) : ∃ g a' c', a = some ⟨g, 0, none⟩ ∧ B ≤ g ∧ g < W.heap.size ∧ W.cell? ⟨g, k, none⟩ = some (.slice a' X[k].length c') ∧ W.frozen? ⟨g, k, none⟩ = false ∧ Sr W a' c' X[k] := by
  obtain ⟨vs, h1, h2, h3, h4⟩ := h
  rcases h1.2 with ⟨e, h0⟩ | ⟨g, cap', cur, e, hb, hg, hnc, hcm, hsz, ht⟩
  · omega
  · injection e with e1 e2 e3
    subst e1 e3
    have hb4 := h4 k hk
    obtain ⟨a', c', ev⟩ := hb4.slice
    have hc := h1.cells (g := g) (by rfl) k (vs[k]'(by omega)) (by simp [h2, hk])
    rw [add0, ev] at hc
    rw [ev] at hb4
    have en : n = X.length := by omega
    subst en
    exact ⟨g, a', c', rfl, hb, heap_lt hg, hc, h1.frozenAt k, hb4.sr⟩
namespace Tl
/-- The first i lines backwards. -/
def rv (X : List (List UInt8)) (i : Nat) : List (List UInt8) := (X.take i).map List.reverse ++ X.drop i
theorem rv_zero (X : List (List UInt8)) : rv X 0 = X := by simp [rv]
theorem rv_len (X : List (List UInt8)) (i : Nat) : (rv X i).length = X.length := by
  simp [rv]; omega
theorem rv_all (X : List (List UInt8)) : rv X X.length = X.map List.reverse := by simp [rv]
theorem rv_at {X : List (List UInt8)} {i : Nat} (h : i < X.length) (h2 : i < (rv X i).length) : (rv X i)[i]'h2 = X[i] := by
  apply Option.some.inj
  rw [← List.getElem?_eq_getElem h2, ← List.getElem?_eq_getElem h]
  unfold rv
  rw [List.getElem?_append_right (by simp; omega), List.getElem?_drop]
  congr 1
  simp [Nat.min_eq_left (Nat.le_of_lt h)]
theorem rv_succ {X : List (List UInt8)} {i : Nat} (h : i < X.length) : rv X (i + 1) = (rv X i).set i X[i].reverse := by
  unfold rv
  rw [List.take_succ_eq_append_getElem h, List.map_append, List.set_append_right _ _ (by simp [Nat.min_eq_left (Nat.le_of_lt h)])]
  have hl : ((X.take i).map List.reverse).length = i := by simp [Nat.min_eq_left (Nat.le_of_lt h)]
  rw [hl, Nat.sub_self, List.drop_eq_getElem_cons h]
  simp only [List.map_cons, List.map_nil, List.set_cons_zero, List.append_assoc, List.singleton_append]
end Tl
theorem rev_drop {x : List UInt8} {j : Nat} (h : j < x.length) : (x.drop j).reverse = (x.drop (j + 1)).reverse ++ [x[j]] := by
  rw [List.drop_eq_getElem_cons h, List.reverse_cons]
set_option maxRecDepth 100000 in
set_option maxHeartbeats 8000000 in
theorem rRev (l : List UInt8) (a : Option Addr) (c : Nat) (hl : l.length ≤ 1048576) (w : World) (hS : Src w a l) : Calls Tryd.prog 14 #[.slice a l.length c] w fun e w' => ∃ v B, e = .returned v ∧ By B w' v (Tl.wh ((Tl.ls l).map List.reverse) (Tl.eb l)) ∧ Below w.heap.size w w' := by
  obtain ⟨iB, hiB, hb0, hb1, hb2⟩ := infoB
  have HL := hidA (rLinesB l a c (by omega) w hS)
  have hX := Tl.ls_le l
  have hXe := hidA (Tl.ls_each l (by omega))
  have hwl : (Tl.wh ((Tl.ls l).map List.reverse) (Tl.eb l)).length ≤ 2097155 := by
    have h1 := Tl.wh_len (Tl.eb l) ((Tl.ls l).map List.reverse)
    have h2 : ((Tl.ls l).map List.reverse).flatten.length = (Tl.ls l).flatten.length := by
      rw [List.length_flatten, List.length_flatten, List.map_map]
      congr 1
      apply List.map_congr_left
      intro x _
      simp
    have h3 : (Tl.ls l).flatten.length ≤ l.length := by
      have key : ∀ P : List (List UInt8 × Bool), (P.map (·.1)).flatten.length ≤ (P.map Tl.pc).flatten.length := by
        intro P
        induction P with
        | nil => simp
        | cons x r ih =>
          simp only [List.map_cons, List.flatten_cons, List.length_append, Tl.pc]
          omega
      have h4 := key (Tl.prs l)
      rw [Tl.flat_all] at h4
      exact h4
    rw [List.length_map] at h1
    omega
  have HWh := hidA (fun (W : World) (aX : Option Addr) (cX : Nat) (h : Rd W aX ((Tl.ls l).map List.reverse)) => (show Calls Tryd.prog 28 #[.slice aX (Tl.ls l).length cX, .bool (Tl.eb l)] W fun y w' => ∃ v, y = .returned v ∧ By W.heap.size w' v (Tl.wh ((Tl.ls l).map List.reverse) (Tl.eb l)) ∧ Below W.heap.size W w' from by
    have := rWhole ((Tl.ls l).map List.reverse) (Tl.eb l) aX cX (by rw [List.length_map]; omega) hwl W h
    rw [List.length_map] at this
    exact this))
  clear hS hwl
  generalize Tl.eb l = y at *
  generalize Tl.ls l = X at *
  go_enter Tryd.func14, Tryd.ntmps14
  go_upto_region 3 with (go_at_call 23; (with_reducible refine HL.out.mono ?_); rintro e w1 ⟨v, rfl, h1, b1⟩; obtain ⟨aX, cX, hv⟩ := h1.slice; subst hv; have HR0 := hidA h1; have HB0 := hidA b1; clear h1 b1 HL)
  go_loopw [16] (fun s16 W => ∃ (i : Nat), s16 = .int .i64 i ∧ i ≤ X.length ∧ Hid (RB w.heap.size W (.slice aX X.length cX) (Tl.rv X i)) ∧ Hid (Below w.heap.size w W)) (fun s16 _ => X.length - (intOf s16).toNat)
  case atStart => exact ⟨0, rfl, Nat.zero_le _, hidA (by show RB _ _ _ _; rw [Tl.rv_zero]; exact HR0.out), HB0⟩
  case round =>
    obtain ⟨i, rfl, hi, HR, HB⟩ := hrel
    clear HR0 HB0
    by_cases hiX : i < X.length
    · have hiR : i < (Tl.rv X i).length := by rw [Tl.rv_len]; exact hiX
      obtain ⟨g, a', c', rfl, hgB, hgw, hc, hf, hs⟩ := HR.out.cell hiR
      rw [Tl.rv_at hiX hiR] at hc hs
      have hxl := hXe.out i hiX
      have hwi : IntKind.i64.wrap ((i : Int) + 1) = ((i + 1 : Nat) : Int) := by rw [IntKind.wrap_i64]; omega
      have HSt := hidA (fun (W : World) (v : Value) (b : Below wr.heap.size wr W) (hv : By wr.heap.size W v X[i].reverse) => (show W.cell? ⟨g, i, none⟩ = some (.slice a' X[i].length c') ∧ W.frozen? ⟨g, i, none⟩ = false ∧ RB w.heap.size (W.setCell ⟨g, i, none⟩ v) (.slice (some ⟨g, 0, none⟩) X.length cX) (Tl.rv X (i + 1)) ∧ Below w.heap.size w (W.setCell ⟨g, i, none⟩ v) from by
        refine ⟨(b.cell (p := ⟨g, i, none⟩) hgw).trans hc, ?_, ?_, (HB.out.trans (b.mono HB.out.size)).setCell hgB _⟩
        · rw [← hf]; simp [World.frozen?, b.block g hgw]
        · rw [Tl.rv_succ hiX]
          exact (HR.out.grow b).store hiR (hv.mono HB.out.size)))
      have HSx := hidA hs
      clear hs hf HR
      generalize X[i] = x at *
      have hsub : IntKind.i64.wrap ((x.length : Int) - 1) = (x.length : Int) - 1 := by rw [IntKind.wrap_i64]; omega
      have HiX := hidA hiX
      go_upto_region 7 with fail
      obtain ⟨w1, hww⟩ : ∃ w1, w1 = wr := ⟨_, rfl⟩
      subst hww
      go_loopw [7, 8] (fun s7 s8 W => ∃ (k : Nat), k ≤ x.length ∧ s8 = .int .i64 ((k : Int) - 1) ∧ Hid (By w1.heap.size W s7 (x.drop k).reverse) ∧ Hid (Below w1.heap.size w1 W)) (fun _ s8 _ => (intOf s8 + 1).toNat)
      case atStart => exact ⟨x.length, Nat.le_refl _, rfl, hidA (by show By _ _ _ _; rw [List.drop_length]; exact By.nil _ _), hidA (Below.refl _ _)⟩
      case round =>
        obtain ⟨k, hk, rfl, HO, HBk⟩ := hrel
        obtain ⟨a3, c3, hv3⟩ := HO.out.slice
        subst hv3
        have hwsz := hidA HBk.out.size
        cases k with
        | zero =>
          rw [List.drop_zero, List.length_reverse] at HO
          obtain ⟨q1, q2, q3, q4⟩ := HSt.out wr _ HBk.out HO.out
          have Q3 := hidA q3
          have Q4 := hidA q4
          clear q3 q4
          rw [List.drop_zero, List.length_reverse]
          go_wp2_with fail
          exact ⟨⟨i + 1, by first | rfl | go_num, HiX.out, Q3, Q4⟩, by have := HiX.out; simp [intOf]; omega⟩
        | succ j =>
          have hj : j < x.length := by omega
          have hjj : (((j + 1 : Nat) : Int) - 1) = (j : Int) := by omega
          rw [hjj]
          obtain ⟨gs, os, ea, hgs, hcs0⟩ := HSx.out.src j hj
          subst ea
          have hcs : wr.cell? ⟨gs, os + j, none⟩ = some (.int .u8 (x[j]).toNat) := (HBk.out.cell (p := ⟨gs, os + j, none⟩) hgs).trans hcs0
          have hw1 : IntKind.i64.wrap ((j : Int) - 1) = (j : Int) - 1 := by rw [IntKind.wrap_i64]; omega
          have hrd := rev_drop hj
          have HRd := hidA hrd
          have HO3 := hidA HO.out.own
          have hpl : ((x.drop (j + 1)).reverse).length ≤ 1048577 := by rw [List.length_reverse, List.length_drop]; omega
          clear hcs0 hrd HSx
          generalize x[j] = z at *
          generalize (x.drop (j + 1)).reverse = p at *
          go_wp2_with (at_builtin; refine wpList_append_own_at _ rfl _ _ 22 rfl w1.heap.size 5 iB (.int .u8 0) 1 1 Tryd.underlying22 hiB hb0 hb1 hb2 rfl (by decide) _ _ _ rfl (HO3.out.alloc _) ⟨wr.heap.size, 0, none⟩ 1 1 [.int .u8 z.toNat] rfl rfl (cell_one_new _ _ _) (one_u8 _) (by unfold maxLen; omega) (by omega) (by have := hwsz.out; simp; omega) ?_; intro v2 w2 hown hg2 _ hat; have HO2 := hidA (By.app1 (x := z) hown); have HB2 : Hid (Below w1.heap.size w1 w2) := (HBk.out.alloc hwsz.out _).grown hg2 (by have := hwsz.out; simp; omega) (fun k hk => (HO3.out.lt k hk).1); clear hown hg2 hat)
          exact ⟨⟨j, by omega, rfl, by rw [HRd.out]; exact HO2, HB2⟩, by first | (simp [intOf]; omega) | simp [intOf]⟩
    · have ei : i = X.length := by omega
      rw [ei, Tl.rv_all] at HR
      rw [ei]
      have hkf : ¬ (X.length : Int) < (X.length : Int) := by omega
      clear hiX hi ei
      go_wp2_with (go_at_call 28; (with_reducible refine (HWh.out _ _ _ HR.out.rdr).mono ?_); rintro e w4 ⟨v, rfl, h1, b1⟩; have HO := hidA h1; have HBl := hidA (HB.out.trans (b1.mono HB.out.size)); have HBs := hidA (Below.refl wr.heap.size wr); clear h1 b1)
      go_ret
      exact ⟨_, wr.heap.size, rfl, HO.out, HBl.out⟩
end Go.Proofs.YtplnojohlbbalaaDoor
/- Rewriting a text line by line, by any teller: one line. Condition: lengths that fit. -/
namespace Go.Proofs.YtplnojohlbbalaaDoor
open Go.RowKit
attribute [local go_sem] ext_eq app_eq get_eq
/-- A row v that became v', beside a block m of another's: what lay elsewhere in w is as it was; v' lies where v lay, or in a new block. -/
structure Km (m : Option Nat) (w : World) (v : Value) (W : World) (v' : Value) : Prop where
  blk : ∀ b, b < w.heap.size → some b ≠ v.ownBlock → some b ≠ m → W.heap[b]? = w.heap[b]?
  own : v'.ownBlock = v.ownBlock ∨ ∃ k, w.heap.size ≤ k ∧ v'.ownBlock = some k
  size : w.heap.size ≤ W.heap.size
theorem Km.refl (m : Option Nat) (w : World) (v : Value) : Km m w v w v := ⟨fun _ _ _ _ => rfl, .inl rfl, Nat.le_refl _⟩
theorem Km.trans {m : Option Nat} {w W W2 : World} {v v' v2 : Value} (h : Km m w v W v') (h2 : Km m W v' W2 v2) : Km m w v W2 v2 := by
  refine ⟨fun b hb hr hm => ?_, ?_, Nat.le_trans h.size h2.size⟩
  · refine (h2.blk b (Nat.lt_of_lt_of_le hb h.size) (fun e => ?_) hm).trans (h.blk b hb hr hm)
    rcases h.own with h9 | ⟨k, hk, h9⟩
    · exact hr (by rw [e, h9])
    · rw [h9] at e
      injection e with e
      omega
  · rcases h2.own with h9 | ⟨k, hk, h9⟩
    · rcases h.own with h8 | ⟨k, hk, h8⟩
      · exact .inl (h9.trans h8)
      · exact .inr ⟨k, hk, h9.trans h8⟩
    · exact .inr ⟨k, Nat.le_trans h.size hk, h9⟩
theorem Km.alloc (m : Option Nat) (w : World) (v : Value) (o : Obj) : Km m w v (w.alloc o) v :=
  ⟨fun b hb _ _ => Lib.alloc_old w o b hb, .inl rfl, by simp⟩
theorem Km.grown (m : Option Nat) {w w' : World} {v v2 : Value} (hg : w.grownBy w' v.ownBlock) (hat : v2.ownBlock = v.ownBlock ∨ v2.ownBlock = some w.heap.size) : Km m w v w' v2 := by
  refine ⟨fun b hb hr _ => hg.block b hb hr, ?_, hg.size⟩
  rcases hat with h9 | h9
  · exact .inl h9
  · exact .inr ⟨_, Nat.le_refl _, h9⟩
theorem Km.cell {m : Option Nat} {w W : World} {v v' : Value} (h : Km m w v W v') {g j : Nat} {u : Value} (hc : w.cell? ⟨g, j, none⟩ = some u) (hr : some g ≠ v.ownBlock) (hm : some g ≠ m) : W.cell? ⟨g, j, none⟩ = some u := by
  have hlt : g < w.heap.size := block_lt_of_cell hc
  have e := h.blk g hlt hr hm
  rw [← hc]
  simp only [World.cell?, e]
theorem by_at {B : Nat} {W : World} {v : Value} {bs : List UInt8} (h : By B W v bs) {g : Nat} (e : v.ownBlock = some g) : B ≤ g ∧ g < W.heap.size := h.own.lt g e
/-- A teller: what it appends for the line x; I and J say of the world what it must ahead of the line and behind it. -/
def Tells (w0 : World) (F : FuncId) (pre post : Array Value) (B0 B : Nat) (m : Option Nat) (I J : World → Prop) (p x q : List UInt8) : Prop := ∀ (W : World) (v : Value) (a : Option Addr) (c : Nat), I W → By B W v p → Sr w0 a c x → Below w0.heap.size w0 W → B ≤ W.heap.size → Calls Tryd.prog F (pre ++ (#[v, .slice a x.length c] ++ post)) W fun e w' => ∃ v', e = .returned v' ∧ By B w' v' q ∧ J w' ∧ Below B0 W w' ∧ Km m W v w' v'
/-- What of a world neither a new block nor a row of bytes can change. -/
structure Firm (B : Nat) (I : World → Prop) : Prop where
  grow : ∀ W w2, I W → Below W.heap.size W w2 → I w2
  other : ∀ W w2 v n vs, I W → W.ownsRow B 5 1 v n vs → W.grownBy w2 v.ownBlock → I w2
theorem Firm.alloc {B : Nat} {I : World → Prop} (h : Firm B I) (W : World) (o : Obj) (hI : I W) : I (W.alloc o) := h.grow _ _ hI ((Below.refl _ _).alloc (Nat.le_refl _) o)
def nl (e : Bool) : List UInt8 := if e then [10] else []
set_option maxRecDepth 100000 in
set_option maxHeartbeats 2000000 in
theorem oRewrite1 (w0 : World) (F : FuncId) (pre post : Array Value) (B0 B gt : Nat) (m : Option Nat) (I J : World → Prop) (p x q : List UInt8) (hE : ∀ args w, (callFunc F args).run Tryd.prog w = .ok (.enter F args) w) (hT : Tells w0 F pre post B0 B m I J p x q) (hq : q.length ≤ 2 ^ 46) (hI0 : Firm B I) (hJ0 : Firm B J) (W : World) (v : Value) (a : Option Addr) (c : Nat) (e : Bool) (hI : I W) (hO : By B W v p) (hS : Sr w0 a c x) (hW : Below w0.heap.size w0 W) (hB : B ≤ W.heap.size) (hB0 : B0 ≤ B) (hm : ∀ k, m = some k → k < W.heap.size) (hg : W.cell? ⟨gt, 0, none⟩ = some (.func (.func F) pre post)) : Calls Tryd.prog 49 #[v, .agg #[.slice a x.length c, .bool e], .pointer (some ⟨gt, 0, none⟩)] W fun y w' => ∃ v', y = .returned v' ∧ By B w' v' (q ++ nl e) ∧ J w' ∧ Below B0 W w' ∧ Km m W v w' v' := by
  obtain ⟨iB, hiB, hb0, hb1, hb2⟩ := infoB
  unfold Tells at hT
  have HT := hidA hT
  have hbW := (Below.refl W.heap.size W).alloc (Nat.le_refl _) (.cells #[.slice a x.length c, .bool e] 42)
  have HBB := hidA ((Below.refl B0 W).alloc (Nat.le_trans hB0 hB) (.cells #[.slice a x.length c, .bool e] 42))
  have r0 : (W.alloc (.cells #[.slice a x.length c, .bool e] 42)).cell? ⟨W.heap.size, 0, none⟩ = some (.slice a x.length c) := World.cell?_alloc_at _ _ _ _ rfl
  have r1 : (W.alloc (.cells #[.slice a x.length c, .bool e] 42)).cell? ⟨W.heap.size, 1, none⟩ = some (.bool e) := World.cell?_alloc_at _ _ _ _ rfl
  have rg : (W.alloc (.cells #[.slice a x.length c, .bool e] 42)).cell? ⟨gt, 0, none⟩ = some (.func (.func F) pre post) := (hbW.cell (p := ⟨gt, 0, none⟩) (block_lt_of_cell hg)).trans hg
  have HI1 := hidA (hI0.alloc W (.cells #[.slice a x.length c, .bool e] 42) hI)
  have HO0 := hidA (hO.grow hbW)
  have HS0 := hidA hS
  have HW0 := hidA (hW.trans (hbW.mono hW.size))
  have HB1 := hidA (show B ≤ (W.alloc (.cells #[.slice a x.length c, .bool e] 42)).heap.size by simp; omega)
  have HK1 := hidA (Km.alloc m W v (.cells #[.slice a x.length c, .bool e] 42))
  have HR1 : Hid (∀ (w2 : World) (v' : Value), Km m (W.alloc (.cells #[.slice a x.length c, .bool e] 42)) v w2 v' → w2.cell? ⟨W.heap.size, 1, none⟩ = some (.bool e)) := fun w2 v' h => by
    refine h.cell r1 (fun e2 => ?_) (fun e2 => ?_)
    · have := (by_at hO e2.symm).2
      omega
    · have := hm _ e2.symm
      omega
  have HJ := hidA hJ0
  have HbS := hidA hB
  have HbS0 := hidA hB0
  clear hT hI hO hS hW hg hI0 hJ0 hbW hm
  go_enter Tryd.func49, Tryd.ntmps49
  go_upto_region 1 with fail
  generalize W.alloc (.cells #[.slice a x.length c, .bool e] 42) = W0 at *
  go_upto_region 2 with ((with_reducible refine (HT.out _ _ _ _ HI1.out HO0.out HS0.out HW0.out HB1.out).mono ?_); rintro e9 w2 ⟨v', rfl, h1, h2, h3, h4⟩; have r2 := HR1.out _ _ h4; have HO2 := hidA h1; have HJ2 := hidA h2; have HB2 := hidA (HBB.out.trans (h3.mono (Nat.le_refl _))); have HK2 := hidA (HK1.out.trans h4); have HS2 := hidA (Nat.le_trans HB1.out h4.size); clear h1 h2 h3 h4)
  obtain ⟨a3, c3, hv3⟩ := HO2.out.slice
  subst hv3
  cases e
  · go_wp2_with fail
    go_ret
    exact ⟨_, rfl, by unfold nl; rw [if_neg (by decide), List.append_nil]; exact HO2.out, HJ2.out, HB2.out, HK2.out⟩
  · have HO3 := hidA HO2.out.own
    go_wp2_with (at_builtin; refine wpList_append_own_at _ rfl _ _ 22 rfl B 5 iB (.int .u8 0) 1 1 Tryd.underlying22 hiB hb0 hb1 hb2 rfl (by decide) _ _ _ rfl (HO3.out.alloc _) ⟨w2.heap.size, 0, none⟩ 1 1 [.int .u8 10] rfl rfl (cell_one_new _ _ _) (one_u8 _) (by unfold maxLen; omega) (by omega) (by have := HS2.out; simp; omega) ?_; intro v4 w4 hown hg2 _ hat; have HO4 := hidA (By.app1 (x := 10) hown); have HJ4 := hidA (HJ.out.other _ _ _ _ _ (HJ.out.alloc _ _ HJ2.out) (HO3.out.alloc _) hg2); have HB4 : Hid (Below B0 W w4) := (HB2.out.alloc (Nat.le_trans (Nat.le_trans HbS0.out HbS.out) HB2.out.size) _).grown hg2 (by have := HS2.out; have := HbS0.out; simp; omega) (fun k hk => Nat.le_trans HbS0.out (HO3.out.lt k hk).1); have HK4 := hidA ((HK2.out.trans (Km.alloc m w2 _ _)).trans (Km.grown m hg2 hat)); clear hown hg2 hat)
    go_ret
    exact ⟨_, rfl, by unfold nl; rw [if_pos rfl]; exact HO4.out, HJ4.out, HB4.out, HK4.out⟩
end Go.Proofs.YtplnojohlbbalaaDoor
