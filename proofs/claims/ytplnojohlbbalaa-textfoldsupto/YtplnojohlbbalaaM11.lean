/- Several texts of this claim, one behind the other, in their order. -/
import Derived.Test.YtplnojohlbbalaaM6
import Derived.Test.YtplnojohlbbalaaM10
import Derived.Test.YtplnojohlbbalaaM7
/- The plain answer's Rev. Condition: a length that fits. -/
namespace Go.Proofs.Ytplnojohlbbalaa
open Go.RowKit
attribute [local go_sem] ext_eq app_eq get_eq
theorem RB.rdr {B : Nat} {W : World} {a : Option Addr} {n c : Nat} {X : List (List UInt8)} (h : RB B W (.slice a n c) X) : Rd W a X := fun i hi => by
  obtain ⟨vs, h1, h2, h3, h4⟩ := h
  rcases h1.2 with ⟨e, h0⟩ | ⟨g, cap, cur, e, hb, hg, hnc, hcm, hsz, ht⟩
  · omega
  · injection e with e1 e2 e3
    subst e1 e3
    have hb4 := h4 i hi
    obtain ⟨a', c', ev⟩ := hb4.slice
    have := h1.cells (g := g) (by rfl) i (vs[i]'(by omega)) (by simp [h2, hi])
    rw [add0] at this
    rw [ev] at hb4
    exact ⟨g, 0, a', c', rfl, heap_lt hg, by rw [Nat.zero_add, this, ev], hb4.sr⟩
theorem By.setR2 {B' : Nat} {W : World} {v : Value} {x : List UInt8} (h : By B' W v x) {g j : Nat} {u : Value} (hk : ∃ c fz, W.heap[g]? = Option.some (.cells c 22 fz)) : By B' (W.setCell ⟨g, j, Option.none⟩ u) v x := by
  refine By.on h (fun g' c hc => ?_)
  obtain ⟨c2, f2, h2⟩ := hk
  exact heap_setCell_other W ⟨g, j, none⟩ g' u (by show g' ≠ g; exact heap_ne hc h2 (by decide))
theorem By.one2 {B : Nat} {W : World} {v : Value} {x : List UInt8} (h : By B W v x) : v.oneCell' = true := by
  obtain ⟨a, c, rfl⟩ := h.slice
  rfl
/-- One of the rows is replaced by another of one's own. -/
theorem RB.store {B : Nat} {W : World} {X : List (List UInt8)} {k g n cap : Nat} {v2 : Value} {y : List UInt8} (h : RB B W (.slice (some ⟨g, 0, none⟩) n cap) X) (_ : k < X.length) (h2 : By B W v2 y) : RB B (W.setCell ⟨g, k, none⟩ v2) (.slice (some ⟨g, 0, none⟩) n cap) (X.set k y) := by
  obtain ⟨vs, o1, o2, o3, o5⟩ := h
  have hkd := own_kind o1 g rfl
  have en : n = X.length := by
    obtain ⟨a', c', e'⟩ := own_slice o1
    injection e' with _ e2 _
  subst en
  refine ⟨vs.set k v2, by rw [List.length_set]; exact (o1.stored k v2).1, by simp [o2], fun u hu => ?_, fun i hi => ?_⟩
  · rcases List.mem_or_eq_of_mem_set hu with h | h
    · exact o3 u h
    · rw [h]; exact h2.one2
  · rw [List.getElem_set, List.getElem_set]
    by_cases e : k = i
    · subst e
      rw [if_pos rfl, if_pos rfl]
      exact h2.setR2 hkd
    · rw [if_neg e, if_neg e]
      exact (o5 i (by simpa using hi)).setR2 hkd
theorem RB.cell {B : Nat} {W : World} {a : Option Addr} {n cap : Nat} {X : List (List UInt8)} {k : Nat} (h : RB B W (.slice a n cap) X) (hk : k < X.length) : ∃ g a' c', a = some ⟨g, 0, none⟩ ∧ B ≤ g ∧ g < W.heap.size ∧ W.cell? ⟨g, k, none⟩ = some (.slice a' X[k].length c') ∧ W.frozen? ⟨g, k, none⟩ = false ∧ Sr W a' c' X[k] := by
  obtain ⟨vs, h1, h2, h3, h4⟩ := h
  rcases h1.2 with ⟨e, h0⟩ | ⟨g, cap', cur, e, hb, hg, hnc, hcm, hsz, ht⟩
  · omega
  · injection e with e1 e2 e3
    subst e1 e3
    have hb4 := h4 k hk
    obtain ⟨a', c', ev⟩ := hb4.slice
    have hc := h1.cells (g := g) (by rfl) k (vs[k]'(by omega)) (by simp [h2, hk])
    rw [add0, ev] at hc
    rw [ev] at hb4
    have en : n = X.length := by omega
    subst en
    exact ⟨g, a', c', rfl, hb, heap_lt hg, hc, h1.frozenAt k, hb4.sr⟩
namespace Tl
/-- The first i lines backwards. -/
def rv (X : List (List UInt8)) (i : Nat) : List (List UInt8) := (X.take i).map List.reverse ++ X.drop i
theorem rv_zero (X : List (List UInt8)) : rv X 0 = X := by simp [rv]
theorem rv_len (X : List (List UInt8)) (i : Nat) : (rv X i).length = X.length := by
  simp [rv]; omega
theorem rv_all (X : List (List UInt8)) : rv X X.length = X.map List.reverse := by simp [rv]
theorem rv_at {X : List (List UInt8)} {i : Nat} (h : i < X.length) (h2 : i < (rv X i).length) : (rv X i)[i]'h2 = X[i] := by
  apply Option.some.inj
  rw [← List.getElem?_eq_getElem h2, ← List.getElem?_eq_getElem h]
  unfold rv
  rw [List.getElem?_append_right (by simp; omega), List.getElem?_drop]
  congr 1
  simp [Nat.min_eq_left (Nat.le_of_lt h)]
theorem rv_succ {X : List (List UInt8)} {i : Nat} (h : i < X.length) : rv X (i + 1) = (rv X i).set i X[i].reverse := by
  unfold rv
  rw [List.take_succ_eq_append_getElem h, List.map_append, List.set_append_right _ _ (by simp [Nat.min_eq_left (Nat.le_of_lt h)])]
  have hl : ((X.take i).map List.reverse).length = i := by simp [Nat.min_eq_left (Nat.le_of_lt h)]
  rw [hl, Nat.sub_self, List.drop_eq_getElem_cons h]
  simp only [List.map_cons, List.map_nil, List.set_cons_zero, List.append_assoc, List.singleton_append]
end Tl
theorem rev_drop {x : List UInt8} {j : Nat} (h : j < x.length) : (x.drop j).reverse = (x.drop (j + 1)).reverse ++ [x[j]] := by
  rw [List.drop_eq_getElem_cons h, List.reverse_cons]
end Go.Proofs.Ytplnojohlbbalaa
/- Rewriting a text line by line, by any teller: one line. Condition: lengths that fit. -/
namespace Go.Proofs.Ytplnojohlbbalaa
open Go.RowKit
attribute [local go_sem] ext_eq app_eq get_eq
/-- A row v that became v', beside a block m of another's: what lay elsewhere in w is as it was; v' lies where v lay, or in a new block. -/
structure Km (m : Option Nat) (w : World) (v : Value) (W : World) (v' : Value) : Prop where
  blk : ∀ b, b < w.heap.size → some b ≠ v.ownBlock → some b ≠ m → W.heap[b]? = w.heap[b]?
  own : v'.ownBlock = v.ownBlock ∨ ∃ k, w.heap.size ≤ k ∧ v'.ownBlock = some k
  size : w.heap.size ≤ W.heap.size
theorem Km.refl (m : Option Nat) (w : World) (v : Value) : Km m w v w v := ⟨fun _ _ _ _ => rfl, .inl rfl, Nat.le_refl _⟩
theorem Km.trans {m : Option Nat} {w W W2 : World} {v v' v2 : Value} (h : Km m w v W v') (h2 : Km m W v' W2 v2) : Km m w v W2 v2 := by
  refine ⟨fun b hb hr hm => ?_, ?_, Nat.le_trans h.size h2.size⟩
  · refine (h2.blk b (Nat.lt_of_lt_of_le hb h.size) (fun e => ?_) hm).trans (h.blk b hb hr hm)
    rcases h.own with h9 | ⟨k, hk, h9⟩
    · exact hr (by rw [e, h9])
    · rw [h9] at e
      injection e with e
      omega
  · rcases h2.own with h9 | ⟨k, hk, h9⟩
    · rcases h.own with h8 | ⟨k, hk, h8⟩
      · exact .inl (h9.trans h8)
      · exact .inr ⟨k, hk, h9.trans h8⟩
    · exact .inr ⟨k, Nat.le_trans h.size hk, h9⟩
theorem Km.alloc (m : Option Nat) (w : World) (v : Value) (o : Obj) : Km m w v (w.alloc o) v :=
  ⟨fun b hb _ _ => Lib.alloc_old w o b hb, .inl rfl, by simp⟩
theorem Km.grown (m : Option Nat) {w w' : World} {v v2 : Value} (hg : w.grownBy w' v.ownBlock) (hat : v2.ownBlock = v.ownBlock ∨ v2.ownBlock = some w.heap.size) : Km m w v w' v2 := by
  refine ⟨fun b hb hr _ => hg.block b hb hr, ?_, hg.size⟩
  rcases hat with h9 | h9
  · exact .inl h9
  · exact .inr ⟨_, Nat.le_refl _, h9⟩
theorem Km.cell {m : Option Nat} {w W : World} {v v' : Value} (h : Km m w v W v') {g j : Nat} {u : Value} (hc : w.cell? ⟨g, j, none⟩ = some u) (hr : some g ≠ v.ownBlock) (hm : some g ≠ m) : W.cell? ⟨g, j, none⟩ = some u := by
  have hlt : g < w.heap.size := block_lt_of_cell hc
  have e := h.blk g hlt hr hm
  rw [← hc]
  simp only [World.cell?, e]
theorem by_at {B : Nat} {W : World} {v : Value} {bs : List UInt8} (h : By B W v bs) {g : Nat} (e : v.ownBlock = some g) : B ≤ g ∧ g < W.heap.size := h.own.lt g e
/-- A teller: what it appends for the line x; I and J say of the world what it must ahead of the line and behind it. -/
def Tells (w0 : World) (F : FuncId) (pre post : Array Value) (B0 B : Nat) (m : Option Nat) (I J : World → Prop) (p x q : List UInt8) : Prop := ∀ (W : World) (v : Value) (a : Option Addr) (c : Nat), I W → By B W v p → Sr w0 a c x → Below w0.heap.size w0 W → B ≤ W.heap.size → Calls Try.prog F (pre ++ (#[v, .slice a x.length c] ++ post)) W fun e w' => ∃ v', e = .returned v' ∧ By B w' v' q ∧ J w' ∧ Below B0 W w' ∧ Km m W v w' v'
/-- What of a world neither a new block nor a row of bytes can change. -/
structure Firm (B : Nat) (I : World → Prop) : Prop where
  grow : ∀ W w2, I W → Below W.heap.size W w2 → I w2
  other : ∀ W w2 v n vs, I W → W.ownsRow B 5 1 v n vs → W.grownBy w2 v.ownBlock → I w2
theorem Firm.alloc {B : Nat} {I : World → Prop} (h : Firm B I) (W : World) (o : Obj) (hI : I W) : I (W.alloc o) := h.grow _ _ hI ((Below.refl _ _).alloc (Nat.le_refl _) o)
def nl (e : Bool) : List UInt8 := if e then [10] else []
set_option maxRecDepth 100000 in
set_option maxHeartbeats 2000000 in
theorem oRewrite1 (w0 : World) (F : FuncId) (pre post : Array Value) (B0 B gt : Nat) (m : Option Nat) (I J : World → Prop) (p x q : List UInt8) (hE : ∀ args w, (callFunc F args).run Try.prog w = .ok (.enter F args) w) (hT : Tells w0 F pre post B0 B m I J p x q) (hq : q.length ≤ 2 ^ 46) (hI0 : Firm B I) (hJ0 : Firm B J) (W : World) (v : Value) (a : Option Addr) (c : Nat) (e : Bool) (hI : I W) (hO : By B W v p) (hS : Sr w0 a c x) (hW : Below w0.heap.size w0 W) (hB : B ≤ W.heap.size) (hB0 : B0 ≤ B) (hm : ∀ k, m = some k → k < W.heap.size) (hg : W.cell? ⟨gt, 0, none⟩ = some (.func (.func F) pre post)) : Calls Try.prog 45 #[v, .agg #[.slice a x.length c, .bool e], .pointer (some ⟨gt, 0, none⟩)] W fun y w' => ∃ v', y = .returned v' ∧ By B w' v' (q ++ nl e) ∧ J w' ∧ Below B0 W w' ∧ Km m W v w' v' := by
  obtain ⟨iB, hiB, hb0, hb1, hb2⟩ := infoB
  unfold Tells at hT
  have HT := hidA hT
  have hbW := (Below.refl W.heap.size W).alloc (Nat.le_refl _) (.cells #[.slice a x.length c, .bool e] 60)
  have HBB := hidA ((Below.refl B0 W).alloc (Nat.le_trans hB0 hB) (.cells #[.slice a x.length c, .bool e] 60))
  have r0 : (W.alloc (.cells #[.slice a x.length c, .bool e] 60)).cell? ⟨W.heap.size, 0, none⟩ = some (.slice a x.length c) := World.cell?_alloc_at _ _ _ _ rfl
  have r1 : (W.alloc (.cells #[.slice a x.length c, .bool e] 60)).cell? ⟨W.heap.size, 1, none⟩ = some (.bool e) := World.cell?_alloc_at _ _ _ _ rfl
  have rg : (W.alloc (.cells #[.slice a x.length c, .bool e] 60)).cell? ⟨gt, 0, none⟩ = some (.func (.func F) pre post) := (hbW.cell (p := ⟨gt, 0, none⟩) (block_lt_of_cell hg)).trans hg
  have HI1 := hidA (hI0.alloc W (.cells #[.slice a x.length c, .bool e] 60) hI)
  have HO0 := hidA (hO.grow hbW)
  have HS0 := hidA hS
  have HW0 := hidA (hW.trans (hbW.mono hW.size))
  have HB1 := hidA (show B ≤ (W.alloc (.cells #[.slice a x.length c, .bool e] 60)).heap.size by simp; omega)
  have HK1 := hidA (Km.alloc m W v (.cells #[.slice a x.length c, .bool e] 60))
  have HR1 : Hid (∀ (w2 : World) (v' : Value), Km m (W.alloc (.cells #[.slice a x.length c, .bool e] 60)) v w2 v' → w2.cell? ⟨W.heap.size, 1, none⟩ = some (.bool e)) := fun w2 v' h => by
    refine h.cell r1 (fun e2 => ?_) (fun e2 => ?_)
    · have := (by_at hO e2.symm).2
      omega
    · have := hm _ e2.symm
      omega
  have HJ := hidA hJ0
  have HbS := hidA hB
  have HbS0 := hidA hB0
  clear hT hI hO hS hW hg hI0 hJ0 hbW hm
  go_enter Try.func45, Try.ntmps45
  go_upto_region 1 with fail
  generalize W.alloc (.cells #[.slice a x.length c, .bool e] 60) = W0 at *
  go_upto_region 2 with ((with_reducible refine (HT.out _ _ _ _ HI1.out HO0.out HS0.out HW0.out HB1.out).mono ?_); rintro e9 w2 ⟨v', rfl, h1, h2, h3, h4⟩; have r2 := HR1.out _ _ h4; have HO2 := hidA h1; have HJ2 := hidA h2; have HB2 := hidA (HBB.out.trans (h3.mono (Nat.le_refl _))); have HK2 := hidA (HK1.out.trans h4); have HS2 := hidA (Nat.le_trans HB1.out h4.size); clear h1 h2 h3 h4)
  obtain ⟨a3, c3, hv3⟩ := HO2.out.slice
  subst hv3
  cases e
  · go_wp2_with fail
    go_ret
    exact ⟨_, rfl, by unfold nl; rw [if_neg (by decide), List.append_nil]; exact HO2.out, HJ2.out, HB2.out, HK2.out⟩
  · have HO3 := hidA HO2.out.own
    go_wp2_with (at_builtin; refine wpList_append_own_at _ rfl _ _ 22 rfl B 5 iB (.int .u8 0) 1 1 Try.underlying22 hiB hb0 hb1 hb2 rfl (by decide) _ _ _ rfl (HO3.out.alloc _) ⟨w2.heap.size, 0, none⟩ 1 1 [.int .u8 10] rfl rfl (cell_one_new _ _ _) (one_u8 _) (by unfold maxLen; omega) (by omega) (by have := HS2.out; simp; omega) ?_; intro v4 w4 hown hg2 _ hat; have HO4 := hidA (By.app1 (x := 10) hown); have HJ4 := hidA (HJ.out.other _ _ _ _ _ (HJ.out.alloc _ _ HJ2.out) (HO3.out.alloc _) hg2); have HB4 : Hid (Below B0 W w4) := (HB2.out.alloc (Nat.le_trans (Nat.le_trans HbS0.out HbS.out) HB2.out.size) _).grown hg2 (by have := HS2.out; have := HbS0.out; simp; omega) (fun k hk => Nat.le_trans HbS0.out (HO3.out.lt k hk).1); have HK4 := hidA ((HK2.out.trans (Km.alloc m w2 _ _)).trans (Km.grown m hg2 hat)); clear hown hg2 hat)
    go_ret
    exact ⟨_, rfl, by unfold nl; rw [if_pos rfl]; exact HO4.out, HJ4.out, HB4.out, HK4.out⟩
end Go.Proofs.Ytplnojohlbbalaa
/- Folding, plainly: columns, where a piece is broken, what is told of a line and of all lines. No condition. -/
namespace Go.Proofs.Ytplnojohlbbalaa
namespace Fl
/-- The column behind a byte. -/
def col (n : Nat) (c : UInt8) : Nat := if c = 9 then n / 8 * 8 + 8 else if c = 8 then n - 1 else if c = 13 then 0 else n + 1
theorem col_le (n : Nat) (c : UInt8) : col n c ≤ n + 8 := by
  unfold col
  split
  · omega
  · split
    · omega
    · split <;> omega
/-- The column behind a piece. -/
def ce (x : List UInt8) : Nat := x.foldl col 0
theorem ce_snoc (x : List UInt8) (c : UInt8) : ce (x ++ [c]) = col (ce x) c := by simp [ce, List.foldl_append]
theorem ce_take {x : List UInt8} {i : Nat} (h : i < x.length) : ce (x.take (i + 1)) = col (ce (x.take i)) x[i] := by
  rw [List.take_succ_eq_append_getElem h, ce_snoc]
theorem ce_from (x : List UInt8) : ∀ n, x.foldl col n ≤ n + 8 * x.length := by
  induction x with
  | nil => intro n; simp
  | cons c r ih =>
    intro n
    have h1 := ih (col n c)
    have h2 := col_le n c
    simp only [List.foldl_cons, List.length_cons]
    omega
theorem ce_le (x : List UInt8) : ce x ≤ 8 * x.length := by have := ce_from x 0; unfold ce; omega
def bl (c : UInt8) : Bool := decide (c = 32 ∨ c = 9)
/-- Where a piece is broken, as far as its first n bytes tell. -/
def cs (ws : Bool) (P : List UInt8) : Nat → Nat
  | 0 => P.length
  | n + 1 => if (ws && bl (P.getD n 0)) = true then n + 1 else cs ws P n
def cut (ws : Bool) (P : List UInt8) : Nat := cs ws P P.length
theorem cs_le (ws : Bool) (P : List UInt8) : ∀ n, n ≤ P.length → cs ws P n ≤ P.length
  | 0, _ => Nat.le_refl _
  | n + 1, h => by
    unfold cs
    split
    · exact h
    · exact cs_le ws P n (by omega)
theorem cs_pos (ws : Bool) {P : List UInt8} (hP : P ≠ []) : ∀ n, 0 < cs ws P n
  | 0 => List.length_pos_iff.2 hP
  | n + 1 => by
    unfold cs
    split
    · omega
    · exact cs_pos ws hP n
theorem cut_le (ws : Bool) (P : List UInt8) : cut ws P ≤ P.length := cs_le ws P _ (Nat.le_refl _)
theorem cut_pos (ws : Bool) {P : List UInt8} (hP : P ≠ []) : 0 < cut ws P := cs_pos ws hP _
theorem cs_false (P : List UInt8) : ∀ n, cs false P n = P.length
  | 0 => rfl
  | n + 1 => by unfold cs; rw [if_neg (by simp)]; exact cs_false P n
/-- What was told, and the piece that is open: as long as the next byte c does not fit, the piece is broken. -/
def brk (wd : Int) (ws : Bool) (c : UInt8) (D P : List UInt8) : List UInt8 × List UInt8 :=
  if h : 0 < ce P ∧ wd < (col (ce P) c : Int) then brk wd ws c (D ++ P.take (cut ws P) ++ [10]) (P.drop (cut ws P)) else (D, P)
termination_by P.length
decreasing_by
  have hP : P ≠ [] := fun e => by subst e; simp [ce] at h
  have := cut_pos ws hP
  have := List.length_pos_iff.2 hP
  rw [List.length_drop]
  omega
theorem brk_yes {wd : Int} {ws : Bool} {c : UInt8} {D P : List UInt8} (h : 0 < ce P ∧ wd < (col (ce P) c : Int)) : brk wd ws c D P = brk wd ws c (D ++ P.take (cut ws P) ++ [10]) (P.drop (cut ws P)) := by
  rw [brk, dif_pos h]
theorem brk_no {wd : Int} {ws : Bool} {c : UInt8} {D P : List UInt8} (h : ¬ (0 < ce P ∧ wd < (col (ce P) c : Int))) : brk wd ws c D P = (D, P) := by
  rw [brk, dif_neg h]
theorem ce_pos {P : List UInt8} (h : 0 < ce P) : P ≠ [] := fun e => by subst e; simp [ce] at h
theorem brk_len (wd : Int) (ws : Bool) (c : UInt8) : ∀ (n : Nat) (D P : List UInt8), P.length ≤ n → (brk wd ws c D P).1.length + 2 * (brk wd ws c D P).2.length ≤ D.length + 2 * P.length := by
  intro n
  induction n with
  | zero =>
    intro D P h
    obtain rfl : P = [] := List.length_eq_zero_iff.1 (by omega)
    rw [brk_no (by simp [ce])]
    exact Nat.le_refl _
  | succ n ih =>
    intro D P h
    by_cases hc : 0 < ce P ∧ wd < (col (ce P) c : Int)
    · have h1 := cut_pos ws (ce_pos hc.1)
      have h2 := cut_le ws P
      rw [brk_yes hc]
      refine Nat.le_trans (ih _ _ (by rw [List.length_drop]; omega)) ?_
      simp only [List.length_append, List.length_take, List.length_drop, List.length_cons, List.length_nil]
      omega
    · rw [brk_no hc]
      exact Nat.le_refl _
/-- One byte more. -/
def stp (wd : Int) (ws : Bool) (s : List UInt8 × List UInt8) (c : UInt8) : List UInt8 × List UInt8 := ((brk wd ws c s.1 s.2).1, (brk wd ws c s.1 s.2).2 ++ [c])
/-- The line x behind what was told. -/
def fo (wd : Int) (ws : Bool) (D x : List UInt8) : List UInt8 × List UInt8 := x.foldl (stp wd ws) (D, [])
theorem fo_take {wd : Int} {ws : Bool} {D x : List UInt8} {i : Nat} (h : i < x.length) : fo wd ws D (x.take (i + 1)) = stp wd ws (fo wd ws D (x.take i)) x[i] := by
  unfold fo
  rw [List.take_succ_eq_append_getElem h, List.foldl_append]; rfl
theorem fo_from (wd : Int) (ws : Bool) (x : List UInt8) : ∀ s : List UInt8 × List UInt8, (x.foldl (stp wd ws) s).1.length + 2 * (x.foldl (stp wd ws) s).2.length ≤ s.1.length + 2 * s.2.length + 2 * x.length := by
  induction x with
  | nil => intro s; simp
  | cons c r ih =>
    intro s
    have h1 := ih (stp wd ws s c)
    have h2 := brk_len wd ws c s.2.length s.1 s.2 (Nat.le_refl _)
    simp only [List.foldl_cons, List.length_cons]
    have h3 : (stp wd ws s c).1.length + 2 * (stp wd ws s c).2.length = (brk wd ws c s.1 s.2).1.length + 2 * (brk wd ws c s.1 s.2).2.length + 2 := by simp [stp]; omega
    omega
theorem fo_len (wd : Int) (ws : Bool) (D x : List UInt8) : (fo wd ws D x).1.length + 2 * (fo wd ws D x).2.length ≤ D.length + 2 * x.length := by
  have := fo_from wd ws x (D, [])
  unfold fo
  simp only [List.length_nil, Nat.mul_zero, Nat.add_zero] at this
  exact this
/-- What is told behind a line. -/
def tl (wd : Int) (ws : Bool) (D x : List UInt8) : List UInt8 := (fo wd ws D x).1 ++ (fo wd ws D x).2
theorem tl_len (wd : Int) (ws : Bool) (D x : List UInt8) : (tl wd ws D x).length ≤ D.length + 2 * x.length := by
  have := fo_len wd ws D x
  unfold tl
  rw [List.length_append]; omega
/-- What is told of all lines. -/
def ft (wd : Int) (ws : Bool) (A : List (List UInt8 × Bool)) : List UInt8 := A.foldl (fun D y => tl wd ws D y.1 ++ nl y.2) []
theorem ft_snoc (wd : Int) (ws : Bool) (A : List (List UInt8 × Bool)) (y : List UInt8 × Bool) : ft wd ws (A ++ [y]) = tl wd ws (ft wd ws A) y.1 ++ nl y.2 := by
  unfold ft
  rw [List.foldl_append]; rfl
theorem ft_from (wd : Int) (ws : Bool) (A : List (List UInt8 × Bool)) : ∀ D : List UInt8, (A.foldl (fun D y => tl wd ws D y.1 ++ nl y.2) D).length ≤ D.length + 2 * (A.map Tl.pc).flatten.length := by
  induction A with
  | nil => intro D; simp
  | cons y r ih =>
    intro D
    have h1 := ih (tl wd ws D y.1 ++ nl y.2)
    have h2 := tl_len wd ws D y.1
    have h3 : (nl y.2).length + y.1.length ≤ (Tl.pc y).length := by
      unfold nl Tl.pc
      split <;> simp_all <;> omega
    simp only [List.foldl_cons, List.map_cons, List.flatten_cons, List.length_append] at h1 ⊢
    omega
theorem ft_len (wd : Int) (ws : Bool) (A : List (List UInt8 × Bool)) : (ft wd ws A).length ≤ 2 * (A.map Tl.pc).flatten.length := by
  have := ft_from wd ws A []
  simpa [ft] using this
end Fl
end Go.Proofs.Ytplnojohlbbalaa
