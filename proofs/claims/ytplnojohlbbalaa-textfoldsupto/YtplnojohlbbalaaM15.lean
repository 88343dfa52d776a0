/- Several texts of this claim, one behind the other, in their order. -/
import Derived.Test.YtplnojohlbbalaaM14
import Derived.Laws.OwnMore
/- The program's Fold. Condition: a length that fits. -/
namespace Go.Proofs.Ytplnojohlbbalaa
open Go.RowKit
attribute [local go_sem] ext_eq app_eq get_eq
theorem firm_tt (B : Nat) : Firm B (fun _ => True) := ⟨fun _ _ _ _ => trivial, fun _ _ _ _ _ _ _ _ => trivial⟩
theorem ft_le (wd : Int) (ws : Bool) (l : List UInt8) (k : Nat) : (Fl.ft wd ws ((Tl.prs l).take k)).length ≤ 2 * l.length := by
  have h1 := Fl.ft_len wd ws ((Tl.prs l).take k)
  have h2 := congrArg List.length (Tl.flat_all l)
  rw [← List.take_append_drop k (Tl.prs l), List.map_append, List.flatten_append, List.length_append] at h2
  omega
theorem prs_le (l : List UInt8) (k : Nat) (h : k < (Tl.prs l).length) : (Tl.prs l)[k].1.length ≤ l.length := by
  have h2 := congrArg List.length (Tl.flat_all l)
  rw [← List.take_append_drop k (Tl.prs l), List.drop_eq_getElem_cons h, List.map_append, List.flatten_append, List.length_append, List.map_cons, List.flatten_cons, List.length_append] at h2
  have h3 : (Tl.prs l)[k].1.length ≤ (Tl.pc (Tl.prs l)[k]).length := by simp [Tl.pc]
  omega
theorem foldTelling (wd : Int) (ws : Bool) (l : List UInt8) (w0 : World) (B0 B : Nat) (hl : l.length ≤ 1048576) (hw0 : w0.heap.size ≤ B0) (hB0 : B0 ≤ B) : Telling w0 32 #[.agg #[.int .i64 wd, .bool ws]] #[] B0 B none (Tl.prs l) (fun _ _ => True) (fun k => Fl.ft wd ws ((Tl.prs l).take k)) (fun k => Fl.tl wd ws (Fl.ft wd ws ((Tl.prs l).take k)) ((Tl.prs l).getD k ([], false)).1) := by
  have hg : ∀ k (h : k < (Tl.prs l).length), (Tl.prs l).getD k ([], false) = (Tl.prs l)[k] := fun k h => by rw [List.getD_eq_getElem?_getD, List.getElem?_eq_getElem h]; rfl
  refine ⟨enters_of Try.func32 (by kernel_rfl) rfl, fun k h => ?_, fun k h => ?_, fun _ => firm_tt _, fun k h => ?_⟩
  · have h1 := ft_le wd ws l k
    have h2 := prs_le l k h
    show Tells _ _ _ _ _ _ _ _ _ _ _ (Fl.tl wd ws _ ((Tl.prs l).getD k ([], false)).1)
    rw [hg k h]
    exact foldTells w0 B0 B wd ws _ _ (by omega) hw0 hB0
  · show Fl.ft wd ws ((Tl.prs l).take (k + 1)) = _
    rw [List.take_succ_eq_append_getElem h, Fl.ft_snoc]
    show _ = Fl.tl wd ws _ ((Tl.prs l).getD k ([], false)).1 ++ _
    rw [hg k h]
  · have h1 := ft_le wd ws l k
    have h2 := prs_le l k h
    have h3 := Fl.tl_len wd ws (Fl.ft wd ws ((Tl.prs l).take k)) (Tl.prs l)[k].1
    show (Fl.tl wd ws _ ((Tl.prs l).getD k ([], false)).1).length ≤ _
    rw [hg k h]
    omega
set_option maxRecDepth 100000 in
set_option maxHeartbeats 1000000 in
theorem oFold (l : List UInt8) (a : Option Addr) (c : Nat) (wd : Int) (ws : Bool) (hl : l.length ≤ 1048576) (h1 : 1 ≤ wd) (w : World) (hS : Sr w a c l) : Calls Try.prog 19 #[.slice a l.length c, .int .i64 wd, .bool ws] w fun e w' => ∃ v, e = .returned (.tuple #[v, .int .i64 0]) ∧ By w.heap.size w' v (Fl.ft wd ws (Tl.prs l)) ∧ Below w.heap.size w w' := by
  have HE := hidA (fun (W : World) (b : Below w.heap.size w W) => (show Calls Try.prog 31 #[.slice a l.length c, .func (.func 32) #[.agg #[.int .i64 wd, .bool ws]] #[]] W fun e w' => ∃ v, e = .returned v ∧ By w.heap.size w' v (Fl.ft wd ws (Tl.prs l)) ∧ Below w.heap.size w w' from by
    have h := oRewrite 32 #[.agg #[.int .i64 wd, .bool ws]] #[] w.heap.size none (fun _ _ => True) _ _ l a c (by omega) w W (foldTelling wd ws l w w.heap.size (W.heap.size + 1) hl (Nat.le_refl _) (by have := b.size; omega)) rfl hS b trivial (Nat.le_refl _) b.size (fun _ h => by cases h)
    rw [List.take_length] at h
    refine h.mono fun e w' ⟨v, e1, g1, _, g2⟩ => ⟨v, e1, g1.mono b.size, b.trans g2⟩))
  have HB := hidA ((Below.refl w.heap.size w).alloc (Nat.le_refl _) (.cells #[.int .i64 wd, .bool ws] 53))
  have hn : ¬ wd < 1 := by omega
  clear hS
  generalize Fl.ft wd ws (Tl.prs l) = out at *
  go_enter Try.func19, Try.ntmps19
  go_wp2_with (go_at_call 31; (with_reducible refine (HE.out _ HB.out).mono ?_); rintro e w1 ⟨v, rfl, g1, g2⟩; have HO := hidA g1; have HB2 := hidA g2; clear g1 g2)
  go_ret2
  exact ⟨_, rfl, HO.out, HB2.out⟩
set_option maxRecDepth 100000 in
theorem oFoldN (l : List UInt8) (a : Option Addr) (c : Nat) (wd : Int) (ws : Bool) (h1 : wd < 1) (w : World) : Calls Try.prog 19 #[.slice a l.length c, .int .i64 wd, .bool ws] w fun e w' => e = .returned (.tuple #[.slice none 0 0, .int .i64 22]) ∧ w' = w := by
  go_enter Try.func19, Try.ntmps19
  go_wp2_with fail
  go_ret2
  exact ⟨rfl, rfl⟩
set_option maxRecDepth 100000 in
theorem rFoldN (l : List UInt8) (a : Option Addr) (c : Nat) (wd : Int) (ws : Bool) (h1 : wd < 1) (w : World) : Calls Try.prog 20 #[.slice a l.length c, .int .i64 wd, .bool ws] w fun e w' => e = .returned (.tuple #[.slice none 0 0, .int .i64 22]) ∧ w' = w := by
  go_enter Try.func20, Try.ntmps20
  go_wp2_with fail
  go_ret2
  exact ⟨rfl, rfl⟩
end Go.Proofs.Ytplnojohlbbalaa
/- What the plain answer's Fold keeps: what was told, and the piece that is open, in rows apart. No condition. -/
namespace Go.Proofs.Ytplnojohlbbalaa
open Go.RowKit
attribute [local go_sem] ext_eq app_eq get_eq
theorem run_srF (ty : TypeId) (w : World) (B : Nat) (v : Value) (p x : List UInt8) (a : Option Addr) (c : Nat) (hO : By B w v p) (hS : Sr w a c x) (h : p.length + x.length ≤ 2 ^ 46) (hB : B ≤ w.heap.size) : ∃ v' w', (Builtin.append_ #[22, 22] ty #[v, .slice a x.length c]).run Try.prog w = .ok v' w' ∧ By B w' v' (p ++ x) ∧ w.grownBy w' v.ownBlock ∧ (v'.ownBlock = v.ownBlock ∨ v'.ownBlock = some w.heap.size) := by
  obtain ⟨iB, hiB, hb0, hb1, hb2⟩ := infoB
  cases a with
  | none =>
    have h2 := hS.nil rfl
    have h3 := hS.le
    obtain rfl : x = [] := List.length_eq_zero_iff.1 (by omega)
    subst h2
    exact ⟨v, w, run_append_owned_none w B 22 ty 5 iB 1 Try.underlying22 hiB v p.length (bCs p) hO.own, by rw [List.append_nil]; exact hO, ⟨rfl, rfl, rfl, Nat.le_refl _, fun _ _ _ => rfl⟩, .inl rfl⟩
  | some ad =>
    obtain ⟨v', w', hr, h2, h3, _, h5⟩ := run_append_own_at (P := Try.prog) w B 22 ty 5 iB (.int .u8 0) 1 1 Try.underlying22 hiB hb0 hb1 hb2 rfl (by decide) v p.length (bCs p) hO.own ad x.length c (bCs x) (by rw [bCs_len, Nat.mul_one]) (fun j u hj => hS.src.cells_at j u hj) (bCs_one x) (by unfold maxLen; omega) (by omega) hB
    exact ⟨v', w', hr, By.of_app h2, h3, h5⟩
theorem wpList_srF {w : World} {ops : Array Oper} {rest : List Oper} {o : Oper} {a : Act} {Q : Exit → Act → World → Prop} (hgd : o.guard = none) (sl x : Operand)
    (ho : o.op = .call { callee := .builtin .append, args := #[sl, x], argTypes := #[22, 22] }) (B : Nat) (v : Value) (p D : List UInt8) (aD : Option Addr) (cD : Nat) (hs : a.eval sl = v) (hO : By B w v p) (hx : a.eval x = .slice aD D.length cD) (hS : Sr w aD cD D)
    (h : p.length + D.length ≤ 2 ^ 46) (hB : B ≤ w.heap.size)
    (hk : ∀ v' w', By B w' v' (p ++ D) → w.grownBy w' v.ownBlock → (v'.ownBlock = v.ownBlock ∨ v'.ownBlock = some w.heap.size) → wpList Try.prog ops Q rest (a.put o.dst v') w') : wpList Try.prog ops Q (o :: rest) a w := by
  refine wpList_plain hgd fun K hK => ?_
  obtain ⟨v', w', hr, h2, h3, h4⟩ := run_srF o.type w B v p D aD cD hO hS h hB
  unfold Oper.wp execOp
  simp only [ho, resolve, invoke, builtin, Sem.run_bind, Sem.run_pure, Result.andThen_ok, List.map_toArray, List.map_cons, List.map_nil, hs, hx, hr]
  exact hK _ _ (hk v' w' h2 h3 h4)
/-- One byte more behind a row of one's own. -/
theorem wpList_b1 {w : World} {ops : Array Oper} {rest : List Oper} {o : Oper} {a : Act} {Q : Exit → Act → World → Prop} (hgd : o.guard = none) (sl x : Operand)
    (ho : o.op = .call { callee := .builtin .append, args := #[sl, x], argTypes := #[22, 22] }) (B : Nat) (v : Value) (p : List UInt8) (z : UInt8) (hs : a.eval sl = v) (hO : By B w v p) (hx : a.eval x = .slice (some ⟨w.heap.size, 0, none⟩) 1 1)
    (h : p.length + 1 ≤ 2 ^ 46) (hB : B ≤ w.heap.size)
    (hk : ∀ v' w', By B w' v' (p ++ [z]) → (w.alloc (.cells #[.int .u8 z.toNat] 5)).grownBy w' v.ownBlock → wpList Try.prog ops Q rest (a.put o.dst v') w') : wpList Try.prog ops Q (o :: rest) a (w.alloc (.cells #[.int .u8 z.toNat] 5)) := by
  obtain ⟨iB, hiB, hb0, hb1, hb2⟩ := infoB
  refine wpList_append_own_at _ hgd sl x 22 ho B 5 iB (.int .u8 0) 1 1 Try.underlying22 hiB hb0 hb1 hb2 rfl (by decide) _ _ _ hs (hO.own.alloc _) ⟨w.heap.size, 0, none⟩ 1 1 [.int .u8 z.toNat] hx rfl (cell_one_new _ _ _) (one_u8 _) (by unfold maxLen; omega) (by omega) (by simp; omega) ?_
  intro v' w2 hown hg2 _ _
  exact hk v' w2 (By.app1 hown) hg2
theorem By.apart {B : Nat} {W w' : World} {v : Value} {x : List UInt8} (h : By B W v x) {row : Option Nat} (hg : W.grownBy w' row) (hr : ∀ r, row = Option.some r → r < B) : By B w' v x := by
  refine World.ownsRow.kept h.own hg ?_
  rcases h.2 with ⟨rfl, _⟩ | ⟨g, cap, cur, rfl, hb, hgb, _⟩
  · exact .inl rfl
  · refine .inr fun e' => ?_
    have := hr g (by simpa [Value.ownBlock] using e'.symm)
    omega
/-- What was told in a row v, and the open piece in a row u of newer blocks. -/
structure FS (B : Nat) (W1 W : World) (v u : Value) (D P : List UInt8) : Prop where
  at0 : ∃ W0, By B W0 v D ∧ Below B W1 W0 ∧ Below W0.heap.size W0 W ∧ By W0.heap.size W u P
theorem FS.bel {B : Nat} {W1 W : World} {v u : Value} {D P : List UInt8} (h : FS B W1 W v u D P) (hB : B ≤ W1.heap.size) : Below B W1 W := by
  obtain ⟨W0, h1, h2, h3, h4⟩ := h.at0
  exact h2.trans (h3.mono (Nat.le_trans hB h2.size))
theorem FS.told {B : Nat} {W1 W : World} {v u : Value} {D P : List UInt8} (h : FS B W1 W v u D P) : By B W v D := by
  obtain ⟨W0, h1, h2, h3, h4⟩ := h.at0
  exact h1.grow h3
theorem FS.pc {B : Nat} {W1 W : World} {v u : Value} {D P : List UInt8} (h : FS B W1 W v u D P) (hB : B ≤ W1.heap.size) : By B W u P := by
  obtain ⟨W0, h1, h2, h3, h4⟩ := h.at0
  exact h4.mono (Nat.le_trans hB h2.size)
theorem FS.start {B : Nat} {W1 W : World} {v : Value} {D : List UInt8} (h : By B W v D) (b : Below B W1 W) : FS B W1 W v (.slice none 0 0) D [] := ⟨W, h, b, Below.refl _ _, By.nil _ _⟩
/-- An empty piece in a new block, then bytes put behind it. -/
theorem FS.fresh {B : Nat} {W1 W w' : World} {v u : Value} {D P : List UInt8} (h : By B W v D) (b : Below B W1 W) (h2 : Below W.heap.size W w') (h3 : By W.heap.size w' u P) : FS B W1 w' v u D P := ⟨W, h, b, h2, h3⟩
/-- The piece grows by a byte. -/
theorem FS.byte {B : Nat} {W1 W w' : World} {v u u' : Value} {D P : List UInt8} {W0 : World} {z : UInt8} (h1 : By B W0 v D) (h2 : Below B W1 W0) (h3 : Below W0.heap.size W0 W) (h4 : By W0.heap.size W u P) (o : Obj) (h5 : By W0.heap.size w' u' (P ++ [z])) (hg : (W.alloc o).grownBy w' u.ownBlock) : FS B W1 w' v u' D (P ++ [z]) :=
  ⟨W0, h1, h2, (h3.alloc h3.size o).grown hg (Nat.le_trans h3.size (by simp)) (fun k hk => (h4.own.lt k hk).1), h5⟩
theorem By.ne {B : Nat} {W w' : World} {v : Value} {x : List UInt8} (h : By B W v x) {row : Option Nat} (hg : W.grownBy w' row) (hr : ∀ r, v.ownBlock = Option.some r → row ≠ Option.some r) : By B w' v x := by
  refine World.ownsRow.kept h.own hg ?_
  cases e : v.ownBlock with
  | none => exact .inl rfl
  | some r => exact .inr (fun e2 => hr r e e2.symm)
theorem FS.blocks {B : Nat} {W1 W : World} {v u : Value} {D P : List UInt8} (h : FS B W1 W v u D P) : ∀ r, u.ownBlock = some r → v.ownBlock ≠ some r ∧ r < W.heap.size := by
  obtain ⟨W0, h1, h2, h3, h4⟩ := h.at0
  intro r hr
  have h5 := h4.own.lt r hr
  refine ⟨fun e => ?_, h5.2⟩
  have := (h1.own.lt r e).2
  omega
namespace Fl
/-- What was told behind i lines. -/
def rho (wd : Int) (ws : Bool) (l : List UInt8) (i : Nat) : List UInt8 := ft wd ws ((Tl.prs l).take i)
theorem rho_step (wd : Int) (ws : Bool) (l : List UInt8) (i : Nat) (h : i < (Tl.ls l).length) : rho wd ws l (i + 1) = tl wd ws (rho wd ws l i) (Tl.ls l)[i] ++ nl (decide (i + 1 < (Tl.ls l).length) || Tl.eb l) := by
  have hl : (Tl.ls l).length = (Tl.prs l).length := by unfold Tl.ls; rw [List.length_map]
  have h' : i < (Tl.prs l).length := by omega
  have he := Tl.prs_ended l.length l (Nat.le_refl _) i h'
  have hx : (Tl.ls l)[i] = (Tl.prs l)[i].1 := List.getElem_map (f := fun x : List UInt8 × Bool => x.1) (l := Tl.prs l) (i := i) (h := by simpa using h')
  unfold rho
  rw [List.take_succ_eq_append_getElem h', ft_snoc, hx, hl, ← he]
end Fl
end Go.Proofs.Ytplnojohlbbalaa
