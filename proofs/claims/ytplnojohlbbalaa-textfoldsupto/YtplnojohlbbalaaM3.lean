/- Several texts of this claim, one behind the other, in their order. -/
import Derived.Test.YtplnojohlbbalaaUb0
import Derived.Test.YtplnojohlbbalaaShelf
import Derived.Deep.DeepCutAuto
import Derived.Laws.Small
import Derived.Deep.RegionHeld3
/- The program's Cut at a line feed, size, first, ahead; the plain answer's first, behind; Clone. Condition: lengths that fit. -/
namespace Go.Proofs.Ytplnojohlbbalaa
open Go.RowKit
attribute [local go_sem] ext_eq app_eq get_eq
namespace Tl
theorem index_fx : ∀ l : List UInt8, Lib.indexByte l 10 = if fx l < l.length then (fx l : Int) else -1
  | [] => rfl
  | x :: l => by
    have ih := index_fx l
    by_cases h : x = 10
    · have e : fx (x :: l) = 0 := if_pos h
      rw [e]
      simp [Lib.indexByte, h]
    · have e : fx (x :: l) = fx l + 1 := if_neg h
      rw [e]
      have hb : (x == 10) = false := by simpa using h
      simp only [Lib.indexByte, hb, Bool.false_eq_true, if_false, ih, List.length_cons, Nat.add_lt_add_iff_right]
      by_cases hl : fx l < l.length
      · have : ¬ ((fx l : Int) == -1) = true := by simp
        rw [if_pos hl, if_pos hl, if_neg this]; simp
      · rw [if_neg hl, if_neg hl]; simp
def hd (l : List UInt8) : List UInt8 := l.take (fx l)
def tl (l : List UInt8) : List UInt8 := l.drop (fx l + 1)
def yes (l : List UInt8) : Bool := decide (fx l < l.length)
theorem hd_no {l : List UInt8} (h : ¬ fx l < l.length) : hd l = l := by have := fx_le l; exact List.take_of_length_le (by omega)
theorem tl_no {l : List UInt8} (h : ¬ fx l < l.length) : tl l = [] := List.drop_eq_nil_of_le (by omega)
theorem prs_step {l : List UInt8} (h : l ≠ []) : prs l = (hd l, yes l) :: prs (tl l) := by
  by_cases hf : fx l < l.length
  · rw [prs_yes hf]; unfold hd tl yes; rw [decide_eq_true hf]
  · rw [prs_no hf h, hd_no hf, tl_no hf]; unfold yes; rw [decide_eq_false hf]; rfl
end Tl
def nums (l : List UInt8) : List Int := l.map fun c => (c.toNat : Int)
theorem nums_len (l : List UInt8) : (nums l).length = l.length := by simp [nums]
theorem nums_of (l : List UInt8) : Lib.bytesOf (nums l) = l := by
  unfold Lib.bytesOf nums
  rw [List.map_map]
  conv => rhs; rw [← List.map_id l]
  apply List.map_congr_left
  intro c _
  simp
theorem nums_get (l : List UInt8) {j : Nat} (h : j < l.length) : (nums l).getD j 0 = (l[j].toNat : Int) := by simp [nums, List.getD, h]
theorem oIndexF (l : List UInt8) (a : Option Addr) (c g : Nat) (w : World) (hS : Sr w a c l) (hg : w.cell? ⟨g, 0, none⟩ = some (.int .u8 10)) : Calls Try.prog 58 #[.slice a l.length c, .slice (some ⟨g, 0, none⟩) 1 1] w fun e w' => e = .returned (.int .i64 (Lib.indexByte l 10)) ∧ w' = w := by
  cases a with
  | none =>
    have h0 : c = 0 := hS.nil rfl
    have hl : l = [] := List.length_eq_zero_iff.1 (by have := hS.le; omega)
    subst h0 hl
    exact Try.bytes_Index_one_nil g 0 1 10 w hg
  | some ad =>
    have h := Try.bytes_Index_one_at ad l.length c g 0 1 (nums l) 10 w (nums_len l) (fun i hi => by
      obtain ⟨g', o, e, _, hc⟩ := hS.src i hi
      cases e
      rw [nums_get l hi]
      rw [show (⟨g', o, none⟩ : Addr).add i = ⟨g', o + i, none⟩ by simp [Addr.add]]; exact hc) hg
    rw [nums_of] at h
    exact h
theorem oClone (l : List UInt8) (a : Option Addr) (c : Nat) (hl : l.length ≤ 140737488355328) (w : World) (hS : Sr w a c l) : Calls Try.prog 22 #[.slice a l.length c] w fun e w' => ∃ v, e = .returned v ∧ By w.heap.size w' v l ∧ Below w.heap.size w w' := by
  cases a with
  | none =>
    have h0 : c = 0 := hS.nil rfl
    have hl : l = [] := List.length_eq_zero_iff.1 (by have := hS.le; omega)
    subst h0 hl
    refine (Try.bytes_Clone_nil 0 0 w).mono ?_
    rintro e w' ⟨rfl, rfl⟩
    exact ⟨_, rfl, By.nil _ _, Below.refl _ _⟩
  | some ad =>
    refine (Try.bytes_Clone_at ad l.length c (nums l) w (nums_len l) hl (fun i hi => by
      obtain ⟨g, o, e, _, hc⟩ := hS.src i hi
      cases e
      rw [nums_get l hi]
      rw [show (⟨g, o, none⟩ : Addr).add i = ⟨g, o + i, none⟩ by simp [Addr.add]]; exact hc)).mono ?_
    rintro e w' ⟨v, rfl, ho, -, hB⟩
    refine ⟨v, rfl, ?_, hB⟩
    unfold By bCs
    rw [show (nums l).map (Value.int .u8) = l.map fun c => Value.int .u8 (c.toNat : Int) by simp [nums]] at ho
    exact ho
set_option maxRecDepth 100000 in
set_option maxHeartbeats 2000000 in
theorem oCutF (l : List UInt8) (a : Option Addr) (c g : Nat) (hl : l.length ≤ 2 ^ 60) (w : World) (hS : Sr w a c l) (hg : w.cell? ⟨g, 0, none⟩ = some (.int .u8 10)) : Calls Try.prog 50 #[.slice a l.length c, .slice (some ⟨g, 0, none⟩) 1 1] w fun e w' => ∃ a1 c1 a2 c2, e = .returned (.tuple #[.slice a1 (Tl.hd l).length c1, .slice a2 (Tl.tl l).length c2, .bool (Tl.yes l)]) ∧ Sr w' a1 c1 (Tl.hd l) ∧ Sr w' a2 c2 (Tl.tl l) ∧ Below w.heap.size w w' := by
  have HA := hidA (oIndexF l a c g w hS hg)
  rw [Tl.index_fx] at HA
  by_cases hf : Tl.fx l < l.length
  · rw [if_pos hf] at HA
    obtain ⟨hs1, hr1⟩ := sl_to hS (Tl.fx l) (Nat.le_of_lt hf)
    obtain ⟨a2, c2, hs2, hr2⟩ := sl_from hS (Tl.fx l + 1) hf
    have hy : Tl.yes l = true := decide_eq_true hf
    rw [hy]
    have H1 := hidA hr1
    have H2 := hidA hr2
    rw [show l.take (Tl.fx l) = Tl.hd l from rfl] at hs1 H1
    rw [show l.drop (Tl.fx l + 1) = Tl.tl l from rfl] at hs2 H2
    have hadd : IntKind.i64.wrap ((Tl.fx l : Int) + 1) = ((Tl.fx l + 1 : Nat) : Int) := by rw [IntKind.wrap_i64]; omega
    have hge : (0 : Int) ≤ (Tl.fx l : Int) := by omega
    have hs2' : ∀ W : World, (Instr.slice 22 (.slice a l.length c) (some (.int .i64 ((Tl.fx l : Int) + 1))) none none).run Try.prog W = .ok (.slice a2 (Tl.tl l).length c2) W := hs2
    generalize Tl.hd l = p at *
    generalize Tl.tl l = q at *
    generalize Tl.fx l = i at *
    clear hS hr1 hr2 hy hs2
    go_enter Try.func50, Try.ntmps50
    go_upto_region 3 with (go_at_call 58; with_reducible refine HA.out.mono ?_; rintro e w1 ⟨rfl, hw1⟩; rw [hw1]; clear hw1 w1)
    go_wp2_with (go_region)
    go_ret3
    exact ⟨_, _, _, _, rfl, H1.out.grow (bl_drew w 1), H2.out.grow (bl_drew w 1), bl_drew w 1⟩
  · rw [if_neg hf] at HA
    have hy : Tl.yes l = false := decide_eq_false hf
    rw [hy, Tl.hd_no hf, Tl.tl_no hf]
    have HS := hidA hS
    clear hS hy
    go_enter Try.func50, Try.ntmps50
    go_wp2_with (go_at_call 58; with_reducible refine HA.out.mono ?_; rintro e w1 ⟨rfl, hw1⟩; rw [hw1]; clear hw1 w1)
    go_ret3
    exact ⟨a, c, none, 0, rfl, HS.out, Sr.empty w, Below.refl _ _⟩
end Go.Proofs.Ytplnojohlbbalaa
/- The program's size, first, ahead, HeadBytes, TailBytes; the plain answer's first, behind, HeadBytes, TailBytes; Same. Condition: lengths that fit. -/
namespace Go.Proofs.Ytplnojohlbbalaa
open Go.RowKit
attribute [local go_sem] ext_eq app_eq get_eq
namespace Tl
/-- How many of all are the first n; how many stand ahead of the last n, or of the n-th one. -/
def fst (n : Int) (k : Nat) : Nat := if n < 0 then ((k : Int) + n).toNat else (min n k).toNat
def ahd (n : Int) (k : Nat) (fr : Bool) : Nat := if fr then (min (max n 1 - 1) k).toNat else k - (min (max n 0) k).toNat
theorem fst_le (n : Int) (k : Nat) : fst n k ≤ k := by unfold fst; split <;> omega
theorem ahd_le (n : Int) (k : Nat) (fr : Bool) : ahd n k fr ≤ k := by unfold ahd; split <;> omega
end Tl
theorem bl_drew1 (w : World) : Below w.heap.size w w.drew := bl_drew w 1
theorem bl_dr1 {w w5 : World} (b : Below w.drew.heap.size w.drew w5) : Below w.heap.size w w5 := (bl_drew w 1).trans b
theorem bl_drN {w w5 : World} {m : Nat} (b : Below (w.drewN m).heap.size (w.drewN m) w5) : Below w.heap.size w w5 := (bl_drew w m).trans b
set_option maxRecDepth 100000 in
set_option maxHeartbeats 1000000 in
theorem oSize (a : Option Addr) (n c : Nat) (e : Bool) (hn : n ≤ 2 ^ 60) (w : World) : Calls Try.prog 54 #[.agg #[.slice a n c, .bool e]] w fun x w' => x = .returned (.int .i64 ((n + if e then 1 else 0 : Nat) : Int)) ∧ Below w.heap.size w w' := by
  have hB := hidA ((Below.refl w.heap.size w).alloc (Nat.le_refl _) (.cells #[.slice a n c, .bool e] 60))
  have r0 : (w.alloc (.cells #[.slice a n c, .bool e] 60)).cell? ⟨w.heap.size, 0, none⟩ = some (.slice a n c) := World.cell?_alloc_at _ _ _ _ rfl
  have r1 : (w.alloc (.cells #[.slice a n c, .bool e] 60)).cell? ⟨w.heap.size, 1, none⟩ = some (.bool e) := World.cell?_alloc_at _ _ _ _ rfl
  have hw1 : IntKind.i64.wrap ((n : Int) + 1) = ((n + 1 : Nat) : Int) := by rw [IntKind.wrap_i64]; omega
  cases e
  all_goals
    go_enter Try.func54, Try.ntmps54
    go_wp2_with fail
    go_ret
    exact ⟨by first | rfl | simp, hB.out⟩
set_option maxRecDepth 100000 in
set_option maxHeartbeats 1000000 in
theorem oFirst (n : Int) (k : Nat) (hn : -(2 ^ 63) ≤ n ∧ n < 2 ^ 63) (hk : k ≤ 2 ^ 60) (w : World) : Calls Try.prog 42 #[.int .i64 n, .int .i64 k] w fun x w' => x = .returned (.int .i64 ((Tl.fst n k : Nat) : Int)) ∧ w' = w := by
  obtain ⟨R, HR⟩ : ∃ R : Nat, Hid (R = Tl.fst n k) := ⟨_, hidA rfl⟩
  rw [← HR.out]
  have hR := HR.out
  unfold Tl.fst at hR
  by_cases h0 : n < 0
  · rw [if_pos h0] at hR
    have hm : max ((k : Int) + n) 0 = (R : Int) := by omega
    clear HR hR
    go_enter Try.func42, Try.ntmps42
    go_wp2_with fail
    go_ret
    exact ⟨by first | rfl | simp, rfl⟩
  · rw [if_neg h0] at hR
    have hm : min n (k : Int) = (R : Int) := by omega
    clear HR hR
    go_enter Try.func42, Try.ntmps42
    go_wp2_with fail
    go_ret
    exact ⟨by first | rfl | simp, rfl⟩
end Go.Proofs.Ytplnojohlbbalaa
/- The program's ends, each of ints, and what each line adds. Condition: lengths that fit. -/
namespace Go.Proofs.Ytplnojohlbbalaa
open Go.RowKit
attribute [local go_sem] ext_eq app_eq get_eq
theorem stepAppend {P : Program} {ops : Array Oper} {o : Oper} {a : Act} {w : World} {K : Act → World → Prop} {Q : Exit → Act → World → Prop} {E : Prop} (hgd : o.guard = none) (s x : Operand) (t : TypeId)
    (ho : o.op = .call { callee := .builtin .append, args := #[s, x], argTypes := #[t, t] })
    (base : Nat) (e : TypeId) (i : TypeInfo) (z : Value) (size bytes : Nat) (ht : P.underlying t = some (.slice e)) (hi : P.info? e = some i) (hz : i.zero = some z)
    (hsize : i.size = size) (hby : i.bytes = bytes) (hzs : z.cells.size = size) (hsz : 0 < size)
    (v : Value) (n : Nat) (xs : List Value) (hs : a.eval s = v) (hown : w.ownsRow base e size v n xs)
    (ad : Addr) (m c : Nat) (news : List Value) (hx : a.eval x = .slice (some ad) m c) (hl : news.length = m * size) (hnews : ∀ j u, news[j]? = some u → w.cell? (ad.add j) = some u) (h1 : ∀ u ∈ news, u.oneCell' = true)
    (h63 : n + m ≤ maxLen) (hbytes : (n + m) * bytes ≤ 140737488355328) (hbase : base ≤ w.heap.size)
    (h : ∀ v' w', w'.ownsRow base e size v' (n + m) (xs ++ news) → w.grownBy w' v.ownBlock → K (a.put o.dst v') w') :
    if Region.wanted o (yielded ops a.tmps) = true then Oper.wp P o a w K Q else E := by
  rw [if_pos (by simp [Region.wanted, hgd])]
  obtain ⟨v', w', hr, h2, h3, _, _⟩ := run_append_own_at (P := P) w base t o.type e i z size bytes ht hi hz hsize hby hzs hsz v n xs hown ad m c news hl hnews h1 h63 hbytes hbase
  unfold Oper.wp execOp
  simp only [ho, resolve, invoke, builtin, Sem.run_bind, Sem.run_pure, Result.andThen_ok, List.map_toArray, List.map_cons, List.map_nil, hs, hx, hr]
  exact h v' w' h2 h3
theorem bl_ald {n : Nat} {w w1 : World} (b : Below n w w1) (h : n ≤ w1.heap.size) (o : Obj) : Below n w (w1.alloc o).drew := (b.alloc h o).trans ((bl_drew1 _).mono (by simp; omega))
theorem bl_app {B : Nat} {w w1 w2 : World} {o : Obj} {r : Option Nat} (b : Below w.heap.size w w1) (hB : B ≤ w.heap.size) (hg : ((w1.alloc o).drew).grownBy w2 r) (hlt : ∀ k, r = some k → B ≤ k) : Below B w w2 :=
  (bl_ald (b.mono hB) (Nat.le_trans hB b.size) o).grown hg (Nat.le_trans hB (Nat.le_trans b.size (by show w1.heap.size ≤ (w1.heap.push _).size; simp))) hlt
theorem sz_ald {B : Nat} {w1 : World} (h : B ≤ w1.heap.size) (o : Obj) : B ≤ ((w1.alloc o).drew).heap.size := Nat.le_trans h (by show w1.heap.size ≤ (w1.heap.push _).size; simp)
theorem cell_one_ald (w : World) (x : Value) (t : TypeId) : ∀ j u, [x][j]? = some u → ((w.alloc (.cells #[x] t)).drew).cell? ((⟨w.heap.size, 0, none⟩ : Addr).add j) = some u := cell_one_new w x t
def nC (l : List Nat) : List Value := l.map fun (k : Nat) => Value.int .i64 (k : Int)
theorem nC_len (l : List Nat) : (nC l).length = l.length := by simp [nC]
/-- A row of ints of one's own. -/
def Ir (B : Nat) (W : World) (v : Value) (l : List Nat) : Prop := W.ownsRow B 3 1 v l.length (nC l)
theorem Ir.own {B : Nat} {W : World} {v : Value} {l : List Nat} (h : Ir B W v l) : W.ownsRow B 3 1 v l.length (nC l) := h
theorem Ir.app1 {B : Nat} {W : World} {v : Value} {l : List Nat} {k : Nat} (h : W.ownsRow B 3 1 v (l.length + 1) (nC l ++ [.int .i64 k])) : Ir B W v (l ++ [k]) := by
  unfold Ir
  rw [List.length_append, show nC (l ++ [k]) = nC l ++ [.int .i64 k] by simp [nC]]; exact h
theorem Ir.grow {B : Nat} {W W' : World} {v : Value} {l : List Nat} (h : Ir B W v l) (b : Below W.heap.size W W') : Ir B W' v l := own_grow h b
theorem Ir.at {B : Nat} {W : World} {v : Value} {l : List Nat} (h : Ir B W v l) {j : Nat} (hj : j < l.length) : ∃ g cap, v = .slice (some ⟨g, 0, none⟩) l.length cap ∧ g < W.heap.size ∧ W.cell? ⟨g, j, none⟩ = some (.int .i64 l[j]) := by
  rcases h.2 with ⟨_, h0⟩ | ⟨g, cap, cur, rfl, hb, hg, h3⟩
  · omega
  · refine ⟨g, cap, rfl, heap_lt hg, ?_⟩
    have := h.cells (g := g) rfl j (.int .i64 l[j]) (by simp [nC, hj])
    rw [show (⟨g, j, none⟩ : Addr) = (⟨g, 0, none⟩ : Addr).add j by simp [Addr.add]]; exact this
theorem infoI : ∃ i, Try.prog.info? 3 = some i ∧ i.zero = some (.int .i64 0) ∧ i.size = 1 ∧ i.bytes = 8 := info_of (by kernel_rfl)
theorem one_i64 (x : Int) : ∀ u ∈ [Value.int .i64 x], u.oneCell' = true := by intro u hu; simp at hu; subst hu; rfl
theorem htI : Try.prog.underlying 67 = some (.slice (Try.prog.elem 67)) := by kernel_rfl
theorem szI (W : World) : (sizeOf (Try.prog.elem 67)).run Try.prog W = .ok 1 W := by
  have e : Try.prog.elem 67 = 3 := by kernel_rfl
  rw [e]
  simp [sizeOf, go_sem]
  rfl
end Go.Proofs.Ytplnojohlbbalaa
