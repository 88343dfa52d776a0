/- The program's ends, each of ints, and what each line adds. Condition: lengths that fit. -/
import Derived.Test.YtplnojohlbbalaaUb2
import Derived.Deep.RegionHeld3
namespace Go.Proofs.Ytplnojohlbbalaa
open Go.RowKit
attribute [local go_sem] ext_eq app_eq get_eq
theorem stepAppend {P : Program} {ops : Array Oper} {o : Oper} {a : Act} {w : World} {K : Act → World → Prop} {Q : Exit → Act → World → Prop} {E : Prop} (hgd : o.guard = none) (s x : Operand) (t : TypeId)
    (ho : o.op = .call { callee := .builtin .append, args := #[s, x], argTypes := #[t, t] })
    (base : Nat) (e : TypeId) (i : TypeInfo) (z : Value) (size bytes : Nat) (ht : P.underlying t = some (.slice e)) (hi : P.info? e = some i) (hz : i.zero = some z)
    (hsize : i.size = size) (hby : i.bytes = bytes) (hzs : z.cells.size = size) (hsz : 0 < size)
    (v : Value) (n : Nat) (xs : List Value) (hs : a.eval s = v) (hown : w.ownsRow base e size v n xs)
    (ad : Addr) (m c : Nat) (news : List Value) (hx : a.eval x = .slice (some ad) m c) (hl : news.length = m * size) (hnews : ∀ j u, news[j]? = some u → w.cell? (ad.add j) = some u) (h1 : ∀ u ∈ news, u.oneCell' = true)
    (h63 : n + m ≤ maxLen) (hbytes : (n + m) * bytes ≤ 140737488355328) (hbase : base ≤ w.heap.size)
    (h : ∀ v' w', w'.ownsRow base e size v' (n + m) (xs ++ news) → w.grownBy w' v.ownBlock → K (a.put o.dst v') w') :
    if Region.wanted o (yielded ops a.tmps) = true then Oper.wp P o a w K Q else E := by
  rw [if_pos (by simp [Region.wanted, hgd])]
  obtain ⟨v', w', hr, h2, h3, _, _⟩ := run_append_own_at (P := P) w base t o.type e i z size bytes ht hi hz hsize hby hzs hsz v n xs hown ad m c news hl hnews h1 h63 hbytes hbase
  unfold Oper.wp execOp
  simp only [ho, resolve, invoke, builtin, Sem.run_bind, Sem.run_pure, Result.andThen_ok, List.map_toArray, List.map_cons, List.map_nil, hs, hx, hr]
  exact h v' w' h2 h3
theorem bl_ald {n : Nat} {w w1 : World} (b : Below n w w1) (h : n ≤ w1.heap.size) (o : Obj) : Below n w (w1.alloc o).drew := (b.alloc h o).trans ((bl_drew1 _).mono (by simp; omega))
theorem bl_app {B : Nat} {w w1 w2 : World} {o : Obj} {r : Option Nat} (b : Below w.heap.size w w1) (hB : B ≤ w.heap.size) (hg : ((w1.alloc o).drew).grownBy w2 r) (hlt : ∀ k, r = some k → B ≤ k) : Below B w w2 :=
  (bl_ald (b.mono hB) (Nat.le_trans hB b.size) o).grown hg (Nat.le_trans hB (Nat.le_trans b.size (by show w1.heap.size ≤ (w1.heap.push _).size; simp))) hlt
theorem sz_ald {B : Nat} {w1 : World} (h : B ≤ w1.heap.size) (o : Obj) : B ≤ ((w1.alloc o).drew).heap.size := Nat.le_trans h (by show w1.heap.size ≤ (w1.heap.push _).size; simp)
theorem cell_one_ald (w : World) (x : Value) (t : TypeId) : ∀ j u, [x][j]? = some u → ((w.alloc (.cells #[x] t)).drew).cell? ((⟨w.heap.size, 0, none⟩ : Addr).add j) = some u := cell_one_new w x t
def nC (l : List Nat) : List Value := l.map fun (k : Nat) => Value.int .i64 (k : Int)
theorem nC_len (l : List Nat) : (nC l).length = l.length := by simp [nC]
/-- A row of ints of one's own. -/
def Ir (B : Nat) (W : World) (v : Value) (l : List Nat) : Prop := W.ownsRow B 3 1 v l.length (nC l)
theorem Ir.own {B : Nat} {W : World} {v : Value} {l : List Nat} (h : Ir B W v l) : W.ownsRow B 3 1 v l.length (nC l) := h
theorem Ir.app1 {B : Nat} {W : World} {v : Value} {l : List Nat} {k : Nat} (h : W.ownsRow B 3 1 v (l.length + 1) (nC l ++ [.int .i64 k])) : Ir B W v (l ++ [k]) := by
  unfold Ir
  rw [List.length_append, show nC (l ++ [k]) = nC l ++ [.int .i64 k] by simp [nC]]; exact h
theorem Ir.grow {B : Nat} {W W' : World} {v : Value} {l : List Nat} (h : Ir B W v l) (b : Below W.heap.size W W') : Ir B W' v l := own_grow h b
theorem Ir.at {B : Nat} {W : World} {v : Value} {l : List Nat} (h : Ir B W v l) {j : Nat} (hj : j < l.length) : ∃ g cap, v = .slice (some ⟨g, 0, none⟩) l.length cap ∧ g < W.heap.size ∧ W.cell? ⟨g, j, none⟩ = some (.int .i64 l[j]) := by
  rcases h.2 with ⟨_, h0⟩ | ⟨g, cap, cur, rfl, hb, hg, h3⟩
  · omega
  · refine ⟨g, cap, rfl, heap_lt hg, ?_⟩
    have := h.cells (g := g) rfl j (.int .i64 l[j]) (by simp [nC, hj])
    rw [show (⟨g, j, none⟩ : Addr) = (⟨g, 0, none⟩ : Addr).add j by simp [Addr.add]]; exact this
theorem infoI : ∃ i, Try.prog.info? 3 = some i ∧ i.zero = some (.int .i64 0) ∧ i.size = 1 ∧ i.bytes = 8 := info_of (by kernel_rfl)
theorem one_i64 (x : Int) : ∀ u ∈ [Value.int .i64 x], u.oneCell' = true := by intro u hu; simp at hu; subst hu; rfl
theorem htI : Try.prog.underlying 67 = some (.slice (Try.prog.elem 67)) := by kernel_rfl
theorem szI (W : World) : (sizeOf (Try.prog.elem 67)).run Try.prog W = .ok 1 W := by
  have e : Try.prog.elem 67 = 3 := by kernel_rfl
  rw [e]
  simp [sizeOf, go_sem]
  rfl
end Go.Proofs.Ytplnojohlbbalaa
