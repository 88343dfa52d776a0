/- Several texts of this claim, one behind the other, in their order. -/
import Derived.Test.YtplnojohlbbalaaM1
import Derived.Laws.OwnMore
import Derived.OwnWalk
import Derived.Laws.Rows
import Derived.Maps.AppendAt
import Derived.Lib.OthersKept
import Derived.Deep.MidRow
import Derived.Deep.WholeRow
import Derived.Laws.Small
import Derived.BigQuiet
/- Base of layer 15: rows of bytes of one's own, that are read, that are lent; the walks of tinselref01's Lend and Kept. Conditions: lengths that fit. -/
namespace Go.Proofs.Ytplnojohlbbalaa
open Go.RowKit
attribute [local go_sem] ext_eq app_eq get_eq
theorem cell_heap {W : World} {g o : Nat} {cur : Array Value} {T : TypeId} {fr : Nat × Nat} (h : W.heap[g]? = some (.cells cur T fr)) : W.cell? ⟨g, o, none⟩ = cur[o]? := by
  simp [World.cell?, h]
theorem heap_lt {W : World} {g : Nat} {o : Obj} (h : W.heap[g]? = some o) : g < W.heap.size := (Array.getElem?_eq_some_iff.1 h).1
theorem heap_ne {W : World} {g g' : Nat} {cur cur' : Array Value} {T T' : TypeId} {fr fr' : Nat × Nat} (h : W.heap[g]? = some (.cells cur T fr)) (h' : W.heap[g']? = some (.cells cur' T' fr')) (hT : T ≠ T') : g ≠ g' := by
  rintro rfl
  rw [h] at h'
  cases h'
  exact hT rfl
theorem heap_new (W : World) (o : Obj) : (W.alloc o).heap[W.heap.size]? = some o := by show (W.heap.push _)[W.heap.size]? = _; simp
theorem own_on {W W' : World} {B k n : Nat} {T : TypeId} {v : Value} {xs : List Value} (h : W.ownsRow B T k v n xs) (e : ∀ (g : Nat) (c : Array Value), W.heap[g]? = some (Obj.cells c T (0, 0)) → W'.heap[g]? = W.heap[g]?) : W'.ownsRow B T k v n xs := by
  refine ⟨h.1, ?_⟩
  rcases h.2 with h | ⟨g, cap, cur, h1, h2, h3, h4⟩
  · exact .inl h
  · exact .inr ⟨g, cap, cur, h1, h2, (e g cur h3).trans h3, h4⟩
theorem own_kind {W : World} {B k n : Nat} {T : TypeId} {v : Value} {xs : List Value} (h : W.ownsRow B T k v n xs) : ∀ g, v.ownBlock = some g → ∃ c fz, W.heap[g]? = some (.cells c T fz) := by
  intro g hg
  rcases h.2 with ⟨rfl, _⟩ | ⟨g', cap, cur, rfl, _, hgg, _⟩
  · simp [Value.ownBlock] at hg
  · simp [Value.ownBlock] at hg
    subst hg
    exact ⟨cur, _, hgg⟩
theorem own_slice {w' : World} {base e k n : Nat} {v : Value} {xs : List Value} (h : w'.ownsRow base e k v n xs) : ∃ a c, v = .slice a n c := by
  rcases h.2 with ⟨rfl, rfl⟩ | ⟨g, cap, cur, rfl, _⟩
  · exact ⟨_, _, rfl⟩
  · exact ⟨_, _, rfl⟩
theorem infoB : ∃ i, Try.prog.info? 5 = some i ∧ i.zero = some (.int .u8 0) ∧ i.size = 1 ∧ i.bytes = 1 := info_of (by kernel_rfl)
def bCs (l : List UInt8) : List Value := l.map fun c => .int .u8 c.toNat
theorem bCs_append (a b : List UInt8) : bCs (a ++ b) = bCs a ++ bCs b := List.map_append
theorem bCs_len (a : List UInt8) : (bCs a).length = a.length := by simp [bCs]
/-- A row of bytes of one's own. -/
def By (B : Nat) (W : World) (v : Value) (bs : List UInt8) : Prop := W.ownsRow B 5 1 v bs.length (bCs bs)
theorem By.nil (B : Nat) (W : World) : By B W (.slice none 0 0) [] := World.ownsRow_nil _ _ _ _
theorem By.kind {B : Nat} {W : World} {v : Value} {bs : List UInt8} (h : By B W v bs) : ∀ g, v.ownBlock = some g → ∃ c fz, W.heap[g]? = some (.cells c 5 fz) := own_kind h
theorem By.on {B : Nat} {W W' : World} {v : Value} {bs : List UInt8} (h : By B W v bs) (e : ∀ (g : Nat) (c : Array Value), W.heap[g]? = some (Obj.cells c 5 (0, 0)) → W'.heap[g]? = W.heap[g]?) : By B W' v bs := own_on h e
theorem By.grow {B : Nat} {W W' : World} {v : Value} {bs : List UInt8} (h : By B W v bs) (hB : Below W.heap.size W W') : By B W' v bs := own_on h (fun g _ hg => hB.block g (heap_lt hg))
theorem By.slice {B : Nat} {W : World} {v : Value} {bs : List UInt8} (h : By B W v bs) : ∃ a c, v = .slice a bs.length c := own_slice h
theorem By.add {B : Nat} {w W w' : World} {v v' : Value} {bs : List UInt8} {c : UInt8} (h : By B W v bs) (hB : Below B w W) (hs : B ≤ W.heap.size) (o : Obj) (hown : w'.ownsRow B 5 1 v' (bs.length + 1) (bCs bs ++ [.int .u8 c.toNat])) (hg : (W.alloc o).grownBy w' v.ownBlock) :
    By B w' v' (bs ++ [c]) ∧ Below B w w' ∧ Lib.OthersKept 5 none W w' := by
  refine ⟨?_, (hB.alloc hs o).grown hg (by simp; omega) (fun k hk => (h.lt k hk).1), ?_⟩
  · unfold By
    rw [bCs_append, List.length_append]; exact hown
  · refine ((Lib.OthersKept.refl _ _ _).alloc o).grown hg (fun g hgg => ?_)
    obtain ⟨cc, fz, hc⟩ := h.kind g hgg
    exact ⟨cc, fz, (Lib.alloc_old W o g (heap_lt hc)).trans hc⟩
theorem one_u8 (x : Int) : ∀ u ∈ [Value.int .u8 x], u.oneCell' = true := by intro u hu; simp at hu; subst hu; rfl
/-- The text of a row. -/
theorem By.text {B : Nat} {W : World} {v : Value} {bs : List UInt8} (h : By B W v bs) : (convert 22 9 v).run Try.prog W = .ok (.string ⟨bs.toArray⟩) W := by
  rcases h.2 with ⟨rfl, h0⟩ | ⟨g, cap, cur, rfl, -, -, -, -, -, -⟩
  · have : bs = [] := List.length_eq_zero_iff.1 h0
    subst this
    simp [convert, go_sem, Conv.bytesToString]; rfl
  · exact run_convert_bytes_back (P := Try.prog) W 22 9 5 ⟨g, 0, none⟩ cap bs Try.underlying22 Try.underlying5 Try.underlying9 (fun j hj => h.cells (g := g) rfl j _ (by simp [bCs, hj]))
/-- A row of bytes that is read. -/
def Src (W : World) (a : Option Addr) (l : List UInt8) : Prop := ∀ j (_ : j < l.length), ∃ g o, a = some ⟨g, o, none⟩ ∧ g < W.heap.size ∧ W.cell? ⟨g, o + j, none⟩ = some (.int .u8 l[j].toNat)
theorem Src.nil (W : World) (a : Option Addr) : Src W a [] := fun j h => by simp at h
theorem Src.grow {W W' : World} {a : Option Addr} {l : List UInt8} {B : Nat} (h : Src W a l) (hB : Below B W W') (hs : W.heap.size ≤ B) : Src W' a l := fun j hj => by
  obtain ⟨g, o, e, hg, hc⟩ := h j hj
  exact ⟨g, o, e, Nat.lt_of_lt_of_le hg hB.size, (hB.cell (p := ⟨g, o + j, none⟩) (show g < B by omega)).trans hc⟩
theorem By.src {B : Nat} {W : World} {v : Value} {bs : List UInt8} (h : By B W v bs) : ∃ a c, v = .slice a bs.length c ∧ Src W a bs := by
  rcases h.2 with ⟨rfl, h0⟩ | ⟨g, cap, cur, rfl, hb, hg, h3⟩
  · have : bs = [] := List.length_eq_zero_iff.1 h0
    subst this
    exact ⟨none, 0, rfl, Src.nil _ _⟩
  · exact ⟨_, cap, rfl, fun j hj => ⟨g, 0, rfl, heap_lt hg, by rw [show (⟨g, 0 + j, none⟩ : Addr) = (⟨g, 0, none⟩ : Addr).add j by simp [Addr.add]]; exact h.cells (g := g) rfl j (.int .u8 bs[j].toNat) (by simp [bCs, hj])⟩⟩
theorem Src.heap {W W' : World} {a : Option Addr} {l : List UInt8} (h : Src W a l) (e : W'.heap = W.heap) : Src W' a l := fun j hj => by
  obtain ⟨g, o, e1, hg, hc⟩ := h j hj
  exact ⟨g, o, e1, by rw [e]; exact hg, by rw [← hc]; exact World.cell?_of_block (w := W) (by rw [e])⟩
theorem Src.text {W : World} {a : Option Addr} {l : List UInt8} (h : Src W a l) (c : Nat) : (convert 22 9 (.slice a l.length c)).run Try.prog W = .ok (.string ⟨l.toArray⟩) W := by
  cases a with
  | none =>
    cases l with
    | nil => simp [convert, go_sem, Conv.bytesToString]; rfl
    | cons x r =>
      obtain ⟨g, o, e, _⟩ := h 0 (by simp)
      cases e
  | some ad =>
    exact run_convert_bytes_back (P := Try.prog) W 22 9 5 ad c l Try.underlying22 Try.underlying5 Try.underlying9 (fun j hj => by
      obtain ⟨g, o, e, _, hc⟩ := h j hj
      cases e
      rw [show (⟨g, o, none⟩ : Addr).add j = ⟨g, o + j, none⟩ by simp [Addr.add]]; exact hc)
theorem By.mono {B B' : Nat} {W : World} {v : Value} {bs : List UInt8} (h : By B W v bs) (hB : B' ≤ B) : By B' W v bs := by
  refine ⟨h.1, ?_⟩
  rcases h.2 with h | ⟨g, cap, cur, h1, h2, h3⟩
  · exact .inl h
  · exact .inr ⟨g, cap, cur, h1, Nat.le_trans hB h2, h3⟩
/-- A row that is lent, as far as it is filled: a sign ahead of it and one behind it. -/
def LendR (W : World) (wb : Nat) (b : List UInt8) (k : Nat) : Prop := ∃ arr, W.heap[wb]? = some (.cells arr 5 (0, 0)) ∧ arr.size = b.length + 2 ∧ arr[0]? = some (.int .u8 165) ∧ arr[b.length + 1]? = some (.int .u8 90) ∧ ∀ j (h : j < b.length), arr[j + 1]? = some (.int .u8 (if j < k then (b[j]).toNat else 0))
theorem LendR.new (W : World) (b : List UInt8) : LendR (W.alloc (.cells (((madeCells #[.int .u8 0] (b.length + 2)).setIfInBounds 0 (.int .u8 165)).setIfInBounds (b.length + 1) (.int .u8 90)) 5)) W.heap.size b 0 := by
  have hs : (madeCells #[.int .u8 0] (b.length + 2)).size = b.length + 2 := size_madeCells _ _
  have hq : ∀ q, q < b.length + 2 → (madeCells #[.int .u8 0] (b.length + 2))[q]? = some (.int .u8 0) := fun q h => by simp [madeCells, h, Nat.mod_one]
  generalize madeCells #[Value.int .u8 0] (b.length + 2) = A at *
  refine ⟨_, heap_new _ _, by simpa using hs, ?_, ?_, fun j hj => ?_⟩
  · rw [Array.getElem?_setIfInBounds, if_neg (by omega), Array.getElem?_setIfInBounds, if_pos rfl, if_pos (by omega)]
  · rw [Array.getElem?_setIfInBounds, if_pos rfl, if_pos (by simp; omega)]
  · rw [Array.getElem?_setIfInBounds, if_neg (by omega), Array.getElem?_setIfInBounds, if_neg (by omega), hq _ (by omega), if_neg (by omega)]
theorem LendR.set {W : World} {wb : Nat} {b : List UInt8} {k : Nat} (h : LendR W wb b k) (hk : k < b.length) : LendR (W.setCell ⟨wb, k + 1, none⟩ (.int .u8 (b[k]).toNat)) wb b (k + 1) := by
  obtain ⟨arr, h1, h2, h3, h4, h5⟩ := h
  refine ⟨arr.setIfInBounds (k + 1) (.int .u8 (b[k]).toNat), ?_, by simpa using h2, ?_, ?_, fun j hj => ?_⟩
  · show (W.heap.modify wb _)[wb]? = _
    rw [Array.getElem?_modify, if_pos rfl, h1]; rfl
  · rw [Array.getElem?_setIfInBounds, if_neg (by omega)]; exact h3
  · rw [Array.getElem?_setIfInBounds, if_neg (by omega)]; exact h4
  · rw [Array.getElem?_setIfInBounds]
    by_cases e : j = k
    · subst e
      rw [if_pos rfl, if_pos (by omega), if_pos (by omega)]
    · rw [if_neg (by omega), h5 j hj]
      congr 2
      by_cases hlt : j < k
      · rw [if_pos hlt, if_pos (by omega)]
      · rw [if_neg hlt, if_neg (by omega)]
/-- The row that is lent. -/
theorem LendR.src {W : World} {wb : Nat} {b : List UInt8} (h : LendR W wb b b.length) : Src W (some ⟨wb, 1, none⟩) b := fun j hj => by
  obtain ⟨arr, h1, h2, h3, h4, h5⟩ := h
  refine ⟨wb, 1, rfl, heap_lt h1, ?_⟩
  rw [cell_heap h1, show 1 + j = j + 1 by omega, h5 j hj, if_pos hj]
theorem LendR.grow {W W' : World} {wb : Nat} {b : List UInt8} {k B : Nat} (h : LendR W wb b k) (hB : Below B W W') (hs : wb < B) : LendR W' wb b k := by
  obtain ⟨arr, h1, h2⟩ := h
  exact ⟨arr, (hB.block _ hs).trans h1, h2⟩
theorem LendR.lt {W : World} {wb : Nat} {b : List UInt8} {k : Nat} (h : LendR W wb b k) : wb < W.heap.size := by
  obtain ⟨arr, h1, h2⟩ := h
  exact heap_lt h1
theorem mk_bytes (n : Nat) (hn : n ≤ 140737488355328) (w : World) : (Instr.makeSlice 22 (.int .i64 n) (.int .i64 n)).run Try.prog w = .ok (.slice (some ⟨w.heap.size, 0, none⟩) n n) (w.alloc (.cells (madeCells #[.int .u8 0] n) 5)) := by
  obtain ⟨i, hi, hz, hs, hb⟩ := infoB
  have h := run_make (P := Try.prog) w 22 5 i _ Try.underlying22 hi hz .i64 .i64 n n (by omega) (by omega) (by rw [hb]; omega) (by omega)
  rw [hs] at h
  simpa [Value.cells] using h
set_option maxRecDepth 100000 in
set_option maxHeartbeats 2000000 in
theorem gLend (b : List UInt8) (a : Option Addr) (c : Nat) (hb : b.length + 2 ≤ 140737488355328) (w : World) (hS : Src w a b) : Calls Try.prog 6 #[.slice a b.length c] w fun e w' => e = .returned (.tuple #[.slice (some ⟨w.heap.size, 0, none⟩) (b.length + 2) (b.length + 2), .slice (some ⟨w.heap.size, 1, none⟩) b.length (b.length + 1)]) ∧ LendR w' w.heap.size b b.length ∧ Below w.heap.size w w' := by
  have HS := hidA hS
  clear hS
  have HL0 := hidA (LendR.new w b)
  obtain ⟨n2, Hn2⟩ : ∃ n, Hid (n = b.length + 2) := ⟨_, rfl⟩
  obtain ⟨n1, Hn1⟩ : ∃ n, Hid (n = b.length + 1) := ⟨_, rfl⟩
  have hmk := mk_bytes n2 (by have := Hn2.out; omega) w
  rw [← Hn2.out, ← Hn1.out] at HL0
  have hw2 : IntKind.i64.wrap ((b.length : Int) + 2) = (n2 : Int) := by have := Hn2.out; rw [IntKind.wrap_i64]; omega
  have hw1 : IntKind.i64.wrap ((b.length : Int) + 1) = (n1 : Int) := by have := Hn1.out; rw [IntKind.wrap_i64]; omega
  have h12 : n1 < n2 := by have h1 := Hn1.out; have h2 := Hn2.out; omega
  have hbn : b.length < n1 := by have h1 := Hn1.out; omega
  have h02 : 0 < n2 := by omega
  have h1n : 1 ≤ n1 := by omega
  have hAs : (madeCells #[.int .u8 0] n2).size = n2 := size_madeCells _ _
  have hq : ∀ q, q < n2 → (madeCells #[.int .u8 0] n2)[q]? = some (.int .u8 0) := fun q h => by simp [madeCells, h, Nat.mod_one]
  generalize madeCells #[Value.int .u8 0] n2 = A at *
  have c0 : A[0]? = some (.int .u8 0) := hq 0 h02
  have c1 : (A.setIfInBounds 0 (.int .u8 165))[n1]? = some (.int .u8 0) := by rw [Array.getElem?_setIfInBounds, if_neg (by omega)]; exact hq n1 h12
  have HB0 : Hid (Below w.heap.size w (w.alloc (.cells ((A.setIfInBounds 0 (.int .u8 165)).setIfInBounds n1 (.int .u8 90)) 5))) := (Below.refl w.heap.size w).alloc (Nat.le_refl _) _
  clear hq hAs
  go_enter Try.func6, Try.ntmps6
  go_wp2
  generalize w.alloc (.cells ((A.setIfInBounds 0 (.int .u8 165)).setIfInBounds n1 (.int .u8 90)) 5) = W0 at *
  clear c0 c1 hmk
  go_loopw [20] (fun s20 W => ∃ (k : Nat), s20 = .int .i64 k ∧ k ≤ b.length ∧ Hid (LendR W w.heap.size b k) ∧ Hid (Below w.heap.size w W)) (fun s20 _ => b.length - (intOf s20).toNat)
  case atStart => exact ⟨0, rfl, Nat.zero_le _, HL0, HB0⟩
  case round =>
    obtain ⟨k, rfl, hk, HK, HB⟩ := hrel
    clear HL0 HB0
    by_cases hlt : k < b.length
    · obtain ⟨m, HM⟩ : ∃ m, Hid (m = k + 1) := ⟨_, rfl⟩
      have hwk : IntKind.i64.wrap ((k : Int) + 1) = (m : Int) := by have := HM.out; rw [IntKind.wrap_i64]; omega
      obtain ⟨g, o, rfl, hg, hc⟩ := (HS.out.grow HB.out (Nat.le_refl _)) k hlt
      have hmn : m < n2 := by have h1 := HM.out; have h2 := Hn2.out; omega
      have hcm : wr.cell? ⟨w.heap.size, m, none⟩ = some (.int .u8 0) := by
        obtain ⟨arr, q1, q2, q3, q4, q5⟩ := HK.out
        rw [cell_heap q1, HM.out, q5 k hlt, if_neg (by omega)]
      have hfm : wr.frozen? ⟨w.heap.size, m, none⟩ = false := by
        obtain ⟨arr, q1, q2⟩ := HK.out
        simp [World.frozen?, q1]
      have HK2 := hidA (HK.out.set hlt)
      rw [← HM.out] at HK2
      have HB2 := hidA (HB.out.setCell (p := ⟨w.heap.size, m, none⟩) (Nat.le_refl _) (.int .u8 (b[k]).toNat))
      have hm1 : m ≤ b.length := by have := HM.out; omega
      have hm2 : b.length - m < b.length - k := by have := HM.out; omega
      clear HS HK HB HM
      generalize b[k] = x at *
      go_wp2
      exact ⟨⟨m, by first | rfl | go_num, hm1, HK2, HB2⟩, by simp [intOf]; omega⟩
    · obtain rfl : k = b.length := by omega
      clear HS
      go_wp2_with (go_region)
      go_ret2
      have h1 := Hn1.out
      have h2 := Hn2.out
      subst h1 h2
      exact ⟨by first | rfl | simp, HK.out, HB.out.trans ((bl_drew wr 1).mono HB.out.size)⟩
set_option maxRecDepth 100000 in
set_option maxHeartbeats 2000000 in
theorem gKept (b : List UInt8) (a : Option Addr) (c wb : Nat) (hb : b.length + 2 ≤ 140737488355328) (w : World) (hL : LendR w wb b b.length) (hS : Src w a b) : Calls Try.prog 13 #[.slice (some ⟨wb, 0, none⟩) (b.length + 2) (b.length + 2), .slice a b.length c] w fun e w' => e = .returned (.bool true) ∧ Below w.heap.size w w' := by
  have h1 : ∀ W : World, W.heap = w.heap → ∀ k, (convert 22 9 (.slice (some ⟨wb, 1, none⟩) b.length k)).run Try.prog W = .ok (.string ⟨b.toArray⟩) W := fun W e k => (hL.src.heap e).text k
  have h2 : ∀ W : World, W.heap = w.heap → (convert 22 9 (.slice a b.length c)).run Try.prog W = .ok (.string ⟨b.toArray⟩) W := fun W e => (hS.heap e).text c
  obtain ⟨arr, q1, q2, q3, q4, q5⟩ := hL
  have c0 : w.cell? ⟨wb, 0, none⟩ = some (.int .u8 165) := by rw [cell_heap q1]; exact q3
  obtain ⟨n2, Hn2⟩ : ∃ n, Hid (n = b.length + 2) := ⟨_, rfl⟩
  obtain ⟨n1, Hn1⟩ : ∃ n, Hid (n = b.length + 1) := ⟨_, rfl⟩
  have c1 : w.cell? ⟨wb, n1, none⟩ = some (.int .u8 90) := by rw [cell_heap q1, Hn1.out]; exact q4
  rw [← Hn2.out]
  have hw2 : IntKind.i64.wrap ((b.length : Int) + 2) = (n2 : Int) := by have := Hn2.out; rw [IntKind.wrap_i64]; omega
  have hw1 : IntKind.i64.wrap ((b.length : Int) + 1) = (n1 : Int) := by have := Hn1.out; rw [IntKind.wrap_i64]; omega
  have h12 : n1 < n2 := by have h1 := Hn1.out; have h2 := Hn2.out; omega
  have h02 : 0 < n2 := by omega
  have h1n : 1 ≤ n1 := by have h1 := Hn1.out; omega
  have hsub : n1 - 1 = b.length := by have h1 := Hn1.out; omega
  have hee : ((n2 : Int) == (n2 : Int)) = true := by simp
  have hd1 : ∀ k m, (convert 22 9 (.slice (some ⟨wb, 1, none⟩) b.length k)).run Try.prog (w.drewN m) = .ok (.string ⟨b.toArray⟩) (w.drewN m) := fun k m => h1 (w.drewN m) rfl k
  have hd2 : ∀ m, (convert 22 9 (.slice a b.length c)).run Try.prog (w.drewN m) = .ok (.string ⟨b.toArray⟩) (w.drewN m) := fun m => h2 (w.drewN m) rfl
  have hd3 : ∀ k, (convert 22 9 (.slice (some ⟨wb, 1, none⟩) b.length k)).run Try.prog w.drew = .ok (.string ⟨b.toArray⟩) w.drew := fun k => h1 w.drew rfl k
  have hd4 : (convert 22 9 (.slice a b.length c)).run Try.prog w.drew = .ok (.string ⟨b.toArray⟩) w.drew := h2 w.drew rfl
  clear h1 h2 q1 q2 q3 q4 q5 hS
  go_enter Try.func13, Try.ntmps13
  go_wp2_with (go_quiet (fail))
  go_ret
  exact ⟨by simp, bl_drew w _⟩
/-- A row that can be written. -/
def Wr (W : World) (B : Nat) (a : Option Addr) (n : Nat) : Prop := ∀ j, j < n → ∃ g o, a = some ⟨g, o, none⟩ ∧ B ≤ g ∧ (W.cell? ⟨g, o + j, none⟩).isSome = true ∧ W.frozen? ⟨g, o + j, none⟩ = false
theorem Wr.keep {W : World} {B : Nat} {a : Option Addr} {n : Nat} (h : Wr W B a n) (p : Addr) (v : Value) : Wr (W.setCell p v) B a n := fun j hj => by
  obtain ⟨g, o, e, hg, hs, hf⟩ := h j hj
  refine ⟨g, o, e, hg, ?_, by rw [World.frozen?_setCell]; exact hf⟩
  by_cases hp : p = ⟨g, o + j, none⟩
  · subst hp
    obtain ⟨u, hu⟩ := Option.isSome_iff_exists.1 hs
    rw [World.cell?_setCell_same _ _ _ hu]; rfl
  · rw [World.cell?_setCell_other _ _ _ _ hp]; exact hs
theorem By.wr {B : Nat} {W : World} {a : Option Addr} {n c : Nat} {bs : List UInt8} (h : By B W (.slice a n c) bs) : Wr W B a n := by
  intro j hj
  rcases h.2 with ⟨e, _⟩ | ⟨g, cap, cur, e, hb, hg, hn, hc, hs, _⟩
  · cases e; omega
  · cases e
    refine ⟨g, 0, rfl, hb, ?_, by simp [World.frozen?, hg]⟩
    rw [cell_heap hg, Nat.zero_add, Array.getElem?_eq_getElem (by omega)]; rfl
theorem Wr.grow {W W' : World} {B B' : Nat} {a : Option Addr} {n : Nat} (h : Wr W B a n) (hb : Below W.heap.size W W') (hB : B' ≤ B) : Wr W' B' a n := fun j hj => by
  obtain ⟨g, o, e, hg, hs, hf⟩ := h j hj
  have hlt : g < W.heap.size := by
    obtain ⟨u, hu⟩ := Option.isSome_iff_exists.1 hs
    exact block_lt_of_cell hu
  have hk := hb.block g hlt
  refine ⟨g, o, e, by omega, ?_, ?_⟩
  · rw [World.cell?_of_block (w := W) hk]; exact hs
  · have : W'.frozen? ⟨g, o + j, none⟩ = W.frozen? ⟨g, o + j, none⟩ := by simp [World.frozen?, hk]
    rw [this]; exact hf
end Go.Proofs.Ytplnojohlbbalaa
/- Slices of bytes that are read; the program's isBlank, isWord, isDigit, leading. Condition: lengths that fit. -/
namespace Go.Proofs.Ytplnojohlbbalaa
open Go.RowKit
attribute [local go_sem] ext_eq app_eq get_eq
theorem Src.sub {W : World} {a : Option Addr} {l : List UInt8} (h : Src W a l) (i k c : Nat) (hk : k ≤ l.length) (hc : l.length ≤ c) : Src W (if c = i then a else a.map (·.add (i * 1))) ((l.take k).drop i) := fun j hj => by
  have hl : ((l.take k).drop i).length = k - i := by simp [hk]
  obtain ⟨g, o, e, hg, hcell⟩ := h (i + j) (by omega)
  rw [if_neg (by omega)]
  refine ⟨g, o + i, by rw [e]; simp [Addr.add], hg, ?_⟩
  rw [show o + i + j = o + (i + j) by omega, hcell]
  congr 3
  simp
theorem htB : Try.prog.underlying 22 = some (.slice (Try.prog.elem 22)) := by kernel_rfl
theorem szB (W : World) : (sizeOf (Try.prog.elem 22)).run Try.prog W = .ok 1 W := by
  have e : Try.prog.elem 22 = 5 := by kernel_rfl
  rw [e]
  simp [sizeOf, go_sem]
  rfl
/-- A slice of bytes that is read, with its capacity. -/
structure Sr (W : World) (a : Option Addr) (c : Nat) (l : List UInt8) : Prop where
  src : Src W a l
  le : l.length ≤ c
  nil : a = none → c = 0
theorem Sr.grow {W W' : World} {a : Option Addr} {c : Nat} {l : List UInt8} (h : Sr W a c l) (b : Below W.heap.size W W') : Sr W' a c l := ⟨h.src.grow b (Nat.le_refl _), h.le, h.nil⟩
theorem sl_from {w : World} {a : Option Addr} {l : List UInt8} {c : Nat} (h : Sr w a c l) (i : Nat) (hi : i ≤ l.length) : ∃ a' c', (∀ W : World, (Instr.slice 22 (.slice a l.length c) (some (.int .i64 i)) none none).run Try.prog W = .ok (.slice a' (l.drop i).length c') W) ∧ Sr w a' c' (l.drop i) := by
  have hc := h.le
  refine ⟨(if c = i then a else a.map (·.add (i * 1))), c - i, fun W => ?_, ?_, by rw [List.length_drop]; omega, fun e => ?_⟩
  · rw [run_slice_l (P := Try.prog) (w := W) 22 a l.length c htB .i64 i (by omega) (by omega), List.length_drop, szB]
    simp [Result.andThen, sliced]
  · have := h.src.sub i l.length c (Nat.le_refl _) hc
    rw [List.take_length] at this
    exact this
  · have : a = none := by
      split at e
      · exact e
      · simpa using e
    have := h.nil this; omega
theorem sl_to {w : World} {a : Option Addr} {l : List UInt8} {c : Nat} (h : Sr w a c l) (k : Nat) (hk : k ≤ l.length) : (∀ W : World, (Instr.slice 22 (.slice a l.length c) none (some (.int .i64 k)) none).run Try.prog W = .ok (.slice a (l.take k).length c) W) ∧ Sr w a c (l.take k) := by
  have hc := h.le
  refine ⟨fun W => ?_, fun j hj => ?_, by rw [List.length_take]; omega, h.nil⟩
  · rw [run_slice_h (P := Try.prog) (w := W) 22 a l.length c htB .i64 k (by omega) (by omega), List.length_take, Nat.min_eq_left hk, szB]
    cases a <;> simp [Result.andThen, sliced, Addr.add]
  · rw [List.length_take] at hj
    obtain ⟨g, o, e, hg, hcell⟩ := h.src j (by omega)
    exact ⟨g, o, e, hg, by rw [hcell]; simp⟩
theorem sl_mid {w : World} {a : Option Addr} {l : List UInt8} {c : Nat} (h : Sr w a c l) (i k : Nat) (hik : i ≤ k) (hk : k ≤ l.length) : ∃ a' c', (∀ W : World, (Instr.slice 22 (.slice a l.length c) (some (.int .i64 i)) (some (.int .i64 k)) none).run Try.prog W = .ok (.slice a' ((l.take k).drop i).length c') W) ∧ Sr w a' c' ((l.take k).drop i) := by
  have hc := h.le
  have hm : ((l.take k).drop i).length = k - i := by simp [hk]
  refine ⟨(if c = i then a else a.map (·.add (i * 1))), c - i, fun W => ?_, h.src.sub i k c hk hc, by omega, fun e => ?_⟩
  · rw [run_slice_lh (P := Try.prog) (w := W) 22 a l.length c htB .i64 .i64 i k (by omega) (by omega) (by omega), szB, hm]
    simp [Result.andThen, sliced]
  · have : a = none := by
      split at e
      · exact e
      · simpa using e
    have := h.nil this; omega
end Go.Proofs.Ytplnojohlbbalaa
