/- A row of bytes that grows; appendTwo; the text of a row. -/
import Derived.Test.YtgkjpfebjhhdkaaDoorNr7
import Derived.Test.YtgkjpfebjhhdkaaDoorNh1
import Derived.Lib.ItoaLen
import Derived.Lib.OthersKept
namespace Go.Proofs.YtgkjpfebjhhdkaaDoor
open Go.RowKit Go.Sort
theorem infoB : ∃ i, Tryd.prog.info? 5 = some i ∧ i.zero = some (.int .u8 0) ∧ i.size = 1 ∧ i.bytes = 1 := info_of (by kernel_rfl)
/-- The table of powers of ten, whatever is done from block B on. -/
abbrev PT (B : Nat) (w : World) : Prop := Lib.TabBelow Tryd.prog B w "internal/strconv.uint64pow10" .u64 Lib.pow10Tab
/-- A row of bytes of one's own. -/
def By (B : Nat) (W : World) (v : Value) (bs : List UInt8) : Prop := W.ownsRow B 5 1 v bs.length (Lib.byteCells bs)
theorem By.nil (B : Nat) (W : World) : By B W (.slice none 0 0) [] := World.ownsRow_nil _ _ _ _
theorem By.kind {B : Nat} {W : World} {v : Value} {bs : List UInt8} (h : By B W v bs) : ∀ g, v.ownBlock = some g → ∃ c fz, W.heap[g]? = some (.cells c 5 fz) := by
  intro g hg
  rcases h.2 with ⟨rfl, _⟩ | ⟨g', cap, cur, rfl, _, hgg, _⟩
  · simp [Value.ownBlock] at hg
  · simp [Value.ownBlock] at hg
    subst hg
    exact ⟨cur, _, hgg⟩
theorem By.add {B : Nat} {w W w' : World} {v v' : Value} {bs : List UInt8} {c : UInt8} (h : By B W v bs) (hB : Below B w W) (hs : B ≤ W.heap.size) (o : Obj) (hown : w'.ownsRow B 5 1 v' (bs.length + 1) (Lib.byteCells bs ++ [.int .u8 c.toNat])) (hg : (W.alloc o).grownBy w' v.ownBlock) :
    By B w' v' (bs ++ [c]) ∧ Below B w w' ∧ Lib.OthersKept 5 none W w' := by
  refine ⟨?_, (hB.alloc hs o).grown hg (by simp; omega) (fun k hk => (h.lt k hk).1), ?_⟩
  · unfold By
    rw [Lib.byteCells_append, List.length_append]; exact hown
  · refine ((Lib.OthersKept.refl _ _ _).alloc o).grown hg (fun g hgg => ?_)
    obtain ⟨cc, fz, hc⟩ := h.kind g hgg
    exact ⟨cc, fz, (Lib.alloc_old W o g (Array.getElem?_eq_some_iff.1 hc).1).trans hc⟩
theorem By.add0 {B : Nat} {w W w' : World} {v v' : Value} {bs : List UInt8} {c : UInt8} (h : By B W v bs) (hB : Below B w W) (hs : B ≤ W.heap.size) (hown : w'.ownsRow B 5 1 v' (bs.length + 1) (Lib.byteCells bs ++ [.int .u8 c.toNat])) (hg : W.grownBy w' v.ownBlock) :
    By B w' v' (bs ++ [c]) ∧ Below B w w' ∧ Lib.OthersKept 5 none W w' := by
  refine ⟨?_, hB.grown hg hs (fun k hk => (h.lt k hk).1), (Lib.OthersKept.refl _ _ _).grown hg (fun g hgg => h.kind g hgg)⟩
  unfold By
  rw [Lib.byteCells_append, List.length_append]; exact hown
theorem By.grow {B : Nat} {W W' : World} {v : Value} {bs : List UInt8} (h : By B W v bs) (hB : Below W.heap.size W W') : By B W' v bs := own_grow h hB
theorem cell_one_new (w : World) (x : Value) (t : TypeId) : ∀ j u, [x][j]? = some u → (w.alloc (.cells #[x] t)).cell? ((⟨w.heap.size, 0, none⟩ : Addr).add j) = some u := by
  intro j u hj
  match j, hj with
  | 0, hj => simp at hj; subst hj; simp [Addr.add]
theorem one_u8 (x : Int) : ∀ u ∈ [Value.int .u8 x], u.oneCell' = true := by intro u hu; simp at hu; subst hu; rfl
theorem nAppendInt (B : Nat) (i : Int) (h0 : -9223372036854775808 ≤ i) (h1 : i ≤ 9223372036854775807) (v : Value) (bs : List UInt8) (w : World) (h : By B w v bs) (hB : B ≤ w.heap.size) (hl : bs.length ≤ 1099511627776) (ht : PT B w) :
    Calls Tryd.prog 49 #[v, .int .i64 i, .int .i64 10] w fun e w' => ∃ v', e = .returned v' ∧ By B w' v' (bs ++ Lib.itoa i) ∧ Below B w w' ∧ Lib.OthersKept 5 none w w' := by
  refine (Tryd.strconv_AppendInt_10 B bs.length i h0 h1 v (Lib.byteCells bs) w h hB (by omega) ht).mono ?_
  rintro e w' ⟨v', rfl, ho, hb, hk⟩
  refine ⟨v', rfl, ?_, hb, hk⟩
  unfold By
  rw [List.length_append, Lib.byteCells_append]; exact ho
namespace Na
/-- A number below 100 by two digits. -/
def two (n : Int) : List UInt8 := [UInt8.ofNat (48 + n.toNat / 10), UInt8.ofNat (48 + n.toNat % 10)]
theorem two_small {n : Int} (h0 : 0 ≤ n) (h : n < 10) : two n = [48] ++ Lib.itoa n := by
  unfold two Lib.itoa
  rw [if_neg (by omega), Lib.decDigits, dif_pos (by omega), Nat.div_eq_of_lt (by omega), Nat.mod_eq_of_lt (by omega)]
  rfl
theorem two_big {n : Int} (h0 : ¬ n < 10) (h : n < 100) : two n = Lib.itoa n := by
  unfold two Lib.itoa
  rw [if_neg (by omega), Lib.decDigits, dif_neg (by omega), Lib.decDigits, dif_pos (by omega)]
  rfl
end Na
set_option maxRecDepth 100000 in
set_option maxHeartbeats 1000000 in
theorem nAppendTwo (B : Nat) (n : Int) (h0 : 0 ≤ n) (h1 : n < 100) (v : Value) (bs : List UInt8) (w : World) (h : By B w v bs) (hB : B ≤ w.heap.size) (hl : bs.length ≤ 1000) (ht : PT B w) :
    Calls Tryd.prog 60 #[v, .int .i64 n] w fun e w' => ∃ v', e = .returned v' ∧ By B w' v' (bs ++ Na.two n) ∧ Below B w w' ∧ Lib.OthersKept 5 none w w' := by
  obtain ⟨iB, hiB, hz0, hz1, hz2⟩ := infoB
  have HY := hidA h
  by_cases hs : n < 10
  · have HI := hidA (fun v w hb hs2 ht => nAppendInt B n (by omega) (by omega) v (bs ++ [48]) w hb hs2 (by simp; omega) ht)
    have HE := hidA (Na.two_small h0 hs)
    have HR0 := hidA (Below.refl B w)
    have HT := hidA ht
    clear h ht
    go_enter Tryd.func60, Tryd.ntmps60
    go_wp2_with (first | (at_builtin; refine wpList_append_own_at _ rfl _ _ 73 rfl B 5 iB (.int .u8 0) 1 1 Tryd.underlying73 hiB hz0 hz1 hz2 rfl (by decide) _ _ _ rfl (HY.out.alloc _) ⟨w.heap.size, 0, none⟩ 1 1 [.int .u8 48] rfl rfl (cell_one_new _ _ _) (one_u8 _) (by unfold maxLen; omega) (by omega) (by simp; omega) ?_; intro v2 w2 hown hg _ hat; obtain ⟨y2, b2, k2⟩ := HY.out.add (c := 48) HR0.out hB _ hown hg; have s2 : B ≤ w2.heap.size := Nat.le_trans hB b2.size; have t2 := HT.out.on b2; have HI2 := hidA (HI.out v2 w2 y2 s2 t2); clear hown hg hat y2 t2) | (go_at_call 49; refine HI2.out.mono ?_; rintro e w3 ⟨v3, rfl, y3, b3, k3⟩))
    go_ret
    exact ⟨v3, rfl, by rw [HE.out, ← List.append_assoc]; exact y3, b2.trans b3, k2.trans k3⟩
  · have HI := hidA (nAppendInt B n (by omega) (by omega) v bs w h hB (by omega) ht)
    have HE := hidA (Na.two_big hs h1)
    clear h ht
    go_enter Tryd.func60, Tryd.ntmps60
    go_wp2_with (go_at_call 49; refine HI.out.mono ?_; rintro e w3 ⟨v3, rfl, y3, b3, k3⟩)
    go_ret
    exact ⟨v3, rfl, by rw [HE.out]; exact y3, b3, k3⟩
/-- The text of a row. -/
theorem By.text {B : Nat} {W : World} {v : Value} {bs : List UInt8} (h : By B W v bs) : (convert 73 9 v).run Tryd.prog W = .ok (.string ⟨bs.toArray⟩) W := by
  rcases h.2 with ⟨rfl, h0⟩ | ⟨g, cap, cur, rfl, -, -, -, -, -, -⟩
  · have : bs = [] := List.length_eq_zero_iff.1 h0
    subst this
    simp [convert, go_sem, Conv.bytesToString]; rfl
  · exact run_convert_bytes_back (P := Tryd.prog) W 73 9 5 ⟨g, 0, none⟩ cap bs Tryd.underlying73 Tryd.underlying5 Tryd.underlying9 (fun j hj => h.cells (g := g) rfl j _ (by simp [Lib.byteCells, hj]))
end Go.Proofs.YtgkjpfebjhhdkaaDoor
