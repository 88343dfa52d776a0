/- Rows of texts; the walks of tinselref01's Texts (of a list beside itself) and of the program's Filter. Conditions: the rows' cells are as said; lengths that fit; the table of names. -/
import Derived.Test.YtncnmeidciailaaDoorLd9
import Derived.Test.YtncnmeidciailaaDoorLa8
namespace Go.Proofs.YtncnmeidciailaaDoor
open Go.RowKit
attribute [local go_sem] ext_eq app_eq get_eq
def strV (x : List UInt8) : Value := .string ⟨x.toArray⟩
theorem infoStr : ∃ i, Tryd.prog.info? 9 = some i ∧ i.zero = some (.string ⟨#[]⟩) ∧ i.size = 1 ∧ i.bytes = 16 := info_of (by kernel_rfl)
/-- A row of texts that is read. -/
def StrS (W : World) (a : Option Addr) (xs : List (List UInt8)) : Prop := ∀ j (_ : j < xs.length), ∃ g o, a = some ⟨g, o, none⟩ ∧ g < W.heap.size ∧ W.cell? ⟨g, o + j, none⟩ = some (.string ⟨(xs[j]).toArray⟩)
theorem StrS.nil (W : World) (a : Option Addr) : StrS W a [] := fun j h => by simp at h
theorem StrS.grow {W W' : World} {a : Option Addr} {xs : List (List UInt8)} {B : Nat} (h : StrS W a xs) (hB : Below B W W') (hs : W.heap.size ≤ B) : StrS W' a xs := fun j hj => by
  obtain ⟨g, o, e, hg, hc⟩ := h j hj
  exact ⟨g, o, e, Nat.lt_of_lt_of_le hg hB.size, (hB.cell (p := ⟨g, o + j, none⟩) (show g < B by omega)).trans hc⟩
theorem StrS.heap {W W' : World} {a : Option Addr} {xs : List (List UInt8)} (h : StrS W a xs) (e : W'.heap = W.heap) : StrS W' a xs := fun j hj => by
  obtain ⟨g, o, e1, hg, hc⟩ := h j hj
  exact ⟨g, o, e1, by rw [e]; exact hg, by rw [← hc]; exact World.cell?_of_block (w := W) (by rw [e])⟩
/-- A row of texts of one's own. -/
def SRow (B : Nat) (W : World) (v : Value) (xs : List (List UInt8)) : Prop := W.ownsRow B 9 1 v xs.length (xs.map strV)
theorem SRow.nil (B : Nat) (W : World) : SRow B W (.slice none 0 0) [] := World.ownsRow_nil _ _ _ _
theorem SRow.add {B : Nat} {w W w' : World} {v v' : Value} {xs : List (List UInt8)} {x : List UInt8} (h : SRow B W v xs) (hB : Below B w W) (hs : B ≤ W.heap.size) (o : Obj) (hown : w'.ownsRow B 9 1 v' (xs.length + 1) (xs.map strV ++ [.string ⟨x.toArray⟩])) (hg : (W.alloc o).grownBy w' v.ownBlock) :
    SRow B w' v' (xs ++ [x]) ∧ Below B w w' := by
  refine ⟨?_, (hB.alloc hs o).grown hg (by simp; omega) (fun k hk => (h.lt k hk).1)⟩
  unfold SRow
  rw [List.map_append, List.length_append]; exact hown
theorem SRow.src {B : Nat} {W : World} {v : Value} {xs : List (List UInt8)} (h : SRow B W v xs) : ∃ a c, v = .slice a xs.length c ∧ StrS W a xs := by
  rcases h.2 with ⟨rfl, h0⟩ | ⟨g, cap, cur, rfl, hb, hg, h3⟩
  · have : xs = [] := List.length_eq_zero_iff.1 h0
    subst this
    exact ⟨none, 0, rfl, StrS.nil _ _⟩
  · exact ⟨_, cap, rfl, fun j hj => ⟨g, 0, rfl, heap_lt hg, by rw [show (⟨g, 0 + j, none⟩ : Addr) = (⟨g, 0, none⟩ : Addr).add j by simp [Addr.add]]; exact h.cells (g := g) rfl j (strV xs[j]) (by simp [hj])⟩⟩
theorem SRow.mono {B B' : Nat} {W : World} {v : Value} {xs : List (List UInt8)} (h : SRow B W v xs) (hB : B' ≤ B) : SRow B' W v xs := by
  refine ⟨h.1, ?_⟩
  rcases h.2 with h | ⟨g, cap, cur, h1, h2, h3⟩
  · exact .inl h
  · exact .inr ⟨g, cap, cur, h1, Nat.le_trans hB h2, h3⟩
theorem one_str (x : List UInt8) : ∀ u ∈ [Value.string ⟨x.toArray⟩], u.oneCell' = true := by intro u hu; simp at hu; subst hu; rfl
set_option maxRecDepth 100000 in
set_option maxHeartbeats 2000000 in
theorem gTexts (xs : List (List UInt8)) (a a2 : Option Addr) (c c2 : Nat) (hl : xs.length ≤ 2 ^ 60) (w : World) (hS : StrS w a xs) (hS2 : StrS w a2 xs) : Calls Tryd.prog 19 #[.slice a xs.length c, .slice a2 xs.length c2] w fun e w' => e = .returned (.bool true) ∧ Below w.heap.size w w' := by
  have HS := hidA hS
  have HS2 := hidA hS2
  have hne : ((xs.length : Int) != (xs.length : Int)) = false := by simp
  clear hS hS2
  go_enter Tryd.func19, Tryd.ntmps19
  go_wp2
  go_loopw [13] (fun s13 W => ∃ (k : Nat), s13 = .int .i64 k ∧ k ≤ xs.length ∧ Hid (Below w.heap.size w W)) (fun s13 _ => xs.length - (intOf s13).toNat)
  case atStart => exact ⟨0, rfl, Nat.zero_le _, Below.refl _ _⟩
  case round =>
    obtain ⟨k, rfl, hk, HB⟩ := hrel
    by_cases hlt : k < xs.length
    · have hw1 : IntKind.i64.wrap ((k : Int) + 1) = ((k + 1 : Nat) : Int) := by rw [IntKind.wrap_i64]; omega
      obtain ⟨g, o, rfl, hg, hc⟩ := (HS.out.grow HB.out (Nat.le_refl _)) k hlt
      obtain ⟨g2, o2, rfl, hg2, hc2⟩ := (HS2.out.grow HB.out (Nat.le_refl _)) k hlt
      have hxx : (xs[k] != xs[k]) = false := by simp
      clear HS HS2
      generalize xs[k] = x at *
      go_wp2_with (go_quiet (fail))
      exact ⟨⟨k + 1, by first | rfl | go_num, hlt, hidA (HB.out.trans ((bl_drew wr _).mono HB.out.size))⟩, by simp [intOf]; omega⟩
    · clear HS HS2
      go_wp2
      go_ret
      exact ⟨rfl, HB.out⟩
set_option maxRecDepth 100000 in
set_option maxHeartbeats 4000000 in
theorem gFilter (l : List UInt8) (fl : Int) (xs : List (List UInt8)) (a : Option Addr) (c : Nat) (hl : l.length ≤ 2 ^ 40) (hxs : xs.length ≤ 2 ^ 43) (hx : ∀ x ∈ xs, x.length ≤ 2 ^ 47) (w : World) (hc : CN w) (hS : StrS w a xs) (mB : List UInt8 → Bool) (hmB : ∀ s, mB s = true ↔ Gl.Mt (Gl.flOf fl) s (Gl.pcs (Gl.flOf fl) l) 0) :
    Calls Tryd.prog 18 #[.string ⟨l.toArray⟩, .int .i64 fl, .slice a xs.length c] w fun e w' => ∃ v, e = .returned v ∧ SRow w.heap.size w' v (xs.filter mB) ∧ Below w.heap.size w w' := by
  obtain ⟨iS, hiS, hz0, hz1, hz2⟩ := infoStr
  have HR := hidA (gRead l fl hl w (fun k hk _ h91 W sb rb hB hR => gBracket l fl rb sb k hk h91 hl W hR (hc.grow hB (Nat.le_refl _))))
  have hpl : (Gl.pcs (Gl.flOf fl) l).length ≤ l.length := Gl.pcs_len _ _ _
  generalize Gl.pcs (Gl.flOf fl) l = ps at *
  unfold RdOut at HR
  have HM : Hid (∀ (a : Option Addr) (c : Nat) (s : List UInt8), s.length ≤ 2 ^ 47 → ∀ W, Pcs W a ps → Calls Tryd.prog 37 #[.agg #[.slice a ps.length c, .int .i64 fl], .string ⟨s.toArray⟩] W fun e w' => e = .returned (.bool (mB s)) ∧ Below W.heap.size W w') := fun a c s hs W hp => by
    refine (gMatches ps a c fl s hs (by omega) W hp).mono ?_
    rintro e w' ⟨b, rfl, hb, h2⟩
    exact ⟨ret_bool (by rw [Bool.eq_iff_iff, hb, hmB]), h2⟩
  have HS := hidA hS
  have HX := hidA hx
  clear hS hx hc hmB
  go_enter Tryd.func18, Tryd.ntmps18
  go_wp2_with (go_at_call 36; refine HR.out.mono ?_; rintro e w1 ⟨pa, pc, rfl, hp, b1⟩; (have HP := hidA hp); (have B1 := hidA b1); clear hp b1)
  have HP1 := hidA (HP.out.grow ((Below.refl w1.heap.size w1).alloc (Nat.le_refl _) (.cells #[.slice pa ps.length pc, .int .i64 fl] 52)))
  have HS1 := hidA (HS.out.grow (B1.out.alloc B1.out.size (.cells #[.slice pa ps.length pc, .int .i64 fl] 52)) (Nat.le_refl _))
  have HB1 := hidA (B1.out.alloc B1.out.size (.cells #[.slice pa ps.length pc, .int .i64 fl] 52))
  have HC : Hid ((w1.alloc (.cells #[.slice pa ps.length pc, .int .i64 fl] 52)).heap[w1.heap.size]? = some (.cells #[.slice pa ps.length pc, .int .i64 fl] 52 (0, 0))) := heap_new _ _
  have hpb : w1.heap.size < (w1.alloc (.cells #[.slice pa ps.length pc, .int .i64 fl] 52)).heap.size := by simp
  clear HP HS B1 HR
  generalize w1.alloc (.cells #[.slice pa ps.length pc, .int .i64 fl] 52) = W1 at *
  generalize w1.heap.size = pb at *
  go_loopw [8, 16] (fun v s16 W => ∃ (k : Nat), s16 = .int .i64 k ∧ k ≤ xs.length ∧ Hid (SRow W1.heap.size W v ((xs.take k).filter mB)) ∧ Hid (Below W1.heap.size W1 W)) (fun _ s16 _ => xs.length - (intOf s16).toNat)
  case atStart => exact ⟨0, rfl, Nat.zero_le _, SRow.nil _ _, Below.refl _ _⟩
  case round =>
    obtain ⟨k, rfl, hk, HY, HB⟩ := hrel
    have hsz : W1.heap.size ≤ wr.heap.size := HB.out.size
    by_cases hlt : k < xs.length
    · have hw1 : IntKind.i64.wrap ((k : Int) + 1) = ((k + 1 : Nat) : Int) := by rw [IntKind.wrap_i64]; omega
      obtain ⟨g, o, rfl, hg, hcc⟩ := (HS1.out.grow HB.out (Nat.le_refl _)) k hlt
      have hpc0 : wr.heap[pb]? = some (.cells #[.slice pa ps.length pc, .int .i64 fl] 52 (0, 0)) := (HB.out.block pb hpb).trans HC.out
      have c0 : wr.cell? ⟨pb, 0, none⟩ = some (.slice pa ps.length pc) := by rw [cell_heap hpc0]; rfl
      have c1 : wr.cell? ⟨pb, 1, none⟩ = some (.int .i64 fl) := by rw [cell_heap hpc0]; rfl
      have HMk := hidA (HM.out pa pc xs[k] (HX.out _ (List.getElem_mem hlt)) wr (HP1.out.grow HB.out))
      have HE : Hid ((xs.take (k + 1)).filter mB = (xs.take k).filter mB ++ (if mB xs[k] then [xs[k]] else [])) := by
        show _ = _
        rw [List.take_succ_eq_append_getElem hlt, List.filter_append]
        cases h : mB xs[k] <;> simp [h]
      have hll : ((xs.take k).filter mB).length ≤ k := Nat.le_trans (List.length_filter_le _ _) (by rw [List.length_take]; omega)
      generalize (xs.take k).filter mB = PK at *
      clear HS1 HX HM HC HP1 hpc0
      cases hmx : mB xs[k] with
      | false =>
        rw [hmx] at HMk HE
        clear hmx
        generalize xs[k] = x at *
        go_wp2_with (go_at_call 37; refine HMk.out.mono ?_; rintro e w2 ⟨rfl, b2⟩; (have HY2 : Hid (SRow W1.heap.size w2 _ PK) := own_on HY.out (fun g _ hg => b2.block g (heap_lt hg))); (have HB2 := hidA (HB.out.trans (b2.mono hsz))); clear b2)
        exact ⟨⟨k + 1, by first | rfl | go_num, hlt, hidA (by rw [HE.out]; simpa using HY2.out), HB2⟩, by simp [intOf]; omega⟩
      | true =>
        rw [hmx] at HMk HE
        clear hmx
        generalize xs[k] = x at *
        go_wp2_with (first | (go_at_call 37; refine HMk.out.mono ?_; rintro e w2 ⟨rfl, b2⟩; (have HY2 : Hid (SRow W1.heap.size w2 _ PK) := own_on HY.out (fun g _ hg => b2.block g (heap_lt hg))); (have HB2 := hidA (HB.out.trans (b2.mono hsz))); (have hsz2 : W1.heap.size ≤ w2.heap.size := HB2.out.size); clear b2) | (at_builtin; refine wpList_append_own_at _ rfl _ _ 28 rfl W1.heap.size 9 iS (.string ⟨#[]⟩) 1 16 Tryd.underlying28 hiS hz0 hz1 hz2 rfl (by decide) _ _ _ rfl (HY2.out.alloc _) ⟨w2.heap.size, 0, none⟩ 1 1 [.string ⟨x.toArray⟩] rfl rfl (cell_one_new _ _ _) (one_str _) (by unfold maxLen; omega) (by omega) (by simp; omega) ?_; intro v3 w3 hown hg3 _ hat; obtain ⟨y3, b3⟩ := HY2.out.add (x := x) HB2.out hsz2 _ hown hg3; have Y3 := hidA y3; have B3 := hidA b3; clear hown hg3 hat y3 b3))
        exact ⟨⟨k + 1, by first | rfl | go_num, hlt, hidA (by rw [HE.out]; simpa using Y3.out), B3⟩, by simp [intOf]; omega⟩
    · have hY := HY.out
      rw [List.take_of_length_le (by omega)] at hY
      have HY2 := hidA hY
      clear hY HY HS1 HX HM HC HP1
      go_wp2
      go_ret
      exact ⟨_, rfl, HY2.out.mono HB1.out.size, HB1.out.trans (HB.out.mono HB1.out.size)⟩
end Go.Proofs.YtncnmeidciailaaDoor
