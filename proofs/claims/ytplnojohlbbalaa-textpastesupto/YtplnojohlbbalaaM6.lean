/- Several texts of this claim, one behind the other, in their order. -/
import Derived.Test.YtplnojohlbbalaaM5
import Derived.Lib.Join
import Derived.ArgAppend
import Derived.Lib.SlFresh
/- The program's Lines: the lines, each a row of one's own; is the last one ended? Condition: a length that fits. -/
namespace Go.Proofs.Ytplnojohlbbalaa
open Go.RowKit
attribute [local go_sem] ext_eq app_eq get_eq
theorem Tl.ls_mem_le (l : List UInt8) : ∀ x ∈ Tl.ls l, x.length ≤ l.length := by
  intro x hx
  obtain ⟨p, hp, rfl⟩ := List.mem_map.1 hx
  have hm : Tl.pc p ∈ (Tl.prs l).map Tl.pc := List.mem_map.2 ⟨p, hp, rfl⟩
  have h := (List.sublist_flatten_of_mem hm).length_le
  rw [Tl.flat_all] at h
  unfold Tl.pc at h
  rw [List.length_append] at h
  omega
theorem Tl.ls_len (l : List UInt8) : (Tl.ls l).length ≤ l.length := by
  unfold Tl.ls; rw [List.length_map]; exact Tl.prs_len l.length l (Nat.le_refl _)
theorem RO.at {B : Nat} {W : World} {v : Value} {X : List (List UInt8)} {k : Nat} (h : RO B W v X k) (hk : k < X.length) : ∃ g cap a c, v = .slice (some ⟨g, 0, none⟩) X.length cap ∧ B ≤ g ∧ g < W.heap.size ∧ W.cell? ⟨g, k, none⟩ = some (.slice a X[k].length c) ∧ W.frozen? ⟨g, k, none⟩ = false ∧ Sr W a c X[k] := by
  obtain ⟨vs, o1, o2, o3, o4, o5⟩ := h
  obtain ⟨a, c, e, hs, _⟩ := (o4 k hk).sr
  rcases o1.2 with ⟨_, h0⟩ | ⟨g, cap, cur, e2, hb, hg, hnc, hcm, hsz, ht⟩
  · omega
  · subst e2
    have hc := o1.cells (g := g) rfl k (vs[k]'(by omega)) (by simp [o2, hk])
    rw [add0] at hc
    refine ⟨g, cap, a, c, rfl, hb, heap_lt hg, ?_, o1.frozenAt k, hs⟩
    rw [hc, e]
set_option maxRecDepth 100000 in
set_option maxHeartbeats 4000000 in
theorem oLines (l : List UInt8) (a : Option Addr) (c : Nat) (hl : l.length ≤ 1048577) (w : World) (hS : Sr w a c l) : Calls Try.prog 7 #[.slice a l.length c] w fun e w' => ∃ v, e = .returned (.tuple #[v, .bool (Tl.eb l)]) ∧ RO w.heap.size w' v (Tl.ls l) (Tl.ls l).length ∧ Below w.heap.size w w' := by
  have HT := hidA (oTexts l a c hl w hS)
  have hll := Tl.ls_mem_le l
  have hln := Tl.ls_len l
  have HS := hidA (fun W (b : Below w.heap.size w W) => hS.grow b)
  have HE := hidA (Tl.eb_at l.length l (Nat.le_refl _))
  have HE0 : Hid (l = [] → Tl.eb l = true) := fun h => by subst h; rfl
  clear hS
  generalize Tl.ls l = X at *
  generalize Tl.eb l = y at *
  go_enter Try.func7, Try.ntmps7
  go_upto_region 3 with (go_at_call 21; with_reducible refine HT.out.mono ?_; rintro e w1 ⟨v, rfl, h1, h2⟩; have HI := hidA h1.ro; have HB1 := hidA h2; obtain ⟨a1, c1, hv1⟩ := h1.slice; subst hv1; clear h1 h2)
  go_loopw [11] (fun s11 W => ∃ (k : Nat), s11 = .int .i64 k ∧ k ≤ X.length ∧ Hid (RO w.heap.size W (.slice a1 X.length c1) X k) ∧ Hid (Below w.heap.size w W)) (fun s11 _ => X.length - (intOf s11).toNat)
  case atStart => exact ⟨0, rfl, Nat.zero_le _, HI, HB1⟩
  case round =>
    obtain ⟨k, rfl, hk, HR, HB⟩ := hrel
    clear HI HB1 HT
    by_cases hlt : k < X.length
    · obtain ⟨g, cap, a', c', ev, hgB, hgw, hc, hf, hs⟩ := HR.out.at hlt
      injection ev with ev1 _ ev3
      subst ev1 ev3
      have hxl := hll X[k] (List.getElem_mem hlt)
      have HC := hidA (oClone X[k] a' c' (by omega) wr hs)
      have hw1 : IntKind.i64.wrap ((k : Int) + 1) = ((k + 1 : Nat) : Int) := by rw [IntKind.wrap_i64]; omega
      have HSt : Hid (∀ (W2 : World) (v2 : Value), By wr.heap.size W2 v2 X[k] → Below wr.heap.size wr W2 → RO w.heap.size (W2.setCell ⟨g, k, none⟩ v2) (.slice (some ⟨g, 0, none⟩) X.length c1) X (k + 1) ∧ Below w.heap.size w (W2.setCell ⟨g, k, none⟩ v2) ∧ W2.cell? ⟨g, k, none⟩ = some (.slice a' X[k].length c') ∧ W2.frozen? ⟨g, k, none⟩ = false) := fun W2 v2 h1 h2 => by
        refine ⟨(HR.out.grow h2).store hlt (h1.mono HB.out.size) h1.one, (HB.out.trans (h2.mono HB.out.size)).setCell hgB _, (h2.cell (p := ⟨g, k, none⟩) hgw).trans hc, ?_⟩
        have := h2.block g hgw
        rw [← hf]; simp [World.frozen?, this]
      clear hs
      generalize X[k] = x at *
      go_wp2_with (go_at_call 22; with_reducible refine HC.out.mono ?_; rintro e w2 ⟨v2, rfl, h1, h2⟩; obtain ⟨q1, q2, hc2, hf2⟩ := HSt.out w2 v2 h1 h2; have Q1 := hidA q1; have Q2 := hidA q2; obtain ⟨a2, c2, hv2⟩ := h1.slice; subst hv2; clear h1 h2 q1 q2)
      exact ⟨⟨k + 1, by first | rfl | go_num, hlt, Q1, Q2⟩, by simp [intOf]; omega⟩
    · have ek : k = X.length := by omega
      by_cases h0 : l = []
      · have h1 := HE0.out h0
        subst h1 h0
        go_wp2_with (go_region)
        go_ret2
        exact ⟨_, rfl, by rw [ek] at HR; exact HR.out.grow (bl_drew _ _), HB.out.trans ((bl_drew _ _).mono HB.out.size)⟩
      · have hpos : 0 < l.length := List.length_pos_iff.2 h0
        obtain ⟨m, hm⟩ : ∃ m, m + 1 = l.length := ⟨l.length - 1, by omega⟩
        have hml : m < l.length := by omega
        have h1 := HE.out m hml hm
        obtain ⟨gs, os, ea, hgs, hcs⟩ := (HS.out wr HB.out).src m hml
        subst ea
        have hsub : IntKind.i64.wrap ((l.length : Int) - 1) = (m : Int) := by rw [IntKind.wrap_i64]; omega
        have hne : ((l.length : Int) == 0) = false := beq_eq_false_iff_ne.2 (by omega)
        have hb10 : (((l[m]).toNat : Int) == 10) = decide (l[m] = 10) := byte_eq l[m] 10
        obtain ⟨z, hz⟩ : ∃ z, z = l[m] := ⟨_, rfl⟩
        rw [← hz] at h1 hcs hb10
        clear hz
        subst h1
        go_wp2_with (go_region)
        go_ret2
        exact ⟨_, rfl, by rw [ek] at HR; exact HR.out.grow (bl_drew _ _), HB.out.trans ((bl_drew _ _).mono HB.out.size)⟩
end Go.Proofs.Ytplnojohlbbalaa
/- The plain answer's Whole. Condition: lengths that fit. -/
namespace Go.Proofs.Ytplnojohlbbalaa
open Go.RowKit
attribute [local go_sem] ext_eq app_eq get_eq
namespace Tl
/-- Lines written as bytes; e: the last one is ended, too. -/
def wh : List (List UInt8) → Bool → List UInt8
  | [], _ => []
  | x :: r, e => x ++ ((if r ≠ [] ∨ e = true then [10] else []) ++ wh r e)
theorem wh_len (e : Bool) : ∀ X : List (List UInt8), (wh X e).length ≤ X.flatten.length + X.length
  | [] => by simp [wh]
  | x :: r => by
    have ih := wh_len e r
    simp only [wh, List.length_append, List.flatten_cons, List.length_cons]
    split <;> simp only [List.length_cons, List.length_nil] <;> omega
theorem wh_join (e : Bool) : ∀ (r : List (List UInt8)), Lib.joinTail [10] r ++ (if e = true then [10] else []) = (if r ≠ [] ∨ e = true then [10] else []) ++ wh r e
  | [] => by cases e <;> simp [Lib.joinTail, wh]
  | y :: r => by
    have ih := wh_join e r
    have e1 : Lib.joinTail [10] (y :: r) = [10] ++ y ++ Lib.joinTail [10] r := by simp [Lib.joinTail]
    have e2 : (if (y :: r) ≠ [] ∨ e = true then [10] else ([] : List UInt8)) = [10] := if_pos (.inl (List.cons_ne_nil _ _))
    rw [e1, e2]
    simp only [wh, List.append_assoc]
    rw [ih]
theorem wh_all (e : Bool) (X : List (List UInt8)) : wh X e = Lib.join X [10] ++ (if e = true ∧ X ≠ [] then [10] else []) := by
  cases X with
  | nil => simp [wh, Lib.join_nil]
  | cons x r =>
    have h := wh_join e r
    simp only [wh]
    rw [← h, Lib.join_cons, List.append_assoc]
    by_cases he : e = true
    · rw [if_pos he, if_pos ⟨he, List.cons_ne_nil _ _⟩]
    · rw [if_neg he, if_neg (fun h => he h.1)]
/-- What the plain answer's Whole has behind k lines. -/
def Wh (X : List (List UInt8)) (e : Bool) (p : List UInt8) (k : Nat) : Prop := wh X e = p ++ wh (X.drop k) e
theorem Wh.zero (X : List (List UInt8)) (e : Bool) : Wh X e [] 0 := by simp [Wh]
theorem Wh.done {X : List (List UInt8)} {e : Bool} {p : List UInt8} {k : Nat} (h : Wh X e p k) (hk : ¬ k < X.length) : wh X e = p := by
  unfold Wh at h
  rw [List.drop_eq_nil_of_le (by omega)] at h
  simpa [wh] using h
theorem Wh.mid {X : List (List UInt8)} {e : Bool} {p : List UInt8} {k : Nat} (h : Wh X e p k) (hk : k < X.length) (hm : k + 1 < X.length ∨ e = true) : Wh X e (p ++ X[k] ++ [10]) (k + 1) := by
  unfold Wh at h ⊢
  rw [h, List.drop_eq_getElem_cons hk]
  simp only [wh]
  rw [if_pos (by
    rcases hm with hm | hm
    · exact .inl (by intro e9; have := congrArg List.length e9; simp at this; omega)
    · exact .inr hm)]
  simp [List.append_assoc]
theorem Wh.last {X : List (List UInt8)} {e : Bool} {p : List UInt8} {k : Nat} (h : Wh X e p k) (hk : k < X.length) (hm : ¬ (k + 1 < X.length ∨ e = true)) : Wh X e (p ++ X[k]) (k + 1) := by
  unfold Wh at h ⊢
  rw [h, List.drop_eq_getElem_cons hk]
  simp only [wh]
  rw [if_neg (by
    rintro (h9 | h9)
    · exact hm (.inl (by
        have : (X.drop (k + 1)).length ≠ 0 := fun e9 => h9 (List.length_eq_zero_iff.1 e9)
        rw [List.length_drop] at this; omega))
    · exact hm (.inr h9))]
  simp [List.append_assoc]
theorem Wh.le {X : List (List UInt8)} {e : Bool} {p : List UInt8} {k : Nat} (h : Wh X e p k) : p.length ≤ (wh X e).length := by
  unfold Wh at h
  rw [h, List.length_append]; omega
end Tl
set_option maxRecDepth 100000 in
set_option maxHeartbeats 4000000 in
theorem rWhole (X : List (List UInt8)) (e : Bool) (a : Option Addr) (c : Nat) (hX : X.length ≤ 2 ^ 40) (hF : (Tl.wh X e).length ≤ 2097155) (w : World) (hR : Rd w a X) : Calls Try.prog 12 #[.slice a X.length c, .bool e] w fun y w' => ∃ v, y = .returned v ∧ By w.heap.size w' v (Tl.wh X e) ∧ Below w.heap.size w w' := by
  obtain ⟨iB, hiB, hb0, hb1, hb2⟩ := infoB
  have HR := hidA hR
  have HB0 := hidA ((Below.refl w.heap.size w).alloc (Nat.le_refl _) (.cells #[] 5))
  have HO0 := hidA (By.fresh w w.heap.size (Nat.le_refl _))
  have HW0 := hidA (Tl.Wh.zero X e)
  clear hR
  go_enter Try.func12, Try.ntmps12
  go_wp2
  go_loopw [5, 11] (fun s5 s11 W => ∃ (k : Nat) (p : List UInt8), s11 = .int .i64 k ∧ k ≤ X.length ∧ Hid (Tl.Wh X e p k) ∧ Hid (By w.heap.size W s5 p) ∧ Hid (Below w.heap.size w W)) (fun _ s11 _ => X.length - (intOf s11).toNat)
  case atStart => exact ⟨0, [], rfl, Nat.zero_le _, HW0, HO0, HB0⟩
  case round =>
    obtain ⟨k, p, rfl, hk, HWh, HO, HB⟩ := hrel
    clear HB0 HO0 HW0
    obtain ⟨a3, c3, hv3⟩ := HO.out.slice
    subst hv3
    have hpc := HO.out.sr.le
    have hwsz := hidA HB.out.size
    by_cases hlt : k < X.length
    · obtain ⟨g, o, a', c', rfl, hg, hc0, hs⟩ := HR.out k hlt
      have hc : wr.cell? ⟨g, o + k, none⟩ = some (.slice a' X[k].length c') := (HB.out.cell (p := ⟨g, o + k, none⟩) hg).trans hc0
      have hgw : g < wr.heap.size := Nat.lt_of_lt_of_le hg hwsz.out
      have hw1 : IntKind.i64.wrap ((k : Int) + 1) = ((k + 1 : Nat) : Int) := by rw [IntKind.wrap_i64]; omega
      have hsub : IntKind.i64.wrap ((X.length : Int) - 1) = (X.length : Int) - 1 := by rw [IntKind.wrap_i64]; omega
      have HSx := hidA (hs.grow HB.out)
      have HO3 := hidA HO.out.own
      by_cases hm : k + 1 < X.length ∨ e = true
      · have HW2 := hidA (HWh.out.mid hlt hm)
        have hle := HW2.out.le
        simp only [List.length_append, List.length_singleton] at hle
        have hcond : decide ((k : Int) < (X.length : Int) - 1) = true ∨ (decide ((k : Int) < (X.length : Int) - 1) = false ∧ e = true) := by
          by_cases h9 : k + 1 < X.length
          · exact .inl (decide_eq_true (by omega))
          · exact .inr ⟨decide_eq_false (by omega), by rcases hm with h | h; exact absurd h h9; exact h⟩
        clear hc0 hs HR hm HWh
        generalize X[k] = x at *
        cases a' with
        | none =>
          have hx0 : x = [] := List.length_eq_zero_iff.1 (by have h1 := HSx.out.nil rfl; have h2 := HSx.out.le; omega)
          subst hx0
          have hc'0 := HSx.out.nil rfl
          subst hc'0
          have hc9 : wr.cell? ⟨g, o + k, none⟩ = some (.slice none 0 0) := hc
          rw [List.append_nil] at HW2
          clear hc HSx
          rcases hcond with hcd | ⟨hcd, rfl⟩ <;> cases a3
          all_goals
            go_wp2_with (at_builtin; refine wpList_append_own_at _ rfl _ _ 22 rfl w.heap.size 5 iB (.int .u8 0) 1 1 Try.underlying22 hiB hb0 hb1 hb2 rfl (by decide) _ _ _ rfl (HO3.out.alloc _) ⟨wr.heap.size, 0, none⟩ 1 1 [.int .u8 10] rfl rfl (cell_one_new _ _ _) (one_u8 _) (by unfold maxLen; omega) (by omega) (by have := hwsz.out; simp; omega) ?_; intro v' w2 hown hg2 _ hat; have HO2 := hidA (By.app1 (x := 10) hown); have HB2 : Hid (Below w.heap.size w w2) := (HB.out.alloc hwsz.out _).grown hg2 (by have := hwsz.out; simp; omega) (fun k hk => (HO3.out.lt k hk).1); clear hown hg2 hat)
            exact ⟨⟨k + 1, _, by first | rfl | go_num, hlt, HW2, HO2, HB2⟩, by simp [intOf]; omega⟩
        | some ad =>
          obtain ⟨q, hq⟩ : ∃ q, q = p ++ x := ⟨_, rfl⟩
          have hql : q.length + 1 ≤ 2097155 := by rw [hq, List.length_append]; omega
          rw [← hq] at HW2
          have HQ := hidA hq
          clear hq
          rcases hcond with hcd | ⟨hcd, rfl⟩
          all_goals
            go_wp2_with (first
              | (at_builtin; refine wpList_append_own_at _ rfl _ _ 22 rfl w.heap.size 5 iB (.int .u8 0) 1 1 Try.underlying22 hiB hb0 hb1 hb2 rfl (by decide) _ _ _ rfl HO3.out ad x.length c' (bCs x) rfl (by rw [bCs_len, Nat.mul_one]) (fun j u hj => HSx.out.src.cells_at j u hj) (bCs_one x) (by unfold maxLen; omega) (by omega) hwsz.out ?_; intro v2 w2 hown hg2 _ hat; have HO2 : Hid (By w.heap.size w2 v2 q) := (by rw [HQ.out]; exact By.of_app hown); have HB2 : Hid (Below w.heap.size w w2) := HB.out.grown hg2 hwsz.out (fun k hk => (HO3.out.lt k hk).1); obtain ⟨a4, c4, hv4⟩ := HO2.out.slice; subst hv4; have HO4 := hidA HO2.out.own; have hwsz2 := hidA HB2.out.size; clear hown hg2 hat HO3 HSx)
              | (at_builtin; refine wpList_append_own_at _ rfl _ _ 22 rfl w.heap.size 5 iB (.int .u8 0) 1 1 Try.underlying22 hiB hb0 hb1 hb2 rfl (by decide) _ _ _ rfl (HO4.out.alloc _) ⟨w2.heap.size, 0, none⟩ 1 1 [.int .u8 10] rfl rfl (cell_one_new _ _ _) (one_u8 _) (by unfold maxLen; omega) (by omega) (by have := hwsz2.out; simp; omega) ?_; intro v' w3 hown hg2 _ hat; have HO5 := hidA (By.app1 (x := 10) hown); have HB5 : Hid (Below w.heap.size w w3) := (HB2.out.alloc hwsz2.out _).grown hg2 (by have := hwsz2.out; simp; omega) (fun k hk => (HO4.out.lt k hk).1); clear hown hg2 hat))
            exact ⟨⟨k + 1, _, by first | rfl | go_num, hlt, HW2, HO5, HB5⟩, by simp [intOf]; omega⟩
      · have HW2 := hidA (HWh.out.last hlt hm)
        have hle := HW2.out.le
        simp only [List.length_append] at hle
        have he : e = false := by cases e; rfl; exact absurd (.inr rfl) hm
        subst he
        have hcd : decide ((k : Int) < (X.length : Int) - 1) = false := decide_eq_false (fun h => hm (.inl (by omega)))
        clear hc0 hs HR hm HWh
        generalize X[k] = x at *
        cases a' with
        | none =>
          have hx0 : x = [] := List.length_eq_zero_iff.1 (by have h1 := HSx.out.nil rfl; have h2 := HSx.out.le; omega)
          subst hx0
          have hc'0 := HSx.out.nil rfl
          subst hc'0
          have hc9 : wr.cell? ⟨g, o + k, none⟩ = some (.slice none 0 0) := hc
          rw [List.append_nil] at HW2
          clear hc HSx
          cases a3
          all_goals
            go_wp2_with fail
            exact ⟨⟨k + 1, _, by first | rfl | go_num, hlt, HW2, HO, HB⟩, by simp [intOf]; omega⟩
        | some ad =>
          go_wp2_with (at_builtin; refine wpList_append_own_at _ rfl _ _ 22 rfl w.heap.size 5 iB (.int .u8 0) 1 1 Try.underlying22 hiB hb0 hb1 hb2 rfl (by decide) _ _ _ rfl HO3.out ad x.length c' (bCs x) rfl (by rw [bCs_len, Nat.mul_one]) (fun j u hj => HSx.out.src.cells_at j u hj) (bCs_one x) (by unfold maxLen; omega) (by omega) hwsz.out ?_; intro v2 w2 hown hg2 _ hat; have HO2 := hidA (By.of_app hown); have HB2 : Hid (Below w.heap.size w w2) := HB.out.grown hg2 hwsz.out (fun k hk => (HO3.out.lt k hk).1); clear hown hg2 hat)
          exact ⟨⟨k + 1, _, by first | rfl | go_num, hlt, HW2, HO2, HB2⟩, by simp [intOf]; omega⟩
    · have HD := hidA (HWh.out.done hlt)
      go_wp2_with fail
      go_ret
      exact ⟨_, rfl, by rw [HD.out]; exact HO.out, HB.out⟩
end Go.Proofs.Ytplnojohlbbalaa
/- The program's Whole. Condition: lengths that fit. -/
namespace Go.Proofs.Ytplnojohlbbalaa
open Go.RowKit
attribute [local go_sem] ext_eq app_eq get_eq
/-- A slice of bytes that can be read, and appended to. -/
structure Ap (B : Nat) (W : World) (a : Option Addr) (c : Nat) (l : List UInt8) : Prop where
  src : Src W a l
  le : l.length ≤ c
  nil : a = none → c = 0
  at' : ∀ ad, a = some ad → ∃ g, ad = ⟨g, 0, none⟩ ∧ B ≤ g ∧ ∀ i, i < c → (W.cell? ⟨g, i, none⟩).isSome = true ∧ W.frozen? ⟨g, i, none⟩ = false
theorem Ap.sr {B : Nat} {W : World} {a : Option Addr} {c : Nat} {l : List UInt8} (h : Ap B W a c l) : Sr W a c l := ⟨h.src, h.le, h.nil⟩
theorem Ap.grow {B : Nat} {W W' : World} {a : Option Addr} {c : Nat} {l : List UInt8} (h : Ap B W a c l) (b : Below W.heap.size W W') : Ap B W' a c l := by
  refine ⟨h.src.grow b (Nat.le_refl _), h.le, h.nil, fun ad ea => ?_⟩
  obtain ⟨g, e, hB, hg⟩ := h.at' ad ea
  refine ⟨g, e, hB, fun i hi => ?_⟩
  obtain ⟨h1, h2⟩ := hg i hi
  have hlt : g < W.heap.size := by
    obtain ⟨u, hu⟩ := Option.isSome_iff_exists.1 h1
    exact block_lt_of_cell hu
  have hk := b.block g hlt
  exact ⟨by rw [World.cell?_of_block (w := W) hk]; exact h1, by rw [← h2]; simp [World.frozen?, hk]⟩
theorem Ap.fresh {B : Nat} {W : World} {v : Value} {l : List UInt8} (h : Lib.FreshBytes B W v l) : ∃ a c, v = .slice a l.length c ∧ Ap B W a c l := by
  obtain ⟨g, cap, zs, rfl, hB, h1, h2, h3, h4, h5, h6, h7⟩ := h
  refine ⟨_, _, rfl, fun j hj => ⟨g, 0, rfl, ?_, ?_⟩, h1, fun e => (by cases e), fun ad ea => ?_⟩
  · exact block_lt_of_cell (h6 j (by omega))
  · rw [Nat.zero_add, h6 j (by omega)]
    have hz : j < zs.length := by omega
    have e1 : zs.getD j 0 = zs[j] := by rw [List.getD_eq_getElem?_getD, List.getElem?_eq_getElem hz]; rfl
    have hb := h4 zs[j] (List.getElem_mem hz)
    have e2 : l[j] = UInt8.ofNat (zs[j]).toNat := by
      have := congrArg (fun q => q[j]?) h5
      simp only [Lib.bytesOf, List.getElem?_map, List.getElem?_take, hj, if_true] at this
      rw [List.getElem?_eq_getElem hz, List.getElem?_eq_getElem hj] at this
      simpa using this.symm
    rw [e1, e2]
    have e3 : (UInt8.ofNat (zs[j]).toNat).toNat = (zs[j]).toNat := by simp; omega
    rw [e3, Int.toNat_of_nonneg hb.1]
  · injection ea with ea
    exact ⟨g, ea.symm, hB, fun i hi => ⟨by rw [h6 i hi]; rfl, h7 i hi⟩⟩
theorem Ap.empty (B : Nat) (W : World) : Ap B W none 0 [] := ⟨Src.nil _ _, Nat.le_refl _, fun _ => rfl, fun _ e => (by cases e)⟩
theorem lens_eq : ∀ X : List (List UInt8), Lib.lens X = X.flatten.length
  | [] => by simp [Lib.lens]
  | x :: r => by
    have ih := lens_eq r
    simp only [Lib.lens, List.map_cons, List.sum_cons, List.flatten_cons, List.length_append] at ih ⊢
    rw [ih]
/-- Join of rows that are read, with a line feed between. -/
theorem oJoin (X : List (List UInt8)) (a : Option Addr) (c g : Nat) (hX : X.length ≤ 1048577) (hF : X.flatten.length ≤ 1048577) (hc : X.length ≤ c) (w : World) (hR : Rd w a X) (hg : w.cell? ⟨g, 0, none⟩ = some (.int .u8 10)) : Calls Try.prog 24 #[.slice a X.length c, .slice (some ⟨g, 0, none⟩) 1 1] w fun e w' => ∃ a' c', e = .returned (.slice a' (Lib.join X [10]).length c') ∧ Ap w.heap.size w' a' c' (Lib.join X [10]) ∧ Below w.heap.size w w' := by
  match X, hX, hF, hc, hR with
  | [], _, _, _, _ =>
    refine (Try.bytes_Join_none a c _ w).mono ?_
    rintro e w' ⟨rfl, rfl⟩
    refine ⟨_, 0, rfl, ⟨Src.nil _ _, Nat.le_refl _, fun e => (by cases e), fun ad ea => ?_⟩, (Below.refl _ _).alloc (Nat.le_refl _) _⟩
    injection ea with ea
    exact ⟨_, ea.symm, Nat.le_refl _, fun i hi => absurd hi (Nat.not_lt_zero _)⟩
  | [x], _, hF, _, hR =>
    obtain ⟨g0, o, a', c', rfl, hg0, hc0, hs⟩ := hR 0 (by simp)
    rw [Lib.join_one]
    have hx0 : x.length ≤ 1048577 := by simpa using hF
    have hcell : w.cell? ⟨g0, o, none⟩ = some (.slice a' x.length c') := hc0
    have hs' : Sr w a' c' x := hs
    by_cases h0 : x.length = 0
    · rw [h0] at hcell
      refine (Try.bytes_Join_one_empty g0 o c a' c' _ w hcell).mono ?_
      rintro e w' ⟨rfl, rfl⟩
      have ex : x = [] := List.length_eq_zero_iff.1 h0
      subst ex
      exact ⟨none, 0, rfl, Ap.empty _ _, Below.refl _ _⟩
    · obtain ⟨gs, os, ea, _, _⟩ := hs'.src 0 (by omega)
      subst ea
      refine (Try.bytes_Join_one g0 o c ⟨gs, os, none⟩ c' x _ w hcell (fun i u hu => ?_) (by omega) (by omega)).mono ?_
      · have hi := (List.getElem?_eq_some_iff.1 hu)
        obtain ⟨hi1, hi2⟩ := hi
        subst hi2
        obtain ⟨_, _, e2, _, hc2⟩ := hs'.src i hi1
        cases e2
        rw [show (⟨gs, os, none⟩ : Addr).add i = ⟨gs, os + i, none⟩ by simp [Addr.add]]; exact hc2
      · rintro e w' ⟨v, rfl, hf, hb⟩
        obtain ⟨a2, c2, rfl, hA⟩ := Ap.fresh hf
        exact ⟨a2, c2, rfl, hA, hb⟩
  | x :: y :: r, hX, hF, hc, hR =>
    obtain ⟨g0, o, _, _, rfl, _, _, _⟩ := hR 0 (by simp)
    have hex : ∀ i, i < (x :: y :: r).length → ∃ v, w.cell? ⟨g0, o + i, none⟩ = some v ∧ ∀ h : i < (x :: y :: r).length, Lib.HoldsBytes w v ((x :: y :: r)[i]) := fun i hi => by
      obtain ⟨g1, o1, a', c', e, hg1, hc1, hs⟩ := hR i hi
      cases e
      refine ⟨_, hc1, fun h => ⟨a', c', rfl, fun e => List.length_eq_zero_iff.1 (by have h1 := hs.nil e; have h2 := hs.le; omega), fun ad ea j u hu => ?_⟩⟩
      obtain ⟨hj1, hj2⟩ := List.getElem?_eq_some_iff.1 hu
      subst hj2
      obtain ⟨gs, os, e2, _, hc2⟩ := hs.src j hj1
      rw [ea] at e2
      cases e2
      rw [show (⟨gs, os, none⟩ : Addr).add j = ⟨gs, os + j, none⟩ by simp [Addr.add]]; exact hc2
    obtain ⟨vs, hvl, hvq⟩ : ∃ vs : List Value, vs.length = (x :: y :: r).length ∧ ∀ i v, vs[i]? = some v → w.cell? ⟨g0, o + i, none⟩ = some v ∧ ∀ h : i < (x :: y :: r).length, Lib.HoldsBytes w v ((x :: y :: r)[i]) := by
      have := fun n (hn : n ≤ (x :: y :: r).length) => (show ∃ vs : List Value, vs.length = n ∧ ∀ i v, vs[i]? = some v → w.cell? ⟨g0, o + i, none⟩ = some v ∧ ∀ h : i < (x :: y :: r).length, Lib.HoldsBytes w v ((x :: y :: r)[i]) by
        induction n with
        | zero => exact ⟨[], rfl, fun i v h => by simp at h⟩
        | succ n ih =>
          obtain ⟨vs, h1, h2⟩ := ih (by omega)
          obtain ⟨v, h3, h4⟩ := hex n (by omega)
          refine ⟨vs ++ [v], by simp [h1], fun i u hu => ?_⟩
          by_cases hi : i < vs.length
          · rw [List.getElem?_append_left hi] at hu; exact h2 i u hu
          · rw [List.getElem?_append_right (by omega)] at hu
            have hin : i = n := by
              rcases Nat.lt_or_ge (i - vs.length) 1 with h | h
              · omega
              · rw [List.getElem?_eq_none (by simpa using h)] at hu; cases hu
            subst hin
            rw [show i - vs.length = 0 by omega] at hu
            simp at hu; subst hu
            exact ⟨h3, h4⟩)
      exact this _ (Nat.le_refl _)
    refine (Try.bytes_Join_many g0 o (x :: y :: r).length c vs (x :: y :: r) _ [10] w rfl (by simp) ⟨hvl, fun i v hv => ?_, fun i v l hv hl => ?_⟩ hc ⟨some ⟨g, 0, none⟩, 1, rfl, fun e => (by cases e), fun ad ea i u hu => ?_⟩ (by omega) (by rw [lens_eq]; simp only [List.length_cons, List.length_nil] at hX ⊢; omega)).mono ?_
    · rw [show (⟨g0, o, none⟩ : Addr).add i = ⟨g0, o + i, none⟩ by simp [Addr.add]]; exact (hvq i v hv).1
    · obtain ⟨hi1, hi2⟩ := List.getElem?_eq_some_iff.1 hl
      subst hi2
      exact (hvq i v hv).2 hi1
    · injection ea with ea
      subst ea
      match i, hu with
      | 0, hu => simp at hu; subst hu; simpa [Addr.add] using hg
    · rintro e w' ⟨v, rfl, hf, hb⟩
      obtain ⟨a2, c2, rfl, hA⟩ := Ap.fresh hf
      exact ⟨a2, c2, rfl, hA, hb⟩
end Go.Proofs.Ytplnojohlbbalaa
