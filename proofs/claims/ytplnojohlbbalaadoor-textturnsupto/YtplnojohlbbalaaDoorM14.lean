/- Several texts of this claim, one behind the other, in their order. -/
import Derived.Test.YtplnojohlbbalaaDoorP1
/- The plain theory of numbered lines; the program's numbering tells them. Condition: numbers that fit. -/
namespace Go.Proofs.YtplnojohlbbalaaDoor
open Go.RowKit
attribute [local go_sem] ext_eq app_eq get_eq
namespace Tl
/-- The state behind some lines, and what is told of them. -/
def nst (all : Bool) (st : Int) : Option Int → List (List UInt8 × Bool) → Option Int
  | s, [] => s
  | s, y :: r => nst all st (ns all st s y.1) r
def no (all : Bool) (st : Int) (wd : Nat) : Option Int → List (List UInt8 × Bool) → List UInt8
  | _, [] => []
  | s, y :: r => nt all wd s y.1 ++ nl y.2 ++ no all st wd (ns all st s y.1) r
theorem nst_snoc (all : Bool) (st : Int) : ∀ (s : Option Int) (A : List (List UInt8 × Bool)) (y : List UInt8 × Bool), nst all st s (A ++ [y]) = ns all st (nst all st s A) y.1
  | _, [], _ => rfl
  | _, _ :: r, y => nst_snoc all st _ r y
theorem no_snoc (all : Bool) (st : Int) (wd : Nat) : ∀ (s : Option Int) (A : List (List UInt8 × Bool)) (y : List UInt8 × Bool), no all st wd s (A ++ [y]) = no all st wd s A ++ nt all wd (nst all st s A) y.1 ++ nl y.2
  | s, [], y => by simp [no, nst]
  | s, z :: r, y => by
    have h := no_snoc all st wd (ns all st s z.1) r y
    simp only [List.cons_append, no, nst, h, List.append_assoc]
/-- A state that is an int. -/
def inr (s : Option Int) : Prop := ∀ n, s = some n → -9223372036854775808 ≤ n ∧ n ≤ 9223372036854775807
theorem inr_ns {all : Bool} {st : Int} {s : Option Int} {x : List UInt8} (h : inr s) : inr (ns all st s x) := by
  intro n e
  cases s with
  | none => cases e
  | some m =>
    simp only [ns] at e
    split at e
    · unfold nx at e
      split at e
      · cases e
      · injection e with e; omega
    · exact h n e
theorem inr_nst {all : Bool} {st : Int} : ∀ {s : Option Int} {A : List (List UInt8 × Bool)}, inr s → inr (nst all st s A)
  | _, [], h => h
  | s, y :: r, h => by
    show inr (nst all st (ns all st s y.1) r)
    exact inr_nst (inr_ns h)
theorem nt_len {all : Bool} {wd : Nat} {s : Option Int} {x : List UInt8} (h : inr s) (hw : wd ≤ 100) : (nt all wd s x).length ≤ 122 + x.length := by
  cases s with
  | none => simp [nt]; omega
  | some n =>
    have := pd_len n wd (h n rfl).1 (h n rfl).2 hw
    simp only [nt]
    split <;> simp only [List.length_append, List.length_replicate, List.length_cons, List.length_nil] <;> omega
theorem no_len {all : Bool} {st : Int} {wd : Nat} (hw : wd ≤ 100) : ∀ {s : Option Int} {A : List (List UInt8 × Bool)}, inr s → (no all st wd s A).length ≤ 123 * A.length + (A.map pc).flatten.length
  | _, [], _ => by simp [no]
  | s, y :: r, h => by
    have ih := no_len (st := st) (all := all) hw (A := r) (inr_ns (x := y.1) (all := all) (st := st) h)
    have h1 := nt_len (all := all) (x := y.1) h hw
    have h2 : (nl y.2).length ≤ 1 := by unfold nl; split <;> simp
    have h3 : y.1.length ≤ (pc y).length := by simp [pc]
    simp only [no, List.length_append, List.map_cons, List.flatten_cons, List.length_cons]
    omega
end Tl
theorem numTelling (l : List UInt8) (w0 : World) (B0 B g : Nat) (st : Int) (wd : Nat) (all : Bool) (n0 : Int) (hl : l.length ≤ 1048576) (hwd : wd ≤ 100) (hn0 : -9223372036854775808 ≤ n0) (hn1 : n0 ≤ 9223372036854775807) (s0 : -9223372036854775808 ≤ st) (s1 : st ≤ 9223372036854775807) (hw0 : w0.heap.size ≤ B0) (hB0 : B0 ≤ B) (hg : B0 ≤ g) : Telling w0 38 #[.pointer (some ⟨g, 0, none⟩)] #[] B0 B (some g) (Tl.prs l) (fun k => NI B g st wd all (Tl.nst all st (some n0) ((Tl.prs l).take k))) (fun k => Tl.no all st wd (some n0) ((Tl.prs l).take k)) (fun k => Tl.no all st wd (some n0) ((Tl.prs l).take k) ++ Tl.nt all wd (Tl.nst all st (some n0) ((Tl.prs l).take k)) ((Tl.prs l).getD k ([], false)).1) := by
  have hg0 : ∀ k (h : k < (Tl.prs l).length), (Tl.prs l).getD k ([], false) = (Tl.prs l)[k] := fun k h => by rw [List.getD_eq_getElem?_getD, List.getElem?_eq_getElem h]; rfl
  have hi0 : Tl.inr (some n0) := fun n e => by injection e with e; omega
  have hlen : ∀ k, (Tl.no all st wd (some n0) ((Tl.prs l).take k)).length ≤ 2 ^ 30 := fun k => by
    have h1 := Tl.no_len (all := all) (st := st) hwd (A := (Tl.prs l).take k) hi0
    have h2 := Tl.prs_len l.length l (Nat.le_refl _)
    have h3 : ((Tl.prs l).take k).length ≤ (Tl.prs l).length := by rw [List.length_take]; omega
    have h4 : (((Tl.prs l).take k).map Tl.pc).flatten.length ≤ l.length := by
      have h5 := Tl.flat_all l
      have h6 := congrArg List.length h5
      rw [← List.take_append_drop k (Tl.prs l), List.map_append, List.flatten_append, List.length_append] at h6
      omega
    omega
  have hx : ∀ k (h : k < (Tl.prs l).length), (Tl.prs l)[k].1.length ≤ 1048577 := fun k h => by
    have := Tl.ls_each l (by omega) k (by simpa [Tl.ls] using h)
    simpa [Tl.ls] using this
  refine ⟨enters_of Tryd.func38 (by kernel_rfl) rfl, fun k h => ?_, fun k h => ?_, fun _ => ni_firm _ _ _ _ _ _, fun k h => ?_⟩
  · have e1 := Tl.nst_snoc all st (some n0) ((Tl.prs l).take k) (Tl.prs l)[k]
    rw [← List.take_succ_eq_append_getElem h] at e1
    have hp := hlen k
    have hxk := hx k h
    show Tells _ _ _ _ _ _ _ (NI _ _ _ _ _ _) (NI _ _ _ _ _ (Tl.nst all st (some n0) ((Tl.prs l).take (k + 1)))) _ _ (_ ++ Tl.nt all wd _ ((Tl.prs l).getD k ([], false)).1)
    rw [hg0 k h, e1]
    generalize Tl.nst all st (some n0) ((Tl.prs l).take k) = s at *
    generalize Tl.no all st wd (some n0) ((Tl.prs l).take k) = p at *
    generalize (Tl.prs l)[k].1 = x at *
    cases s with
    | none => exact blankTells w0 B0 B g st wd all none p x hwd (by omega) (by omega) hw0 hB0 (.inl rfl)
    | some n =>
      by_cases hc : x ≠ [] ∨ all = true
      · have a1 : Tl.nt all wd (some n) x = Tl.pd n wd ++ [9] ++ x := if_pos hc
        have a2 : Tl.ns all st (some n) x = Tl.nx n st := if_pos hc
        rw [a1, a2]
        exact numTells w0 B0 B g st wd all n p x hwd s0 s1 (by omega) (by omega) hw0 hB0 hg hc
      · have a1 : Tl.nt all wd (some n) x = List.replicate (wd + 1) 32 ++ x := if_neg hc
        have a2 : Tl.ns all st (some n) x = some n := if_neg hc
        rw [a1, a2]
        refine blankTells w0 B0 B g st wd all (some n) p x hwd (by omega) (by omega) hw0 hB0 (.inr ?_)
        refine ⟨Classical.not_not.1 (fun h9 => hc (.inl h9)), ?_⟩
        cases all
        · rfl
        · exact absurd (.inr rfl) hc
  · have e1 := Tl.no_snoc all st wd (some n0) ((Tl.prs l).take k) (Tl.prs l)[k]
    rw [← List.take_succ_eq_append_getElem h] at e1
    show Tl.no all st wd (some n0) ((Tl.prs l).take (k + 1)) = _ ++ Tl.nt all wd _ ((Tl.prs l).getD k ([], false)).1 ++ _
    rw [e1, hg0 k h]
  · have hp := hlen k
    have hxk := hx k h
    have h1 := Tl.nt_len (all := all) (x := (Tl.prs l)[k].1) (Tl.inr_nst (all := all) (st := st) (A := (Tl.prs l).take k) hi0) hwd
    show (_ ++ Tl.nt all wd _ ((Tl.prs l).getD k ([], false)).1).length ≤ _
    rw [hg0 k h, List.length_append]
    omega
end Go.Proofs.YtplnojohlbbalaaDoor
/- The program's Number. Condition: a length that fits; the table of powers of ten reads as its text lays it. -/
namespace Go.Proofs.YtplnojohlbbalaaDoor
open Go.RowKit
attribute [local go_sem] ext_eq app_eq get_eq
/-- The width that a number takes. -/
def Tl.wdt (n : Int) : Nat := (min (max n 1) 100).toNat
theorem Tl.wdt_le (n : Int) : Tl.wdt n ≤ 100 := by unfold Tl.wdt; omega
theorem tab_lt {w : World} (h : Tab w) : ∃ t, Tryd.prog.globalNamed "internal/strconv.uint64pow10" = some t ∧ t < w.heap.size := by
  cases e : Tryd.prog.globalNamed "internal/strconv.uint64pow10" with
  | none =>
    unfold Tab Lib.TabIs World.var? at h
    rw [e] at h
    cases h
  | some t => exact ⟨t, rfl, block_lt_of_cell (Lib.TabIs.cell h e 0 (by decide))⟩
set_option maxRecDepth 100000 in
set_option maxHeartbeats 2000000 in
theorem oNumber (l : List UInt8) (a : Option Addr) (c : Nat) (n0 st wd : Int) (all : Bool) (hl : l.length ≤ 1048576) (hn0 : -9223372036854775808 ≤ n0) (hn1 : n0 ≤ 9223372036854775807) (s0 : -9223372036854775808 ≤ st) (s1 : st ≤ 9223372036854775807) (w : World) (hT : Tab w) (hS : Sr w a c l) : Calls Tryd.prog 17 #[.slice a l.length c, .int .i64 n0, .int .i64 st, .int .i64 wd, .bool all] w fun e w' => ∃ v, e = .returned v ∧ By w.heap.size w' v (Tl.no all st (Tl.wdt wd) (some n0) (Tl.prs l)) ∧ Below w.heap.size w w' := by
  have hbW := (Below.refl w.heap.size w).alloc (Nat.le_refl _) (.cells #[.int .i64 n0, .int .i64 st, .int .i64 (Tl.wdt wd : Nat), .bool all, .bool false] 72)
  have hN : Nb (w.alloc (.cells #[.int .i64 n0, .int .i64 st, .int .i64 (Tl.wdt wd : Nat), .bool all, .bool false] 72)) w.heap.size n0 st (Tl.wdt wd : Nat) all false :=
    ⟨World.cell?_alloc_at _ _ _ _ rfl, World.cell?_alloc_at _ _ _ _ rfl, World.cell?_alloc_at _ _ _ _ rfl, World.cell?_alloc_at _ _ _ _ rfl, World.cell?_alloc_at _ _ _ _ rfl, _, heap_new _ _⟩
  have hI : NI (w.heap.size + 1 + 1) w.heap.size st (Tl.wdt wd) all (some n0) (w.alloc (.cells #[.int .i64 n0, .int .i64 st, .int .i64 (Tl.wdt wd : Nat), .bool all, .bool false] 72)) := by
    obtain ⟨t, h2, h3⟩ := tab_lt hT
    exact ⟨hT.at h2 (hbW.block t h3), ⟨t, h2, by omega, by simp; omega⟩, ⟨hn0, hn1⟩, hN⟩
  have HE := hidA (oRewrite 38 #[.pointer (some ⟨w.heap.size, 0, none⟩)] #[] w.heap.size (some w.heap.size) _ _ _ l a c (by omega) w (w.alloc (.cells #[.int .i64 n0, .int .i64 st, .int .i64 (Tl.wdt wd : Nat), .bool all, .bool false] 72)) (by
    have := numTelling l w w.heap.size (w.heap.size + 1 + 1) w.heap.size st (Tl.wdt wd) all n0 hl (Tl.wdt_le wd) hn0 hn1 s0 s1 (Nat.le_refl _) (by omega) (Nat.le_refl _)
    rw [World.size_alloc]
    exact this) rfl hS hbW hI (Nat.le_refl _) (by simp) (fun k e => by injection e with e; subst e; simp))
  rw [List.take_length] at HE
  have HB := hidA hbW
  clear hT hS hbW hN hI
  have ew : ((Tl.wdt wd : Nat) : Int) = min (max wd 1) 100 := by unfold Tl.wdt; omega
  generalize Tl.no all st (Tl.wdt wd) (some n0) (Tl.prs l) = out at *
  have HE2 := hidA (HE.out.mono (R' := fun e w' => ∃ v, e = .returned v ∧ By (w.alloc (.cells #[.int .i64 n0, .int .i64 st, .int .i64 (Tl.wdt wd : Nat), .bool all, .bool false] 72)).heap.size w' v out ∧ Below w.heap.size (w.alloc (.cells #[.int .i64 n0, .int .i64 st, .int .i64 (Tl.wdt wd : Nat), .bool all, .bool false] 72)) w') (by rintro e w' ⟨v, e1, e2, _, e4⟩; exact ⟨v, e1, e2, e4⟩))
  clear HE
  rw [ew] at HE2 HB
  clear ew
  go_enter Tryd.func17, Tryd.ntmps17
  go_wp2_with (go_at_call 33; (with_reducible refine HE2.out.mono ?_); rintro e w1 ⟨v, rfl, h1, h3⟩; have HO := hidA h1; have HB2 := hidA (HB.out.trans h3); clear h1 h3)
  go_ret
  exact ⟨_, rfl, HO.out.mono (by simp), HB2.out⟩
end Go.Proofs.YtplnojohlbbalaaDoor
/- Numbered lines, written as bytes: the plain answer's lines. No condition. -/
namespace Go.Proofs.YtplnojohlbbalaaDoor
open Go.RowKit
namespace Tl
/-- The lines with what stands ahead of them. -/
def nls (all : Bool) (st : Int) (wd : Nat) : Option Int → List (List UInt8) → List (List UInt8)
  | _, [] => []
  | s, x :: r => nt all wd s x :: nls all st wd (ns all st s x) r
theorem nls_len (all : Bool) (st : Int) (wd : Nat) : ∀ (s : Option Int) (X : List (List UInt8)), (nls all st wd s X).length = X.length
  | _, [] => rfl
  | _, _ :: r => by simp [nls, nls_len all st wd _ r]
theorem no_wh (all : Bool) (st : Int) (wd : Nat) (e : Bool) : ∀ (s : Option Int) (P : List (List UInt8 × Bool)), (∀ i (h : i < P.length), P[i].2 = (decide (i + 1 < P.length) || e)) → no all st wd s P = wh (nls all st wd s (P.map (·.1))) e
  | _, [], _ => rfl
  | s, y :: r, h => by
    have ih := no_wh all st wd e (ns all st s y.1) r (fun i hi => by
      have := h (i + 1) (by simpa using hi)
      simp only [List.getElem_cons_succ, List.length_cons] at this
      rw [this]
      congr 1
      exact decide_eq_decide.2 (by omega))
    have h0 := h 0 (by simp)
    simp only [List.getElem_cons_zero, List.length_cons] at h0
    have e2 : nl y.2 = if nls all st wd (ns all st s y.1) (r.map (·.1)) ≠ [] ∨ e = true then [10] else [] := by
      unfold nl
      rw [h0]
      by_cases h9 : r = []
      · subst h9; simp [nls]
      · have hl := List.length_pos_iff.2 h9
        have h8 : nls all st wd (ns all st s y.1) (r.map (·.1)) ≠ [] := fun e9 => by
          have := congrArg List.length e9
          rw [nls_len, List.length_map, List.length_nil] at this
          omega
        have h7 : decide (0 + 1 < r.length + 1) = true := decide_eq_true (by omega)
        rw [h7, if_pos (show nls all st wd (ns all st s y.1) (r.map (·.1)) ≠ [] ∨ e = true from .inl h8)]
        rfl
    simp only [no, List.map_cons, nls, wh]
    rw [ih, e2, List.append_assoc]
theorem prs_no_wh (all : Bool) (st : Int) (wd : Nat) (s : Option Int) (l : List UInt8) : no all st wd s (prs l) = wh (nls all st wd s (ls l)) (eb l) :=
  no_wh all st wd (eb l) s (prs l) (fun i h => prs_ended l.length l (Nat.le_refl _) i h)
/-- The state behind the first i lines. -/
def nsi (all : Bool) (st : Int) (s : Option Int) (X : List (List UInt8)) (i : Nat) : Option Int := (X.take i).foldl (fun s x => ns all st s x) s
theorem nsi_zero (all : Bool) (st : Int) (s : Option Int) (X : List (List UInt8)) : nsi all st s X 0 = s := rfl
theorem nsi_succ (all : Bool) (st : Int) (s : Option Int) {X : List (List UInt8)} {i : Nat} (h : i < X.length) : nsi all st s X (i + 1) = ns all st (nsi all st s X i) X[i] := by
  unfold nsi
  rw [List.take_succ_eq_append_getElem h, List.foldl_append]; rfl
theorem nls_at (all : Bool) (st : Int) (wd : Nat) : ∀ (s : Option Int) (X : List (List UInt8)) (i : Nat) (h : i < X.length) (h2 : i < (nls all st wd s X).length), (nls all st wd s X)[i]'h2 = nt all wd (nsi all st s X i) X[i]
  | _, _ :: _, 0, _, _ => rfl
  | s, x :: r, i + 1, h, h2 => by
    have ih := nls_at all st wd (ns all st s x) r i (by simpa using h) (by rw [nls_len]; simpa using h)
    simpa [nls, nsi] using ih
/-- The plain answer's rows behind i lines. -/
def nv (Y X : List (List UInt8)) (i : Nat) : List (List UInt8) := Y.take i ++ X.drop i
theorem nv_zero (Y X : List (List UInt8)) : nv Y X 0 = X := by simp [nv]
theorem nv_all {Y X : List (List UInt8)} (h : Y.length = X.length) : nv Y X X.length = Y := by simp [nv, ← h]
theorem nv_len {Y X : List (List UInt8)} (h : Y.length = X.length) (i : Nat) : (nv Y X i).length = X.length := by simp [nv]; omega
theorem nv_at {Y X : List (List UInt8)} (hl : Y.length = X.length) {i : Nat} (h : i < X.length) (h2 : i < (nv Y X i).length) : (nv Y X i)[i]'h2 = X[i] := by
  apply Option.some.inj
  rw [← List.getElem?_eq_getElem h2, ← List.getElem?_eq_getElem h]
  unfold nv
  rw [List.getElem?_append_right (by simp; omega), List.getElem?_drop]
  congr 1
  rw [List.length_take]; omega
theorem nv_succ {Y X : List (List UInt8)} (hl : Y.length = X.length) {i : Nat} (h : i < X.length) : nv Y X (i + 1) = (nv Y X i).set i (Y[i]'(by omega)) := by
  have hy : i < Y.length := by omega
  unfold nv
  have e : (Y.take i).length = i := by rw [List.length_take]; omega
  rw [List.take_succ_eq_append_getElem hy, List.set_append_right _ _ (by omega), e, Nat.sub_self, List.drop_eq_getElem_cons h]
  simp only [List.set_cons_zero, List.append_assoc, List.singleton_append]
end Tl
end Go.Proofs.YtplnojohlbbalaaDoor
