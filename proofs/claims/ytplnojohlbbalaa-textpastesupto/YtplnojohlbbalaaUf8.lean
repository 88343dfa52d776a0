/- The program's row, and slices.DeleteFunc of its columns. Condition: lengths that fit. -/
import Derived.Test.YtplnojohlbbalaaM9
namespace Go.Proofs.Ytplnojohlbbalaa
open Go.RowKit
attribute [local go_sem] ext_eq app_eq get_eq
namespace Tl
/-- The first column that has no line behind the N-th. -/
def fi (N : Nat) : List (List (List UInt8)) → Nat
  | [] => 0
  | c :: r => if c.length ≤ N then 0 else fi N r + 1
theorem fi_le (N : Nat) : ∀ C, fi N C ≤ C.length
  | [] => Nat.le_refl _
  | c :: r => by
    have := fi_le N r
    simp only [fi, List.length_cons]
    split <;> omega
theorem fi_hit (N : Nat) : ∀ (C : List (List (List UInt8))) (k : Nat) (h : k < C.length), k ≤ fi N C → C[k].length ≤ N → fi N C = k
  | c :: r, 0, _, _, h => if_pos h
  | c :: r, k + 1, hk, hle, h => by
    have hlt : k < r.length := by simpa using hk
    have h' : (r[k]).length ≤ N := by simpa using h
    by_cases hc : c.length ≤ N
    · have e : fi N (c :: r) = 0 := if_pos hc
      omega
    · have e : fi N (c :: r) = fi N r + 1 := if_neg hc
      rw [e, fi_hit N r k hlt (by omega) h']
theorem fi_miss (N : Nat) : ∀ (C : List (List (List UInt8))) (k : Nat) (h : k < C.length), k ≤ fi N C → ¬ C[k].length ≤ N → k + 1 ≤ fi N C
  | c :: r, 0, _, _, h => by
    have e : fi N (c :: r) = fi N r + 1 := if_neg h
    omega
  | c :: r, k + 1, hk, hle, h => by
    have hlt : k < r.length := by simpa using hk
    have h' : ¬ (r[k]).length ≤ N := by simpa using h
    by_cases hc : c.length ≤ N
    · have e : fi N (c :: r) = 0 := if_pos hc
      omega
    · have e : fi N (c :: r) = fi N r + 1 := if_neg hc
      have := fi_miss N r k hlt (by omega) h'
      omega
/-- The columns that have a line behind the N-th. -/
def mo (N : Nat) (C : List (List (List UInt8))) : List (List (List UInt8)) := C.filter fun c => decide (¬ c.length ≤ N)
/-- What IndexFunc tells. -/
def fr (N : Nat) (C : List (List (List UInt8))) : Int := if fi N C < C.length then (fi N C : Int) else -1
theorem fr_yes {N : Nat} {C : List (List (List UInt8))} (h : fi N C < C.length) : fr N C = (fi N C : Int) := if_pos h
theorem fr_no {N : Nat} {C : List (List (List UInt8))} (h : fi N C = C.length) : fr N C = -1 := if_neg (by omega)
theorem mo_all (N : Nat) : ∀ C : List (List (List UInt8)), fi N C = C.length → mo N C = C
  | [], _ => rfl
  | c :: r, h => by
    by_cases hc : c.length ≤ N
    · have e : fi N (c :: r) = 0 := if_pos hc
      rw [e] at h; simp at h
    · have e : fi N (c :: r) = fi N r + 1 := if_neg hc
      rw [e] at h
      have := mo_all N r (by simpa using h)
      unfold mo at this ⊢
      rw [List.filter_cons, if_pos (by simpa using hc), this]
theorem mo_pre (N : Nat) : ∀ (C : List (List (List UInt8))) (k : Nat), k ≤ fi N C → mo N (C.take k) = C.take k
  | [], k, _ => by simp [mo]
  | c :: r, 0, _ => by simp [mo]
  | c :: r, k + 1, h => by
    by_cases hc : c.length ≤ N
    · have e : fi N (c :: r) = 0 := if_pos hc
      omega
    · have e : fi N (c :: r) = fi N r + 1 := if_neg hc
      have := mo_pre N r k (by omega)
      unfold mo at this ⊢
      rw [List.take_succ_cons, List.filter_cons, if_pos (by simpa using hc), this]
theorem mo_yes {N : Nat} {C : List (List (List UInt8))} {k : Nat} (h : k < C.length) (hc : ¬ C[k].length ≤ N) : mo N (C.take (k + 1)) = mo N (C.take k) ++ [C[k]] := by
  unfold mo
  rw [List.take_succ_eq_append_getElem h, List.filter_append]
  simp [List.filter, hc]
theorem mo_no {N : Nat} {C : List (List (List UInt8))} {k : Nat} (h : k < C.length) (hc : C[k].length ≤ N) : mo N (C.take (k + 1)) = mo N (C.take k) := by
  unfold mo
  rw [List.take_succ_eq_append_getElem h, List.filter_append]
  simp [List.filter, hc]
theorem mo_len (N : Nat) (C : List (List (List UInt8))) (k : Nat) : (mo N (C.take k)).length ≤ k := by
  have h1 := List.length_filter_le (fun c : List (List UInt8) => decide (¬ c.length ≤ N)) (C.take k)
  unfold mo
  rw [List.length_take] at h1
  omega
end Tl
/-- Columns of the program's that are read. -/
def Cq (w0 W : World) (a : Option Addr) (C : List (List (List UInt8))) : Prop := ∀ i (h : i < C.length), ∃ g a' c', a = some ⟨g, 0, none⟩ ∧ g < W.heap.size ∧ W.cell? ⟨g, i, none⟩ = some (.slice a' C[i].length c') ∧ C[i].length ≤ c' ∧ Rk w0 W a' C[i]
theorem Cq.grow {w0 W W' : World} {a : Option Addr} {C : List (List (List UInt8))} (h : Cq w0 W a C) (b : Below W.heap.size W W') : Cq w0 W' a C := fun i hi => by
  obtain ⟨g, a', c', e, h1, h2, h3, h4⟩ := h i hi
  exact ⟨g, a', c', e, Nat.lt_of_lt_of_le h1 b.size, (b.cell (p := ⟨g, i, none⟩) h1).trans h2, h3, h4.grow b⟩
theorem PC.cq {w0 : World} {B : Nat} {W : World} {a : Option Addr} {n c : Nat} {C : List (List (List UInt8))} (h : PC w0 B W (.slice a n c) C) : Cq w0 W a C := fun i hi => by
  obtain ⟨vs, h1, h2, h3⟩ := h
  obtain ⟨a', c', ev, h4, h5⟩ := h3 i hi
  rcases h1.2 with ⟨e, h0⟩ | ⟨g, cap, cur, e, hb, hg, hnc, hcm, hsz, ht⟩
  · omega
  · injection e with e1 e2 e3
    subst e1 e3
    have := h1.cells (g := g) (by rfl) i (vs[i]'(by omega)) (by simp [h2, hi])
    rw [add0] at this
    exact ⟨g, a', c', rfl, heap_lt hg, by rw [this, ev], h4, h5⟩
set_option maxRecDepth 100000 in
set_option maxHeartbeats 4000000 in
theorem oRow (C : List (List (List UInt8))) (n : Nat) (a : Option Addr) (c : Nat) (hC : C.length ≤ 1048577) (w0 w : World) (hQ : Cq w0 w a C) : Calls Try.prog 30 #[.slice a C.length c, .int .i64 n] w fun e w' => ∃ v, e = .returned v ∧ RT w0 w.heap.size w' v (Tl.rw' C n) ∧ Below w.heap.size w w' := by
  have HQ := hidA hQ
  have hmk := mk_rows C.length hC w
  have hXl := Tl.rw_len C n
  have HXd : Hid (∀ k (h : k < C.length) (h2 : k < (Tl.rw' C n).length), (Tl.rw' C n)[k]'h2 = C[k].getD n []) := fun k h h2 => by simp [Tl.rw']
  have HR0 : Hid (Rw w0 w.heap.size (w.alloc (.cells (madeCells #[.slice none 0 0] C.length) 22)) (.slice (some ⟨w.heap.size, 0, none⟩) C.length C.length) (Tl.rw' C n) 0) := by
    refine ⟨List.replicate C.length (.slice none 0 0), ?_, by simp [hXl], fun i _ h => absurd h (Nat.not_lt_zero _), fun i h _ => by simp⟩
    rw [hXl]; exact made_own w w.heap.size C.length _ hC (Nat.le_refl _)
  have HB0 := hidA ((Below.refl w.heap.size w).alloc (Nat.le_refl _) (.cells (madeCells #[.slice none 0 0] C.length) 22))
  have HXl := hidA hXl
  clear hQ hXl
  generalize Tl.rw' C n = X at *
  go_enter Try.func30, Try.ntmps30
  go_upto_region 3 with fail
  generalize w.alloc (.cells (madeCells #[.slice none 0 0] C.length) 22) = W0 at *
  clear hmk
  go_loopw [13] (fun s13 W => ∃ (k : Nat), s13 = .int .i64 k ∧ k ≤ C.length ∧ Hid (Rw w0 w.heap.size W (.slice (some ⟨w.heap.size, 0, none⟩) C.length C.length) X k) ∧ Hid (Below w.heap.size w W)) (fun s13 _ => C.length - (intOf s13).toNat)
  case atStart => exact ⟨0, rfl, Nat.zero_le _, HR0, HB0⟩
  case round =>
    obtain ⟨k, rfl, hk, HR, HB⟩ := hrel
    clear HR0 HB0
    by_cases hlt : k < C.length
    · have hltX : k < X.length := by rw [HXl.out]; exact hlt
      obtain ⟨g, a1, c1, rfl, hg, hc, hle, hrk⟩ := (HQ.out.grow HB.out) k hlt
      have hw1 : IntKind.i64.wrap ((k : Int) + 1) = ((k + 1 : Nat) : Int) := by rw [IntKind.wrap_i64]; omega
      have hXk := HXd.out k hlt hltX
      obtain ⟨hgB, hgs, hcc, hff⟩ := HR.out.cell hltX
      by_cases hil : n < C[k].length
      · have hilI : (n : Int) < (C[k].length : Int) := by omega
        obtain ⟨g2, o2, a', c', rfl, hc2, _, hs⟩ := hrk n hil
        have e9 : X[k] = C[k][n] := by rw [hXk, List.getD_eq_getElem?_getD, List.getElem?_eq_getElem hil]; rfl
        rw [← e9] at hc2 hs
        have HS := hidA (HR.out.store hltX hs)
        have HBs := hidA (HB.out.setCell (p := ⟨w.heap.size, k, none⟩) (Nat.le_refl _) (.slice a' X[k].length c'))
        clear hrk hXk e9 hs HR HB HQ
        generalize X[k] = x at *
        generalize C[k].length = m at *
        go_wp2_with fail
        exact ⟨⟨k + 1, by first | rfl | go_num, hlt, HS, HBs⟩, by simp [intOf]; omega⟩
      · have hilI : ¬ (n : Int) < (C[k].length : Int) := by omega
        have HS := hidA (HR.out.skip hltX (by rw [hXk, List.getD_eq_getElem?_getD, List.getElem?_eq_none (by omega)]; rfl))
        clear hrk hXk HR HQ
        generalize C[k].length = m at *
        go_wp2_with fail
        exact ⟨⟨k + 1, by first | rfl | go_num, hlt, HS, HB⟩, by simp [intOf]; omega⟩
    · have HE := hidA (HR.out.rt (by rw [HXl.out]; omega))
      go_wp2_with fail
      go_ret
      exact ⟨_, rfl, HE.out, HB.out⟩
set_option maxRecDepth 100000 in
theorem oDel (a : Option Addr) (n c gp N : Nat) (w : World) (hg : w.cell? ⟨gp, 0, none⟩ = some (.int .i64 N)) : Calls Try.prog 28 #[.slice a n c, .pointer (some ⟨gp, 0, none⟩)] w fun e w' => e = .returned (.bool (decide (n ≤ N))) ∧ w' = w := by
  by_cases h : n ≤ N
  · have hI : (n : Int) ≤ (N : Int) := by omega
    rw [decide_eq_true h]
    go_enter Try.func28, Try.ntmps28
    go_wp2
    go_ret
    exact ⟨by simp, rfl⟩
  · have hI : ¬ (n : Int) ≤ (N : Int) := by omega
    rw [decide_eq_false h]
    go_enter Try.func28, Try.ntmps28
    go_wp2
    go_ret
    exact ⟨by simp, rfl⟩
set_option maxRecDepth 100000 in
set_option maxHeartbeats 2000000 in
theorem oIndexFunc (C : List (List (List UInt8))) (N gp : Nat) (a : Option Addr) (c : Nat) (hC : C.length ≤ 1048577) (w0 w : World) (hQ : Cq w0 w a C) (hg : w.cell? ⟨gp, 0, none⟩ = some (.int .i64 N)) : Calls Try.prog 43 #[.slice a C.length c, .func (.func 28) #[] #[.pointer (some ⟨gp, 0, none⟩)]] w fun e w' => e = .returned (.int .i64 (Tl.fr N C)) ∧ w' = w := by
  have HQ := hidA hQ
  have HD := hidA (fun a' n' c' => oDel a' n' c' gp N w hg)
  clear hQ
  go_enter Try.func43, Try.ntmps43
  go_upto_region 2 with fail
  go_loopw [8] (fun s8 W => ∃ (k : Nat), s8 = .int .i64 k ∧ k ≤ Tl.fi N C ∧ k ≤ C.length ∧ Hid (W = w)) (fun s8 _ => C.length - (intOf s8).toNat)
  case atStart => exact ⟨0, rfl, Nat.zero_le _, Nat.zero_le _, hidA rfl⟩
  case round =>
    obtain ⟨k, rfl, hkf, hk, HW⟩ := hrel
    have hWw := HW.out
    subst hWw
    by_cases hlt : k < C.length
    · obtain ⟨g, a1, c1, rfl, hg1, hc, hle, hrk⟩ := HQ.out k hlt
      have hw1 : IntKind.i64.wrap ((k : Int) + 1) = ((k + 1 : Nat) : Int) := by rw [IntKind.wrap_i64]; omega
      by_cases hm : C[k].length ≤ N
      · have hfk := hidA (Tl.fi_hit N C k hlt hkf hm)
        have hdm : decide (C[k].length ≤ N) = true := decide_eq_true hm
        have HDk := hidA (HD.out a1 C[k].length c1)
        rw [hdm] at HDk
        clear hrk hdm hm HD hkf
        generalize C[k].length = m at *
        go_wp2_with (go_at_call 28; (with_reducible refine HDk.out.mono ?_); rintro e w1 ⟨rfl, hw9⟩; rw [hw9]; clear hw9 w1)
        go_ret
        exact ⟨by rw [Tl.fr_yes (by rw [hfk.out]; exact hlt), hfk.out]; rfl, rfl⟩
      · have hfk := Tl.fi_miss N C k hlt hkf hm
        have hdm : decide (C[k].length ≤ N) = false := decide_eq_false hm
        have HDk := hidA (HD.out a1 C[k].length c1)
        rw [hdm] at HDk
        have HFk := hidA hfk
        clear hrk hdm hm HD hkf hfk
        generalize C[k].length = m at *
        go_wp2_with (go_at_call 28; (with_reducible refine HDk.out.mono ?_); rintro e w1 ⟨rfl, hw9⟩; rw [hw9]; clear hw9 w1)
        exact ⟨⟨k + 1, by first | rfl | go_num, HFk.out, hlt, by first | exact hidA rfl | exact hidA trivial⟩, by simp [intOf]; omega⟩
    · have hfl := Tl.fi_le N C
      have EF : Hid (Tl.fi N C = C.length) := by show _ = _; omega
      clear hkf hfl
      go_wp2_with fail
      go_ret
      exact ⟨by rw [Tl.fr_no EF.out]; rfl, rfl⟩
theorem htCC : Try.prog.underlying 47 = some (.slice (Try.prog.elem 47)) := by kernel_rfl
theorem szCC (W : World) : (sizeOf (Try.prog.elem 47)).run Try.prog W = .ok 1 W := by
  have e : Try.prog.elem 47 = 23 := by kernel_rfl
  rw [e]
  simp [sizeOf, go_sem]
  rfl
theorem cc_to (a : Option Addr) {n c k : Nat} (hk : k ≤ n) (hc : n ≤ c) (W : World) : (Instr.slice 47 (.slice a n c) none (some (.int .i64 k)) none).run Try.prog W = .ok (.slice a k c) W := by
  rw [run_slice_h (P := Try.prog) (w := W) 47 a n c htCC .i64 k (by omega) (by omega), szCC]
  cases a <;> simp [Result.andThen, sliced, Addr.add]
theorem cc_from (g : Nat) {n c i : Nat} (hi : i < n) (hc : n ≤ c) (W : World) : (Instr.slice 47 (.slice (some ⟨g, 0, none⟩) n c) (some (.int .i64 i)) none none).run Try.prog W = .ok (.slice (some ⟨g, i, none⟩) (n - i) (c - i)) W := by
  rw [run_slice_l (P := Try.prog) (w := W) 47 (some ⟨g, 0, none⟩) n c htCC .i64 i (by omega) (by omega), szCC]
  simp only [Result.andThen, sliced]
  rw [if_neg (by omega)]
  simp [Addr.add]
  omega
/-- A row's front, as a row of its own. -/
theorem own_front {W : World} {B g n cap i : Nat} {T : TypeId} {xs : List Value} (h : W.ownsRow B T 1 (.slice (some ⟨g, 0, none⟩) n cap) n xs) (hi : i ≤ n) : W.ownsRow B T 1 (.slice (some ⟨g, 0, none⟩) i cap) i (xs.take i) := by
  have hl : xs.length = n := by simpa using h.1
  rcases h.2 with ⟨e, _⟩ | ⟨g', cap', cur, e, h1, h2, h3, h4, h5, h6⟩
  · cases e
  · injection e with e1 _ e3
    injection e1 with e1
    injection e1 with e1 _ _
    subst e1 e3
    refine ⟨by rw [List.length_take]; omega, .inr ⟨g, cap, cur, rfl, h1, h2, by omega, h4, h5, ?_⟩⟩
    rw [← h6, List.take_take]
    congr 1
    omega
/-- Stores behind a row's front leave the front, and what lies elsewhere. -/
theorem own_behind {B g n cap : Nat} {T : TypeId} {xs : List Value} : ∀ (us : List Value) (o : Nat) (W : World), n ≤ o → W.ownsRow B T 1 (.slice (some ⟨g, 0, none⟩) n cap) n xs → (W.setCells g o us).ownsRow B T 1 (.slice (some ⟨g, 0, none⟩) n cap) n xs
  | [], _, _, _, h => h
  | u :: us, o, W, ho, h => by
    have h1 := (h.stored o u).1
    have hl : xs.length = n := by simpa using h.1
    rw [List.set_eq_of_length_le (by omega)] at h1
    exact own_behind us (o + 1) _ (by omega) h1
theorem Rk.setCs {w0 : World} {a : Option Addr} {X : List (List UInt8)} {g : Nat} : ∀ (us : List Value) (o : Nat) (W : World), Rk w0 W a X → (∃ c fz, W.heap[g]? = some (.cells c 23 fz)) → Rk w0 (W.setCells g o us) a X
  | [], _, _, h, _ => h
  | u :: us, o, W, h, hk => by
    refine Rk.setCs us (o + 1) _ (h.setC hk) ?_
    obtain ⟨c, fz, h9⟩ := hk
    exact ⟨_, _, by show (W.heap.modify g _)[g]? = _; rw [Array.getElem?_modify, if_pos rfl, h9]; rfl⟩
theorem Below.setCs {B g : Nat} (hg : B ≤ g) {w : World} : ∀ (us : List Value) (o : Nat) (W : World), Below B w W → Below B w (W.setCells g o us)
  | [], _, _, h => h
  | u :: us, o, _, h => Below.setCs hg us (o + 1) _ (h.setCell (p := ⟨g, o, none⟩) hg u)
/-- What DeleteFunc has of the columns: i kept ones at the front, and those that it has not come to. -/
def Dl (w0 : World) (B : Nat) (W : World) (g cap : Nat) (C : List (List (List UInt8))) (N j : Nat) : Prop := ∃ vs : List Value, W.ownsRow B 23 1 (.slice (some ⟨g, 0, none⟩) C.length cap) C.length vs ∧ ∃ hl : vs.length = C.length, (∀ t (h : t < (Tl.mo N (C.take j)).length), ∃ h2 : t < vs.length, Ck w0 W vs[t] (Tl.mo N (C.take j))[t]) ∧ ∀ t (h : t < C.length), j ≤ t → Ck w0 W (vs[t]'(by omega)) C[t]
theorem Ck.setC {w0 W : World} {v : Value} {X : List (List UInt8)} (h : Ck w0 W v X) {g j : Nat} {u : Value} (hk : ∃ c fz, W.heap[g]? = some (.cells c 23 fz)) : Ck w0 (W.setCell ⟨g, j, none⟩ u) v X := by
  obtain ⟨a, c, e, h1, h2⟩ := h
  exact ⟨a, c, e, h1, h2.setC hk⟩
theorem Dl.cell {w0 : World} {B : Nat} {W : World} {g cap : Nat} {C : List (List (List UInt8))} {N j : Nat} (h : Dl w0 B W g cap C N j) (hj : j < C.length) : B ≤ g ∧ g < W.heap.size ∧ C.length ≤ cap ∧ ∃ a c, W.cell? ⟨g, j, none⟩ = some (.slice a C[j].length c) ∧ (∀ i, i < C.length → ∃ u, W.cell? ⟨g, i, none⟩ = some u) ∧ (∀ i, W.frozen? ⟨g, i, none⟩ = false) := by
  obtain ⟨vs, h1, h2, h3, h4⟩ := h
  obtain ⟨a, c, ev, _⟩ := h4 j hj (Nat.le_refl _)
  have hc := h1.cells (g := g) rfl j (vs[j]'(by omega)) (by simp [h2, hj])
  rw [add0, ev] at hc
  have hcap : C.length ≤ cap := by
    rcases h1.2 with ⟨e, _⟩ | ⟨g', cap', cur, e, _, _, h9, _⟩
    · cases e
    · injection e with _ _ e3
      subst e3; exact h9
  refine ⟨(h1.lt g rfl).1, (h1.lt g rfl).2, hcap, a, c, hc, fun i hi => ?_, h1.frozenAt⟩
  have := h1.cells (g := g) rfl i (vs[i]'(by omega)) (by simp [h2, hi])
  rw [add0] at this
  exact ⟨_, this⟩
theorem Dl.skip {w0 : World} {B : Nat} {W : World} {g cap : Nat} {C : List (List (List UInt8))} {N j : Nat} (h : Dl w0 B W g cap C N j) (hj : j < C.length) (hc : C[j].length ≤ N) : Dl w0 B W g cap C N (j + 1) := by
  obtain ⟨vs, h1, h2, h3, h4⟩ := h
  refine ⟨vs, h1, h2, ?_, fun t ht hjt => h4 t ht (by omega)⟩
  rw [Tl.mo_no hj hc]; exact h3
theorem Dl.keep {w0 : World} {B : Nat} {W : World} {g cap : Nat} {C : List (List (List UInt8))} {N j : Nat} (h : Dl w0 B W g cap C N j) (hj : j < C.length) (hc : ¬ C[j].length ≤ N) {a : Option Addr} {c : Nat} (hcell : W.cell? ⟨g, j, none⟩ = some (.slice a C[j].length c)) : Dl w0 B (W.setCell ⟨g, (Tl.mo N (C.take j)).length, none⟩ (.slice a C[j].length c)) g cap C N (j + 1) := by
  obtain ⟨vs, h1, h2, h3, h4⟩ := h
  have hk := own_kind h1 g rfl
  have hml := Tl.mo_len N C j
  have hvj : vs[j]'(by omega) = .slice a C[j].length c := by
    have hc2 := h1.cells (g := g) rfl j (vs[j]'(by omega)) (by simp [h2, hj])
    rw [add0, hcell] at hc2
    exact (Option.some.inj hc2).symm
  have hck := h4 j hj (Nat.le_refl _)
  rw [hvj] at hck
  refine ⟨vs.set (Tl.mo N (C.take j)).length (.slice a C[j].length c), (h1.stored _ _).1, by simp [h2], ?_, fun t ht hjt => ?_⟩
  · rw [Tl.mo_yes hj hc]
    intro t ht
    have htl : t < vs.length := by rw [List.length_append] at ht; simp at ht; omega
    refine ⟨by simpa using htl, ?_⟩
    rw [List.getElem_set]
    by_cases e : (Tl.mo N (C.take j)).length = t
    · subst e
      rw [if_pos rfl]
      have e2 : (Tl.mo N (C.take j) ++ [C[j]])[(Tl.mo N (C.take j)).length] = C[j] := by simp
      rw [e2]
      exact hck.setC hk
    · rw [if_neg e]
      have htm : t < (Tl.mo N (C.take j)).length := by rw [List.length_append] at ht; simp at ht; omega
      rw [List.getElem_append_left htm]
      obtain ⟨_, h9⟩ := h3 t htm
      exact h9.setC hk
  · rw [List.getElem_set, if_neg (by omega)]
    exact (h4 t ht (by omega)).setC hk
/-- Behind it: the columns that are left, at the front; what stood behind them is nil. -/
theorem Dl.done {w0 : World} {B : Nat} {W : World} {g cap : Nat} {C : List (List (List UInt8))} {N : Nat} (h : Dl w0 B W g cap C N C.length) (us : List Value) : PC w0 B (W.setCells g (Tl.mo N C).length us) (.slice (some ⟨g, 0, none⟩) (Tl.mo N C).length cap) (Tl.mo N C) := by
  obtain ⟨vs, h1, h2, h3, h4⟩ := h
  have hk := own_kind h1 g rfl
  have hml := Tl.mo_len N C C.length
  rw [List.take_length] at h3 hml
  refine ⟨vs.take (Tl.mo N C).length, own_behind us _ _ (Nat.le_refl _) (own_front h1 hml), by rw [List.length_take]; omega, fun i hi => ?_⟩
  obtain ⟨h5, a, c, e, q1, q2⟩ := h3 i hi
  rw [List.getElem_take]
  exact ⟨a, c, e, q1, q2.setCs us _ _ hk⟩
theorem PC.dl {w0 : World} {B : Nat} {W : World} {g n cap : Nat} {C : List (List (List UInt8))} (h : PC w0 B W (.slice (some ⟨g, 0, none⟩) n cap) C) (N j : Nat) (hj : j ≤ Tl.fi N C) : Dl w0 B W g cap C N j := by
  obtain ⟨vs, h1, h2, h3⟩ := h
  have en : n = C.length := by
    obtain ⟨a', c', e'⟩ := own_slice h1
    injection e' with _ e2 _
  subst en
  refine ⟨vs, h1, h2, ?_, fun t ht _ => h3 t ht⟩
  rw [Tl.mo_pre N C j hj]
  intro t ht
  have ht2 : t < C.length := by rw [List.length_take] at ht; omega
  refine ⟨by omega, ?_⟩
  rw [List.getElem_take]
  exact h3 t ht2
end Go.Proofs.Ytplnojohlbbalaa
