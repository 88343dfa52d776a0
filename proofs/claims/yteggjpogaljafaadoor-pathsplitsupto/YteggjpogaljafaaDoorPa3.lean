/- The walks of the plain answers that read lists of names. Conditions: the list's cells are as said; lengths that fit. -/
import Derived.Test.YteggjpogaljafaaDoorPa2
namespace Go.Proofs.YteggjpogaljafaaDoor
open Go.RowKit
attribute [local go_sem] ext_eq app_eq get_eq toL_eq
/-- The cells behind a slice's address hold these texts. -/
def Strs (W : World) (a : Option Addr) (xs : List (List UInt8)) : Prop := ∀ (j : Nat) x, xs[j]? = some x → ∃ bk o, a = some ⟨bk, o, none⟩ ∧ bk < W.heap.size ∧ W.cell? ⟨bk, o + j, none⟩ = some (.string ⟨x.toArray⟩)
theorem Strs.below {W W' : World} {n : Nat} {a : Option Addr} {xs : List (List UInt8)} (h : Strs W a xs) (hB : Below n W W') (hn : ∀ b, a.map (·.block) = some b → b < n) : Strs W' a xs := by
  intro j x hx
  obtain ⟨bk, o, rfl, hlt, hc⟩ := h j x hx
  exact ⟨bk, o, rfl, by have := hB.size; have := hn bk rfl; omega, (hB.cell (p := ⟨bk, o + j, none⟩) (hn bk rfl)).trans hc⟩
theorem Strs.grow {W W' : World} {a : Option Addr} {xs : List (List UInt8)} (h : Strs W a xs) (hB : Below W.heap.size W W') : Strs W' a xs := by
  intro j x hx
  obtain ⟨bk, o, rfl, hlt, hc⟩ := h j x hx
  exact ⟨bk, o, rfl, by have := hB.size; omega, (hB.cell (p := ⟨bk, o + j, none⟩) hlt).trans hc⟩
theorem Strs.nil (W : World) (a : Option Addr) : Strs W a [] := fun j x h => by simp at h
/-- A list of names of one's own, as a slice that is read. -/
theorem own_strs {W : World} {base n : Nat} {v : Value} {xs : List (List UInt8)} (h : W.ownsRow base 9 1 v n (xs.map sv)) : n = xs.length ∧ ∃ a c, v = .slice a xs.length c ∧ xs.length ≤ c ∧ Strs W a xs ∧ (∀ b, a.map (·.block) = some b → base ≤ b ∧ b < W.heap.size) := by
  have hn : n = xs.length := by have := h.1; simp at this; omega
  subst hn
  refine ⟨rfl, ?_⟩
  rcases h.2 with ⟨rfl, h0⟩ | ⟨g, cap, cur, rfl, hb, hg, hnc, _, _, ht⟩
  · have : xs = [] := List.length_eq_zero_iff.1 h0
    subst this
    exact ⟨none, 0, rfl, Nat.le_refl _, Strs.nil _ _, by simp⟩
  · have hlt : g < W.heap.size := (Array.getElem?_eq_some_iff.1 hg).1
    refine ⟨_, cap, rfl, hnc, fun j x hx => ⟨g, 0, rfl, hlt, ?_⟩, by simp; omega⟩
    have hj : j < xs.length := (List.getElem?_eq_some_iff.1 hx).1
    have := h.cellAt j (by simpa using hj)
    rw [Nat.zero_add, this]; simp [hx, sv]
theorem jn_snoc (ys : List (List UInt8)) (x : List UInt8) : Pa.jn (ys ++ [x]) = if ys = [] then x else Pa.jn ys ++ ([47] ++ x) := by
  cases ys with
  | nil => simp [Pa.jn, Lib.join_one]
  | cons y r => simp [Pa.jn, Lib.join_cons, Lib.joinTail]
theorem jn_take_le (xs : List (List UInt8)) (k : Nat) : (Pa.jn (xs.take k)).length ≤ (Pa.jn xs).length := by
  induction xs generalizing k with
  | nil => simp
  | cons y r ih =>
    cases k with
    | zero => simp [Pa.jn, Lib.join_nil]
    | succ k =>
      simp only [List.take_succ_cons, Pa.jn, Lib.join_cons, List.length_append, Lib.joinTail]
      have h1 : (List.map (fun x => [(47 : UInt8)] ++ x) (List.take k r)).flatten <+: (List.map (fun x => [(47 : UInt8)] ++ x) r).flatten := by
        conv => rhs; rw [← List.take_append_drop k r, List.map_append, List.flatten_append]
        exact List.prefix_append _ _
      have := h1.length_le
      omega
theorem take_ne (xs : List (List UInt8)) (k : Nat) (h0 : 0 < k) (hlt : k < xs.length) : ¬ xs.take k = [] := by
  rw [List.take_eq_nil_iff]; rintro (e | rfl)
  · omega
  · simp at hlt
theorem take_getL (xs : List (List UInt8)) (k : Nat) (h : k < xs.length) : xs.take (k + 1) = xs.take k ++ [xs[k]] := List.take_succ_eq_append_getElem h
set_option maxRecDepth 100000 in
set_option maxHeartbeats 400000 in
theorem rJoined (xs : List (List UInt8)) (a : Option Addr) (c : Nat) (w : World) (hS : Strs w a xs) (hn : xs.length ≤ 2 ^ 40) (hj : (Pa.jn xs).length ≤ 2 ^ 40) :
    Calls Tryd.prog 34 #[.slice a xs.length c] w fun e w' => e = .returned (.string ⟨(Pa.jn xs).toArray⟩) ∧ w' = w := by
  have HS : Hid (Strs w a xs) := hS
  clear hS
  go_enter Tryd.func34, Tryd.ntmps34
  go_wp2
  go_loop [3, 8] (fun t i => ∃ k : Nat, k ≤ xs.length ∧ i = .int .i64 k ∧ t = .string ⟨(Pa.jn (xs.take k)).toArray⟩) (fun _ i => xs.length - (intOf i).toNat)
  case atStart => exact ⟨0, Nat.zero_le _, rfl, rfl⟩
  case round =>
    obtain ⟨k, hk, rfl, rfl⟩ := hrel
    have hle := jn_take_le xs k
    by_cases hlt : k < xs.length
    · have hle' := jn_take_le xs (k + 1)
      have HF : Hid (Pa.jn (xs.take (k + 1)) = if xs.take k = [] then xs[k] else Pa.jn (xs.take k) ++ ([47] ++ xs[k])) := by show _ = _; rw [take_getL xs k hlt, jn_snoc]
      rw [HF.out] at hle'
      obtain ⟨bk, o, rfl, hb, hcell⟩ := HS.out k xs[k] (List.getElem?_eq_getElem hlt)
      by_cases h0 : 0 < k
      · have hne : ¬ xs.take k = [] := take_ne xs k h0 hlt
        rw [if_neg hne] at hle'
        simp only [List.length_append, List.length_cons, List.length_nil] at hle'
        have HN : Hid (¬ xs.take k = []) := hne
        clear hne
        go_wp2
        exact ⟨⟨k + 1, by omega, by go_num, by rw [HF.out, if_neg HN.out]; simp⟩, by simp [intOf]; omega⟩
      · obtain rfl : k = 0 := by omega
        rw [Nat.add_zero] at hcell
        simp only [List.take_zero, if_true] at hle' HF
        have hj0 : (Pa.jn []).length = 0 := rfl
        go_wp2
        exact ⟨⟨1, by omega, by go_num, by rw [HF.out]; simp [Pa.jn, Lib.join_nil]⟩, by simp [intOf]; omega⟩
    · go_wp2
      go_ret
      exact ⟨ret_str (by rw [List.take_of_length_le (by omega)]), rfl⟩
theorem cl_snoc (b : Bool) (ns : List (List UInt8)) (n : List UInt8) : Pa.cl b (ns ++ [n]) = Pa.clStep b (Pa.cl b ns) n := by simp [Pa.cl]
theorem clStep_le (b : Bool) (out : List (List UInt8)) (n : List UInt8) : (Pa.clStep b out n).length ≤ out.length + 1 := by
  unfold Pa.clStep
  repeat' split
  all_goals simp
  omega
theorem fold_cl_le (b : Bool) (ns : List (List UInt8)) : ∀ out : List (List UInt8), (ns.foldl (Pa.clStep b) out).length ≤ out.length + ns.length := by
  induction ns with
  | nil => intro out; simp
  | cons n ns ih => intro out; have h1 := ih (Pa.clStep b out n); have h2 := clStep_le b out n; simp; omega
theorem cl_le (b : Bool) (ns : List (List UInt8)) : (Pa.cl b ns).length ≤ ns.length := by have := fold_cl_le b ns []; simpa [Pa.cl] using this
theorem own_slice {W : World} {base n : Nat} {e : TypeId} {v : Value} {xs : List Value} (h : W.ownsRow base e 1 v n xs) (hn : 0 < n) : ∃ g cap, v = .slice (some ⟨g, 0, none⟩) n cap ∧ n ≤ cap ∧ cap ≤ maxLen := by
  rcases h.2 with ⟨rfl, h0⟩ | ⟨g, cap, cur, rfl, hb, hg, hnc, hm, _⟩
  · omega
  · exact ⟨g, cap, rfl, hnc, hm⟩
theorem own_form {W : World} {base n : Nat} {e : TypeId} {v : Value} {xs : List Value} (h : W.ownsRow base e 1 v n xs) : ∃ a cap, v = .slice a n cap := by
  rcases h.2 with ⟨rfl, h0⟩ | ⟨g, cap, cur, rfl, _⟩
  · exact ⟨none, 0, by rw [h0]⟩
  · exact ⟨_, cap, rfl⟩
theorem nil_or_snoc (l : List (List UInt8)) : l = [] ∨ ∃ ys y, l = ys ++ [y] := by
  rcases List.eq_nil_or_concat l with h | ⟨ys, y, h⟩
  · exact .inl h
  · exact .inr ⟨ys, y, by simpa using h⟩
set_option maxRecDepth 100000 in
set_option maxHeartbeats 1000000 in
theorem rClean (b : Bool) (xs : List (List UInt8)) (a : Option Addr) (c : Nat) (w : World) (hS : Strs w a xs) (hn : xs.length ≤ 2 ^ 40) :
    Calls Tryd.prog 36 #[.bool b, .slice a xs.length c] w fun e w' => ∃ v, e = .returned v ∧ w'.ownsRow w.heap.size 9 1 v (Pa.cl b xs).length ((Pa.cl b xs).map sv) ∧ Below w.heap.size w w' := by
  obtain ⟨i0, hi, hz0, hz1, hz2⟩ := info_parts info9
  have HS : Hid (Strs w a xs) := hS
  clear hS
  go_enter Tryd.func36, Tryd.ntmps36
  go_wp2
  go_loopw [5, 10] (fun v i W => ∃ k : Nat, k ≤ xs.length ∧ i = .int .i64 k ∧ W.ownsRow w.heap.size 9 1 v (Pa.cl b (xs.take k)).length ((Pa.cl b (xs.take k)).map sv) ∧ Hid (Below w.heap.size w W)) (fun _ i _ => xs.length - (intOf i).toNat)
  case atStart => exact ⟨0, Nat.zero_le _, rfl, World.ownsRow_nil _ _ _ _, Below.refl _ _⟩
  case round =>
    obtain ⟨k, hk, rfl, hrow, HB⟩ := hrel
    have hle := cl_le b (xs.take k)
    rw [List.length_take, Nat.min_eq_left hk] at hle
    by_cases hlt : k < xs.length
    · have HF : Hid (Pa.cl b (xs.take (k + 1)) = Pa.clStep b (Pa.cl b (xs.take k)) xs[k]) := by show _ = _; rw [take_getL xs k hlt, cl_snoc]
      obtain ⟨bk, o, rfl, hb, hcell0⟩ := HS.out k xs[k] (List.getElem?_eq_getElem hlt)
      have hcell : wr.cell? ⟨bk, o + k, none⟩ = some (.string ⟨xs[k].toArray⟩) := (HB.out.cell (p := ⟨bk, o + k, none⟩) hb).trans hcell0
      clear hcell0
      have hsz := HB.out.size
      generalize xs[k] = x at hcell HF
      generalize Pa.cl b (xs.take k) = out at hrow HF hle
      by_cases h1 : x = [46]
      · subst h1
        go_wp2
        exact ⟨⟨k + 1, by omega, by go_num, by rw [HF.out]; simpa [Pa.clStep] using hrow, HB⟩, by simp [intOf]; omega⟩
      · have h1' : (x == [46]) = false := by simp [h1]
        by_cases h2 : x = Pa.dd
        · subst h2
          rcases nil_or_snoc out with rfl | ⟨ys, y, rfl⟩
          · obtain ⟨a', cap', rfl⟩ := own_form hrow
            have hcell' : wr.cell? ⟨bk, o + k, none⟩ = some (.string ⟨[46, 46].toArray⟩) := hcell
            clear hcell
            cases b
            · have HX : Hid (Pa.clStep false [] Pa.dd = [] ++ [Pa.dd]) := by show _ = _; simp [Pa.clStep, Pa.dd]
              go_wp2_with (at_builtin; refine wpList_append_own _ rfl _ _ 22 rfl w.heap.size 9 i0 (.string ⟨#[]⟩) 1 16 Tryd.underlying22 hi hz0 hz1 hz2 rfl (by decide) _ _ _ rfl (hrow.alloc _) ⟨wr.heap.size, 0, none⟩ 1 1 [.string ⟨[46, 46].toArray⟩] rfl rfl (cell_one_new _ _ _) (one_cell _) (by unfold maxLen; omega) (by omega) (by simp; omega) ?_; intro v' w1 hown' hgrow _)
              exact ⟨⟨k + 1, by omega, by go_num, by rw [HF.out, HX.out]; simpa [sv, Pa.dd] using hown', below_app HB.out (Nat.le_refl _) hrow hgrow⟩, by simp [intOf]; omega⟩
            · have HX : Hid (Pa.clStep true [] Pa.dd = []) := by show _ = _; simp [Pa.clStep, Pa.dd]
              go_wp2
              exact ⟨⟨k + 1, by omega, by go_num, by rw [HF.out, HX.out]; simpa using hrow, HB⟩, by simp [intOf]; omega⟩
          · have hlen : (ys ++ [y]).length = ys.length + 1 := by simp
            rw [hlen] at hrow hle
            obtain ⟨g, cap', rfl, hgc, hgm⟩ := own_slice hrow (by omega)
            have hy : wr.cell? ⟨g, ys.length, none⟩ = some (.string ⟨y.toArray⟩) := by rw [hrow.cellAt ys.length (by omega)]; simp [sv]
            have hcell' : wr.cell? ⟨bk, o + k, none⟩ = some (.string ⟨[46, 46].toArray⟩) := hcell
            clear hcell hlen
            unfold maxLen at hgm
            by_cases hd : y = Pa.dd
            · subst hd
              have hy' : wr.cell? ⟨g, ys.length, none⟩ = some (.string ⟨[46, 46].toArray⟩) := hy
              clear hy
              cases b
              · have HX : Hid (Pa.clStep false (ys ++ [Pa.dd]) Pa.dd = (ys ++ [Pa.dd]) ++ [Pa.dd]) := by show _ = _; simp [Pa.clStep, Pa.dd]
                go_wp2_with (at_builtin; refine wpList_append_own _ rfl _ _ 22 rfl w.heap.size 9 i0 (.string ⟨#[]⟩) 1 16 Tryd.underlying22 hi hz0 hz1 hz2 rfl (by decide) _ _ _ rfl (hrow.alloc _) ⟨wr.heap.size, 0, none⟩ 1 1 [.string ⟨[46, 46].toArray⟩] rfl rfl (cell_one_new _ _ _) (one_cell _) (by unfold maxLen; omega) (by omega) (by simp; omega) ?_; intro v' w1 hown' hgrow _)
                exact ⟨⟨k + 1, by omega, by go_num, by rw [HF.out, HX.out]; simpa [sv, Pa.dd] using hown', below_app HB.out (Nat.le_refl _) hrow hgrow⟩, by simp [intOf]; omega⟩
              · have HX : Hid (Pa.clStep true (ys ++ [Pa.dd]) Pa.dd = (ys ++ [Pa.dd])) := by show _ = _; simp [Pa.clStep, Pa.dd]
                go_wp2
                exact ⟨⟨k + 1, by omega, by go_num, by rw [HF.out, HX.out]; simpa using hrow, HB⟩, by simp [intOf]; omega⟩
            · have hd' : (y == [46, 46]) = false := by simpa [Pa.dd] using hd
              have HX : Hid (Pa.clStep b (ys ++ [y]) Pa.dd = ys) := by show _ = _; simp [Pa.clStep, hd]; simp [Pa.dd]
              clear hd
              go_wp2
              exact ⟨⟨k + 1, by omega, by go_num, by rw [HF.out, HX.out]; exact ownsRow_pop (by simp) (by simpa using hrow), HB⟩, by simp [intOf]; omega⟩
        · have h2' : (x == [46, 46]) = false := by simpa [Pa.dd] using h2
          have HX : Hid (Pa.clStep b out x = out ++ [x]) := by show _ = _; simp [Pa.clStep, h1, h2]
          clear h1 h2
          go_wp2_with (at_builtin; refine wpList_append_own _ rfl _ _ 22 rfl w.heap.size 9 i0 (.string ⟨#[]⟩) 1 16 Tryd.underlying22 hi hz0 hz1 hz2 rfl (by decide) _ _ _ rfl (hrow.alloc _) ⟨wr.heap.size, 0, none⟩ 1 1 [.string ⟨x.toArray⟩] rfl rfl (cell_one_new _ _ _) (one_cell _) (by unfold maxLen; omega) (by omega) (by simp; omega) ?_; intro v' w1 hown' hgrow _)
          exact ⟨⟨k + 1, by omega, by go_num, by rw [HF.out, HX.out]; simpa [sv] using hown', below_app HB.out (Nat.le_refl _) hrow hgrow⟩, by simp [intOf]; omega⟩
    · have HK : Hid (xs.take k = xs) := List.take_of_length_le (by omega)
      go_wp2
      go_ret
      exact ⟨_, rfl, by rw [HK.out] at hrow; exact hrow, HB.out⟩
end Go.Proofs.YteggjpogaljafaaDoor
