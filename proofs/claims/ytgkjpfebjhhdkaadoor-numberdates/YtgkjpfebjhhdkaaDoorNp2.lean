/- Ranges as text: the plain model, and the walk of the program's Print. Conditions: at most 2^20 ranges, ints; the table of powers of ten. -/
import Derived.Test.YtgkjpfebjhhdkaaDoorNp1
namespace Go.Proofs.YtgkjpfebjhhdkaaDoor
open Go.RowKit Go.Sort
namespace Na
def itemP (x : Rg) : List UInt8 := Lib.itoa x.1 ++ (if x.1 = x.2 then [] else [45] ++ (if x.2 = -1 then [] else Lib.itoa x.2))
def printP : List Rg → List UInt8
  | [] => []
  | x :: t => itemP x ++ t.flatMap (fun y => 44 :: itemP y)
theorem printP_snoc (l : List Rg) (x : Rg) (h : l ≠ []) : printP (l ++ [x]) = printP l ++ ([44] ++ itemP x) := by
  cases l with
  | nil => exact absurd rfl h
  | cons y t => simp [printP]
theorem itemP_one {x : Rg} (h : x.1 = x.2) : itemP x = Lib.itoa x.1 := by unfold itemP; rw [if_pos h, List.append_nil]
theorem itemP_open {x : Rg} (h : ¬ x.1 = x.2) (h2 : x.2 = -1) : itemP x = Lib.itoa x.1 ++ [45] := by unfold itemP; rw [if_neg h, if_pos h2, List.append_nil]
theorem itemP_two {x : Rg} (h : ¬ x.1 = x.2) (h2 : ¬ x.2 = -1) : itemP x = Lib.itoa x.1 ++ ([45] ++ Lib.itoa x.2) := by unfold itemP; rw [if_neg h, if_neg h2]
theorem itemP_len (x : Rg) (h : (-9223372036854775808 ≤ x.1 ∧ x.1 ≤ 9223372036854775807) ∧ (-9223372036854775808 ≤ x.2 ∧ x.2 ≤ 9223372036854775807)) : (itemP x).length ≤ 43 := by
  have h1 := Lib.itoa_length_le x.1 h.1.1 h.1.2
  have h2 := Lib.itoa_length_le x.2 h.2.1 h.2.2
  unfold itemP
  split
  · simp; omega
  · split <;> simp <;> omega
end Na
abbrev i64 (x : Int) : Prop := -9223372036854775808 ≤ x ∧ x ≤ 9223372036854775807
/-- The cells behind a slice's address hold these ranges. -/
def Rgs (W : World) (a : Option Addr) (xs : List Na.Rg) : Prop := ∀ (j : Nat) x, xs[j]? = some x → ∃ bk o, a = some ⟨bk, o, none⟩ ∧ bk < W.heap.size ∧ W.cell? ⟨bk, o + j * 2, none⟩ = some (.int .i64 x.1) ∧ W.cell? ⟨bk, o + j * 2 + 1, none⟩ = some (.int .i64 x.2)
theorem Rgs.grow {W W' : World} {a : Option Addr} {xs : List Na.Rg} (h : Rgs W a xs) (hB : Below W.heap.size W W') : Rgs W' a xs := by
  intro j x hx
  obtain ⟨bk, o, rfl, hlt, h1, h2⟩ := h j x hx
  exact ⟨bk, o, rfl, by have := hB.size; omega, (hB.cell (p := ⟨bk, o + j * 2, none⟩) hlt).trans h1, (hB.cell (p := ⟨bk, o + j * 2 + 1, none⟩) hlt).trans h2⟩
theorem rg_no (cs : Array Value) : ∀ (c : Array Value) (fz : Nat × Nat), (Obj.cells cs 51 (0, 0)) ≠ .cells c 5 fz := by
  intro c fz e
  injection e with _ h _
  exact absurd h (by decide)
theorem rg_kept {W W' : World} {rb : Nat} {cs : Array Value} (h : Lib.OthersKept 5 none W W') (hr : W.heap[rb]? = some (.cells cs 51 (0, 0))) : W'.heap[rb]? = some (.cells cs 51 (0, 0)) := h rb _ hr (by simp) (rg_no _)
theorem rg_cells {W : World} {rb : Nat} {x0 x1 : Int} (h : W.heap[rb]? = some (.cells #[.int .i64 x0, .int .i64 x1] 51 (0, 0))) : W.cell? ⟨rb, 0, none⟩ = some (.int .i64 x0) ∧ W.cell? ⟨rb, 1, none⟩ = some (.int .i64 x1) := ⟨cell_of_heap h, cell_of_heap h⟩
theorem printP_len (xs : List Na.Rg) (h : ∀ x ∈ xs, i64 x.1 ∧ i64 x.2) : (Na.printP xs).length ≤ xs.length * 44 := by
  cases xs with
  | nil => simp [Na.printP]
  | cons x t =>
    have h1 := Na.itemP_len x (h x (by simp))
    have h2 : ∀ t : List Na.Rg, (∀ x ∈ t, i64 x.1 ∧ i64 x.2) → (t.flatMap (fun y => 44 :: Na.itemP y)).length ≤ t.length * 44 := by
      intro t ht
      induction t with
      | nil => simp
      | cons y r ih =>
        have := Na.itemP_len y (ht y (by simp))
        have := ih (fun z hz => ht z (by simp [hz]))
        simp only [List.flatMap_cons, List.length_append, List.length_cons] at *
        omega
    have h3 := h2 t (fun z hz => h z (by simp [hz]))
    simp only [Na.printP, List.length_append, List.length_cons]
    omega
set_option maxRecDepth 100000 in
set_option maxHeartbeats 8000000 in
theorem nPrint (xs : List Na.Rg) (a : Option Addr) (c : Nat) (w : World) (hx : Rgs w a xs) (hr : ∀ x ∈ xs, i64 x.1 ∧ i64 x.2) (hn : xs.length ≤ 1048576) (ht : P10 w) : Calls Tryd.prog 24 #[.slice a xs.length c] w fun e w' => e = .returned (.string ⟨(Na.printP xs).toArray⟩) ∧ Below w.heap.size w w' := by
  obtain ⟨iB, hiB, hz0, hz1, hz2⟩ := infoB
  have HT : Hid (PT w.heap.size w) := Lib.tabBelow_of_tabIs ht
  have HX := hidA hx
  have HRn := hidA hr
  clear hx hr ht
  have HY0 := hidA (By.nil w.heap.size w)
  have HB0 := hidA (Below.refl w.heap.size w)
  go_enter Tryd.func24, Tryd.ntmps24
  go_wp2_with fail
  go_loopw [3, 8] (fun v i w' => ∃ (k : Nat) (v' : Value), i = .int .i64 k ∧ k ≤ xs.length ∧ Hid (By w.heap.size w' v (Na.printP (xs.take k))) ∧ Hid (Below w.heap.size w w')) (fun _ i _ => xs.length - (intOf i).toNat)
  case atStart => exact ⟨0, .bool true, rfl, Nat.zero_le _, HY0, HB0⟩
  case round =>
    obtain ⟨k, v', rfl, hk, Y, BB⟩ := hrel
    rename_i wr
    have hsz : w.heap.size ≤ wr.heap.size := BB.out.size
    by_cases hlt : k < xs.length
    · obtain ⟨bk, o, rfl, hbk, a0, a1⟩ := HX.out k xs[k] (List.getElem?_eq_getElem hlt)
      have d0 : wr.cell? ⟨bk, o + k * 2, none⟩ = some (.int .i64 xs[k].1) := (BB.out.cell (p := ⟨bk, o + k * 2, none⟩) hbk).trans a0
      have d1 : wr.cell? ⟨bk, o + k * 2 + 1, none⟩ = some (.int .i64 xs[k].2) := (BB.out.cell (p := ⟨bk, o + k * 2 + 1, none⟩) hbk).trans a1
      have hxk := HRn.out xs[k] (List.getElem_mem hlt)
      have hpl := printP_len (xs.take k) (fun x hx => HRn.out x (List.mem_of_mem_take hx))
      rw [List.length_take, Nat.min_eq_left (by omega)] at hpl
      have htk : xs.take (k + 1) = xs.take k ++ [xs[k]] := List.take_succ_eq_append_getElem hlt
      have HPn0 : Hid (0 < k → Na.printP (xs.take (k + 1)) = Na.printP (xs.take k) ++ ([44] ++ Na.itemP xs[k])) := fun h0 => by
        rw [htk, Na.printP_snoc _ _ (by intro e; have := congrArg List.length e; simp only [List.length_take, List.length_nil] at this; omega)]
      have HPf0 : Hid (k = 0 → Na.printP (xs.take (k + 1)) = Na.itemP xs[k]) := fun h0 => by
        subst h0; rw [htk]; simp [Na.printP]
      clear a0 a1 htk
      obtain ⟨⟨x0, x1⟩, hX⟩ : ∃ p, xs[k] = p := ⟨_, rfl⟩
      rw [hX] at d0 d1 hxk HPn0 HPf0
      dsimp only at d0 d1 hxk
      have hx : -9223372036854775808 ≤ x0 ∧ x0 ≤ 9223372036854775807 ∧ -9223372036854775808 ≤ x1 ∧ x1 ≤ 9223372036854775807 := ⟨hxk.1.1, hxk.1.2, hxk.2.1, hxk.2.2⟩
      have hi0 := Lib.itoa_length_le x0 hx.1 hx.2.1
      have hi1 := Lib.itoa_length_le x1 hx.2.2.1 hx.2.2.2
      obtain ⟨rb, hrb⟩ : ∃ rb, wr.heap.size = rb := ⟨_, rfl⟩
      have R0 : Hid ((wr.alloc (.cells #[.int .i64 x0, .int .i64 x1] 51)).heap[rb]? = some (.cells #[.int .i64 x0, .int .i64 x1] 51 (0, 0))) := by
        show _ = _
        rw [← hrb]; show (wr.heap.push _)[wr.heap.size]? = _; simp
      have Y0 : Hid (By w.heap.size (wr.alloc (.cells #[.int .i64 x0, .int .i64 x1] 51)) u3 (Na.printP (xs.take k))) := Y.out.grow ((Below.refl _ _).alloc (Nat.le_refl _) _)
      have B0 : Hid (Below w.heap.size w (wr.alloc (.cells #[.int .i64 x0, .int .i64 x1] 51))) := BB.out.alloc hsz _
      have s0 : w.heap.size ≤ (wr.alloc (.cells #[.int .i64 x0, .int .i64 x1] 51)).heap.size := by simp; omega
      have HPK : Hid (k = 0 → Na.printP (xs.take k) = []) := fun e => by rw [e]; rfl
      generalize Na.printP (xs.take k) = PK at *
      have HPf : Hid (((x0 = x1 → k = 0 → Na.printP (xs.take (k + 1)) = Lib.itoa x0) ∧ (¬ x0 = x1 → x1 = -1 → k = 0 → Na.printP (xs.take (k + 1)) = Lib.itoa x0 ++ [45]) ∧ (¬ x0 = x1 → ¬ x1 = -1 → k = 0 → Na.printP (xs.take (k + 1)) = Lib.itoa x0 ++ ([45] ++ Lib.itoa x1)))) :=
        ⟨fun h e => (HPf0.out e).trans (Na.itemP_one h), fun h h2 e => (HPf0.out e).trans (Na.itemP_open h h2), fun h h2 e => (HPf0.out e).trans (Na.itemP_two h h2)⟩
      have HPn : Hid (((x0 = x1 → 0 < k → Na.printP (xs.take (k + 1)) = PK ++ ([44] ++ Lib.itoa x0)) ∧ (¬ x0 = x1 → x1 = -1 → 0 < k → Na.printP (xs.take (k + 1)) = PK ++ ([44] ++ (Lib.itoa x0 ++ [45]))) ∧ (¬ x0 = x1 → ¬ x1 = -1 → 0 < k → Na.printP (xs.take (k + 1)) = PK ++ ([44] ++ (Lib.itoa x0 ++ ([45] ++ Lib.itoa x1)))))) :=
        ⟨fun h e => (HPn0.out e).trans (by rw [Na.itemP_one (x := (x0, x1)) h]), fun h h2 e => (HPn0.out e).trans (by rw [Na.itemP_open (x := (x0, x1)) h h2]), fun h h2 e => (HPn0.out e).trans (by rw [Na.itemP_two (x := (x0, x1)) h h2])⟩
      clear HPf0 HPn0 hX hxk
      by_cases hk0 : k = 0
      · subst hk0
        have hk0 : (0 : Nat) = 0 := rfl
        have hpk := HPK.out hk0
        subst hpk
        clear HPK
        rw [Nat.zero_mul, Nat.add_zero] at d0 d1
        by_cases h1 : x0 = x1
        · have h1' : (x0 == x1) = true := by simpa using h1
          have HP := hidA (HPf.out.1 h1 hk0)
          clear HPf HPn h1 hk0
          go_wp2_with (first | (go_at_call 49; with_reducible refine (nAppendInt w.heap.size x0 hx.1 hx.2.1 _ _ _ Y0.out s0 (by first | omega | (simp; done) | (simp; omega)) (HT.out.on B0.out)).mono ?_; rintro e w1 ⟨v1, rfl, y1, b1, k1⟩; have Y1 := hidA y1; have B1 := hidA (B0.out.trans b1); have s1 : w.heap.size ≤ w1.heap.size := B1.out.size; have R1 := hidA (rg_kept k1 R0.out); obtain ⟨c10, c11⟩ := rg_cells R1.out; clear y1 b1 k1))
          exact ⟨⟨0 + 1, .bool true, by go_num, by omega, hidA (by rw [HP.out]; simpa using Y1.out), B1⟩, by simp [intOf]; omega⟩
        · have h1' : (x0 == x1) = false := by simpa using h1
          by_cases h2 : x1 = -1
          · have h2' : (x1 != -1) = false := by simpa using h2
            have HP := hidA (HPf.out.2.1 h1 h2 hk0)
            clear HPf HPn h1 h2 hk0
            go_wp2_with (first | (go_at_call 49; with_reducible refine (nAppendInt w.heap.size x0 hx.1 hx.2.1 _ _ _ Y0.out s0 (by first | omega | (simp; done) | (simp; omega)) (HT.out.on B0.out)).mono ?_; rintro e w1 ⟨v1, rfl, y1, b1, k1⟩; have Y1 := hidA y1; have B1 := hidA (B0.out.trans b1); have s1 : w.heap.size ≤ w1.heap.size := B1.out.size; have R1 := hidA (rg_kept k1 R0.out); obtain ⟨c10, c11⟩ := rg_cells R1.out; clear y1 b1 k1) | (at_builtin; refine wpList_append_own_at _ rfl _ _ 73 rfl w.heap.size 5 iB (.int .u8 0) 1 1 Tryd.underlying73 hiB hz0 hz1 hz2 rfl (by decide) _ _ _ rfl (Y1.out.alloc _) ⟨_, 0, none⟩ 1 1 [.int .u8 45] rfl rfl (by first | exact cell_one_new _ _ _ | (have := cell_one_new (wr.alloc (.cells #[.int .i64 x0, .int .i64 x1] 51)) (.int .u8 45) 5; simpa [hrb] using this)) (one_u8 _) (by unfold maxLen; first | omega | (simp; done) | (simp; omega)) (by first | omega | (simp; done) | (simp; omega)) (by simp; omega) ?_; intro v2 w2 hown hg _ hat; obtain ⟨y2, b2, k2⟩ := Y1.out.add (c := 45) B1.out s1 _ hown hg; have Y2 := hidA y2; have B2 := hidA b2; have s2 : w.heap.size ≤ w2.heap.size := b2.size; have R2 := hidA (rg_kept k2 R1.out); obtain ⟨c20, c21⟩ := rg_cells R2.out; clear hown hg hat y2 b2 k2))
            exact ⟨⟨0 + 1, .bool true, by go_num, by omega, hidA (by rw [HP.out]; simpa using Y2.out), B2⟩, by simp [intOf]; omega⟩
          · have h2' : (x1 != -1) = true := by simpa using h2
            have h2'' : (x1 == -1) = false := by simpa using h2
            have HP := hidA (HPf.out.2.2 h1 h2 hk0)
            clear HPf HPn h1 h2 hk0
            go_wp2_with (first | (go_at_call 49; with_reducible refine (nAppendInt w.heap.size x0 hx.1 hx.2.1 _ _ _ Y0.out s0 (by first | omega | (simp; done) | (simp; omega)) (HT.out.on B0.out)).mono ?_; rintro e w1 ⟨v1, rfl, y1, b1, k1⟩; have Y1 := hidA y1; have B1 := hidA (B0.out.trans b1); have s1 : w.heap.size ≤ w1.heap.size := B1.out.size; have R1 := hidA (rg_kept k1 R0.out); obtain ⟨c10, c11⟩ := rg_cells R1.out; clear y1 b1 k1) | (at_builtin; refine wpList_append_own_at _ rfl _ _ 73 rfl w.heap.size 5 iB (.int .u8 0) 1 1 Tryd.underlying73 hiB hz0 hz1 hz2 rfl (by decide) _ _ _ rfl (Y1.out.alloc _) ⟨_, 0, none⟩ 1 1 [.int .u8 45] rfl rfl (by first | exact cell_one_new _ _ _ | (have := cell_one_new (wr.alloc (.cells #[.int .i64 x0, .int .i64 x1] 51)) (.int .u8 45) 5; simpa [hrb] using this)) (one_u8 _) (by unfold maxLen; first | omega | (simp; done) | (simp; omega)) (by first | omega | (simp; done) | (simp; omega)) (by simp; omega) ?_; intro v2 w2 hown hg _ hat; obtain ⟨y2, b2, k2⟩ := Y1.out.add (c := 45) B1.out s1 _ hown hg; have Y2 := hidA y2; have B2 := hidA b2; have s2 : w.heap.size ≤ w2.heap.size := b2.size; have R2 := hidA (rg_kept k2 R1.out); obtain ⟨c20, c21⟩ := rg_cells R2.out; clear hown hg hat y2 b2 k2) | (go_at_call 49; with_reducible refine (nAppendInt w.heap.size x1 hx.2.2.1 hx.2.2.2 _ _ _ Y2.out s2 (by first | omega | (simp; done) | (simp; omega)) (HT.out.on B2.out)).mono ?_; rintro e w3 ⟨v3, rfl, y3, b3, k3⟩; have Y3 := hidA y3; have B3 := hidA (B2.out.trans b3); have s3 : w.heap.size ≤ w3.heap.size := B3.out.size; have R3 := hidA (rg_kept k3 R2.out); obtain ⟨c30, c31⟩ := rg_cells R3.out; clear y3 b3 k3))
            exact ⟨⟨0 + 1, .bool true, by go_num, by omega, hidA (by rw [HP.out]; simpa using Y3.out), B3⟩, by simp [intOf]; omega⟩
      · have hk1 : 0 < k := by omega
        by_cases h1 : x0 = x1
        · have h1' : (x0 == x1) = true := by simpa using h1
          have HP := hidA (HPn.out.1 h1 hk1)
          clear HPf HPn h1
          go_wp2_with (first | (at_builtin; refine wpList_append_own_at _ rfl _ _ 73 rfl w.heap.size 5 iB (.int .u8 0) 1 1 Tryd.underlying73 hiB hz0 hz1 hz2 rfl (by decide) _ _ _ rfl (Y0.out.alloc _) ⟨_, 0, none⟩ 1 1 [.int .u8 44] rfl rfl (by first | exact cell_one_new _ _ _ | (have := cell_one_new (wr.alloc (.cells #[.int .i64 x0, .int .i64 x1] 51)) (.int .u8 44) 5; simpa [hrb] using this)) (one_u8 _) (by unfold maxLen; first | omega | (simp; done) | (simp; omega)) (by first | omega | (simp; done) | (simp; omega)) (by simp; omega) ?_; intro v1 w1 hown hg _ hat; obtain ⟨y1, b1, k1⟩ := Y0.out.add (c := 44) B0.out s0 _ hown hg; have Y1 := hidA y1; have B1 := hidA b1; have s1 : w.heap.size ≤ w1.heap.size := b1.size; have R1 := hidA (rg_kept k1 R0.out); obtain ⟨c10, c11⟩ := rg_cells R1.out; clear hown hg hat y1 b1 k1) | (go_at_call 49; with_reducible refine (nAppendInt w.heap.size x0 hx.1 hx.2.1 _ _ _ Y1.out s1 (by first | omega | (simp; done) | (simp; omega)) (HT.out.on B1.out)).mono ?_; rintro e w2 ⟨v2, rfl, y2, b2, k2⟩; have Y2 := hidA y2; have B2 := hidA (B1.out.trans b2); have s2 : w.heap.size ≤ w2.heap.size := B2.out.size; have R2 := hidA (rg_kept k2 R1.out); obtain ⟨c20, c21⟩ := rg_cells R2.out; clear y2 b2 k2))
          exact ⟨⟨k + 1, .bool true, by go_num, by omega, hidA (by rw [HP.out]; simpa using Y2.out), B2⟩, by simp [intOf]; omega⟩
        · have h1' : (x0 == x1) = false := by simpa using h1
          by_cases h2 : x1 = -1
          · have h2' : (x1 != -1) = false := by simpa using h2
            have HP := hidA (HPn.out.2.1 h1 h2 hk1)
            clear HPf HPn h1 h2
            go_wp2_with (first | (at_builtin; refine wpList_append_own_at _ rfl _ _ 73 rfl w.heap.size 5 iB (.int .u8 0) 1 1 Tryd.underlying73 hiB hz0 hz1 hz2 rfl (by decide) _ _ _ rfl (Y0.out.alloc _) ⟨_, 0, none⟩ 1 1 [.int .u8 44] rfl rfl (by first | exact cell_one_new _ _ _ | (have := cell_one_new (wr.alloc (.cells #[.int .i64 x0, .int .i64 x1] 51)) (.int .u8 44) 5; simpa [hrb] using this)) (one_u8 _) (by unfold maxLen; first | omega | (simp; done) | (simp; omega)) (by first | omega | (simp; done) | (simp; omega)) (by simp; omega) ?_; intro v1 w1 hown hg _ hat; obtain ⟨y1, b1, k1⟩ := Y0.out.add (c := 44) B0.out s0 _ hown hg; have Y1 := hidA y1; have B1 := hidA b1; have s1 : w.heap.size ≤ w1.heap.size := b1.size; have R1 := hidA (rg_kept k1 R0.out); obtain ⟨c10, c11⟩ := rg_cells R1.out; clear hown hg hat y1 b1 k1) | (go_at_call 49; with_reducible refine (nAppendInt w.heap.size x0 hx.1 hx.2.1 _ _ _ Y1.out s1 (by first | omega | (simp; done) | (simp; omega)) (HT.out.on B1.out)).mono ?_; rintro e w2 ⟨v2, rfl, y2, b2, k2⟩; have Y2 := hidA y2; have B2 := hidA (B1.out.trans b2); have s2 : w.heap.size ≤ w2.heap.size := B2.out.size; have R2 := hidA (rg_kept k2 R1.out); obtain ⟨c20, c21⟩ := rg_cells R2.out; clear y2 b2 k2) | (at_builtin; refine wpList_append_own_at _ rfl _ _ 73 rfl w.heap.size 5 iB (.int .u8 0) 1 1 Tryd.underlying73 hiB hz0 hz1 hz2 rfl (by decide) _ _ _ rfl (Y2.out.alloc _) ⟨_, 0, none⟩ 1 1 [.int .u8 45] rfl rfl (by first | exact cell_one_new _ _ _ | (have := cell_one_new (wr.alloc (.cells #[.int .i64 x0, .int .i64 x1] 51)) (.int .u8 45) 5; simpa [hrb] using this)) (one_u8 _) (by unfold maxLen; first | omega | (simp; done) | (simp; omega)) (by first | omega | (simp; done) | (simp; omega)) (by simp; omega) ?_; intro v3 w3 hown hg _ hat; obtain ⟨y3, b3, k3⟩ := Y2.out.add (c := 45) B2.out s2 _ hown hg; have Y3 := hidA y3; have B3 := hidA b3; have s3 : w.heap.size ≤ w3.heap.size := b3.size; have R3 := hidA (rg_kept k3 R2.out); obtain ⟨c30, c31⟩ := rg_cells R3.out; clear hown hg hat y3 b3 k3))
            exact ⟨⟨k + 1, .bool true, by go_num, by omega, hidA (by rw [HP.out]; simpa using Y3.out), B3⟩, by simp [intOf]; omega⟩
          · have h2' : (x1 != -1) = true := by simpa using h2
            have h2'' : (x1 == -1) = false := by simpa using h2
            have HP := hidA (HPn.out.2.2 h1 h2 hk1)
            clear HPf HPn h1 h2
            go_wp2_with (first | (at_builtin; refine wpList_append_own_at _ rfl _ _ 73 rfl w.heap.size 5 iB (.int .u8 0) 1 1 Tryd.underlying73 hiB hz0 hz1 hz2 rfl (by decide) _ _ _ rfl (Y0.out.alloc _) ⟨_, 0, none⟩ 1 1 [.int .u8 44] rfl rfl (by first | exact cell_one_new _ _ _ | (have := cell_one_new (wr.alloc (.cells #[.int .i64 x0, .int .i64 x1] 51)) (.int .u8 44) 5; simpa [hrb] using this)) (one_u8 _) (by unfold maxLen; first | omega | (simp; done) | (simp; omega)) (by first | omega | (simp; done) | (simp; omega)) (by simp; omega) ?_; intro v1 w1 hown hg _ hat; obtain ⟨y1, b1, k1⟩ := Y0.out.add (c := 44) B0.out s0 _ hown hg; have Y1 := hidA y1; have B1 := hidA b1; have s1 : w.heap.size ≤ w1.heap.size := b1.size; have R1 := hidA (rg_kept k1 R0.out); obtain ⟨c10, c11⟩ := rg_cells R1.out; clear hown hg hat y1 b1 k1) | (go_at_call 49; with_reducible refine (nAppendInt w.heap.size x0 hx.1 hx.2.1 _ _ _ Y1.out s1 (by first | omega | (simp; done) | (simp; omega)) (HT.out.on B1.out)).mono ?_; rintro e w2 ⟨v2, rfl, y2, b2, k2⟩; have Y2 := hidA y2; have B2 := hidA (B1.out.trans b2); have s2 : w.heap.size ≤ w2.heap.size := B2.out.size; have R2 := hidA (rg_kept k2 R1.out); obtain ⟨c20, c21⟩ := rg_cells R2.out; clear y2 b2 k2) | (at_builtin; refine wpList_append_own_at _ rfl _ _ 73 rfl w.heap.size 5 iB (.int .u8 0) 1 1 Tryd.underlying73 hiB hz0 hz1 hz2 rfl (by decide) _ _ _ rfl (Y2.out.alloc _) ⟨_, 0, none⟩ 1 1 [.int .u8 45] rfl rfl (by first | exact cell_one_new _ _ _ | (have := cell_one_new (wr.alloc (.cells #[.int .i64 x0, .int .i64 x1] 51)) (.int .u8 45) 5; simpa [hrb] using this)) (one_u8 _) (by unfold maxLen; first | omega | (simp; done) | (simp; omega)) (by first | omega | (simp; done) | (simp; omega)) (by simp; omega) ?_; intro v3 w3 hown hg _ hat; obtain ⟨y3, b3, k3⟩ := Y2.out.add (c := 45) B2.out s2 _ hown hg; have Y3 := hidA y3; have B3 := hidA b3; have s3 : w.heap.size ≤ w3.heap.size := b3.size; have R3 := hidA (rg_kept k3 R2.out); obtain ⟨c30, c31⟩ := rg_cells R3.out; clear hown hg hat y3 b3 k3) | (go_at_call 49; with_reducible refine (nAppendInt w.heap.size x1 hx.2.2.1 hx.2.2.2 _ _ _ Y3.out s3 (by first | omega | (simp; done) | (simp; omega)) (HT.out.on B3.out)).mono ?_; rintro e w4 ⟨v4, rfl, y4, b4, k4⟩; have Y4 := hidA y4; have B4 := hidA (B3.out.trans b4); have s4 : w.heap.size ≤ w4.heap.size := B4.out.size; have R4 := hidA (rg_kept k4 R3.out); obtain ⟨c40, c41⟩ := rg_cells R4.out; clear y4 b4 k4))
            exact ⟨⟨k + 1, .bool true, by go_num, by omega, hidA (by rw [HP.out]; simpa using Y4.out), B4⟩, by simp [intOf]; omega⟩
    · have hcv := Y.out.text
      rw [List.take_of_length_le (by omega)] at hcv
      clear Y HT HX HRn HY0
      go_wp2
      go_ret
      exact ⟨rfl, BB.out⟩
end Go.Proofs.YtgkjpfebjhhdkaaDoor
