/- What Print writes is read as it was, in plain numbers. -/
import Derived.Test.YtgkjpfebjhhdkaaDoorNk2
namespace Go.Proofs.YtgkjpfebjhhdkaaDoor
namespace Na
theorem dig_ofNat {d : Nat} (h : d < 10) : dig 10 (UInt8.ofNat (48 + d)) = true ∧ ((UInt8.ofNat (48 + d)).toNat : Int) - 48 = d := by
  have e : (UInt8.ofNat (48 + d)).toNat = 48 + d := by rw [UInt8.toNat_ofNat']; omega
  refine ⟨?_, by rw [e]; omega⟩
  rw [dig_iff, e]; omega
theorem V_snoc (l : List UInt8) (c : UInt8) : V (l ++ [c]) = V l * 10 + ((c.toNat : Int) - 48) := by
  induction l with
  | nil => simp [V, dv]
  | cons d r ih =>
    rw [List.cons_append, V_cons, V_cons, ih, List.length_append, List.length_singleton, Int.pow_succ, Int.add_mul, Int.mul_assoc]
    omega
theorem dd_ok (u : Nat) : (Lib.decDigits u).all (dig 10) = true ∧ V (Lib.decDigits u) = u ∧ Lib.decDigits u ≠ [] ∧ (1 ≤ u → lead (Lib.decDigits u)) := by
  induction u using Nat.strongRecOn with
  | _ u ih =>
    by_cases h : u < 10
    · obtain ⟨d1, d2⟩ := dig_ofNat h
      rw [Lib.decDigits, dif_pos h]
      refine ⟨by rw [List.all_cons, d1]; rfl, ?_, by simp, fun h1 c r he => ?_⟩
      · rw [V_cons, d2]; simp [V, dv]
      · cases he
        intro e
        rw [e] at d2
        have : ((48 : UInt8).toNat : Int) - 48 = 0 := by decide
        omega
    · obtain ⟨d1, d2⟩ := dig_ofNat (show u % 10 < 10 by omega)
      obtain ⟨i1, i2, i3, i4⟩ := ih (u / 10) (by omega)
      rw [Lib.decDigits, dif_neg h]
      refine ⟨by rw [List.all_append, i1, List.all_cons, d1]; rfl, ?_, by simp, fun h1 c r he => ?_⟩
      · rw [V_snoc, i2, d2]; omega
      · cases hd : Lib.decDigits (u / 10) with
        | nil => exact absurd hd i3
        | cons c' r' =>
          rw [hd] at he
          cases he
          exact i4 (by omega) c r' hd
theorem ito {n : Int} (h : 0 ≤ n) : Lib.itoa n = Lib.decDigits n.toNat := by unfold Lib.itoa; rw [if_neg (by omega)]
theorem ito_ok {n : Int} (h : 1 ≤ n) : (Lib.itoa n).all (dig 10) = true ∧ V (Lib.itoa n) = n ∧ Lib.itoa n ≠ [] ∧ counts (Lib.itoa n) = true := by
  rw [ito (by omega)]
  obtain ⟨i1, i2, i3, i4⟩ := dd_ok n.toNat
  refine ⟨i1, by rw [i2]; omega, i3, ?_⟩
  unfold counts pl
  rw [i1]
  cases hd : Lib.decDigits n.toNat with
  | nil => exact absurd hd i3
  | cons c r =>
    have hc : c ≠ 48 := i4 (by omega) c r hd
    have : sig (c :: r) = c :: r := by unfold sig; rw [List.dropWhile_cons_of_neg (by simpa using hc)]
    rw [this]; rfl
theorem no_has {m : UInt8} {l : List UInt8} (hm : ¬ (48 ≤ m.toNat ∧ m.toNat ≤ 57)) (h : l.all (dig 10) = true) : ∀ x ∈ l, x ≠ m := by
  intro x hx e
  have := dig_iff.1 (List.all_eq_true.1 h x hx)
  rw [e] at this
  omega
theorem cut_at {m : UInt8} {A B : List UInt8} (h : ∀ x ∈ A, x ≠ m) : ahead m (A ++ m :: B) = A ∧ behind m (A ++ m :: B) = B ∧ has m (A ++ m :: B) = true := by
  have hp : ∀ x ∈ A, decide (x ≠ m) = true := fun x hx => decide_eq_true (h x hx)
  refine ⟨?_, ?_, ?_⟩
  · unfold ahead; rw [List.takeWhile_append_of_pos hp, List.takeWhile_cons_of_neg (by simp), List.append_nil]
  · unfold behind; rw [List.dropWhile_append_of_pos hp, List.dropWhile_cons_of_neg (by simp), List.tail_cons]
  · unfold has; rw [List.any_eq_true]; exact ⟨m, by simp, by simp⟩
theorem has_not {m : UInt8} {A : List UInt8} (h : ∀ x ∈ A, x ≠ m) : has m A = false := by
  unfold has; rw [List.any_eq_false]; intro x hx; simpa using h x hx
theorem item_ok {x : Rg} (h : wf x) : isItem (itemP x) = true ∧ itemR (itemP x) = some x ∧ ∀ c ∈ itemP x, c ≠ 44 := by
  obtain ⟨x0, x1⟩ := x
  obtain ⟨w1, w2, w3⟩ := h
  dsimp only at w1 w2 w3
  obtain ⟨a1, a2, a3, a4⟩ := ito_ok w1
  have n44 := no_has (m := 44) (by decide) a1
  have n45 := no_has (m := 45) (by decide) a1
  have ane : (Lib.itoa x0).isEmpty = false := by cases hd : Lib.itoa x0 with
    | nil => exact absurd hd a3
    | cons c r => rfl
  by_cases he : x0 = x1
  · subst he
    have e : itemP (x0, x0) = Lib.itoa x0 := itemP_one rfl
    have hh := has_not n45
    have elo1 : elo (Lib.itoa x0) = Lib.itoa x0 := by unfold elo; rw [hh]; rfl
    have ehi1 : ehi (Lib.itoa x0) = Lib.itoa x0 := by unfold ehi; rw [hh]; rfl
    rw [e]
    refine ⟨?_, ?_, n44⟩
    · unfold isItem
      have hne : Lib.itoa x0 ≠ [45] := fun e2 => n45 45 (by rw [e2]; simp) rfl
      rw [elo1, ehi1, decide_eq_false hne, a4, sml_eq a1 a1]
      simp
    · unfold itemR rOf
      rw [elo1, ehi1, vl_V a1, a2, if_pos w2]
      dsimp only
      rw [if_neg (by simp [ane])]
      all_goals rfl
  · by_cases ho : x1 = -1
    · subst ho
      have e : itemP (x0, -1) = Lib.itoa x0 ++ 45 :: [] := itemP_open he rfl
      obtain ⟨c1, c2, c3⟩ := cut_at (B := []) n45
      rw [e]
      have elo1 : elo (Lib.itoa x0 ++ 45 :: []) = Lib.itoa x0 := by unfold elo; rw [c3, if_pos rfl, c1, if_neg (by simp [ane])]
      have ehi1 : ehi (Lib.itoa x0 ++ 45 :: []) = [] := by unfold ehi; rw [c3, if_pos rfl, c2]
      refine ⟨?_, ?_, ?_⟩
      · unfold isItem
        have hne : Lib.itoa x0 ++ 45 :: [] ≠ [45] := fun e2 => by
          cases hd : Lib.itoa x0 with
          | nil => exact a3 hd
          | cons c r => rw [hd] at e2; simp at e2
        rw [elo1, ehi1, decide_eq_false hne, a4]
        rfl
      · unfold itemR rOf
        rw [elo1, ehi1, vl_V a1, a2, if_pos w2]
        rfl
      · intro c hc
        rcases List.mem_append.1 hc with hc | hc
        · exact n44 c hc
        · simp at hc; rw [hc]; decide
    · rcases w3 with w3 | ⟨w3, w4⟩
      · exact absurd w3 ho
      obtain ⟨b1, b2, b3, b4⟩ := ito_ok (show 1 ≤ x1 by omega)
      have m44 := no_has (m := 44) (by decide) b1
      have bne : (Lib.itoa x1).isEmpty = false := by cases hd : Lib.itoa x1 with
        | nil => exact absurd hd b3
        | cons c r => rfl
      have e : itemP (x0, x1) = Lib.itoa x0 ++ 45 :: Lib.itoa x1 := itemP_two he ho
      obtain ⟨c1, c2, c3⟩ := cut_at (B := Lib.itoa x1) n45
      rw [e]
      have elo1 : elo (Lib.itoa x0 ++ 45 :: Lib.itoa x1) = Lib.itoa x0 := by unfold elo; rw [c3, if_pos rfl, c1, if_neg (by simp [ane])]
      have ehi1 : ehi (Lib.itoa x0 ++ 45 :: Lib.itoa x1) = Lib.itoa x1 := by unfold ehi; rw [c3, if_pos rfl, c2]
      refine ⟨?_, ?_, ?_⟩
      · unfold isItem
        have hne : Lib.itoa x0 ++ 45 :: Lib.itoa x1 ≠ [45] := fun e2 => by
          cases hd : Lib.itoa x0 with
          | nil => exact a3 hd
          | cons c r => rw [hd] at e2; simp at e2
        have hs : sml (Lib.itoa x1) (Lib.itoa x0) = false := by rw [sml_eq b1 a1, a2, b2]; simp; omega
        rw [elo1, ehi1, decide_eq_false hne, a4, b4, hs]
        simp
      · unfold itemR rOf
        rw [elo1, ehi1, vl_V a1, a2, if_pos w2]
        dsimp only
        rw [if_neg (by simp [bne]), vl_V b1, b2, if_pos w4]
      · intro c hc
        rcases List.mem_append.1 hc with hc | hc
        · exact n44 c hc
        · rcases List.mem_cons.1 hc with hc | hc
          · rw [hc]; decide
          · exact m44 c hc
theorem parts_print : ∀ (t : List Rg) (x : Rg), (∀ y ∈ x :: t, wf y) → parts (itemP x ++ t.flatMap (fun y => 44 :: itemP y)) = itemP x :: t.map itemP
  | [], x, h => by
    have := (item_ok (h x (by simp))).2.2
    rw [List.flatMap_nil, List.append_nil, parts_no (has_not this)]; rfl
  | y :: t, x, h => by
    have hx := (item_ok (h x (by simp))).2.2
    have e : itemP x ++ (y :: t).flatMap (fun y => 44 :: itemP y) = itemP x ++ 44 :: (itemP y ++ t.flatMap (fun y => 44 :: itemP y)) := by simp
    obtain ⟨c1, c2, c3⟩ := cut_at (B := itemP y ++ t.flatMap (fun y => 44 :: itemP y)) hx
    rw [e, parts_yes c3, c1, c2, parts_print t y (fun z hz => h z (by simp at hz ⊢; exact .inr hz))]
    rfl
theorem mapM_items : ∀ l : List Rg, (∀ y ∈ l, wf y) → (l.map itemP).mapM itemR = some l
  | [], _ => rfl
  | x :: t, h => by
    rw [List.map_cons, List.mapM_cons, (item_ok (h x (by simp))).2.1, mapM_items t (fun y hy => h y (by simp [hy]))]
    rfl
theorem print_read {l : List Rg} (hne : l ≠ []) (h : ∀ y ∈ l, wf y) : allI (printP l) = true ∧ rsOf (printP l) = some l := by
  cases l with
  | nil => exact absurd rfl hne
  | cons x t =>
    have hp : parts (printP (x :: t)) = (x :: t).map itemP := parts_print t x h
    constructor
    · unfold allI
      rw [hp, List.all_eq_true]
      intro it hit
      obtain ⟨y, hy, rfl⟩ := List.mem_map.1 hit
      exact (item_ok (h y hy)).1
    · unfold rsOf
      rw [hp]
      exact mapM_items _ h
end Na
end Go.Proofs.YtgkjpfebjhhdkaaDoor
