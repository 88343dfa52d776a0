/- A key of a text: the program's reading is the plain answer's. No condition. -/
import Derived.Test.YtladflfdpfpbpaaDoorKa0
namespace Go.Proofs.YtladflfdpfpbpaaDoor
namespace Ok
theorem cnt_app (r : List UInt8) : ∀ a : List UInt8, cnt (a ++ 44 :: r) = cnt a
  | [] => rfl
  | c :: a => by
    have ih := cnt_app r a
    show (if dg c then cnt (a ++ 44 :: r) + 1 else 0) = if dg c then cnt a + 1 else 0
    rw [ih]
theorem lc_app (r : List UInt8) : ∀ a : List UInt8, lc (a ++ 44 :: r) = lc a
  | [] => rfl
  | c :: a => by
    have ih := lc_app r a
    show (if lt c then lc (a ++ 44 :: r) + 1 else 0) = if lt c then lc a + 1 else 0
    rw [ih]
theorem DG_app (a r : List UInt8) : DG (a ++ 44 :: r) = DG a := by
  unfold DG
  rw [cnt_app, List.take_append_of_le_length (cnt_le a)]
theorem DG_le (a : List UInt8) : (DG a).2 ≤ a.length := by
  unfold DG
  split
  · exact cnt_le a
  · exact Nat.zero_le _
theorem HFt_app (f : Nat) (c : Int) (k : Nat) (a r : List UInt8) : HFt f c k (a ++ 44 :: r) = HFt f c k a := by
  unfold HFt
  rw [lc_app, List.take_append_of_le_length (lc_le a)]
theorem HF_app (a r : List UInt8) : HF (a ++ 44 :: r) = HF a := by
  have hd := DG_le a
  have e : (a ++ 44 :: r).drop (DG a).2 = a.drop (DG a).2 ++ 44 :: r := List.drop_append_of_le_length hd
  unfold HF
  rw [DG_app, e]
  by_cases h0 : (DG a).2 = 0 ∨ (DG a).1 = 0
  · rw [if_pos h0, if_pos h0]
  · rw [if_neg h0, if_neg h0]
    cases ht : a.drop (DG a).2 with
    | nil =>
      have n1 : ¬ (([] ++ 44 :: r : List UInt8).head? = some 46) := by simp
      have n2 : ¬ (([] : List UInt8).head? = some 46) := by simp
      rw [if_neg n1, if_neg n2, HFt_app]
    | cons x t =>
      by_cases hx : x = 46
      · subst hx
        have p1 : ((46 :: t ++ 44 :: r : List UInt8).head? = some 46) := rfl
        have p2 : ((46 :: t : List UInt8).head? = some 46) := rfl
        rw [if_pos p1, if_pos p2]
        show (if (DG (t ++ 44 :: r)).2 = 0 then _ else HFt _ (DG (t ++ 44 :: r)).1 (_ + 1 + (DG (t ++ 44 :: r)).2) ((t ++ 44 :: r).drop (DG (t ++ 44 :: r)).2)) = if (DG t).2 = 0 then _ else HFt _ (DG t).1 (_ + 1 + (DG t).2) (t.drop (DG t).2)
        rw [DG_app, List.drop_append_of_le_length (DG_le t), HFt_app]
      · have n1 : ¬ ((x :: t ++ 44 :: r : List UInt8).head? = some 46) := by simpa using hx
        have n2 : ¬ ((x :: t : List UInt8).head? = some 46) := by simpa using hx
        rw [if_neg n1, if_neg n2, HFt_app]
/-- How much stands ahead of the first comma. -/
def ci : List UInt8 → Nat
  | [] => 0
  | c :: l => if c = 44 then 0 else ci l + 1
theorem ci_le : ∀ l : List UInt8, ci l ≤ l.length
  | [] => Nat.le_refl _
  | c :: l => by
    have := ci_le l
    simp only [ci, List.length_cons]
    split <;> omega
theorem ci_cut : ∀ l : List UInt8, ci l < l.length → l = l.take (ci l) ++ 44 :: l.drop (ci l + 1)
  | [], h => by simp at h
  | c :: l, h => by
    by_cases hc : c = 44
    · subst hc
      rw [show ci (44 :: l) = 0 from if_pos rfl]; rfl
    · have e : ci (c :: l) = ci l + 1 := if_neg hc
      rw [e] at h ⊢
      have ih := ci_cut l (by simpa using h)
      show c :: l = c :: (l.take (ci l) ++ 44 :: l.drop (ci l + 1))
      rw [← ih]
theorem ci_no : ∀ (l : List UInt8) (j : Nat), j < ci l → l[j]? ≠ some 44
  | [], j, h => by simp [ci] at h
  | c :: l, j, h => by
    by_cases hc : c = 44
    · rw [show ci (c :: l) = 0 from if_pos hc] at h; omega
    · rw [show ci (c :: l) = ci l + 1 from if_neg hc] at h
      cases j with
      | zero => simpa using hc
      | succ j => simpa using ci_no l j (by omega)
theorem HFt_n (f : Nat) (c : Int) (k : Nat) (t : List UInt8) : (HFt f c k t).2.2.2 ≤ k + t.length := Nat.add_le_add_left (lc_le t) k
theorem HF_le (s : List UInt8) : (HF s).2.2.2 ≤ s.length := by
  have hd := DG_le s
  unfold HF
  split
  · exact Nat.zero_le _
  · split
    · rename_i h46
      have hne : 0 < (s.drop (DG s).2).length := by
        cases h : s.drop (DG s).2 with
        | nil => rw [h] at h46; cases h46
        | cons _ _ => simp
      have hd2 := DG_le (s.drop (DG s).2).tail
      split
      · exact Nat.zero_le _
      · refine Nat.le_trans (HFt_n _ _ _ _) ?_
        rw [List.length_drop, List.length_tail] at *
        rw [List.length_drop] at *
        omega
    · refine Nat.le_trans (HFt_n _ _ _ _) ?_
      rw [List.length_drop]; omega
abbrev K5 := Int × Int × Int × Int × Int
def kz : K5 := (0, 0, 0, 0, 0)
def ch (c d : Int) : Int := if c < 0 then d else c
/-- The plain answer. -/
def PKr (s : List UInt8) : K5 × Int :=
  if (HF s).2.2.2 = 0 ∨ (HF s).2.1 = 0 then (kz, 22)
  else if (HF s).2.2.2 = s.length then (((HF s).1, ch (HF s).2.1 1, 0, 0, (HF s).2.2.1), 0)
  else if s[(HF s).2.2.2]? = some 44 then
    (if (HF (s.drop ((HF s).2.2.2 + 1))).2.2.2 = 0 ∨ (HF s).2.2.2 + 1 + (HF (s.drop ((HF s).2.2.2 + 1))).2.2.2 ≠ s.length then (kz, 22)
     else (((HF s).1, ch (HF s).2.1 1, (HF (s.drop ((HF s).2.2.2 + 1))).1, ch (HF (s.drop ((HF s).2.2.2 + 1))).2.1 0, orI (HF s).2.2.1 (HF (s.drop ((HF s).2.2.2 + 1))).2.2.1), 0))
  else (kz, 22)
/-- The program. -/
def PKp (s : List UInt8) : K5 × Int :=
  if (SP (s.take (ci s)) 1).2.2.2 = false ∨ (SP (s.take (ci s)) 1).2.1 = 0 then (kz, 22)
  else if ci s < s.length then
    (if (SP (s.drop (ci s + 1)) 0).2.2.2 = false then (kz, 22)
     else (((SP (s.take (ci s)) 1).1, (SP (s.take (ci s)) 1).2.1, (SP (s.drop (ci s + 1)) 0).1, (SP (s.drop (ci s + 1)) 0).2.1, orI (SP (s.take (ci s)) 1).2.2.1 (SP (s.drop (ci s + 1)) 0).2.2.1), 0))
  else (((SP (s.take (ci s)) 1).1, (SP (s.take (ci s)) 1).2.1, 0, 0, orI (SP (s.take (ci s)) 1).2.2.1 0), 0)
theorem or_small : ∀ a b : Nat, a < 32 → b < 32 → ∃ c : Nat, orI a b = c ∧ c < 32 := by
  have h : ((List.range 32).all fun a => (List.range 32).all fun b => decide (0 ≤ orI a b) && decide (orI a b < 32)) = true := by decide +kernel
  intro a b ha hb
  have h1 := List.all_eq_true.1 (List.all_eq_true.1 h a (List.mem_range.2 ha)) b (List.mem_range.2 hb)
  simp only [Bool.and_eq_true, decide_eq_true_iff] at h1
  exact ⟨(orI a b).toNat, by omega, by omega⟩
theorem or_zero : ∀ a : Nat, a < 32 → orI a 0 = a := by
  have h : ((List.range 32).all fun a => decide (orI a 0 = a)) = true := by decide +kernel
  intro a ha
  simpa using List.all_eq_true.1 h a (List.mem_range.2 ha)
theorem lf_small (c : UInt8) : ∃ n : Nat, lf c = n ∧ n < 32 := by
  unfold lf
  repeat' split
  · exact ⟨1, rfl, by omega⟩
  · exact ⟨2, rfl, by omega⟩
  · exact ⟨4, rfl, by omega⟩
  · exact ⟨8, rfl, by omega⟩
  · exact ⟨16, rfl, by omega⟩
  · exact ⟨0, rfl, by omega⟩
theorem fl_from : ∀ (l : List UInt8) (a : Nat), a < 32 → ∃ n : Nat, l.foldl (fun a c => orI a (lf c)) (a : Int) = n ∧ n < 32
  | [], a, h => ⟨a, rfl, h⟩
  | c :: l, a, h => by
    obtain ⟨m, h1, h2⟩ := lf_small c
    obtain ⟨q, h3, h4⟩ := or_small a m h h2
    rw [List.foldl_cons, h1, h3]
    exact fl_from l q h4
theorem fl_small (l : List UInt8) : ∃ n : Nat, fl l = n ∧ n < 32 := fl_from l 0 (by omega)
theorem fl_zero (l : List UInt8) : orI (fl l) 0 = fl l := by
  obtain ⟨n, h, hn⟩ := fl_small l
  rw [h]; exact or_zero n hn
theorem HF_flags (s : List UInt8) : ∃ l, (HF s).2.2.1 = fl l := by
  unfold HF
  repeat' split
  · exact ⟨[], rfl⟩
  · exact ⟨[], rfl⟩
  · exact ⟨_, rfl⟩
  · exact ⟨_, rfl⟩
theorem PK (s : List UInt8) : PKp s = PKr s := by
  obtain ⟨A1, A2⟩ := SP_HF (s.take (ci s)) 1
  obtain ⟨B1, B2⟩ := SP_HF (s.drop (ci s + 1)) 0
  have hci := ci_le s
  have hHF : HF s = HF (s.take (ci s)) := by
    by_cases h : ci s < s.length
    · have := HF_app (s.take (ci s)) (s.drop (ci s + 1))
      rw [← ci_cut s h] at this
      exact this
    · rw [List.take_of_length_le (by omega)]
  have hlen : (s.take (ci s)).length = ci s := by rw [List.length_take]; omega
  have hle := HF_le (s.take (ci s))
  obtain ⟨lh, hlh⟩ := HF_flags (s.take (ci s))
  rw [hlen] at A1 hle
  unfold PKp PKr
  rw [hHF]
  generalize SP (s.take (ci s)) 1 = p at *
  generalize HF (s.take (ci s)) = q at *
  by_cases hok : p.2.2.2 = true
  · have hp := A2 hok
    rw [hok] at A1
    obtain ⟨hn0, hn⟩ := of_decide_eq_true A1.symm
    have ec : p.2.1 = ch q.2.1 1 := by rw [hp]; rfl
    have ef : (p.1 : Int) = q.1 := by rw [hp]
    have eg : p.2.2.1 = q.2.2.1 := by rw [hp]
    have hc0 : p.2.1 = 0 ↔ q.2.1 = 0 := by
      rw [ec]; unfold ch
      split <;> omega
    by_cases hz : q.2.1 = 0
    · rw [if_pos (.inr (hc0.2 hz)), if_pos (.inr hz)]
    · rw [if_neg (show ¬ (p.2.2.2 = false ∨ p.2.1 = 0) from fun h => h.elim (fun h => by rw [hok] at h; cases h) (fun h => hz (hc0.1 h))), if_neg (show ¬ (q.2.2.2 = 0 ∨ q.2.1 = 0) from fun h => h.elim hn0 hz), hn, ec, ef, eg]
      by_cases hlt : ci s < s.length
      · have hcm : s[ci s]? = some 44 := by
          have : s[ci s]? = (s.take (ci s) ++ 44 :: s.drop (ci s + 1))[ci s]? := by rw [← ci_cut s hlt]
          rw [List.getElem?_append_right (by omega), hlen, Nat.sub_self] at this
          exact this
        rw [if_pos hlt, if_neg (show ¬ (ci s = s.length) by omega), if_pos hcm]
        have hl2 : (s.drop (ci s + 1)).length = s.length - (ci s + 1) := List.length_drop
        rw [hl2] at B1
        generalize SP (s.drop (ci s + 1)) 0 = p2 at *
        generalize HF (s.drop (ci s + 1)) = q2 at *
        by_cases hok2 : p2.2.2.2 = true
        · have hp2 := B2 hok2
          rw [hok2] at B1
          obtain ⟨m0, hm⟩ := of_decide_eq_true B1.symm
          rw [if_neg (by rw [hok2]; simp), if_neg (show ¬ (q2.2.2.2 = 0 ∨ ci s + 1 + q2.2.2.2 ≠ s.length) from fun h => h.elim m0 (fun h => h (by omega)))]
          rw [hp2]; rfl
        · have hok2' : p2.2.2.2 = false := by simpa using hok2
          rw [hok2'] at B1
          have := of_decide_eq_false B1.symm
          rw [if_pos hok2', if_pos (show q2.2.2.2 = 0 ∨ ci s + 1 + q2.2.2.2 ≠ s.length by omega)]
      · rw [if_neg hlt, if_pos (show ci s = s.length by omega), hlh, fl_zero]
  · have hok' : p.2.2.2 = false := by simpa using hok
    rw [hok'] at A1
    have hno := of_decide_eq_false A1.symm
    rw [if_pos (.inl hok')]
    by_cases h1 : q.2.2.2 = 0 ∨ q.2.1 = 0
    · rw [if_pos h1]
    · have hlt : q.2.2.2 < ci s := by omega
      rw [if_neg h1, if_neg (show ¬ (q.2.2.2 = s.length) by omega), if_neg (ci_no s _ hlt)]
end Ok
end Go.Proofs.YtladflfdpfpbpaaDoor
