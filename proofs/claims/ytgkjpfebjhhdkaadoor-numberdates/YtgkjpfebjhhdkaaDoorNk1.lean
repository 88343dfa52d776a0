/- Digits and their values, in plain numbers: the order of digits is that of their values; what itoa writes is read. -/
import Derived.Test.YtgkjpfebjhhdkaaDoorNr7
import Derived.Lib.ItoaLen
namespace Go.Proofs.YtgkjpfebjhhdkaaDoor
namespace Na
abbrev V (l : List UInt8) : Int := dv 10 0 l
theorem dv_add : ∀ (l : List UInt8) (n : Int), dv 10 n l = n * 10 ^ l.length + V l
  | [], n => by simp [dv]
  | c :: r, n => by
    show dv 10 (n * 10 + ((c.toNat : Int) - 48)) r = n * 10 ^ (r.length + 1) + dv 10 (0 * 10 + ((c.toNat : Int) - 48)) r
    rw [dv_add r, dv_add r (0 * 10 + _), Int.pow_succ, Int.add_mul, Int.zero_mul, Int.zero_add, Int.mul_assoc, Int.mul_comm 10 (10 ^ r.length), Int.add_assoc]
theorem V_cons (c : UInt8) (r : List UInt8) : V (c :: r) = ((c.toNat : Int) - 48) * 10 ^ r.length + V r := by
  show dv 10 (0 * 10 + ((c.toNat : Int) - 48)) r = _
  rw [dv_add, Int.zero_mul, Int.zero_add]
theorem pow_pos (k : Nat) : (1 : Int) ≤ 10 ^ k := by
  induction k with
  | zero => decide
  | succ k ih => rw [Int.pow_succ]; omega
theorem V_rng : ∀ (l : List UInt8), l.all (dig 10) = true → 0 ≤ V l ∧ V l < 10 ^ l.length
  | [], _ => ⟨Int.le_refl _, by decide⟩
  | c :: r, h => by
    obtain ⟨⟨h1, h2⟩, h3⟩ := all_cons h
    obtain ⟨i1, i2⟩ := V_rng r h3
    have hp := pow_pos r.length
    rw [V_cons, List.length_cons, Int.pow_succ]
    have k1 : 0 ≤ ((c.toNat : Int) - 48) * 10 ^ r.length := Int.mul_nonneg (by omega) (by omega)
    have k2 : ((c.toNat : Int) - 48) * 10 ^ r.length ≤ 9 * 10 ^ r.length := Int.mul_le_mul_of_nonneg_right (by omega) (by omega)
    omega
/-- No nought ahead. -/
def lead (l : List UInt8) : Prop := ∀ c r, l = c :: r → c ≠ 48
theorem V_lead {c : UInt8} {r : List UInt8} (h : (c :: r).all (dig 10) = true) (hl : lead (c :: r)) : 10 ^ r.length ≤ V (c :: r) := by
  obtain ⟨⟨h1, h2⟩, h3⟩ := all_cons h
  obtain ⟨i1, i2⟩ := V_rng r h3
  have hc : c ≠ 48 := hl c r rfl
  have hn : c.toNat ≠ 48 := fun e => hc (UInt8.toNat_inj.1 e)
  rw [V_cons]
  have k2 : 1 * 10 ^ r.length ≤ ((c.toNat : Int) - 48) * 10 ^ r.length := Int.mul_le_mul_of_nonneg_right (by omega) (by have := pow_pos r.length; omega)
  omega
theorem sig_lead : ∀ l : List UInt8, lead (sig l)
  | [] => fun c r h => by cases h
  | d :: t => by
    unfold sig
    by_cases hd : d = 48
    · rw [List.dropWhile_cons_of_pos (by simpa using hd)]; exact sig_lead t
    · rw [List.dropWhile_cons_of_neg (by simpa using hd)]
      intro c r h
      cases h
      exact hd
theorem sig_V : ∀ l : List UInt8, V (sig l) = V l
  | [] => rfl
  | d :: t => by
    unfold sig
    by_cases hd : d = 48
    · rw [List.dropWhile_cons_of_pos (by simpa using hd)]
      have := sig_V t
      unfold sig at this
      rw [this, hd, V_cons]
      simp
    · rw [List.dropWhile_cons_of_neg (by simpa using hd)]
theorem sig_all {l : List UInt8} (h : l.all (dig 10) = true) : (sig l).all (dig 10) = true := by
  rw [List.all_eq_true] at h ⊢
  exact fun x hx => h x ((List.dropWhile_sublist _).subset hx)
theorem less_eq : ∀ (a b : List UInt8), a.length = b.length → a.all (dig 10) = true → b.all (dig 10) = true → Op.bytesLess a b = decide (V a < V b)
  | [], [], _, _, _ => by simp [Op.bytesLess]
  | c :: r, d :: s, hl, ha, hb => by
    obtain ⟨⟨c1, c2⟩, h3⟩ := all_cons ha
    obtain ⟨⟨d1, d2⟩, h4⟩ := all_cons hb
    have hl2 : r.length = s.length := by simpa using hl
    have ih := less_eq r s hl2 h3 h4
    obtain ⟨i1, i2⟩ := V_rng r h3
    obtain ⟨j1, j2⟩ := V_rng s h4
    rw [V_cons, V_cons, ← hl2]
    rw [← hl2] at j2
    have hp := pow_pos r.length
    show (decide (c < d) || (c == d && Op.bytesLess r s)) = _
    by_cases h1 : c < d
    · have h1n : c.toNat < d.toNat := h1
      rw [decide_eq_true h1, Bool.true_or]
      symm
      rw [decide_eq_true_iff]
      have := Int.mul_le_mul_of_nonneg_right (show (c.toNat : Int) - 48 + 1 ≤ (d.toNat : Int) - 48 by omega) (show (0 : Int) ≤ 10 ^ r.length by omega)
      rw [Int.add_mul, Int.one_mul] at this
      omega
    · rw [decide_eq_false h1, Bool.false_or]
      have h1n : ¬ c.toNat < d.toNat := h1
      by_cases h2 : c = d
      · subst h2
        rw [beq_self_eq_true, Bool.true_and, ih]
        congr 1
        rw [eq_iff_iff]
        omega
      · have h2n : c.toNat ≠ d.toNat := fun e => h2 (UInt8.toNat_inj.1 e)
        rw [beq_eq_false_iff_ne.2 h2, Bool.false_and]
        symm
        rw [decide_eq_false_iff_not]
        have := Int.mul_le_mul_of_nonneg_right (show (d.toNat : Int) - 48 + 1 ≤ (c.toNat : Int) - 48 by omega) (show (0 : Int) ≤ 10 ^ r.length by omega)
        rw [Int.add_mul, Int.one_mul] at this
        omega
theorem lss_eq {a b : List UInt8} (ha : a.all (dig 10) = true) (hb : b.all (dig 10) = true) (la : lead a) (lb : lead b) : lss a b = decide (V a < V b) := by
  unfold lss
  by_cases hl : a.length = b.length
  · rw [if_pos hl]; exact less_eq a b hl ha hb
  · rw [if_neg hl]
    have ra := V_rng a ha
    have rb := V_rng b hb
    by_cases h : a.length < b.length
    · rw [decide_eq_true h]
      symm
      rw [decide_eq_true_iff]
      cases b with
      | nil => simp at h
      | cons d s =>
        have := V_lead hb lb
        have hm : (10 : Int) ^ a.length ≤ 10 ^ s.length := by
          obtain ⟨k, hk⟩ : ∃ k, s.length = a.length + k := ⟨s.length - a.length, by simp at h; omega⟩
          rw [hk, Int.pow_add]
          have p1 := pow_pos k
          have p2 := pow_pos a.length
          have := Int.mul_le_mul_of_nonneg_left p1 (show (0 : Int) ≤ 10 ^ a.length by omega)
          omega
        omega
    · rw [decide_eq_false h]
      symm
      rw [decide_eq_false_iff_not]
      cases a with
      | nil => exfalso; simp only [List.length_nil] at hl h; omega
      | cons d s =>
        have := V_lead ha la
        have hm : (10 : Int) ^ b.length ≤ 10 ^ s.length := by
          obtain ⟨k, hk⟩ : ∃ k, s.length = b.length + k := ⟨s.length - b.length, by simp at h hl; omega⟩
          rw [hk, Int.pow_add]
          have p1 := pow_pos k
          have p2 := pow_pos b.length
          have := Int.mul_le_mul_of_nonneg_left p1 (show (0 : Int) ≤ 10 ^ b.length by omega)
          omega
        omega
theorem sml_eq {a b : List UInt8} (ha : a.all (dig 10) = true) (hb : b.all (dig 10) = true) : sml a b = decide (V a < V b) := by
  unfold sml
  rw [lss_eq (sig_all ha) (sig_all hb) (sig_lead a) (sig_lead b), sig_V, sig_V]
theorem counts_V {l : List UInt8} (h : counts l = true) : 1 ≤ V l := by
  have ha := counts_all h
  unfold counts at h
  rw [Bool.and_eq_true] at h
  have h2 := h.2
  rw [← sig_V]
  cases hs : sig l with
  | nil => rw [hs] at h2; cases h2
  | cons c r =>
    have hl := sig_lead l
    have hA := sig_all ha
    rw [hs] at hl hA
    have := V_lead hA hl
    have := pow_pos r.length
    omega
theorem vl_V {l : List UInt8} (h : l.all (dig 10) = true) : vl 10 mx 0 l = if V l ≤ mx then some (V l) else none := vl_eq (by decide) l 0 (by decide) (by decide) h
end Na
end Go.Proofs.YtgkjpfebjhhdkaaDoor
