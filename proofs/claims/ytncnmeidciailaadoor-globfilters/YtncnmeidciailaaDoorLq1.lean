/- The plain theory of byte lists: complements, translation, deletion, squeezing. No condition. -/
import Derived.Test.YtncnmeidciailaaDoorLb2
namespace Go.Proofs.YtncnmeidciailaaDoor
namespace Gl
/-- Is a byte in a list? -/
def has (s : List UInt8) (c : UInt8) : Bool := decide (c ∈ s)
theorem has_snoc (s : List UInt8) (x c : UInt8) : has (s ++ [x]) c = (has s c || decide (c = x)) := by
  unfold has; rw [Bool.eq_iff_iff]; simp
theorem mem_lst {g : UInt8 → Bool} {x : UInt8} : ∀ {k : Nat}, k ≤ 256 → (x ∈ lst g k ↔ x.toNat < k ∧ g x = true)
  | 0, _ => by simp [lst]
  | k + 1, hk => by
    unfold lst
    rw [List.mem_append, mem_lst (k := k) (by omega)]
    have e := ofN_eq (k := k) (by omega) x
    cases hg : g (UInt8.ofNat k) with
    | true =>
      simp only [if_true, List.mem_singleton]
      constructor
      · rintro (h | h)
        · exact ⟨by omega, h.2⟩
        · exact ⟨by have := e.1 h; omega, by rw [h]; exact hg⟩
      · rintro ⟨h1, h2⟩
        by_cases hx : x.toNat = k
        · exact .inr (e.2 hx)
        · exact .inl ⟨by omega, h2⟩
    | false =>
      simp only [Bool.false_eq_true, if_false, List.not_mem_nil, or_false]
      constructor
      · rintro h; exact ⟨by omega, h.2⟩
      · rintro ⟨h1, h2⟩
        refine ⟨?_, h2⟩
        by_cases hx : x.toNat = k
        · rw [e.2 hx, hg] at h2; cases h2
        · omega
theorem has_lst (g : UInt8 → Bool) (x : UInt8) : has (lst g 256) x = g x := by
  unfold has
  rw [Bool.eq_iff_iff, decide_eq_true_eq, mem_lst (Nat.le_refl _)]
  exact ⟨fun h => h.2, fun h => ⟨x.toNat_lt, h⟩⟩
theorem lst_congr {g g' : UInt8 → Bool} (h : ∀ x, g x = g' x) : ∀ k, lst g k = lst g' k
  | 0 => rfl
  | k + 1 => by unfold lst; rw [lst_congr h k, h]
theorem lst_both (g : UInt8 → Bool) : ∀ k, (lst (fun c => !g c) k).length + (lst g k).length = k
  | 0 => rfl
  | k + 1 => by
    have := lst_both g k
    unfold lst
    rw [List.length_append, List.length_append]
    cases g (UInt8.ofNat k) <;> simp <;> omega
theorem lst_sorted (g : UInt8 → Bool) : ∀ k, k ≤ 256 → (lst g k).Pairwise (fun a b => a.toNat < b.toNat)
  | 0, _ => List.Pairwise.nil
  | k + 1, hk => by
    unfold lst
    rw [List.pairwise_append]
    refine ⟨lst_sorted g k (by omega), ?_, ?_⟩
    · split <;> simp
    · intro a ha b hb
      have h1 := ((mem_lst (by omega)).1 ha).1
      split at hb
      · simp at hb; subst hb; rw [ofN (by omega)]; exact h1
      · simp at hb
theorem lst_rise (g : UInt8 → Bool) (i : Nat) (h : i + 1 < (lst g 256).length) : ((lst g 256)[i]).toNat < ((lst g 256)[i + 1]).toNat :=
  List.pairwise_iff_getElem.1 (lst_sorted g 256 (Nat.le_refl _)) i (i + 1) (by omega) h (by omega)
theorem lst_inj (g : UInt8 → Bool) (i j : Nat) (hi : i < (lst g 256).length) (hj : j < (lst g 256).length) (h : (lst g 256)[i] = (lst g 256)[j]) : i = j := by
  have hp := List.pairwise_iff_getElem.1 (lst_sorted g 256 (Nat.le_refl _))
  rcases Nat.lt_trichotomy i j with h1 | h1 | h1
  · have := hp i j hi hj h1; rw [h] at this; omega
  · exact h1
  · have := hp j i hj hi h1; rw [h] at this; omega
/-- The bytes that are not in a list. -/
def compl (s : List UInt8) : List UInt8 := lst (fun c => !has s c) 256
theorem compl_compl (s : List UInt8) : compl (compl s) = lst (has s) 256 := lst_congr (fun x => by rw [compl, has_lst]; simp) 256
theorem compl_len (s : List UInt8) : (compl s).length + (compl (compl s)).length = 256 := by rw [compl_compl]; exact lst_both _ _
/-- What a byte becomes, by the list from a place on. -/
def trA (to : List UInt8) (c : UInt8) : List UInt8 → Nat → UInt8
  | [], _ => c
  | x :: r, k => if x = c then to.getD (min k (to.length - 1)) 0 else trA to c r (k + 1)
/-- What a byte becomes. -/
def tr (fr to : List UInt8) (c : UInt8) : UInt8 := trA to c fr 0
theorem trA_step (fr to : List UInt8) (k : Nat) (h : k < fr.length) (c : UInt8) : trA to c (fr.drop k) k = if fr[k] = c then to.getD (min k (to.length - 1)) 0 else trA to c (fr.drop (k + 1)) (k + 1) := by
  rw [List.drop_eq_getElem_cons h]; rfl
theorem trA_none (to : List UInt8) (c : UInt8) : ∀ (fr : List UInt8) (k : Nat), c ∉ fr → trA to c fr k = c
  | [], _, _ => rfl
  | x :: r, k, h => by
    rw [List.mem_cons, not_or] at h
    unfold trA
    rw [if_neg (fun e => h.1 e.symm), trA_none to c r (k + 1) h.2]
theorem trA_at (to : List UInt8) (c : UInt8) : ∀ (fr : List UInt8) (i k : Nat), fr[i]? = some c → (∀ j, j < i → fr[j]? ≠ some c) → trA to c fr k = to.getD (min (k + i) (to.length - 1)) 0
  | [], i, k, h, _ => by simp at h
  | x :: r, 0, k, h, _ => by
    simp at h
    unfold trA
    rw [if_pos h]; rfl
  | x :: r, i + 1, k, h, hj => by
    have h0 : x ≠ c := fun e => hj 0 (by omega) (by simp [e])
    unfold trA
    rw [if_neg h0, trA_at to c r i (k + 1) (by simpa using h) (fun j h1 h2 => hj (j + 1) (by omega) (by simpa using h2))]
    congr 2; omega
/-- A list turned by one place. -/
def turn (d : List UInt8) : List UInt8 := (List.range d.length).map fun i => d.getD ((i + 1) % d.length) 0
theorem turn_len (d : List UInt8) : (turn d).length = d.length := by simp [turn]
theorem turn_at (d : List UInt8) (i : Nat) (h : i < d.length) : (turn d)[i]? = some (d.getD ((i + 1) % d.length) 0) := by
  unfold turn; rw [List.getElem?_map, List.getElem?_range h]; rfl
theorem getD_at {d : List UInt8} {i : Nat} (h : i < d.length) : d.getD i 0 = d[i] := by rw [List.getD_eq_getElem?_getD, List.getElem?_eq_getElem h]; rfl
/-- Turned there and back. -/
theorem tr_back {d : List UInt8} (hd : ∀ i j (hi : i < d.length) (hj : j < d.length), d[i] = d[j] → i = j) (c : UInt8) : tr (turn d) d (tr d (turn d) c) = c := by
  unfold tr
  by_cases hc : c ∈ d
  · obtain ⟨i, hi, rfl⟩ := List.getElem_of_mem hc
    have hn : 0 < d.length := by omega
    have hm := Nat.mod_lt (i + 1) hn
    rw [trA_at (turn d) d[i] d i 0 (List.getElem?_eq_getElem hi) (fun j hj e => by
      rw [List.getElem?_eq_getElem (by omega)] at e
      exact absurd (hd j i (by omega) hi (Option.some.inj e)) (by omega))]
    rw [turn_len, Nat.zero_add, Nat.min_eq_left (by omega), List.getD_eq_getElem?_getD, turn_at d i hi]
    show trA d (d.getD ((i + 1) % d.length) 0) (turn d) 0 = _
    rw [trA_at d _ (turn d) i 0 (turn_at d i hi) (fun j hj e => by
      rw [turn_at d j (by omega)] at e
      have e := Option.some.inj e
      have hm' := Nat.mod_lt (j + 1) hn
      rw [getD_at hm', getD_at hm] at e
      have e2 := hd _ _ hm' hm e
      rw [Nat.mod_eq_of_lt (show j + 1 < d.length by omega)] at e2
      by_cases h3 : i + 1 < d.length
      · rw [Nat.mod_eq_of_lt h3] at e2; omega
      · obtain h4 : i + 1 = d.length := by omega
        rw [h4, Nat.mod_self] at e2; omega)]
    rw [Nat.zero_add, Nat.min_eq_left (by omega), getD_at hi]
  · rw [trA_none _ _ _ _ hc, trA_none _ _ _ _ (fun h => hc ?_)]
    obtain ⟨i, hi, e⟩ := List.getElem_of_mem h
    rw [turn_len] at hi
    have := turn_at d i hi
    rw [List.getElem?_eq_getElem (by rw [turn_len]; exact hi), e] at this
    have hm := Nat.mod_lt (i + 1) (show 0 < d.length by omega)
    rw [getD_at hm] at this
    rw [Option.some.inj this]
    exact List.getElem_mem hm
/-- Runs of bytes of a set are one byte. -/
def sqR (g : UInt8 → Bool) : Option UInt8 → List UInt8 → List UInt8
  | _, [] => []
  | p, c :: r => if p = some c ∧ g c = true then sqR g (some c) r else c :: sqR g (some c) r
theorem sq_again (g : UInt8 → Bool) : ∀ (l : List UInt8) (p : Option UInt8), sqR g p (sqR g p l) = sqR g p l
  | [], _ => rfl
  | c :: r, p => by
    by_cases h : p = some c ∧ g c = true
    · have e : sqR g p (c :: r) = sqR g (some c) r := by rw [sqR, if_pos h]
      rw [e, h.1]
      exact sq_again g r (some c)
    · have e : sqR g p (c :: r) = c :: sqR g (some c) r := by rw [sqR, if_neg h]
      rw [e, sqR, if_neg h, sq_again g r (some c)]
theorem sq_snoc (g : UInt8 → Bool) (x : UInt8) : ∀ (l : List UInt8) (p : Option UInt8), sqR g p (l ++ [x]) = sqR g p l ++ (if (l.getLast?.or p) = some x ∧ g x = true then [] else [x])
  | [], p => by
    by_cases h : p = some x ∧ g x = true
    · simp [sqR, h]
    · rw [List.nil_append, List.getLast?_nil, Option.none_or, if_neg h]
      show sqR g p [x] = [x]
      rw [sqR, if_neg h]; rfl
  | c :: r, p => by
    have e : (c :: r).getLast?.or p = r.getLast?.or (some c) := by
      cases r with
      | nil => rfl
      | cons d t => rw [List.getLast?_cons_cons]; cases hh : (d :: t).getLast? with
        | none => simp at hh
        | some y => rfl
    rw [e, List.cons_append]
    unfold sqR
    split
    · exact sq_snoc g x r (some c)
    · rw [sq_snoc g x r (some c)]; rfl
theorem sq_len (g : UInt8 → Bool) : ∀ (l : List UInt8) (p : Option UInt8), (sqR g p l).length ≤ l.length
  | [], _ => Nat.le_refl _
  | c :: r, p => by
    have := sq_len g r (some c)
    unfold sqR
    split <;> simp <;> omega
/-- The next byte of a text that is squeezed. -/
theorem sq_next (g : UInt8 → Bool) (b : List UInt8) (k : Nat) (h : k < b.length) : sqR g none (b.take (k + 1)) = sqR g none (b.take k) ++ (if 0 < k ∧ b[k - 1]? = some b[k] ∧ g b[k] = true then [] else [b[k]]) := by
  rw [List.take_succ_eq_append_getElem h, sq_snoc]
  congr 2
  rw [Option.or_none, eq_iff_iff]
  cases k with
  | zero => simp
  | succ k =>
    rw [List.take_succ_eq_append_getElem (by omega), List.getLast?_concat]
    simp only [Nat.add_sub_cancel, Nat.zero_lt_succ, true_and, List.getElem?_eq_getElem (show k < b.length by omega)]
def del (g : UInt8 → Bool) (l : List UInt8) : List UInt8 := l.filter fun c => !g c
theorem del_again (g : UInt8 → Bool) (l : List UInt8) : del g (del g l) = del g l := by simp [del, List.filter_filter]
theorem del_next (g : UInt8 → Bool) (b : List UInt8) (k : Nat) (h : k < b.length) : del g (b.take (k + 1)) = del g (b.take k) ++ (if g b[k] then [] else [b[k]]) := by
  rw [List.take_succ_eq_append_getElem h, del, List.filter_append]
  cases hg : g b[k] <;> simp [del, hg]
theorem del_len (g : UInt8 → Bool) (l : List UInt8) : (del g l).length ≤ l.length := List.length_filter_le _ _
end Gl
end Go.Proofs.YtncnmeidciailaaDoor
