/- The walks of the program's kind, next and read. Conditions: lengths that fit; the queue lies in memory as said. -/
import Derived.Test.YtgbkgfmljcfhoaaGa2
import Derived.Test.YtgbkgfmljcfhoaaShelf
import Derived.Lib.OthersKept
namespace Go.Proofs.Ytgbkgfmljcfhoaa
open Go.RowKit
attribute [local go_sem] ext_eq app_eq get_eq
theorem index_mem (l : List UInt8) (c : UInt8) : decide (0 ≤ Lib.indexByte l c) = decide (c ∈ l) := by
  rw [Bool.eq_iff_iff, decide_eq_true_iff, decide_eq_true_iff]
  constructor
  · intro h
    obtain ⟨o, ho⟩ : ∃ o : Nat, Lib.indexByte l c = o := ⟨(Lib.indexByte l c).toNat, by omega⟩
    exact List.mem_iff_getElem?.2 ⟨o, (Lib.indexByte_some ho).1⟩
  · intro h
    obtain ⟨k, hk⟩ := List.mem_iff_getElem?.1 h
    have h1 := Lib.indexByte_ge l c
    by_cases e : Lib.indexByte l c = -1
    · exact absurd hk (Lib.indexByte_none e k)
    · omega
theorem sContains1 (l : List UInt8) (c : UInt8) (w : World) : Calls Try.prog 42 #[.string ⟨l.toArray⟩, .string ⟨#[c]⟩] w fun e w' => e = .returned (.bool (decide (c ∈ l))) ∧ w' = w := by
  rw [← index_mem]
  exact Try.strings_Contains_one ⟨l.toArray⟩ c w
/-- What a text is to a spec. -/
def kndS (al tk : List UInt8) : List UInt8 → Option Bool
  | [c] => Ga.knd al tk c
  | _ => none
def ltV (st : Bool) (al tk : List UInt8) : Value := .agg #[.bool st, .string ⟨al.toArray⟩, .string ⟨tk.toArray⟩]
set_option maxRecDepth 100000 in
set_option maxHeartbeats 1000000 in
theorem gKind (st : Bool) (al tk n : List UInt8) (w : World) (hn : n.length ≤ 2 ^ 47) : Calls Try.prog 32 #[ltV st al tk, .string ⟨n.toArray⟩] w fun e w' => e = .returned (.int .i64 (Ga.kndN (kndS al tk n))) ∧ Below w.heap.size w w' := by
  have HB : Hid (∀ o, Below w.heap.size w (w.alloc o)) := fun o => (Below.refl _ _).alloc (Nat.le_refl _) o
  unfold ltV
  match n, hn with
  | [], _ =>
    go_enter Try.func32, Try.ntmps32
    go_wp2
    go_ret
    exact ⟨rfl, HB.out _⟩
  | [c], _ =>
    have HA : Hid (∀ W, Calls Try.prog 42 #[.string ⟨al.toArray⟩, .string ⟨#[c]⟩] W fun e w' => e = .returned (.bool (decide (c ∈ al))) ∧ w' = W) := fun W => sContains1 al c W
    have HT : Hid (∀ W, Calls Try.prog 42 #[.string ⟨tk.toArray⟩, .string ⟨#[c]⟩] W fun e w' => e = .returned (.bool (decide (c ∈ tk))) ∧ w' = W) := fun W => sContains1 tk c W
    have HK : Hid (kndS al tk [c] = if c ∈ al then some false else if c ∈ tk then some true else none) := rfl
    by_cases h1 : c ∈ al
    · rw [if_pos h1] at HK
      rw [decide_eq_true h1] at HA
      clear h1
      go_enter Try.func32, Try.ntmps32
      go_wp2_with fail
      refine (HA.out _).mono ?_
      rintro e w' ⟨rfl, rfl⟩
      go_wp2
      go_ret
      exact ⟨ret_int (by rw [HK.out]; rfl), HB.out _⟩
    · rw [if_neg h1] at HK
      rw [decide_eq_false h1] at HA
      clear h1
      by_cases h2 : c ∈ tk
      · rw [if_pos h2] at HK
        rw [decide_eq_true h2] at HT
        clear h2
        go_enter Try.func32, Try.ntmps32
        go_wp2_with fail
        refine (HA.out _).mono ?_
        rintro e w' ⟨rfl, rfl⟩
        go_wp2_with fail
        refine (HT.out _).mono ?_
        rintro e w' ⟨rfl, rfl⟩
        go_wp2
        go_ret
        exact ⟨ret_int (by rw [HK.out]; rfl), HB.out _⟩
      · rw [if_neg h2] at HK
        rw [decide_eq_false h2] at HT
        clear h2
        go_enter Try.func32, Try.ntmps32
        go_wp2_with fail
        refine (HA.out _).mono ?_
        rintro e w' ⟨rfl, rfl⟩
        go_wp2_with fail
        refine (HT.out _).mono ?_
        rintro e w' ⟨rfl, rfl⟩
        go_wp2
        go_ret
        exact ⟨ret_int (by rw [HK.out]; rfl), HB.out _⟩
  | c :: d :: r, hn =>
    have hl : ((((c :: d :: r).length : Nat) : Int) != 1) = true := by simp; omega
    have HK : Hid (kndS al tk (c :: d :: r) = none) := rfl
    generalize c :: d :: r = n at *
    go_enter Try.func32, Try.ntmps32
    go_wp2
    go_ret
    exact ⟨ret_int (by rw [HK.out]; rfl), HB.out _⟩
/-- The cells behind a slice's address hold these texts. -/
def Strs (W : World) (a : Option Addr) (xs : List (List UInt8)) : Prop := ∀ (j : Nat) x, xs[j]? = some x → ∃ bk o, a = some ⟨bk, o, none⟩ ∧ bk < W.heap.size ∧ W.cell? ⟨bk, o + j, none⟩ = some (.string ⟨x.toArray⟩)
theorem Strs.below {W W' : World} {n : Nat} {a : Option Addr} {xs : List (List UInt8)} (h : Strs W a xs) (hB : Below n W W') (hn' : xs ≠ [] → ∀ b, a.map (·.block) = some b → b < n) : Strs W' a xs := by
  intro j x hx
  obtain ⟨bk, o, rfl, hlt, hc⟩ := h j x hx
  have hn := hn' (fun e => by rw [e] at hx; cases hx)
  exact ⟨bk, o, rfl, by have := hB.size; have := hn bk rfl; omega, (hB.cell (p := ⟨bk, o + j, none⟩) (hn bk rfl)).trans hc⟩
theorem Strs.grow {W W' : World} {a : Option Addr} {xs : List (List UInt8)} (h : Strs W a xs) (hB : Below W.heap.size W W') : Strs W' a xs := by
  intro j x hx
  obtain ⟨bk, o, rfl, hlt, hc⟩ := h j x hx
  exact ⟨bk, o, rfl, by have := hB.size; omega, (hB.cell (p := ⟨bk, o + j, none⟩) hlt).trans hc⟩
theorem Strs.nil (W : World) (a : Option Addr) : Strs W a [] := fun j x h => by simp at h
theorem Strs.tail {W : World} {bk o : Nat} {x : List UInt8} {r : List (List UInt8)} (h : Strs W (some ⟨bk, o, none⟩) (x :: r)) : Strs W (some ⟨bk, o + 1, none⟩) r := by
  intro j u hu
  obtain ⟨bk', o', he, hlt, hc⟩ := h (j + 1) u (by simpa using hu)
  cases he
  exact ⟨bk, o + 1, rfl, hlt, by rw [show o + 1 + j = o + (j + 1) by omega]; exact hc⟩
theorem Strs.first {W : World} {a : Option Addr} {x : List UInt8} {r : List (List UInt8)} (h : Strs W a (x :: r)) : ∃ bk o, a = some ⟨bk, o, none⟩ ∧ bk < W.heap.size ∧ W.cell? ⟨bk, o, none⟩ = some (.string ⟨x.toArray⟩) := h 0 x rfl
set_option maxRecDepth 100000 in
set_option maxHeartbeats 1000000 in
theorem gNext0 (q c : Nat) (a : Option Addr) (w : World) (hq : w.cell? ⟨q, 0, none⟩ = some (.slice a 0 c)) : Calls Try.prog 27 #[.pointer (some ⟨q, 0, none⟩)] w fun e w' => e = .returned (.tuple #[.string ⟨#[]⟩, .bool false]) ∧ w' = w := by
  go_enter Try.func27, Try.ntmps27
  go_wp2
  go_ret2
  exact ⟨rfl, rfl⟩
set_option maxRecDepth 100000 in
set_option maxHeartbeats 1000000 in
theorem gNext1 (q c : Nat) (a : Option Addr) (x : List UInt8) (r : List (List UInt8)) (w : World) (hq : w.cell? ⟨q, 0, none⟩ = some (.slice a (x :: r).length c)) (hf : w.frozen? ⟨q, 0, none⟩ = false) (hc : (x :: r).length ≤ c) (hS : Strs w a (x :: r)) (hl : c < 2 ^ 63) :
    Calls Try.prog 27 #[.pointer (some ⟨q, 0, none⟩)] w fun e w' => e = .returned (.tuple #[.string ⟨x.toArray⟩, .bool true]) ∧ ∃ a' c', r.length ≤ c' ∧ c' ≤ c ∧ Strs w a' r ∧ (∀ b, a'.map (·.block) = some b → a.map (·.block) = some b) ∧ w' = w.setCell ⟨q, 0, none⟩ (.slice a' r.length c') := by
  obtain ⟨bk, o, rfl, hlt, hx⟩ := hS.first
  have HS : Hid (Strs w (some ⟨bk, o + 1, none⟩) r) := hS.tail
  have HN : Hid (∀ a, r = [] → Strs w a r) := by rintro a rfl; exact Strs.nil _ _
  clear hS
  simp only [List.length_cons] at hc hq
  have h0 : (((r.length + 1 : Nat) : Int) == 0) = false := by simp; omega
  by_cases h1 : c = 1
  · have HR : Hid (r = []) := List.length_eq_zero_iff.1 (by omega)
    subst h1
    have HL : Hid (r.length = 0) := by show _ = _; omega
    go_enter Try.func27, Try.ntmps27
    go_wp2
    go_ret2
    refine ⟨rfl, some ⟨bk, o, none⟩, 0, by rw [HL.out]; exact Nat.le_refl _, by omega, HN.out _ HR.out, fun b h => h, ?_⟩
    rw [HL.out]
  · go_enter Try.func27, Try.ntmps27
    go_wp2
    go_ret2
    refine ⟨rfl, some ⟨bk, o + 1, none⟩, c - 1, by omega, by omega, HS.out, fun b h => h, ?_⟩
    rfl
end Go.Proofs.Ytgbkgfmljcfhoaa
