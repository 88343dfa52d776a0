/- The document's examples: they are as it says. No condition. -/
import Derived.Test.YtgbkgfmljcfhoaaGb1
namespace Go.Proofs.Ytgbkgfmljcfhoaa
open Go.RowKit
attribute [local go_sem] ext_eq app_eq get_eq
theorem own_strs {W : World} {base n : Nat} {v : Value} {xs : List (List UInt8)} (h : W.ownsRow base 9 1 v n (xs.map sv)) : n = xs.length ∧ ∃ a c, v = .slice a xs.length c ∧ xs.length ≤ c ∧ c ≤ maxLen ∧ Strs W a xs ∧ (∀ b, a.map (·.block) = some b → base ≤ b ∧ b < W.heap.size) ∧ (xs ≠ [] → ∃ g, a = some ⟨g, 0, none⟩) := by
  have hn : n = xs.length := by have := h.1; simp at this; omega
  subst hn
  refine ⟨rfl, ?_⟩
  rcases h.2 with ⟨rfl, h0⟩ | ⟨g, cap, cur, rfl, hb, hg, hnc, hcm, _, ht⟩
  · have : xs = [] := List.length_eq_zero_iff.1 h0
    subst this
    exact ⟨none, 0, rfl, Nat.le_refl _, Nat.zero_le _, Strs.nil _ _, by simp, fun e => absurd rfl e⟩
  · have hlt : g < W.heap.size := (Array.getElem?_eq_some_iff.1 hg).1
    refine ⟨_, cap, rfl, hnc, hcm, fun j x hx => ⟨g, 0, rfl, hlt, ?_⟩, by simp; omega, fun _ => ⟨g, rfl⟩⟩
    have := h.cells (g := g) rfl j (sv x) (by rw [List.getElem?_map, hx]; rfl)
    have hadd : (⟨g, 0, none⟩ : Addr).add j = ⟨g, j, none⟩ := by unfold Addr.add; split <;> simp_all
    rw [Nat.zero_add, ← hadd, this]; rfl
theorem opCs_get (xs : List Ga.Opt) (j : Nat) (x : Ga.Opt) (h : xs[j]? = some x) : (opCs xs)[j * 2]? = some (.string ⟨x.1.toArray⟩) ∧ (opCs xs)[j * 2 + 1]? = some (.string ⟨x.2.toArray⟩) := by
  induction xs generalizing j with
  | nil => simp at h
  | cons y r ih =>
    cases j with
    | zero => simp at h; subst h; exact ⟨rfl, rfl⟩
    | succ j =>
      have := ih j (by simpa using h)
      simp only [opCs, List.flatMap_cons, opC, List.cons_append, List.nil_append]
      rw [show (j + 1) * 2 = j * 2 + 1 + 1 by omega, List.getElem?_cons_succ, List.getElem?_cons_succ, List.getElem?_cons_succ, List.getElem?_cons_succ]
      exact this
theorem own_opts {W : World} {base n : Nat} {v : Value} {xs : List Ga.Opt} (h : W.ownsRow base 67 2 v n (opCs xs)) : n = xs.length ∧ ∃ a c, v = .slice a xs.length c ∧ xs.length ≤ c ∧ c ≤ maxLen ∧ Opts W a xs ∧ (∀ b, a.map (·.block) = some b → base ≤ b ∧ b < W.heap.size) ∧ (xs ≠ [] → ∃ g, a = some ⟨g, 0, none⟩) := by
  have hn : n = xs.length := by have := h.1; rw [opCs_len] at this; omega
  subst hn
  refine ⟨rfl, ?_⟩
  rcases h.2 with ⟨rfl, h0⟩ | ⟨g, cap, cur, rfl, hb, hg, hnc, hcm, _, ht⟩
  · have : xs = [] := List.length_eq_zero_iff.1 h0
    subst this
    exact ⟨none, 0, rfl, Nat.le_refl _, Nat.zero_le _, fun j x hx => by simp at hx, by simp, fun e => absurd rfl e⟩
  · have hlt : g < W.heap.size := (Array.getElem?_eq_some_iff.1 hg).1
    have hadd : ∀ j, (⟨g, 0, none⟩ : Addr).add j = ⟨g, j, none⟩ := fun j => by unfold Addr.add; split <;> simp_all
    refine ⟨_, cap, rfl, hnc, hcm, fun j x hx => ⟨g, 0, rfl, hlt, ?_, ?_⟩, by simp; omega, fun _ => ⟨g, rfl⟩⟩
    · rw [Nat.zero_add, ← hadd]; exact h.cells (g := g) rfl _ _ (opCs_get xs j x hx).1
    · rw [Nat.zero_add, ← hadd]; exact h.cells (g := g) rfl _ _ (opCs_get xs j x hx).2
theorem below_drewN {B : Nat} {w W : World} (h : Below B w W) (n : Nat) : Below B w (W.drewN n) := ⟨h.os, h.tape, h.output, h.size, h.block⟩
theorem live1 : parseR [97, 98, 58] [[45, 97], [120], [45, 98, 99], [45, 98], [100], [45, 45], [45, 97]] = some (.ok [([97], []), ([98], [99]), ([98], [100])] [[120], [45, 97]]) := by rfl
theorem live2 : parseR [98, 58] [[45, 98]] = some (.bad [98] true) := by rfl
theorem strs_new (w : World) (xs : List (List UInt8)) (T : TypeId) : Strs (w.alloc (.cells (xs.map sv).toArray T)) (some ⟨w.heap.size, 0, none⟩) xs := by
  intro j x hx
  refine ⟨w.heap.size, 0, rfl, by simp, ?_⟩
  rw [World.cell?_alloc_at _ _ _ _ rfl, List.getElem?_toArray, Nat.zero_add, List.getElem?_map, hx]; rfl
set_option maxRecDepth 100000 in
set_option maxHeartbeats 4000000 in
theorem lives9 (w : World) : Calls Try.prog 12 #[] w fun e w' => e = .returned (.bool true) ∧ Below w.heap.size w w' := by
  have HP1 : Hid (∀ W, Calls Try.prog 8 #[.string ⟨#[97, 98, 58]⟩, .slice (some ⟨W.heap.size, 0, none⟩) 7 7] (W.alloc (.cells #[.string ⟨#[45, 97]⟩, .string ⟨#[120]⟩, .string ⟨#[45, 98, 99]⟩, .string ⟨#[45, 98]⟩, .string ⟨#[100]⟩, .string ⟨#[45, 45]⟩, .string ⟨#[45, 97]⟩] 9)) fun e V =>
      ∃ g c h d, e = .returned (.tuple #[.slice (some ⟨g, 0, none⟩) 3 c, .slice (some ⟨h, 0, none⟩) 2 d, .agg #[.string ⟨#[]⟩, .bool false], .int .i64 0]) ∧ W.heap.size ≤ g ∧ g < V.heap.size ∧ V.cell? ⟨g, 3, none⟩ = some (.string ⟨#[99]⟩) ∧ V.cell? ⟨g, 5, none⟩ = some (.string ⟨#[100]⟩) ∧ Strs V (some ⟨h, 0, none⟩) [[120], [45, 97]] ∧ Below W.heap.size W V) := by
    intro W
    have hS := strs_new W [[45, 97], [120], [45, 98, 99], [45, 98], [100], [45, 45], [45, 97]] 9
    refine (gParse [97, 98, 58] [[45, 97], [120], [45, 98, 99], [45, 98], [100], [45, 45], [45, 97]] _ 7 _ (by decide) hS (by decide) (by decide) (by decide)).mono ?_
    rintro e V ⟨hO, hB⟩
    rw [live1] at hO
    obtain ⟨vo, vr, he, ho, hr, _⟩ := hO
    obtain ⟨_, a, c, rfl, _, _, hOp, hb1, hg1⟩ := own_opts ho
    obtain ⟨_, b, d, rfl, _, _, hSt, hb2, hg2⟩ := own_strs hr
    obtain ⟨g, rfl⟩ := hg1 (by simp)
    obtain ⟨h, rfl⟩ := hg2 (by simp)
    have k1 := hOp 1 _ rfl
    have k2 := hOp 2 _ rfl
    obtain ⟨_, _, e1, _, _, k1⟩ := k1
    obtain ⟨_, _, e2, _, _, k2⟩ := k2
    cases e1
    cases e2
    have := hb1 g rfl
    simp at this
    exact ⟨g, c, h, d, he, by omega, this.2, k1, k2, hSt, ((Below.refl _ _).alloc (Nat.le_refl _) _).trans (hB.mono (by simp))⟩
  have HP2 : Hid (∀ (W : World) (n : Nat), W.heap.size = n → Calls Try.prog 8 #[.string ⟨#[98, 58]⟩, .slice (some ⟨n, 0, none⟩) 1 1] (W.alloc (.cells #[.string ⟨#[45, 98]⟩] 9)) fun e V =>
      e = .returned (.tuple #[.slice none 0 0, .slice none 0 0, .agg #[.string ⟨#[98]⟩, .bool true], .int .i64 100]) ∧ Below W.heap.size W V) := by
    intro W n hn
    subst hn
    have hS := strs_new W [[45, 98]] 9
    refine (gParse [98, 58] [[45, 98]] _ 1 _ (by decide) hS (by decide) (by decide) (by decide)).mono ?_
    rintro e V ⟨hO, hB⟩
    rw [live2] at hO
    exact ⟨hO, ((Below.refl _ _).alloc (Nat.le_refl _) _).trans (hB.mono (by simp))⟩
  go_enter Try.func12, Try.ntmps12
  go_wp2_with fail
  refine (HP1.out _).mono ?_
  rintro e V1 ⟨g, c, h, d, rfl, hg0, hgl, k3, k5, hSt, hB1⟩
  have HSt : Hid (Strs V1 (some ⟨h, 0, none⟩) [[120], [45, 97]]) := hSt
  have HB1 : Hid (Below w.heap.size w V1) := hB1
  clear hSt hB1
  go_wp2_with fail
  refine (HP2.out _ _ (by simp)).mono ?_
  rintro e V2 ⟨rfl, hB2⟩
  have hB3 : Below V1.heap.size V1 V2 := ((Below.refl _ _).alloc (Nat.le_refl _) _).trans (hB2.mono (by simp))
  have hz := hB3.size
  have k3' := (hB3.cell (p := ⟨g, 3, none⟩) hgl).trans k3
  have k5' := (hB3.cell (p := ⟨g, 5, none⟩) hgl).trans k5
  have hgl2 : g < V2.heap.size := by omega
  have HSt2 : Hid (Strs V2 (some ⟨h, 0, none⟩) [[120], [45, 97]]) := HSt.out.grow hB3
  have HB3 : Hid (Below w.heap.size w V2) := HB1.out.trans (hB3.mono (Nat.le_trans (by omega) HB1.out.size))
  clear hB2 hB3 k3 k5 hz HSt
  have HS2 : Hid (∀ (o : Obj), Strs ((V2.alloc o).alloc (.cells #[.string ⟨#[120]⟩, .string ⟨#[45, 97]⟩] 9)) (some ⟨V2.heap.size + 1, 0, none⟩) [[120], [45, 97]] ∧ Strs ((V2.alloc o).alloc (.cells #[.string ⟨#[120]⟩, .string ⟨#[45, 97]⟩] 9)) (some ⟨h, 0, none⟩) [[120], [45, 97]]) := by
    intro o
    have h1 := strs_new (V2.alloc o) [[120], [45, 97]] 9
    rw [show (V2.alloc o).heap.size = V2.heap.size + 1 by simp] at h1
    exact ⟨h1, HSt2.out.grow (((Below.refl _ _).alloc (Nat.le_refl _) _).alloc (by simp) _)⟩
  go_wp2_with (go_at_call 11; refine (rTexts [[120], [45, 97]] [[120], [45, 97]] _ _ _ _ _ (HS2.out _).2 (HS2.out _).1 (by decide)).mono ?_; rintro e w9 ⟨rfl, m9, hw9⟩; rw [hw9]; clear hw9 w9)
  go_ret
  have hz2 : w.heap.size ≤ V2.heap.size := HB3.out.size
  exact ⟨rfl, below_drewN ((HB3.out.alloc hz2 _).alloc (by simp; omega) _) _⟩
end Go.Proofs.Ytgbkgfmljcfhoaa
