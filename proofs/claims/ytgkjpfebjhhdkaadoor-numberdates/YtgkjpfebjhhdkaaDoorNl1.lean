/- The document's examples live: the walk. Conditions: the tables of days and of powers of ten read as their texts lay them. -/
import Derived.Test.YtgkjpfebjhhdkaaDoorNl0
namespace Go.Proofs.YtgkjpfebjhhdkaaDoor
open Go.RowKit Go.Sort
theorem own_rgs {W : World} {base n : Nat} {v : Value} {xs : List Na.Rg} (h : W.ownsRow base 51 2 v n (rCs xs)) : n = xs.length ∧ ∃ a c, v = .slice a xs.length c ∧ xs.length ≤ c ∧ c ≤ maxLen ∧ Rgs W a xs := by
  have hn : n = xs.length := by have := h.1; rw [rCs_len] at this; omega
  subst hn
  refine ⟨rfl, ?_⟩
  rcases h.2 with ⟨rfl, h0⟩ | ⟨g, cap, cur, rfl, hb, hg, hnc, hcm, _, ht⟩
  · have : xs = [] := List.length_eq_zero_iff.1 h0
    subst this
    exact ⟨none, 0, rfl, Nat.le_refl _, Nat.zero_le _, fun j x hx => by simp at hx⟩
  · have hlt : g < W.heap.size := (Array.getElem?_eq_some_iff.1 hg).1
    have hadd : ∀ j, (⟨g, 0, none⟩ : Addr).add j = ⟨g, j, none⟩ := fun j => by unfold Addr.add; split <;> simp_all
    refine ⟨_, cap, rfl, hnc, hcm, fun j x hx => ⟨g, 0, rfl, hlt, ?_, ?_⟩⟩
    · obtain ⟨hj, rfl⟩ := List.getElem?_eq_some_iff.1 hx
      rw [Nat.zero_add, ← hadd]; exact h.cells (g := g) rfl _ _ (rCs_get xs j hj).1
    · obtain ⟨hj, rfl⟩ := List.getElem?_eq_some_iff.1 hx
      rw [Nat.zero_add, ← hadd]; exact h.cells (g := g) rfl _ _ (rCs_get xs j hj).2
set_option maxRecDepth 100000 in
set_option maxHeartbeats 2000000 in
theorem lives11 (w : World) (hd : DT w) (hp : P10 w) : Calls Tryd.prog 16 #[] w fun e w' => e = .returned (.bool true) ∧ Below w.heap.size w w' := by
  have HI : Hid (∀ W, Calls Tryd.prog 8 #[.string ⟨#[45, 48, 48, 55]⟩] W fun e w' => e = .returned (.tuple #[.int .i64 (-7), .int .i64 0]) ∧ Below W.heap.size W w') := fun W => by
    have h := nInt [45, 48, 48, 55] W (by decide)
    rw [live_int] at h
    exact h
  have HR : Hid (∀ W, Calls Tryd.prog 19 #[.string ⟨#[55, 45, 44, 51, 45, 52, 44, 49, 44, 53]⟩] W fun e w' => ∃ a c, e = .returned (.tuple #[.slice a 3 c, .int .i64 0]) ∧ Rgs w' a [(1, 1), (3, 5), (7, -1)] ∧ Below W.heap.size W w') := fun W => by
    refine (nRanges [55, 45, 44, 51, 45, 52, 44, 49, 44, 53] W (by decide)).mono ?_
    rintro e w' ⟨ho, hb⟩
    unfold OutR at ho
    rw [if_pos live_all, live_rs] at ho
    obtain ⟨ds, v, h1, h2, he, hv⟩ := ho
    rw [live_sort ds h1 h2] at hv
    obtain ⟨-, a, c, rfl, -, -, hr⟩ := own_rgs hv
    exact ⟨a, c, he, hr, hb⟩
  have HP : Hid (∀ W a c, P10 W → Rgs W a [(1, 1), (3, 5), (7, -1)] → Calls Tryd.prog 24 #[.slice a 3 c] W fun e w' => e = .returned (.string ⟨#[49, 44, 51, 45, 53, 44, 55, 45]⟩) ∧ Below W.heap.size W w') := fun W a c hp hr => by
    have h := nPrint [(1, 1), (3, 5), (7, -1)] a c W hr (by decide) (by decide) hp
    rw [live_print] at h
    exact h
  have HH : Hid (∀ W, P10 W → Calls Tryd.prog 17 #[.int .i64 1536] W fun e w' => e = .returned (.string ⟨#[49, 46, 53, 75]⟩) ∧ Below W.heap.size W w') := fun W hp => by
    have h := nHuman 1536 (by decide) (by decide) W hp
    rw [live_human] at h
    exact h
  have HS : Hid (∀ W, DT W → P10 W → Calls Tryd.prog 28 #[.int .i64 86399] W fun e w' => e = .returned (.string ⟨#[49, 57, 55, 48, 45, 48, 49, 45, 48, 49, 32, 50, 51, 58, 53, 57, 58, 53, 57]⟩) ∧ Below W.heap.size W w') := fun W hd hp =>
    (nStamp 86399 (by decide) (by decide) W hd hp).mono fun e w' h => ⟨live_stamp h.1, h.2⟩
  have HD := hidA (fun w' b => hd.on (w' := w') b)
  have HT := hidA (fun w' b => hp.on (w' := w') b)
  clear hd hp
  go_enter Tryd.func16, Tryd.ntmps16
  go_wp2_with (first | (go_at_call 8; refine (HI.out _).mono ?_; rintro e w1 ⟨rfl, b1⟩) | (go_at_call 19; refine (HR.out _).mono ?_; rintro e w2 ⟨a, c, rfl, hr, b2⟩; have HRg := hidA hr; have B2 := hidA (bl2 b1 b2); clear hr b1 b2) | (go_at_call 24; refine (HP.out _ _ _ (HT.out _ B2.out) HRg.out).mono ?_; rintro e w3 ⟨rfl, b3⟩; have B3 := hidA (bl2 B2.out b3); clear b3) | (go_at_call 17; refine (HH.out _ (HT.out _ B3.out)).mono ?_; rintro e w4 ⟨rfl, b4⟩; have B4 := hidA (bl2 B3.out b4); clear b4) | (go_at_call 28; refine (HS.out _ (HD.out _ B4.out) (HT.out _ B4.out)).mono ?_; rintro e w5 ⟨rfl, b5⟩; have B5 := hidA (bl2 B4.out b5); clear b5))
  go_ret
  exact ⟨rfl, B5.out⟩
end Go.Proofs.YtgkjpfebjhhdkaaDoor
