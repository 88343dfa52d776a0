/- The program's Split. Condition: lengths that fit. -/
import Derived.Test.YtepkolamnlmmgaaUe2
namespace Go.Proofs.Ytepkolamnlmmgaa
open Go.RowKit
attribute [local go_sem] ext_eq app_eq get_eq
namespace Tl
theorem en_step (l : List UInt8) (k : Nat) : en l k ≤ en l (k + 1) := by
  unfold en; rw [List.take_add_one, List.flatten_append, List.length_append]; omega
theorem en_mono (l : List UInt8) : ∀ i j, i ≤ j → en l i ≤ en l j := fun i j h => by
  induction h with
  | refl => exact Nat.le_refl _
  | step _ ih => exact Nat.le_trans ih (en_step l _)
end Tl
/-- What Split tells of pieces of s units, of which there are u. -/
def SpOut (W : World) (e : Ending) (p l : List UInt8) (E : Nat → Nat) (s u : Nat) : Prop :=
  (676 < Tl.kk s u ∧ e = .returned (.tuple #[.slice none 0 0, .slice none 0 0, .int .i64 34])) ∨ (Tl.kk s u ≤ 676 ∧ ∃ a1 c1 a2 c2, e = .returned (.tuple #[.slice a1 (Tl.NM p (Tl.kk s u)).length c1, .slice a2 (Tl.SP l E s u (Tl.kk s u)).length c2, .int .i64 0]) ∧ StrS W a1 (Tl.NM p (Tl.kk s u)) ∧ Rd W a2 (Tl.SP l E s u (Tl.kk s u)))
theorem SpOut.of {B : Nat} {W : World} {e : Ending} {p l : List UInt8} {E : Nat → Nat} {s u : Nat} (h : (676 < Tl.kk s u ∧ e = .returned (.tuple #[.slice none 0 0, .slice none 0 0, .int .i64 34])) ∨ (Tl.kk s u ≤ 676 ∧ ∃ v1 v2, e = .returned (.tuple #[v1, v2, .int .i64 0]) ∧ SRow B W v1 (Tl.NM p (Tl.kk s u)) ∧ RR B W v2 (Tl.SP l E s u (Tl.kk s u)))) : SpOut W e p l E s u := by
  rcases h with h | ⟨h1, v1, v2, rfl, h2, h3⟩
  · exact .inl h
  · obtain ⟨a1, c1, rfl, hs⟩ := h2.src
    obtain ⟨a2, c2, rfl⟩ := h3.slice
    exact .inr ⟨h1, a1, c1, a2, c2, rfl, hs, h3.rd.1⟩
set_option maxRecDepth 100000 in
set_option maxHeartbeats 2000000 in
theorem oSplitB (l p : List UInt8) (a : Option Addr) (c s : Nat) (hs : 0 < s) (hs2 : s < 2 ^ 63) (hl : l.length ≤ 1048577) (hp : p.length ≤ 1048577) (w : World) (hS : Sr w a c l) : Calls Try.prog 4 #[.slice a l.length c, .int .i64 0, .int .i64 s, .string ⟨p.toArray⟩] w fun e w' => Below w.heap.size w w' ∧ SpOut w' e p l (fun k => min k l.length) s l.length := by
  have HP := hidA (oPieces2 l p a c s l.length (fun k => min k l.length) hs hs2 hl (fun k => Nat.min_le_right _ _) (fun i j h => by show min i _ ≤ min j _; omega) hl hp w hS (fun W m _ hm => by
    have h := oSplit2 m W
    rw [Nat.min_eq_left hm]; exact h))
  have hs0 : (0 : Int) < (s : Int) := by omega
  clear hS
  go_enter Try.func4, Try.ntmps4
  go_wp2_with (go_at_call 10; (with_reducible refine HP.out.mono ?_); rintro e w1 ⟨b1, h1⟩; rcases SpOut.of h1 with ⟨q1, rfl⟩ | ⟨q1, a1, c1, a2, c2, rfl, q2, q3⟩)
  · go_ret3
    exact ⟨b1, .inl ⟨q1, rfl⟩⟩
  · go_ret3
    exact ⟨b1, .inr ⟨q1, a1, c1, a2, c2, rfl, q2, q3⟩⟩
set_option maxRecDepth 100000 in
set_option maxHeartbeats 2000000 in
theorem oSplitL (l p : List UInt8) (a : Option Addr) (c s : Nat) (hs : 0 < s) (hs2 : s < 2 ^ 63) (hl : l.length ≤ 1048576) (hp : p.length ≤ 1048577) (w : World) (hS : Sr w a c l) : Calls Try.prog 4 #[.slice a l.length c, .int .i64 s, .int .i64 0, .string ⟨p.toArray⟩] w fun e w' => Below w.heap.size w w' ∧ SpOut w' e p l (Tl.en l) s (Tl.prs l).length := by
  have hpl := Tl.prs_len l.length l (Nat.le_refl _)
  have HE := hidA (oEnds l a c (by omega) w hS)
  have HP := hidA (fun (W : World) (gp ge cap : Nat) (b : Below w.heap.size w W) (hg : gp < W.heap.size) (hge : ge < W.heap.size) (h1 : W.cell? ⟨gp, 0, none⟩ = some (.slice (some ⟨ge, 0, none⟩) ((Tl.prs l).length + 1) cap)) (h2 : ∀ m, m ≤ (Tl.prs l).length → W.cell? ⟨ge, m, none⟩ = some (.int .i64 (Tl.en l m))) => oPieces1 l p a c s (Tl.prs l).length (Tl.en l) gp hs hs2 (by omega) (Tl.en_le l) (Tl.en_mono l) (by omega) hp W (hS.grow b) (fun W' m b' hm => oSplit1 m gp ge ((Tl.prs l).length + 1) cap (Tl.en l m) (by omega) W' ((b'.cell (p := ⟨gp, 0, none⟩) hg).trans h1) ((b'.cell (p := ⟨ge, m, none⟩) hge).trans (h2 m hm))))
  have HI := hidA (fun (W : World) (v : Value) (h : Ir w.heap.size W v (Tl.Es l (Tl.prs l).length)) => fun m (hm : m ≤ (Tl.prs l).length) => Tl.Es_at h (i := m) hm)
  have hs0 : (0 : Int) < (s : Int) := by omega
  have hsub : IntKind.i64.wrap (((Tl.prs l).length : Int) + 1 - 1) = ((Tl.prs l).length : Int) := by rw [IntKind.wrap_i64]; omega
  have hsub2 : ((Tl.prs l).length : Int) + 1 - 1 = ((Tl.prs l).length : Int) := by omega
  have hsub3 : IntKind.i64.wrap ((Tl.prs l).length : Int) = ((Tl.prs l).length : Int) := by rw [IntKind.wrap_i64]; omega
  clear hS
  generalize (Tl.Es l (Tl.prs l).length) = R at *
  generalize (Tl.prs l).length = u at *
  go_enter Try.func4, Try.ntmps4
  go_wp2_with (first
    | (go_at_call 9; (with_reducible refine HE.out.mono ?_); rintro e w1 ⟨v, rfl, h1, b1⟩; have HIv := hidA (HI.out _ _ h1); obtain ⟨ge, cap, hv, hge, _⟩ := HI.out _ _ h1 0 (Nat.zero_le _); subst hv; have hb := (Below.refl w1.heap.size w1).alloc (Nat.le_refl _) (.cells #[.slice (some ⟨ge, 0, none⟩) (u + 1) cap] 36); have HB2 := hidA (b1.trans (hb.mono b1.size)); have HQ := hidA (HP.out _ w1.heap.size ge cap HB2.out (by simp) (Nat.lt_of_lt_of_le hge hb.size) (World.cell?_alloc_at _ _ _ _ rfl) (fun m hm => by obtain ⟨g2, cap2, e2, hg2, hc2⟩ := HIv.out m hm; cases e2; exact (hb.cell (p := ⟨ge, m, none⟩) hge).trans hc2)); clear h1 b1 hb)
    | (go_at_call 10; (with_reducible refine HQ.out.mono ?_); rintro e w2 ⟨b1, h1⟩; rcases SpOut.of h1 with ⟨q1, rfl⟩ | ⟨q1, a1, c1, a2, c2, rfl, q2, q3⟩))
  · go_ret3
    exact ⟨HB2.out.trans (b1.mono HB2.out.size), .inl ⟨q1, rfl⟩⟩
  · go_ret3
    exact ⟨HB2.out.trans (b1.mono HB2.out.size), .inr ⟨q1, a1, c1, a2, c2, rfl, q2, q3⟩⟩
set_option maxRecDepth 100000 in
set_option maxHeartbeats 2000000 in
theorem oSplitN (l p : List UInt8) (a : Option Addr) (c : Nat) (x y : Int) (h1 : ¬ (0 < x ∧ y = 0)) (h2 : ¬ (0 < y ∧ x = 0)) (w : World) : Calls Try.prog 4 #[.slice a l.length c, .int .i64 x, .int .i64 y, .string ⟨p.toArray⟩] w fun e w' => Below w.heap.size w w' ∧ e = .returned (.tuple #[.slice none 0 0, .slice none 0 0, .int .i64 22]) := by
  by_cases hx : 0 < x
  · have hy : ¬ y = 0 := fun h => h1 ⟨hx, h⟩
    have hyb : (y == 0) = false := beq_eq_false_iff_ne.2 hy
    have hx0 : (x == 0) = false := beq_eq_false_iff_ne.2 (by omega)
    by_cases hy0 : 0 < y
    all_goals
      clear h1 h2
      go_enter Try.func4, Try.ntmps4
      go_wp2_with fail
      go_ret3
      exact ⟨Below.refl _ _, rfl⟩
  · by_cases hy0 : 0 < y
    · have hxn : ¬ x = 0 := fun h => h2 ⟨hy0, h⟩
      have hxb : (x == 0) = false := beq_eq_false_iff_ne.2 hxn
      clear h1 h2
      go_enter Try.func4, Try.ntmps4
      go_wp2_with fail
      go_ret3
      exact ⟨Below.refl _ _, rfl⟩
    · clear h1 h2
      go_enter Try.func4, Try.ntmps4
      go_wp2_with fail
      go_ret3
      exact ⟨Below.refl _ _, rfl⟩
end Go.Proofs.Ytepkolamnlmmgaa
