/- The walk of the library's Concat of two lists. Conditions: lists' cells as said; lengths that fit. -/
import Derived.Test.YteggjpogaljafaaDoorPb6
namespace Go.Proofs.YteggjpogaljafaaDoor
open Go.RowKit
attribute [local go_sem] ext_eq app_eq get_eq toL_eq
theorem nil_of_none {W : World} {y : List (List UInt8)} (h : Strs W none y) : y = [] := by
  cases y with
  | nil => rfl
  | cons z zs => obtain ⟨_, _, e, _⟩ := h 0 z rfl; cases e
set_option maxRecDepth 100000 in
set_option maxHeartbeats 4000000 in
theorem pConcat (x y : List (List UInt8)) (p q : Option Addr) (c d b : Nat) (w : World) (hb : b < w.heap.size) (hc0 : w.cell? ⟨b, 0, none⟩ = some (.slice p x.length c)) (hc1 : w.cell? ⟨b, 1, none⟩ = some (.slice q y.length d))
    (hSx : Strs w p x) (hSy : Strs w q y) (hzp : p = none → c = 0) (hzq : q = none → d = 0) (hx : x.length ≤ 2 ^ 40) (hy : y.length ≤ 2 ^ 40) :
    Calls Tryd.prog 44 #[.slice (some ⟨b, 0, none⟩) 2 2] w fun e w' => ∃ v, e = .returned v ∧ w'.ownsRow w.heap.size 9 1 v (x ++ y).length ((x ++ y).map sv) ∧ Below w.heap.size w w' := by
  obtain ⟨i0, hi, hz0, hz1, hz2⟩ := info_parts info9
  go_enter Tryd.func44, Tryd.ntmps44
  go_wp2
  go_loop [3, 11] (fun n i => (i = .int .i64 0 ∧ n = .int .i64 0) ∨ (i = .int .i64 1 ∧ n = .int .i64 (x.length : Int)) ∨ (i = .int .i64 2 ∧ n = .int .i64 ((x.length : Int) + (y.length : Int)))) (fun _ i => 2 - (intOf i).toNat)
  case atStart => exact .inl ⟨rfl, rfl⟩
  case round =>
    rcases hrel with ⟨rfl, rfl⟩ | ⟨rfl, rfl⟩ | ⟨rfl, rfl⟩
    · go_wp2
      exact ⟨.inr (.inl ⟨rfl, by go_num⟩), by simp [intOf]⟩
    · go_wp2
      exact ⟨.inr (.inr ⟨rfl, by go_num⟩), by simp [intOf]⟩
    · have HG : Hid (Calls Tryd.prog 60 #[.slice none 0 0, .int .i64 ((x.length : Int) + (y.length : Int))] w fun e w' => ∃ v, e = .returned v ∧ w'.ownsRow w.heap.size 9 1 v 0 [] ∧ Below w.heap.size w w') := by
        show Calls _ _ _ _ _
        have := pGrow (x.length + y.length) w (by omega)
        rw [show (((x.length + y.length : Nat)) : Int) = (x.length : Int) + (y.length : Int) by omega] at this
        exact this
      go_wp2_with fail
      refine HG.out.mono ?_
      rintro e w1 ⟨v0, rfl, hrow0, HB0⟩
      go_wp2
      go_loopw [6, 27] (fun v i W => Below w.heap.size w W ∧ ((i = .int .i64 0 ∧ W.ownsRow w.heap.size 9 1 v 0 []) ∨ (i = .int .i64 1 ∧ W.ownsRow w.heap.size 9 1 v x.length (x.map sv)) ∨ (i = .int .i64 2 ∧ W.ownsRow w.heap.size 9 1 v (x ++ y).length ((x ++ y).map sv)))) (fun _ i _ => 2 - (intOf i).toNat)
      case atStart => exact ⟨HB0, .inl ⟨rfl, hrow0⟩⟩
      case round =>
        obtain ⟨HB, hcase⟩ := hrel
        have hszr := HB.size
        have hd0 := (HB.cell (p := ⟨b, 0, none⟩) hb).trans hc0
        have hd1 := (HB.cell (p := ⟨b, 1, none⟩) hb).trans hc1
        rcases hcase with ⟨rfl, hrow⟩ | ⟨rfl, hrow⟩ | ⟨rfl, hrow⟩
        · clear hd1
          cases p with
          | none =>
            obtain rfl : c = 0 := hzp rfl
            obtain rfl : x = [] := nil_of_none hSx
            go_wp2_with (at_builtin; refine wpList_append_own_none rfl _ _ 22 rfl w.heap.size 9 i0 1 Tryd.underlying22 hi _ _ _ rfl hrow rfl ?_)
            exact ⟨⟨_, _, _, .inr (.inl ⟨rfl, (by simpa using hrow)⟩), rfl, rfl, rfl⟩, by simp [intOf]⟩
          | some ad =>
            have hnews := strs_news (hSx.grow HB)
            go_wp2_with (at_builtin; refine wpList_append_own _ rfl _ _ 22 rfl w.heap.size 9 i0 (.string ⟨#[]⟩) 1 16 Tryd.underlying22 hi hz0 hz1 hz2 rfl (by decide) _ _ _ rfl hrow ad x.length c (x.map sv) rfl (by simp) hnews (one_cells _) (by unfold maxLen; omega) (by omega) (by omega) ?_; intro v' w2 hown' hgrow _)
            have HB2 : Below w.heap.size w w2 := HB.grown hgrow hszr (fun j ej => (hrow.lt j ej).1)
            exact ⟨⟨HB2, .inr (.inl ⟨rfl, (by simpa using hown')⟩)⟩, by simp [intOf]⟩
        · clear hd0
          cases q with
          | none =>
            obtain rfl : d = 0 := hzq rfl
            obtain rfl : y = [] := nil_of_none hSy
            go_wp2_with (at_builtin; refine wpList_append_own_none rfl _ _ 22 rfl w.heap.size 9 i0 1 Tryd.underlying22 hi _ _ _ rfl hrow rfl ?_)
            exact ⟨⟨_, _, _, .inr (.inr ⟨rfl, (by simpa using hrow)⟩), rfl, rfl, rfl⟩, by simp [intOf]⟩
          | some ad =>
            have hnews := strs_news (hSy.grow HB)
            go_wp2_with (at_builtin; refine wpList_append_own _ rfl _ _ 22 rfl w.heap.size 9 i0 (.string ⟨#[]⟩) 1 16 Tryd.underlying22 hi hz0 hz1 hz2 rfl (by decide) _ _ _ rfl hrow ad y.length d (y.map sv) rfl (by simp) hnews (one_cells _) (by unfold maxLen; omega) (by omega) (by omega) ?_; intro v' w2 hown' hgrow _)
            have HB2 : Below w.heap.size w w2 := HB.grown hgrow hszr (fun j ej => (hrow.lt j ej).1)
            exact ⟨⟨HB2, .inr (.inr ⟨rfl, (by simpa using hown')⟩)⟩, by simp [intOf]⟩
        · go_wp2
          go_ret
          exact ⟨_, rfl, hrow, HB⟩
end Go.Proofs.YteggjpogaljafaaDoor
