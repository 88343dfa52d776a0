/- The walks of the program's rangeOf. Conditions: digits. -/
import Derived.Test.YtgkjpfebjhhdkaaDoorNr1
namespace Go.Proofs.YtgkjpfebjhhdkaaDoor
open Go.RowKit
attribute [local go_sem] ext_eq app_eq get_eq
namespace Na
/-- The range of an item's ends; none: one is too great. -/
def rOf (lo hi : List UInt8) : Option (Int × Int) := match vl 10 mx 0 lo with
  | none => none
  | some a => if hi.isEmpty then some (a, -1) else match vl 10 mx 0 hi with
    | none => none
    | some b => some (a, b)
end Na
structure Rc (w : World) (B : Nat) (W : World) (a b : Int) : Prop where
  bel : Below B w W
  c0 : W.cell? ⟨B + 1, 0, none⟩ = some (.int .i64 a)
  c1 : W.cell? ⟨B + 1, 1, none⟩ = some (.int .i64 b)
  r0 : W.cell? ⟨B, 0, none⟩ = some (.int .i64 0)
  r1 : W.cell? ⟨B, 1, none⟩ = some (.int .i64 0)
  f1 : ∀ o, W.frozen? ⟨B + 1, o, none⟩ = false
  f0 : ∀ o, W.frozen? ⟨B, o, none⟩ = false
theorem Rc.start (w : World) : Rc w w.heap.size ((w.alloc (.cells #[.int .i64 0, .int .i64 0] 51)).alloc (.cells #[.int .i64 0, .int .i64 (-1)] 51)) 0 (-1) := by
  refine ⟨((Below.refl _ _).alloc (Nat.le_refl _) _).alloc (by simp) _, ?_, ?_, ?_, ?_, fun o => ?_, fun o => ?_⟩
  · rw [World.cell?_alloc_at _ _ _ _ (by simp)]; rfl
  · rw [World.cell?_alloc_at _ _ _ _ (by simp)]; rfl
  · rw [World.cell?_alloc_past _ _ _ (by simp), World.cell?_alloc_at _ _ _ _ rfl]; rfl
  · rw [World.cell?_alloc_past _ _ _ (by simp), World.cell?_alloc_at _ _ _ _ rfl]; rfl
  · rw [World.frozen?_alloc_at _ _ _ _ (by simp)]
  · rw [World.frozen?_alloc_past _ _ _ (by simp), World.frozen?_alloc_at _ _ _ _ rfl]
theorem Rc.grow {w W W' : World} {B : Nat} {a b : Int} (h : Rc w B W a b) (hB : Below W.heap.size W W') : Rc w B W' a b := by
  have hlt : B + 1 < W.heap.size := World.block_lt_of_cell? _ _ h.c0
  have e1 : W'.heap[B + 1]? = W.heap[B + 1]? := hB.block _ hlt
  have e0 : W'.heap[B]? = W.heap[B]? := hB.block _ (by omega)
  exact ⟨h.bel.trans (hB.mono (by omega)), (World.cell?_of_block (a := ⟨B + 1, 0, none⟩) e1).trans h.c0, (World.cell?_of_block (a := ⟨B + 1, 1, none⟩) e1).trans h.c1, (World.cell?_of_block (a := ⟨B, 0, none⟩) e0).trans h.r0, (World.cell?_of_block (a := ⟨B, 1, none⟩) e0).trans h.r1,
    fun o => (World.frozen?_of_block (a := ⟨B + 1, o, none⟩) e1).trans (h.f1 o), fun o => (World.frozen?_of_block (a := ⟨B, o, none⟩) e0).trans (h.f0 o)⟩
theorem Rc.set0 {w W : World} {B : Nat} {a b : Int} (h : Rc w B W a b) (x : Int) : Rc w B (W.setCell ⟨B + 1, 0, none⟩ (.int .i64 x)) x b :=
  ⟨h.bel.setCell (by simp) _, World.cell?_setCell_same _ _ _ h.c0, (World.cell?_setCell_other _ _ _ _ (by simp)).trans h.c1, (World.cell?_setCell_other _ _ _ _ (by simp)).trans h.r0, (World.cell?_setCell_other _ _ _ _ (by simp)).trans h.r1, fun o => by simp [h.f1 o], fun o => by simp [h.f0 o]⟩
theorem Rc.set1 {w W : World} {B : Nat} {a b : Int} (h : Rc w B W a b) (x : Int) : Rc w B (W.setCell ⟨B + 1, 1, none⟩ (.int .i64 x)) a x :=
  ⟨h.bel.setCell (by simp) _, (World.cell?_setCell_other _ _ _ _ (by simp)).trans h.c0, World.cell?_setCell_same _ _ _ h.c1, (World.cell?_setCell_other _ _ _ _ (by simp)).trans h.r0, (World.cell?_setCell_other _ _ _ _ (by simp)).trans h.r1, fun o => by simp [h.f1 o], fun o => by simp [h.f0 o]⟩
theorem rOf_no {lo hi : List UInt8} (h : Na.vl 10 999999999999999999 0 lo = none) : Na.rOf lo hi = none := by unfold Na.rOf Na.mx; rw [h]
theorem rOf_1 {lo hi : List UInt8} {a : Int} (h : Na.vl 10 999999999999999999 0 lo = some a) (he : hi.isEmpty = true) : Na.rOf lo hi = some (a, -1) := by unfold Na.rOf Na.mx; rw [h]; simp [he]
theorem rOf_2 {lo hi : List UInt8} {a : Int} (h : Na.vl 10 999999999999999999 0 lo = some a) (he : hi.isEmpty = false) (h2 : Na.vl 10 999999999999999999 0 hi = none) : Na.rOf lo hi = none := by unfold Na.rOf Na.mx; rw [h, h2]; simp [he]
theorem rOf_3 {lo hi : List UInt8} {a b : Int} (h : Na.vl 10 999999999999999999 0 lo = some a) (he : hi.isEmpty = false) (h2 : Na.vl 10 999999999999999999 0 hi = some b) : Na.rOf lo hi = some (a, b) := by unfold Na.rOf Na.mx; rw [h, h2]; simp [he]
set_option maxRecDepth 100000 in
set_option maxHeartbeats 2000000 in
theorem nRangeOf (lo hi : List UInt8) (hlo : lo.all (Na.dig 10) = true) (hhi : hi.all (Na.dig 10) = true) (w : World) : Calls Tryd.prog 44 #[.string ⟨lo.toArray⟩, .string ⟨hi.toArray⟩] w fun e w' => (∃ a b : Int, e = .returned (.tuple #[.agg #[.int .i64 a, .int .i64 b], .bool (Na.rOf lo hi).isSome]) ∧ ∀ r, Na.rOf lo hi = some r → r = (a, b)) ∧ Below w.heap.size w w' := by
  have HV1 := hidA (fun w => nValue 10 999999999999999999 (by decide) (by decide) lo hlo w)
  have HV2 := hidA (fun w => nValue 10 999999999999999999 (by decide) (by decide) hi hhi w)
  have HR0 := hidA (Rc.start w)
  cases h1 : Na.vl 10 999999999999999999 0 lo with
  | none =>
    have HE := hidA (rOf_no (hi := hi) h1)
    simp only [h1, Option.getD_none, Option.isSome_none] at HV1
    clear h1 HV2
    go_enter Tryd.func44, Tryd.ntmps44
    go_wp2_with (go_at_call 62; first | (with_reducible refine (HV1.out _).mono ?_; rintro e w1 ⟨rfl, b1⟩; have R1 := hidA (HR0.out.grow b1); obtain ⟨_, c0, c1, r0, r1, f1, g1⟩ := R1.out; clear b1) | (with_reducible refine (HV2.out _).mono ?_; rintro e w2 ⟨rfl, b2⟩; have R2 := hidA ((R1.out.set0 _).grow b2); obtain ⟨_, d0, d1, q0, q1, f2, g2⟩ := R2.out; clear b2))
    (try simp only [Exit.inBlock, Exit.then])
    refine bodyPost_ret (by simp [results, Tryd.results44, go_sem, r0, r1]; rfl) rfl ?_
    exact ⟨⟨_, _, by rw [HE.out]; rfl, fun r hr => by rw [HE.out] at hr; cases hr⟩, ((R1.out.set0 _).bel.setCell (Nat.le_refl _) _).setCell (Nat.le_refl _) _⟩
  | some a =>
    cases he : hi.isEmpty with
    | true =>
      have HE := hidA (rOf_1 h1 he)
      simp only [h1, Option.getD_some, Option.isSome_some] at HV1
      clear h1 HV2
      go_enter Tryd.func44, Tryd.ntmps44
      go_wp2_with (go_at_call 62; first | (with_reducible refine (HV1.out _).mono ?_; rintro e w1 ⟨rfl, b1⟩; have R1 := hidA (HR0.out.grow b1); obtain ⟨_, c0, c1, r0, r1, f1, g1⟩ := R1.out; clear b1) | (with_reducible refine (HV2.out _).mono ?_; rintro e w2 ⟨rfl, b2⟩; have R2 := hidA ((R1.out.set0 _).grow b2); obtain ⟨_, d0, d1, q0, q1, f2, g2⟩ := R2.out; clear b2))
      (try simp only [Exit.inBlock, Exit.then])
      refine bodyPost_ret (by simp [results, Tryd.results44, go_sem, r0, r1]; rfl) rfl ?_
      exact ⟨⟨_, _, by rw [HE.out]; rfl, fun r hr => by rw [HE.out] at hr; cases hr; rfl⟩, ((R1.out.set0 _).bel.setCell (Nat.le_refl _) _).setCell (Nat.le_refl _) _⟩
    | false =>
      cases h2 : Na.vl 10 999999999999999999 0 hi with
      | none =>
        have HE := hidA (rOf_2 h1 he h2)
        simp only [h1, Option.getD_some, Option.isSome_some] at HV1
        simp only [h2, Option.getD_none, Option.isSome_none] at HV2
        clear h1 h2
        go_enter Tryd.func44, Tryd.ntmps44
        go_wp2_with (go_at_call 62; first | (with_reducible refine (HV1.out _).mono ?_; rintro e w1 ⟨rfl, b1⟩; have R1 := hidA (HR0.out.grow b1); obtain ⟨_, c0, c1, r0, r1, f1, g1⟩ := R1.out; clear b1) | (with_reducible refine (HV2.out _).mono ?_; rintro e w2 ⟨rfl, b2⟩; have R2 := hidA ((R1.out.set0 _).grow b2); obtain ⟨_, d0, d1, q0, q1, f2, g2⟩ := R2.out; clear b2))
        (try simp only [Exit.inBlock, Exit.then])
        refine bodyPost_ret (by simp [results, Tryd.results44, go_sem, q0, q1]; rfl) rfl ?_
        exact ⟨⟨_, _, by rw [HE.out]; rfl, fun r hr => by rw [HE.out] at hr; cases hr⟩, ((R2.out.set1 _).bel.setCell (Nat.le_refl _) _).setCell (Nat.le_refl _) _⟩
      | some b =>
        have HE := hidA (rOf_3 h1 he h2)
        simp only [h1, Option.getD_some, Option.isSome_some] at HV1
        simp only [h2, Option.getD_some, Option.isSome_some] at HV2
        clear h1 h2
        go_enter Tryd.func44, Tryd.ntmps44
        go_wp2_with (go_at_call 62; first | (with_reducible refine (HV1.out _).mono ?_; rintro e w1 ⟨rfl, b1⟩; have R1 := hidA (HR0.out.grow b1); obtain ⟨_, c0, c1, r0, r1, f1, g1⟩ := R1.out; clear b1) | (with_reducible refine (HV2.out _).mono ?_; rintro e w2 ⟨rfl, b2⟩; have R2 := hidA ((R1.out.set0 _).grow b2); obtain ⟨_, d0, d1, q0, q1, f2, g2⟩ := R2.out; clear b2))
        (try simp only [Exit.inBlock, Exit.then])
        refine bodyPost_ret (by simp [results, Tryd.results44, go_sem, q0, q1]; rfl) rfl ?_
        exact ⟨⟨_, _, by rw [HE.out]; rfl, fun r hr => by rw [HE.out] at hr; cases hr; rfl⟩, ((R2.out.set1 _).bel.setCell (Nat.le_refl _) _).setCell (Nat.le_refl _) _⟩
end Go.Proofs.YtgkjpfebjhhdkaaDoor
