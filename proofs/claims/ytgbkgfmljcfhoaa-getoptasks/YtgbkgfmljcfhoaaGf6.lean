/- The walk of GetoptAsks. Conditions: the options' cells are as said; lengths that fit. -/
import Derived.Test.YtgbkgfmljcfhoaaGf5
namespace Go.Proofs.Ytgbkgfmljcfhoaa
open Go.RowKit
theorem lift9 {w : World} {a : Option Addr} {opts : List Ga.Opt} (hO : Opts w a opts) {f : Nat} {args : Array Value} {R : Ending} (h : ∀ V, Opts V a opts → Calls Try.prog f args V fun e w' => e = R ∧ Below V.heap.size V w') :
    Hid (∀ V, Below w.heap.size w V → Calls Try.prog f args V fun e w' => e = R ∧ Hid (Below w.heap.size w w')) := fun V hV =>
  (h V (hO.grow hV)).mono fun _ _ ⟨h1, h2⟩ => ⟨h1, hV.trans (h2.mono hV.size)⟩
set_option maxRecDepth 100000 in
set_option maxHeartbeats 1000000 in
theorem asks_walk (opts : List Ga.Opt) (nm names : List UInt8) (a : Option Addr) (c : Nat) (w : World) (hO : Opts w a opts) (hl : opts.length < 2 ^ 63) (hn : names.length < 2 ^ 63) :
    Calls Try.prog 5 #[.slice a opts.length c, .string ⟨nm.toArray⟩, .string ⟨names.toArray⟩] w fun e w' => e = .returned (.bool true) ∧ Below w.heap.size w w' := by
  have H1 := lift9 hO (fun V h => gLast opts nm a c V h hl)
  have H2 := lift9 hO (fun V h => (rLast opts nm a c V h hl).mono (fun _ _ ⟨h1, h2⟩ => ⟨h1, by rw [h2]; exact Below.refl _ _⟩))
  have H3 := lift9 hO (fun V h => rCount opts nm a c V h hl)
  have H4 := lift9 hO (fun V h => gCount opts nm a c V h hl)
  have H5 := lift9 hO (fun V h => gHas opts nm a c V h hl)
  have H6 := lift9 hO (fun V h => gWinner opts names a c V h hl hn)
  have H7 := lift9 hO (fun V h => rWinner opts names a c V h hl hn)
  have H8 := lift9 hO (fun V _ => lives9 V)
  have HB0 : Hid (Below w.heap.size w w) := Below.refl _ _
  clear hO
  unfold lstV at H1 H2
  generalize (lstO opts nm opts.length).getD [] = x at *
  generalize (lstO opts nm opts.length).isSome = y at *
  generalize cntO opts nm = n at *
  generalize winO opts names opts.length = z at *
  obtain ⟨d, hd⟩ : ∃ d, d = decide (((n : Nat) : Int) > 0) := ⟨_, rfl⟩
  have hd2 : decide ((0 : Int) < (n : Int)) = d := by rw [hd]
  have hd3 : decide (0 < n) = d := by rw [hd]; simp
  rw [← hd] at H5
  clear hd
  go_enter Try.func5, Try.ntmps5
  go_wp2_with (first
    | (go_at_call 15; go_loud (with_reducible refine Calls.mono (H1.out _ HB0.out) ?_); go_loud (rintro e w1 ⟨rfl, HB1⟩))
    | (go_at_call 16; go_loud (with_reducible refine Calls.mono (H2.out _ HB1.out) ?_); go_loud (rintro e w2 ⟨rfl, HB2⟩))
    | (go_at_call 17; go_loud (with_reducible refine Calls.mono (H3.out _ HB2.out) ?_); go_loud (rintro e w3 ⟨rfl, HB3⟩))
    | (go_at_call 18; go_loud (with_reducible refine Calls.mono (H4.out _ HB3.out) ?_); go_loud (rintro e w4 ⟨rfl, HB4⟩))
    | (go_at_call 19; go_loud (with_reducible refine Calls.mono (H5.out _ HB4.out) ?_); go_loud (rintro e w5 ⟨rfl, HB5⟩))
    | (go_at_call 20; go_loud (with_reducible refine Calls.mono (H6.out _ HB5.out) ?_); go_loud (rintro e w6 ⟨rfl, HB6⟩))
    | (go_at_call 21; go_loud (with_reducible refine Calls.mono (H7.out _ HB6.out) ?_); go_loud (rintro e w7 ⟨rfl, HB7⟩))
    | (go_at_call 12; go_loud (with_reducible refine Calls.mono (H8.out _ HB7.out) ?_); go_loud (rintro e w8 ⟨rfl, HB8⟩)))
  go_ret
  exact ⟨rfl, HB8.out⟩
end Go.Proofs.Ytgbkgfmljcfhoaa
