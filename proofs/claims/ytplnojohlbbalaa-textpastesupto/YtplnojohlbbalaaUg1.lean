/- TextPastes' own function: it answers true. Condition: lengths that fit. -/
import Derived.Test.YtplnojohlbbalaaUg0
import Derived.Test.YtplnojohlbbalaaUf6
import Derived.Test.YtplnojohlbbalaaM7
namespace Go.Proofs.Ytplnojohlbbalaa
open Go.RowKit
attribute [local go_sem] ext_eq app_eq get_eq
set_option maxRecDepth 100000 in
set_option maxHeartbeats 2000000 in
theorem pastes_walk (L : List (List UInt8)) (d : List UInt8) (a : Option Addr) (c : Nat) (hL : L.flatten.length + L.length ≤ 1048577) (hd : d.length ≤ 1048577) (w : World) (hR : Rd w a L) : Calls Try.prog 4 #[.slice a L.length c, .string ⟨d.toArray⟩] w fun e w' => e = .returned (.bool true) ∧ Below w.heap.size w w' := by
  have HA1 := hidA (fun W (b : Below w.heap.size w W) => oPaste L d a c hL hd W (hR.grow b))
  have HB1 := hidA (fun W (b : Below w.heap.size w W) => rPaste L d a c hL hd W (hR.grow b))
  have HA2 := hidA (fun W (b : Below w.heap.size w W) => oSerial L d a c hL hd W (hR.grow b))
  have HB2 := hidA (fun W (b : Below w.heap.size w W) => rSerial L d a c hL hd W (hR.grow b))
  have HAw := hidA awakes
  have HW := hidA (Below.refl w.heap.size w)
  clear hR
  generalize Tl.pas d (L.map Tl.ls) (Tl.mx (L.map Tl.ls) L.length) = P at *
  generalize Tl.ser d L L.length = Q at *
  go_enter Try.func4, Try.ntmps4
  go_wp2_with (first
    | (go_at_call 15; (with_reducible refine (HA1.out _ HW.out).mono ?_); rintro e w1 ⟨v1, rfl, h1, b1⟩; obtain ⟨a1, c1, hv1⟩ := h1.slice; subst hv1; have V1 := hidA h1.sr; have HW := hidA (HW.out.trans (b1.mono HW.out.size)); clear h1 b1)
    | (go_at_call 16; (with_reducible refine (HB1.out _ HW.out).mono ?_); rintro e w2 ⟨v2, B2, rfl, h1, b1⟩; obtain ⟨a2, c2, hv2⟩ := h1.slice; subst hv2; have V1 := hidA (V1.out.grow b1); have V2 := hidA h1.sr; have HW := hidA (HW.out.trans (b1.mono HW.out.size)); clear h1 b1)
    | (go_at_call 17; (with_reducible refine (HA2.out _ HW.out).mono ?_); rintro e w1 ⟨v1, rfl, h1, b1⟩; obtain ⟨a1, c1, hv1⟩ := h1.slice; subst hv1; have V1 := hidA h1.sr; have HW := hidA (HW.out.trans (b1.mono HW.out.size)); clear h1 b1)
    | (go_at_call 18; (with_reducible refine (HB2.out _ HW.out).mono ?_); rintro e w2 ⟨v2, rfl, h1, b1⟩; obtain ⟨a2, c2, hv2⟩ := h1.slice; subst hv2; have V1 := hidA (V1.out.grow b1); have V2 := hidA h1.sr; have HW := hidA (HW.out.trans (b1.mono HW.out.size)); clear h1 b1)
    | (go_at_call 10; (with_reducible refine (rSameS V1.out.src V2.out.src).mono ?_); rintro e w3 ⟨rfl, hw3⟩; rw [hw3]; clear hw3 w3)
    | (go_at_call 14; (with_reducible refine (HAw.out _).mono ?_); rintro e w4 ⟨rfl, b1⟩; have HW := hidA (HW.out.trans (b1.mono HW.out.size)); clear b1))
  go_ret
  exact ⟨rfl, HW.out⟩
end Go.Proofs.Ytplnojohlbbalaa
