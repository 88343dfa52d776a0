/- The walk of GetoptSays. Conditions: lengths that fit. -/
import Derived.Test.YtgbkgfmljcfhoaaGs2
import Derived.Deep.RegionHeld3
namespace Go.Proofs.Ytgbkgfmljcfhoaa
open Go.RowKit
set_option maxRecDepth 100000 in
set_option maxHeartbeats 4000000 in
theorem says_walk (spec ap nm : List UInt8) (ms : Bool) (w : World) (hs : spec.length ≤ 2 ^ 47) (ha : ap.length ≤ 2 ^ 48) (hn : nm.length ≤ 2 ^ 48) :
    Calls Try.prog 6 #[.string ⟨spec.toArray⟩, .string ⟨ap.toArray⟩, .agg #[.string ⟨nm.toArray⟩, .bool ms]] w fun e W => e = .returned (.bool true) ∧ Below w.heap.size w W := by
  have HG : Hid (∀ W, Calls Try.prog 22 #[.string ⟨spec.toArray⟩] W fun e V => e = .returned (.tuple #[.string ⟨(useT (useR spec)).toArray⟩, .int .i64 (useC (useR spec))]) ∧ Below W.heap.size W V) := fun W => gUsage spec W hs
  have HR : Hid (∀ W, Calls Try.prog 23 #[.string ⟨spec.toArray⟩] W fun e V => e = .returned (.tuple #[.string ⟨(useT (useR spec)).toArray⟩, .int .i64 (useC (useR spec))]) ∧ Below W.heap.size W V) := fun W => rUsage spec W hs
  have HS1 : Hid (∀ W, Calls Try.prog 24 #[.string ⟨ap.toArray⟩, .agg #[.string ⟨nm.toArray⟩, .bool ms]] W fun e w' => e = .returned (.string ⟨(saysT ap nm ms).toArray⟩) ∧ Below W.heap.size W w') := fun W => gSays ap nm ms W ha hn
  have HS2 : Hid (∀ W, Calls Try.prog 25 #[.string ⟨ap.toArray⟩, .agg #[.string ⟨nm.toArray⟩, .bool ms]] W fun e w' => e = .returned (.string ⟨(saysT ap nm ms).toArray⟩) ∧ Below W.heap.size W w') := fun W => rSays ap nm ms W ha hn
  have HL : Hid (∀ W, Calls Try.prog 12 #[] W fun e w' => e = .returned (.bool true) ∧ Below W.heap.size W w') := fun W => lives9 W
  generalize useT (useR spec) = u at *
  generalize useC (useR spec) = code at *
  generalize saysT ap nm ms = sy at *
  have HK : Hid (∀ W W' : World, Below W.heap.size W W' → (w.heap.size < W.heap.size ∧ W.cell? ⟨w.heap.size, 0, none⟩ = some (.string ⟨nm.toArray⟩) ∧ W.cell? ⟨w.heap.size, 1, none⟩ = some (.bool ms) ∧ Hid (Below w.heap.size w W)) → (w.heap.size < W'.heap.size ∧ W'.cell? ⟨w.heap.size, 0, none⟩ = some (.string ⟨nm.toArray⟩) ∧ W'.cell? ⟨w.heap.size, 1, none⟩ = some (.bool ms) ∧ Hid (Below w.heap.size w W'))) := fun W W' hB ⟨h0, h1, h2, h3⟩ =>
    ⟨Nat.lt_of_lt_of_le h0 hB.size, (hB.cell (p := ⟨w.heap.size, 0, none⟩) h0).trans h1, (hB.cell (p := ⟨w.heap.size, 1, none⟩) h0).trans h2, h3.out.trans (hB.mono h3.out.size)⟩
  have hS : w.heap.size < (w.alloc (.cells #[.string ⟨nm.toArray⟩, .bool ms] 25)).heap.size ∧ (w.alloc (.cells #[.string ⟨nm.toArray⟩, .bool ms] 25)).cell? ⟨w.heap.size, 0, none⟩ = some (.string ⟨nm.toArray⟩) ∧ (w.alloc (.cells #[.string ⟨nm.toArray⟩, .bool ms] 25)).cell? ⟨w.heap.size, 1, none⟩ = some (.bool ms) ∧ Hid (Below w.heap.size w (w.alloc (.cells #[.string ⟨nm.toArray⟩, .bool ms] 25))) :=
    ⟨by simp, World.cell?_alloc_at _ _ _ _ rfl, World.cell?_alloc_at _ _ _ _ rfl, (Below.refl _ _).alloc (Nat.le_refl _) _⟩
  go_enter Try.func6, Try.ntmps6
  go_wp2_with fail
  refine (HG.out _).mono ?_
  rintro e w1 ⟨rfl, hB1⟩
  replace hS := HK.out _ _ hB1 hS
  clear hB1
  go_wp2_with fail
  refine (HR.out _).mono ?_
  rintro e w2 ⟨rfl, hB2⟩
  replace hS := HK.out _ _ hB2 hS
  clear hB2
  go_wp2_with fail
  have hS : w.heap.size < w2.drew.heap.size ∧ w2.drew.cell? ⟨w.heap.size, 0, none⟩ = some (.string ⟨nm.toArray⟩) ∧ w2.drew.cell? ⟨w.heap.size, 1, none⟩ = some (.bool ms) ∧ Hid (Below w.heap.size w w2.drew) := HK.out w2 w2.drew (⟨rfl, rfl, rfl, Nat.le_refl _, fun _ _ => rfl⟩ : Below w2.heap.size w2 w2.drew) hS
  go_region_held3 (fun W' => w.heap.size < W'.heap.size ∧ W'.cell? ⟨w.heap.size, 0, none⟩ = some (.string ⟨nm.toArray⟩) ∧ W'.cell? ⟨w.heap.size, 1, none⟩ = some (.bool ms) ∧ Hid (Below w.heap.size w W')) (first | with_reducible exact hS)
    (first
      | (go_at_call 24; with_reducible refine Calls.mono (HS1.out _) ?_; rintro e w3 ⟨rfl, hB3⟩; have hS := HK.out _ _ hB3 hS; clear hB3)
      | (go_at_call 25; with_reducible refine Calls.mono (HS2.out _) ?_; rintro e w4 ⟨rfl, hB4⟩; have hS := HK.out _ _ hB4 hS; clear hB4)
      | (go_at_call 12; with_reducible refine Calls.mono (HL.out _) ?_; rintro e w5 ⟨rfl, hB5⟩; have hS := HK.out _ _ hB5 hS; clear hB5))
  all_goals
    go_wp2
    go_ret
    exact ⟨rfl, hS.2.2.2.out⟩
end Go.Proofs.Ytgbkgfmljcfhoaa
