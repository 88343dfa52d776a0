/- Calls that were run by themselves are known in a longer run. No condition. -/
import Derived.Test.YtkfnmbmploakhaaGreatDoorEv28
namespace Go.Proofs.YtkfnmbmploakhaaGreatDoor.Ev
variable {P : Program} {X : Ext} {G : Nat}
noncomputable def Ext.add (X : Ext) (f m : Nat) (x : Kn) : Ext := ⟨X.ext, fun g n => iff (Nat.beq g f) (iff (Nat.beq n m) (some x) (X.known g n)) (X.known g n), X.bytes⟩
theorem XOk.add (h : XOk P G X) (hM : P.follows .mixedOrders = true) {K : Hint} {n f m : Nat} {x : Kn} (hr : callA P X G K n f x.args x.H x.asks = .ok) : XOk P G (X.add f m x) := by
  refine ⟨h.1, fun g k y hy => ?_⟩
  have hy' : iff (Nat.beq g f) (iff (Nat.beq k m) (some x) (X.known g k)) (X.known g k) = some y := hy
  rw [iff_eq, iff_eq] at hy'
  split at hy'
  · rename_i hg
    have hg' := Nat.eq_of_beq_eq_true hg
    split at hy'
    · injection hy' with hy'
      subst hy' hg'
      obtain ⟨fr, h1, h2⟩ := get_ok hr
      exact ⟨runA P X G K n, fr, runA_ok h hM n, h1, h2⟩
    · exact h.2 g k y hy'
  · exact h.2 g k y hy'
end Go.Proofs.YtkfnmbmploakhaaGreatDoor.Ev
