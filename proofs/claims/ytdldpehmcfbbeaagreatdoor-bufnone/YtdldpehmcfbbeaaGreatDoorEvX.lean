/- Calls that were run by themselves are known in a longer run. No condition. -/
import Derived.Test.YtdldpehmcfbbeaaGreatDoorEv28
namespace Go.Proofs.YtdldpehmcfbbeaaGreatDoor.Ev
variable {P : Program} {X : Ext} {G : Nat}
noncomputable def Ext.add (X : Ext) (f m : Nat) (x : Kn) : Ext := ⟨X.ext, fun g n => iff (Nat.beq g f) (iff (Nat.beq n m) (some x) (X.known g n)) (X.known g n), X.bytes, X.closed⟩
theorem XOk.add (h : XOk P G X) (hM : P.follows .mixedOrders = true) {K : Hint} {n f m : Nat} {x : Kn} (hr : callA P X G K n f x.args x.H x.asks = .ok) : XOk P G (X.add f m x) := by
  refine ⟨h.1, fun g k y hy => ?_, h.2.2⟩
  have hy' : iff (Nat.beq g f) (iff (Nat.beq k m) (some x) (X.known g k)) (X.known g k) = some y := hy
  rw [iff_eq, iff_eq] at hy'
  split at hy'
  · rename_i hg
    have hg' := Nat.eq_of_beq_eq_true hg
    split at hy'
    · injection hy' with hy'
      subst hy' hg'
      obtain ⟨fr, h1, h2⟩ := get_ok hr
      exact ⟨runA P X G K n, fr, runA_ok h hM n, h1, h2⟩
    · exact h.2.1 g k y hy'
  · exact h.2.1 g k y hy'
/-- A function of no arguments is known wherever its tables stand. -/
noncomputable def Ext.close (X : Ext) (f : FuncId) (c : Cl) : Ext := ⟨X.ext, X.known, X.bytes, fun g => iff (Nat.beq g f) (some c) (X.closed g)⟩
theorem XOk.close {Y : Ext} (h : XOk P G Y) (hX : XOk P G X) (hM : P.follows .mixedOrders = true) {K : Hint} {n f : Nat} {c : Cl} (hr : callA P X G K n f [] c.h c.asks = .ok) (ht : ∀ x o, c.h.tr.get x = some o → x < G ∧ On c.rd x ∧ o.plain = true) (hn : G ≤ c.h.next) : XOk P G (Y.close f c) := by
  refine ⟨h.1, h.2.1, fun g y hy => ?_⟩
  have hy' : iff (Nat.beq g f) (some c) (Y.closed g) = some y := hy
  rw [iff_eq] at hy'
  split at hy'
  · rename_i hg
    have hg' := Nat.eq_of_beq_eq_true hg
    injection hy' with hy'
    subst hy' hg'
    obtain ⟨fr, h1, h2⟩ := get_ok hr
    exact ⟨⟨runA P X G K n, fr, runA_ok hX hM n, h1, h2⟩, ht, hn⟩
  · exact h.2.2 g y hy'
/-! The library's functions without a Go body that read bytes -/
theorem loadBytes_world {w w' : World} : ∀ (n : Nat) (a : Addr) (acc v : ByteArray), (Extern.Bytes.loadBytes a n acc).run P w = .ok v w' → w' = w
  | 0, a, acc, v, h => by
    exact ((Result.ok.inj h).2).symm
  | n + 1, a, acc, v, h => by
    unfold Extern.Bytes.loadBytes at h
    rw [Sem.run_bind] at h
    cases hl : (load a).run P w with
    | ok x w1 =>
      rw [hl, Result.andThen_ok] at h
      have hw : w1 = w := by
        simp only [run_load] at hl
        split at hl
        · exact ((Result.ok.inj hl).2).symm
        · split at hl
          · exact ((Result.ok.inj hl).2).symm
          · cases hl
      subst hw
      split at h
      · exact loadBytes_world n _ _ _ h
      · cases h
    | _ => rw [hl] at h; cases h
theorem bytesOf_world {w w' : World} {r : Value} {v : ByteArray} (h : (Extern.Bytes.bytesOf r).run P w = .ok v w') : w' = w := by
  cases r with
  | string s => exact ((Result.ok.inj h).2).symm
  | slice a n c =>
    cases a with
    | none => exact ((Result.ok.inj h).2).symm
    | some a => exact loadBytes_world _ _ _ _ h
  | _ => cases h
theorem SameB.run {w : World} {r s : Value} (h : SameB P w r s) : (Extern.Bytes.bytesOf r).run P w = (Extern.Bytes.bytesOf s).run P w := by
  rcases h with rfl | ⟨bs, rfl, h⟩
  · rfl
  · rw [h]; rfl
theorem SameB.byte {w : World} {r s : Value} (h : SameB P w r s) : (Extern.Bytes.asByte r).run P w = (Extern.Bytes.asByte s).run P w := by
  rcases h with rfl | ⟨bs, rfl, h⟩
  · rfl
  · cases r with
    | int k n => cases h
    | _ => rfl
theorem ext_index {r0 r1 s0 s1 : Value} {w : World} (h0 : SameB P w r0 s0) (h1 : SameB P w r1 s1) : (Extern.BytealgIndexByte.indexByte #[r0, r1]).run P w = (Extern.BytealgIndexByte.indexByte #[s0, s1]).run P w := by
  have key : ∀ b y : Value, Extern.BytealgIndexByte.indexByte #[b, y] = (do
      let b ← Extern.Bytes.bytesOf b
      let c ← Extern.Bytes.asByte y
      match (List.range b.size).find? fun i => b[i]! == c with
      | some i => pure (goInt i)
      | none => pure (goInt (-1))) := fun _ _ => rfl
  rw [key, key]
  simp only [Sem.run_bind, h0.run]
  cases hb : (Extern.Bytes.bytesOf s0).run P w with
  | ok v w' =>
    have hw : w' = w := by
      rcases h0 with rfl | ⟨bs, rfl, h⟩
      · exact bytesOf_world hb
      · exact ((Result.ok.inj hb).2).symm
    subst hw
    simp only [Result.andThen_ok, h1.byte]
  | _ => rfl
theorem ext_compare {r0 r1 s0 s1 : Value} {w : World} (h0 : SameB P w r0 s0) (h1 : SameB P w r1 s1) : (Extern.BytealgCompare.compare #[r0, r1]).run P w = (Extern.BytealgCompare.compare #[s0, s1]).run P w := by
  have key : ∀ a b : Value, Extern.BytealgCompare.compare #[a, b] = (do
      let a ← Extern.Bytes.bytesOf a
      let b ← Extern.Bytes.bytesOf b
      pure (goInt (Extern.BytealgCompare.cmp a b))) := fun _ _ => rfl
  rw [key, key]
  simp only [Sem.run_bind, h0.run]
  cases hb : (Extern.Bytes.bytesOf s0).run P w with
  | ok v w' =>
    have hw : w' = w := by
      rcases h0 with rfl | ⟨bs, rfl, h⟩
      · exact bytesOf_world hb
      · exact ((Result.ok.inj hb).2).symm
    subst hw
    simp only [Result.andThen_ok, h1.run]
  | _ => rfl
end Go.Proofs.YtdldpehmcfbbeaaGreatDoor.Ev
