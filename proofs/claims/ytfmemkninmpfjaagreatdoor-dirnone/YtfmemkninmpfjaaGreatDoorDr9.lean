/- Can it be a name: the walk of check. Conditions: the name is of ASCII; a length that fits. -/
import Derived.Test.YtfmemkninmpfjaaGreatDoorDr7
namespace Go.Proofs.YtfmemkninmpfjaaGreatDoor
open Go.RowKit
def chk (l : List UInt8) : Int := if l = [] ∨ Lib.containsAny l [47, 0] = true then 22 else if 27 < l.length then 36 else 0
set_option maxRecDepth 100000 in
set_option maxHeartbeats 1000000 in
theorem sCheck (l : List UInt8) (w : World) (hl : l.length < 4294967281) (ha : ∀ x ∈ l, x.toNat < 128) : Calls Tryz.prog 98 #[.string ⟨l.toArray⟩] w fun e w' => e = .returned (.int .i64 (chk l)) ∧ Below w.heap.size w w' := by
  have hca := Tryz.strings_ContainsAny_laid ⟨l.toArray⟩ ⟨#[47, 0]⟩ w (by simpa [ByteArray.size] using hl) (by decide) (fun j b hb => ha b (by simpa using List.mem_of_getElem? hb)) (fun j b hb => by
    have := List.mem_of_getElem? hb
    simp at this
    rcases this with rfl | rfl <;> decide)
  by_cases h0 : l = []
  · subst h0
    go_enter Tryz.func98, Tryz.ntmps98
    go_wp2
    go_ret
    exact ⟨rfl, Below.refl _ _⟩
  · have h0' : l.isEmpty = false := by simp [h0]
    cases hc : Lib.containsAny l [47, 0] with
    | true =>
      have HK : Hid (chk l = 22) := by show _ = _; rw [chk, if_pos (.inr hc)]
      rw [show Lib.containsAny (⟨l.toArray⟩ : ByteArray).data.toList (⟨#[47, 0]⟩ : ByteArray).data.toList = true by simpa using hc] at hca
      clear h0 hc
      go_enter Tryz.func98, Tryz.ntmps98
      go_wp2_with fail
      refine hca.mono ?_
      rintro e w1 ⟨rfl, HB⟩
      go_wp2
      go_ret
      exact ⟨by rw [HK.out]; rfl, HB⟩
    | false =>
      rw [show Lib.containsAny (⟨l.toArray⟩ : ByteArray).data.toList (⟨#[47, 0]⟩ : ByteArray).data.toList = false by simpa using hc] at hca
      have hd : ¬ (l = [] ∨ Lib.containsAny l [47, 0] = true) := by simp [h0, hc]
      by_cases h27 : 27 < l.length
      · have h27' : decide ((27 : Int) < (l.length : Int)) = true := by simp; omega
        have HK : Hid (chk l = 36) := by show _ = _; rw [chk, if_neg hd, if_pos h27]
        clear h0 hc hd
        go_enter Tryz.func98, Tryz.ntmps98
        go_wp2_with fail
        refine hca.mono ?_
        rintro e w1 ⟨rfl, HB⟩
        go_wp2
        go_ret
        exact ⟨by rw [HK.out]; rfl, HB⟩
      · have h27' : decide ((27 : Int) < (l.length : Int)) = false := by simp; omega
        have HK : Hid (chk l = 0) := by show _ = _; rw [chk, if_neg hd, if_neg h27]
        clear h0 hc hd
        go_enter Tryz.func98, Tryz.ntmps98
        go_wp2_with fail
        refine hca.mono ?_
        rintro e w1 ⟨rfl, HB⟩
        go_wp2
        go_ret
        exact ⟨by rw [HK.out]; rfl, HB⟩
end Go.Proofs.YtfmemkninmpfjaaGreatDoor
