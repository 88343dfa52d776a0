/- kindOf, bitsOf, Parse and Octal of the program. Condition: a length that fits. -/
import Derived.Test.YtmminmdmhefefaaPm3
namespace Go.Proofs.Ytmminmdmhefefaa
open Go.RowKit
namespace Pm
def kof (c : Int) : Int := if c = 100 then 16384 else if c = 108 then 40960 else if c = 112 then 4096 else if c = 45 then 32768 else 0
def bof (c : Int) (i : Nat) : Int :=
  if c = 114 ∨ c = 119 ∨ c = 120 then ((2 ^ (9 - i) : Nat) : Int)
  else if c = 115 ∨ c = 116 then bits .or .i64 ((2 ^ (9 - i) : Nat) : Int) ((2 ^ (12 - i / 3) : Nat) : Int)
  else if c = 83 ∨ c = 84 then ((2 ^ (12 - i / 3) : Nat) : Int) else 0
end Pm
set_option maxRecDepth 100000 in
set_option maxHeartbeats 1000000 in
theorem pKindOf (c : Int) (w : World) : Calls Try.prog 22 #[.int .u8 c] w fun e w' => e = .returned (.int .i64 (Pm.kof c)) ∧ w' = w := by
  have hc : (c = 100) ∨ (c = 108) ∨ (c = 112) ∨ (c = 45) ∨ ((c == 100) = false ∧ (c == 108) = false ∧ (c == 112) = false ∧ (c == 45) = false ∧ Hid (Pm.kof c = 0)) := by
    by_cases h1 : c = 100
    · exact .inl h1
    by_cases h2 : c = 108
    · exact .inr (.inl h2)
    by_cases h3 : c = 112
    · exact .inr (.inr (.inl h3))
    by_cases h4 : c = 45
    · exact .inr (.inr (.inr (.inl h4)))
    exact .inr (.inr (.inr (.inr ⟨by simpa using h1, by simpa using h2, by simpa using h3, by simpa using h4, by show _ = _; simp [Pm.kof, h1, h2, h3, h4]⟩)))
  rcases hc with rfl | rfl | rfl | rfl | ⟨k1, k2, k3, k4, HE⟩
  · go_enter Try.func22, Try.ntmps22
    go_wp2
    go_ret
    exact ⟨rfl, rfl⟩
  · go_enter Try.func22, Try.ntmps22
    go_wp2
    go_ret
    exact ⟨rfl, rfl⟩
  · go_enter Try.func22, Try.ntmps22
    go_wp2
    go_ret
    exact ⟨rfl, rfl⟩
  · go_enter Try.func22, Try.ntmps22
    go_wp2
    go_ret
    exact ⟨rfl, rfl⟩
  · go_enter Try.func22, Try.ntmps22
    go_wp2
    go_ret
    exact ⟨ret_int HE.out.symm, rfl⟩
set_option maxRecDepth 100000 in
set_option maxHeartbeats 1000000 in
theorem pBitsOf (c : Int) (i : Nat) (h1 : 1 ≤ i) (h9 : i ≤ 9) (w : World) : Calls Try.prog 23 #[.int .u8 c, .int .i64 i] w fun e w' => e = .returned (.int .i64 (Pm.bof c i)) ∧ w' = w := by
  have hc : (c = 114) ∨ (c = 119) ∨ (c = 120) ∨ (c = 115) ∨ (c = 116) ∨ (c = 83) ∨ (c = 84) ∨ ((c == 114) = false ∧ (c == 119) = false ∧ (c == 120) = false ∧ (c == 115) = false ∧ (c == 116) = false ∧ (c == 83) = false ∧ (c == 84) = false ∧ Hid (Pm.bof c i = 0)) := by
    by_cases h1 : c = 114
    · exact .inl h1
    by_cases h2 : c = 119
    · exact .inr (.inl h2)
    by_cases h3 : c = 120
    · exact .inr (.inr (.inl h3))
    by_cases h4 : c = 115
    · exact .inr (.inr (.inr (.inl h4)))
    by_cases h5 : c = 116
    · exact .inr (.inr (.inr (.inr (.inl h5))))
    by_cases h6 : c = 83
    · exact .inr (.inr (.inr (.inr (.inr (.inl h6)))))
    by_cases h7 : c = 84
    · exact .inr (.inr (.inr (.inr (.inr (.inr (.inl h7))))))
    exact .inr (.inr (.inr (.inr (.inr (.inr (.inr ⟨by simpa using h1, by simpa using h2, by simpa using h3, by simpa using h4, by simpa using h5, by simpa using h6, by simpa using h7, by show _ = _; simp [Pm.bof, h1, h2, h3, h4, h5, h6, h7]⟩))))))
  have HI : Hid (1 ≤ i ∧ i ≤ 9) := ⟨h1, h9⟩
  clear h1 h9
  rcases hc with rfl | rfl | rfl | rfl | rfl | rfl | rfl | ⟨k1, k2, k3, k4, k5, k6, k7, HE⟩
  all_goals
    go_enter Try.func23, Try.ntmps23
    go_wp2_with (first | (go_at_call 26; refine (pBitAt i HI.out.1 HI.out.2 _).mono ?_; rintro e w' ⟨rfl, rfl⟩) | (go_at_call 27; refine (pSpecialAt i HI.out.1 HI.out.2 _).mono ?_; rintro e w' ⟨rfl, rfl⟩))
  all_goals try go_ret
  all_goals first | exact ⟨rfl, rfl⟩ | exact ⟨ret_int HE.out.symm, rfl⟩ | trace_state
end Go.Proofs.Ytmminmdmhefefaa
