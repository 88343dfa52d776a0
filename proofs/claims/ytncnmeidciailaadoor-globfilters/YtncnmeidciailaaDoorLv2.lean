/- The walk of the plain answer's In. No condition. -/
import Derived.Test.YtncnmeidciailaaDoorLv2b
import Derived.Test.YtncnmeidciailaaDoorLv2c
namespace Go.Proofs.YtncnmeidciailaaDoor
open Go.RowKit
attribute [local go_sem] ext_eq app_eq get_eq
theorem rIn (l : List UInt8) (c : UInt8) (w : World) : Calls Tryd.prog 52 #[.string ⟨l.toArray⟩, .int .u8 c.toNat] w fun e w' => e = .returned (.tuple #[.bool (Gl.inC l c), .bool (decide (l ∈ Gl.names))]) ∧ w' = w := by
  by_cases h : l ∈ Gl.names
  · rw [decide_eq_true h]
    simp only [Gl.names, List.mem_cons, List.not_mem_nil, or_false] at h
    rcases h with rfl | rfl | rfl | rfl | rfl | rfl | rfl | rfl | rfl | rfl | rfl | rfl
    · exact rInAlnum c w
    · exact rInAlpha c w
    · exact rInBlank c w
    · exact rInCntrl c w
    · exact rInDigit c w
    · exact rInGraph c w
    · exact rInLower c w
    · exact rInPrint c w
    · exact rInPunct c w
    · exact rInSpace c w
    · exact rInUpper c w
    · exact rInXdigit c w
  · rw [decide_eq_false h]
    simp only [Gl.names, List.mem_cons, List.not_mem_nil, or_false, not_or] at h
    obtain ⟨h0, h1, h2, h3, h4, h5, h6, h7, h8, h9, h10, h11⟩ := h
    rw [show Gl.inC l c = false by unfold Gl.inC; rw [if_neg h0, if_neg h1, if_neg h2, if_neg h3, if_neg h4, if_neg h5, if_neg h6, if_neg h7, if_neg h8, if_neg h9, if_neg h10, if_neg h11]]
    exact rInNo c l (beq_eq_false_iff_ne.2 h0) (beq_eq_false_iff_ne.2 h1) (beq_eq_false_iff_ne.2 h2) (beq_eq_false_iff_ne.2 h3) (beq_eq_false_iff_ne.2 h4) (beq_eq_false_iff_ne.2 h5) (beq_eq_false_iff_ne.2 h6) (beq_eq_false_iff_ne.2 h7) (beq_eq_false_iff_ne.2 h8) (beq_eq_false_iff_ne.2 h9) (beq_eq_false_iff_ne.2 h10) (beq_eq_false_iff_ne.2 h11) w
end Go.Proofs.YtncnmeidciailaaDoor
