/- The reader of clauses: take, of a letter that may not be. Condition: as in Pm5. -/
import Derived.Test.YtmminmdmhefefaaPm7
namespace Go.Proofs.Ytmminmdmhefefaa
open Go.RowKit
attribute [local go_sem] it_size at_cell at_frozen at_set row_mk iter_drew
set_option maxRecDepth 100000 in
set_option maxHeartbeats 2000000 in
theorem pTake_no (r : Pm.Rd) (c : Int) (h : Pm.takeB r c = none) (w : World) (b : Nat) (hb : w.heap.size = b) (S : ByteArray) (p : Nat) :
    Calls Try.prog 39 #[.pointer (some ⟨b, 0, none⟩), .int .i32 c] ((w.alloc (.cells r.row 67)).iter S p) fun e w' => e = .panicked Pm.EI ∧ Below w.heap.size w w' := by
  unfold Pm.takeB at h
  by_cases hc : c = 43 ∨ c = 45 ∨ c = 61
  · rw [if_pos hc] at h; cases h
  · have hc1 : (c == 43) = false := by simpa using fun e => hc (.inl e)
    have hc2 : (c == 45) = false := by simpa using fun e => hc (.inr (.inl e))
    have hc3 : (c == 61) = false := by simpa using fun e => hc (.inr (.inr e))
    rw [if_neg hc] at h
    clear hc
    have HB1 : Hid (∀ o, Below w.heap.size w ((w.alloc o).iter S p).drew) := fun o => below_it1 w o S p
    by_cases h0 : r.sign = 0
    · rw [if_pos h0] at h
      have hx : Pm.whoseB c = none := by simpa using h
      clear h
      have HX : Hid (Pm.whoseB c = none) := hx
      clear hx
      obtain ⟨now, mx, un, who, sign, what, bare, closed⟩ := r
      simp only at h0
      subst h0
      rw [row_mk]
      go_enter Try.func39, Try.ntmps39
      go_wp2_with fail
      go_region_with (go_at_call 46; refine (pWhose_no c HX.out _).mono ?_; rintro e w' ⟨rfl, rfl⟩; refine gaveUp w ⟨rfl, rfl, ?hbel⟩ ?_; (case hbel => first | exact HB1.out _ | (rw [← hb]; exact HB1.out _)))
      all_goals trivial
    · rw [if_neg h0] at h
      have h0' : (r.sign == 0) = false := by simpa using h0
      clear h0
      by_cases hk : c = 44
      · rw [if_pos hk] at h; cases h
      · have hk' : (c == 44) = false := by simpa using hk
        rw [if_neg hk] at h
        have HL : Hid (Pm.letterB r c = none) := h
        clear h hk
        unfold Pm.Rd.row
        go_enter Try.func39, Try.ntmps39
        go_wp2_with fail
        refine (pLetter_no r c HL.out w b hb S p).mono ?_
        rintro e w' ⟨rfl, hB⟩
        go_wp2
        exact ⟨rfl, rfl, by first | exact hB | (rw [← hb]; exact hB)⟩
end Go.Proofs.Ytmminmdmhefefaa
