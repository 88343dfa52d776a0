/- The reader of clauses: take, of a letter that may be. Condition: as in Pm5. -/
import Derived.Test.YtmminmdmhefefaaPm7
namespace Go.Proofs.Ytmminmdmhefefaa
open Go.RowKit
attribute [local go_sem] it_size at_cell at_frozen at_set row_mk iter_drew
set_option maxRecDepth 100000 in
set_option maxHeartbeats 2000000 in
theorem pTake (r r' : Pm.Rd) (hs : r.sign = 0 ∨ r.sign = 43 ∨ r.sign = 45 ∨ r.sign = 61) (c : Int) (h : Pm.takeB r c = some r') (w : World) (b : Nat) (hb : w.heap.size = b) (S : ByteArray) (p : Nat) :
    Calls Try.prog 39 #[.pointer (some ⟨b, 0, none⟩), .int .i32 c] ((w.alloc (.cells r.row 67)).iter S p) fun e w' => e = .returned (.tuple #[]) ∧ ∃ w2, Dr w w2 ∧ w' = (w2.alloc (.cells r'.row 67)).iter S p := by
  by_cases hc : c = 43 ∨ c = 45 ∨ c = 61
  · obtain rfl : r' = { r with now := Pm.nowB r, sign := c, what := 0, bare := true, closed := false } := by
      unfold Pm.takeB at h; rw [if_pos hc] at h; exact (Option.some.inj h).symm
    clear h
    have HS : Hid (r.sign = 0 ∨ r.sign = 43 ∨ r.sign = 45 ∨ r.sign = 61) := hs
    clear hs
    rcases hc with rfl | rfl | rfl
    all_goals
      go_enter Try.func39, Try.ntmps39
      go_wp2_with fail
      refine (pDo r HS.out w b hb S p).mono ?_
      rintro e w' ⟨rfl, rfl⟩
      unfold Pm.Rd.row
      go_wp2
      go_end0
      exact ⟨rfl, w, Dr.refl w, rfl⟩
  · have hc1 : (c == 43) = false := by simpa using fun e => hc (.inl e)
    have hc2 : (c == 45) = false := by simpa using fun e => hc (.inr (.inl e))
    have hc3 : (c == 61) = false := by simpa using fun e => hc (.inr (.inr e))
    unfold Pm.takeB at h
    rw [if_neg hc] at h
    clear hc
    by_cases h0 : r.sign = 0
    · rw [if_pos h0] at h
      obtain ⟨x, hx, rfl⟩ : ∃ x, Pm.whoseB c = some x ∧ r' = { r with who := bits .or .i64 r.who x } := by
        cases hx : Pm.whoseB c with
        | none => rw [hx] at h; cases h
        | some x => rw [hx] at h; exact ⟨x, rfl, (Option.some.inj h).symm⟩
      clear h hs
      have HX : Hid (Pm.whoseB c = some x) := hx
      clear hx
      obtain ⟨now, mx, un, who, sign, what, bare, closed⟩ := r
      simp only at h0
      subst h0
      rw [row_mk]
      go_enter Try.func39, Try.ntmps39
      go_wp2_with fail
      go_region_with (go_at_call 46; refine (pWhose c x HX.out _).mono ?_; rintro e w' ⟨rfl, rfl⟩)
      all_goals go_wp2_with fail
      all_goals go_end0
      all_goals exact ⟨rfl, w.drew, Dr.drew w, rfl⟩
    · rw [if_neg h0] at h
      have h0' : (r.sign == 0) = false := by simpa using h0
      have HS : Hid (r.sign = 0 ∨ r.sign = 43 ∨ r.sign = 45 ∨ r.sign = 61) := hs
      clear hs h0
      by_cases hk : c = 44
      · obtain rfl : r' = { r with now := Pm.nowB r, who := 0, sign := 0 } := by rw [if_pos hk] at h; exact (Option.some.inj h).symm
        clear h
        subst hk
        unfold Pm.Rd.row
        go_enter Try.func39, Try.ntmps39
        go_wp2_with fail
        refine (pDo r HS.out w b hb S p).mono ?_
        rintro e w' ⟨rfl, rfl⟩
        unfold Pm.Rd.row
        go_wp2
        go_end0
        exact ⟨rfl, w, Dr.refl w, rfl⟩
      · have hk' : (c == 44) = false := by simpa using hk
        rw [if_neg hk] at h
        have HL : Hid (Pm.letterB r c = some r') := h
        clear h hk
        unfold Pm.Rd.row
        go_enter Try.func39, Try.ntmps39
        go_wp2_with fail
        refine (pLetter r r' c HL.out w b hb S p).mono ?_
        rintro e w' ⟨rfl, w2, hD, rfl⟩
        go_wp2
        go_end0
        exact ⟨rfl, w2, hD, rfl⟩
end Go.Proofs.Ytmminmdmhefefaa
