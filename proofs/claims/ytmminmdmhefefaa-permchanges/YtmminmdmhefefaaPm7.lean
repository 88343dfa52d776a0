/- The reader of clauses: a letter behind a sign that is none. Condition: as in Pm5. -/
import Derived.Test.YtmminmdmhefefaaPm6
namespace Go.Proofs.Ytmminmdmhefefaa
open Go.RowKit
attribute [local go_sem] it_size at_cell at_frozen at_set row_mk iter_drew
/-- A callee that gives up inside a region that draws its order: nothing is left to be done there. -/
theorem gaveUp {G : Prop} (w : World) (h : G) (_ : wpAny Try.prog .any #[] (fun _ _ _ => True) 0 #[] { tmps := #[], defers := [] } w) : G := h
theorem below_it (w : World) (o : Obj) (S : ByteArray) (p : Nat) : Below w.heap.size w ((w.alloc o).iter S p) := ((Below.refl _ _).alloc (Nat.le_refl _) _).alloc (by simp) _
theorem below_it1 (w : World) (o : Obj) (S : ByteArray) (p : Nat) : Below w.heap.size w ((w.alloc o).iter S p).drew := (below_it w o S p).drew
set_option maxRecDepth 100000 in
set_option maxHeartbeats 2000000 in
theorem pLetter_no (r : Pm.Rd) (c : Int) (h : Pm.letterB r c = none) (w : World) (b : Nat) (hb : w.heap.size = b) (S : ByteArray) (p : Nat) :
    Calls Try.prog 47 #[.pointer (some ⟨b, 0, none⟩), .int .i32 c] ((w.alloc (.cells r.row 67)).iter S p) fun e w' => e = .panicked Pm.EI ∧ Below w.heap.size w w' := by
  have hl : r.closed = true ∨ (r.closed = false ∧ Pm.aloneB c = true ∧ r.bare = false) ∨ (r.closed = false ∧ (Pm.aloneB c && !r.bare) = false ∧ Pm.bitsB r.now r.mx c = none) := by
    unfold Pm.letterB at h
    split at h
    · rename_i hn
      cases hc : r.closed
      · rw [hc] at hn
        simp at hn
        exact .inr (.inl ⟨rfl, hn.1, hn.2⟩)
      · exact .inl rfl
    · rename_i hn
      simp only [Bool.or_eq_true, not_or, Bool.not_eq_true] at hn
      refine .inr (.inr ⟨hn.1, hn.2, ?_⟩)
      simpa using h
  clear h
  obtain ⟨now, mx, un, who, sign, what, bare, closed⟩ := r
  simp only at hl
  have HA : Hid (Pm.aloneB c = (c == 117 || c == 103 || c == 111)) := rfl
  have HB1 : Hid (∀ o, Below w.heap.size w ((w.alloc o).iter S p).drew) := fun o => below_it1 w o S p
  have HB0 : Hid (∀ o, Below w.heap.size w ((w.alloc o).iter S p)) := fun o => below_it w o S p
  have hk : (c == 117) = true ∨ ((c == 117) = false ∧ (c == 103) = true) ∨ ((c == 117) = false ∧ (c == 103) = false ∧ (c == 111) = true) ∨ ((c == 117) = false ∧ (c == 103) = false ∧ (c == 111) = false) := by
    cases (c == 117) <;> cases (c == 103) <;> cases (c == 111) <;> simp
  rw [row_mk]
  rcases hl with rfl | ⟨rfl, hal, rfl⟩ | ⟨rfl, hal, hx⟩
  · rcases hk with k1 | ⟨k1, k2⟩ | ⟨k1, k2, k3⟩ | ⟨k1, k2, k3⟩
    all_goals
      clear HA
      go_enter Try.func47, Try.ntmps47
      go_wp2_with fail
      refine (pGive _).mono ?_
      rintro e w' ⟨rfl, rfl⟩
      go_wp2
      exact ⟨rfl, rfl, by first | exact HB0.out _ | (rw [← hb]; exact HB0.out _)⟩
  · have HL : Hid (Pm.aloneB c = true) := hal
    clear hal
    rcases hk with k1 | ⟨k1, k2⟩ | ⟨k1, k2, k3⟩ | ⟨k1, k2, k3⟩
    · clear HA
      go_enter Try.func47, Try.ntmps47
      go_wp2_with fail
      refine (pGive _).mono ?_
      rintro e w' ⟨rfl, rfl⟩
      go_wp2
      exact ⟨rfl, rfl, by first | exact HB0.out _ | (rw [← hb]; exact HB0.out _)⟩
    · clear HA
      go_enter Try.func47, Try.ntmps47
      go_wp2_with fail
      refine (pGive _).mono ?_
      rintro e w' ⟨rfl, rfl⟩
      go_wp2
      exact ⟨rfl, rfl, by first | exact HB0.out _ | (rw [← hb]; exact HB0.out _)⟩
    · clear HA
      go_enter Try.func47, Try.ntmps47
      go_wp2_with fail
      refine (pGive _).mono ?_
      rintro e w' ⟨rfl, rfl⟩
      go_wp2
      exact ⟨rfl, rfl, by first | exact HB0.out _ | (rw [← hb]; exact HB0.out _)⟩
    · have := HA.out
      rw [HL.out, k1, k2, k3] at this
      cases this
  · have HX : Hid (Pm.bitsB now mx c = none) := hx
    clear hx
    have HL : Hid ((Pm.aloneB c && !bare) = false) := hal
    clear hal
    rcases hk with k1 | ⟨k1, k2⟩ | ⟨k1, k2, k3⟩ | ⟨k1, k2, k3⟩
    · obtain rfl : c = 117 := by simpa using k1
      exact absurd HX.out (by simp [Pm.bitsB])
    · obtain rfl : c = 103 := by simpa using k2
      exact absurd HX.out (by simp [Pm.bitsB])
    · obtain rfl : c = 111 := by simpa using k3
      exact absurd HX.out (by simp [Pm.bitsB])
    · clear HA HL
      go_enter Try.func47, Try.ntmps47
      go_wp2_with fail
      go_region_with (go_at_call 48; refine (pBits_no ⟨now, mx, un, who, sign, what, bare, false⟩ c HX.out w.drew b S p).mono ?_; rintro e w' ⟨rfl, rfl⟩; refine gaveUp w ⟨rfl, rfl, ?hbel⟩ ?_; (case hbel => first | exact HB1.out _ | (rw [← hb]; exact HB1.out _)))
      all_goals trivial
end Go.Proofs.Ytmminmdmhefefaa
