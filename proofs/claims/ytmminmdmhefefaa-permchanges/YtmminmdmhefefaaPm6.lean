/- The reader of clauses: a letter behind a sign. Condition: as in Pm5. -/
import Derived.Test.YtmminmdmhefefaaPm5
namespace Go.Proofs.Ytmminmdmhefefaa
open Go.RowKit
theorem row_mk (now mx un who sign what : Int) (bare closed : Bool) : Pm.Rd.row ⟨now, mx, un, who, sign, what, bare, closed⟩ = #[.int .i64 now, .int .i64 mx, .int .i64 un, .int .i64 who, .int .i32 sign, .int .i64 what, .bool bare, .bool closed] := rfl
attribute [local go_sem] it_size at_cell at_frozen at_set row_mk
def Dr (w w2 : World) : Prop := ∃ n, w2 = { w with drawn := n }
theorem Dr.refl (w : World) : Dr w w := ⟨w.drawn, rfl⟩
theorem Dr.drew (w : World) : Dr w w.drew := ⟨w.drawn + 1, rfl⟩
theorem Dr.trans {a b c : World} (h : Dr a b) (k : Dr b c) : Dr a c := by
  obtain ⟨n, rfl⟩ := h
  obtain ⟨m, rfl⟩ := k
  exact ⟨m, rfl⟩
theorem Dr.size {a b : World} (h : Dr a b) : b.heap.size = a.heap.size := by obtain ⟨n, rfl⟩ := h; rfl
theorem Dr.below {a b : World} (h : Dr a b) (B : Nat) : Below B a b := by obtain ⟨n, rfl⟩ := h; exact ⟨rfl, rfl, rfl, Nat.le_refl _, fun _ _ => rfl⟩
theorem iter_drew (w : World) (S : ByteArray) (p : Nat) : w.drew.iter S p = (w.iter S p).drew := rfl
attribute [local go_sem] iter_drew
set_option maxRecDepth 100000 in
set_option maxHeartbeats 2000000 in
theorem pLetter (r r' : Pm.Rd) (c : Int) (h : Pm.letterB r c = some r') (w : World) (b : Nat) (hb : w.heap.size = b) (S : ByteArray) (p : Nat) :
    Calls Try.prog 47 #[.pointer (some ⟨b, 0, none⟩), .int .i32 c] ((w.alloc (.cells r.row 67)).iter S p) fun e w' => e = .returned (.tuple #[]) ∧ ∃ w2, Dr w w2 ∧ w' = (w2.alloc (.cells r'.row 67)).iter S p := by
  have hl : r.closed = false ∧ (Pm.aloneB c && !r.bare) = false ∧ ∃ x, Pm.bitsB r.now r.mx c = some x ∧ r' = { r with what := bits .or .i64 r.what x, bare := false, closed := Pm.aloneB c } := by
    unfold Pm.letterB at h
    split at h
    · cases h
    · rename_i hn
      simp only [Bool.or_eq_true, not_or, Bool.not_eq_true] at hn
      refine ⟨hn.1, hn.2, ?_⟩
      cases hx : Pm.bitsB r.now r.mx c with
      | none => rw [hx] at h; cases h
      | some x => rw [hx] at h; exact ⟨x, rfl, (Option.some.inj h).symm⟩
  clear h
  obtain ⟨hcl, hal, x, hx, rfl⟩ := hl
  have HX : Hid (Pm.bitsB r.now r.mx c = some x) := hx
  clear hx
  obtain ⟨now, mx, un, who, sign, what, bare, closed⟩ := r
  simp only at hcl hal
  subst hcl
  have HA : Hid (Pm.aloneB c = (c == 117 || c == 103 || c == 111)) := rfl
  have HL : Hid ((Pm.aloneB c && !bare) = false) := hal
  clear hal
  have hk : (c == 117) = true ∨ ((c == 117) = false ∧ (c == 103) = true) ∨ ((c == 117) = false ∧ (c == 103) = false ∧ (c == 111) = true) ∨ ((c == 117) = false ∧ (c == 103) = false ∧ (c == 111) = false) := by
    cases (c == 117) <;> cases (c == 103) <;> cases (c == 111) <;> simp
  rcases hk with k1 | ⟨k1, k2⟩ | ⟨k1, k2, k3⟩ | ⟨k1, k2, k3⟩ <;> cases bare
  all_goals
    have HA2 := HA.out
    have HL2 := HL.out
    simp only [*, Bool.true_or, Bool.or_true, Bool.or_false] at HA2
    rw [HA2] at HL2
    first
    | exact absurd HL2 (by decide)
    | (have HC : Hid (Pm.aloneB c = _) := HA2
       clear HA2 HL2 HA HL
       rw [row_mk]
       go_enter Try.func47, Try.ntmps47
       go_wp2_with fail
       go_region_with (go_at_call 48; refine (pBits ⟨now, mx, un, who, sign, what, _, false⟩ c x HX.out w.drew b (by simpa using hb) S p).mono ?_; rintro e w' ⟨rfl, rfl⟩)
       all_goals go_wp2_with fail
       all_goals go_end0
       all_goals exact ⟨rfl, w.drew, Dr.drew w, by rw [HC.out]; rfl⟩)
end Go.Proofs.Ytmminmdmhefefaa
