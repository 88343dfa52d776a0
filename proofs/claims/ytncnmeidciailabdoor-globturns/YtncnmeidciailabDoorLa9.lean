/- The walks of the program's Quote and Match; quoted texts, read and matched. Conditions: texts that fit; what bracket answers, as a premise. -/
import Derived.Test.YtncnmeidciailabDoorLa8
namespace Go.Proofs.YtncnmeidciailabDoor
open Go.RowKit
attribute [local go_sem] ext_eq app_eq get_eq
set_option maxHeartbeats 1000000 in
theorem gMatch (l s : List UInt8) (fl : Int) (hl : l.length ≤ 2 ^ 40) (hs : s.length ≤ 2 ^ 47) (w : World)
    (hbr : ∀ k (hk : k < l.length), Gl.Reach (Gl.flOf fl) l k → l[k] = 91 → ∀ W sb rb, Below w.heap.size w W → RS W rb l fl sb k → Calls Tryd.prog 34 #[.pointer (some ⟨rb, 0, none⟩), .int .i64 ((k + 1 : Nat) : Int)] W (BrOut l fl rb sb k W)) :
    Calls Tryd.prog 7 #[.string ⟨l.toArray⟩, .string ⟨s.toArray⟩, .int .i64 fl] w fun e w' => ∃ b, e = .returned (.bool b) ∧ (b = true ↔ Gl.Mt (Gl.flOf fl) s (Gl.pcs (Gl.flOf fl) l) 0) ∧ Below w.heap.size w w' := by
  have HR := hidA (gRead l fl hl w hbr)
  have hpl : (Gl.pcs (Gl.flOf fl) l).length ≤ l.length := Gl.pcs_len _ _ _
  clear hbr
  generalize Gl.pcs (Gl.flOf fl) l = ps at *
  have HM := hidA (fun a c W hp => gMatches ps a c fl s hs (by omega) W hp)
  go_enter Tryd.func7, Tryd.ntmps7
  go_wp2_with (first | (go_at_call 16; refine HR.out.mono ?_; rintro e w1 ⟨a, c, rfl, hp, b1⟩; have HP := hidA hp; clear hp) | (go_at_call 17; refine (HM.out _ _ _ HP.out).mono ?_; rintro e w2 ⟨b, rfl, hb, b2⟩; have HB := hidA hb; clear hb))
  go_ret
  exact ⟨b, rfl, HB.out, bl2 b1 b2⟩
/-- A pattern that no bracket is begun in. -/
theorem gMatchN (l s : List UInt8) (fl : Int) (hl : l.length ≤ 2 ^ 40) (hs : s.length ≤ 2 ^ 47) (w : World) (hn : ∀ k (hk : k < l.length), Gl.Reach (Gl.flOf fl) l k → l[k] ≠ 91) :
    Calls Tryd.prog 7 #[.string ⟨l.toArray⟩, .string ⟨s.toArray⟩, .int .i64 fl] w fun e w' => ∃ b, e = .returned (.bool b) ∧ (b = true ↔ Gl.Mt (Gl.flOf fl) s (Gl.pcs (Gl.flOf fl) l) 0) ∧ Below w.heap.size w w' :=
  gMatch l s fl hl hs w (fun k hk hr hc => absurd hc (hn k hk hr))
namespace Gl
theorem fl0 : flOf 0 = ⟨false, false, false, false⟩ := by rfl
theorem fl1 : flOf 1 = ⟨true, false, false, false⟩ := by rfl
theorem guard_none {f : Fl} {s : List UInt8} {i : Nat} (h1 : f.path = false) (h2 : f.period = false) : guard f s i = false := by
  unfold guard
  rw [h1, h2]
  split
  · rfl
  split
  · rfl
  · rfl
theorem qt_cons (c : UInt8) (r : List UInt8) : qt (c :: r) = (if spc c || decide (c = 92) then [92, c] else [c]) ++ qt r := rfl
/-- The first piece of a quoted text. -/
theorem piece_qt {f : Fl} (hp : f.plain = false) (hf : f.fold = false) (c : UInt8) (r : List UInt8) : (piece f (qt (c :: r))).1 = .this c ∧ (qt (c :: r)).drop (piece f (qt (c :: r))).2 = qt r ∧ (qt (c :: r))[0]? ≠ some 91 := by
  rw [qt_cons]
  have hfo : ∀ d, fold f d = d := fun d => fold_no (.inl hf)
  split
  · have h : piece f ([92, c] ++ qt r) = (.this c, 2) := by
      show piece f (92 :: c :: qt r) = _
      unfold piece
      simp [one, hp, hfo]
    rw [h]
    exact ⟨rfl, rfl, by simp⟩
  · rename_i hc
    simp only [spc, Bool.or_eq_true, decide_eq_true_eq, not_or] at hc
    obtain ⟨⟨⟨c1, c2⟩, c3⟩, c4⟩ := hc
    have h : piece f ([c] ++ qt r) = (.this c, 1) := by
      show piece f (c :: qt r) = _
      unfold piece
      simp only [c1, c2, c3, if_false]
      cases hq : qt r with
      | nil => simp [one, hfo]
      | cons d t => simp [one, hfo, c4]
    rw [h]
    exact ⟨rfl, rfl, by simp [c3]⟩
theorem pcs_qt {f : Fl} (hp : f.plain = false) (hf : f.fold = false) : ∀ s : List UInt8, pcs f (qt s) = s.map .this
  | [] => rfl
  | c :: r => by
    obtain ⟨h1, h2, _⟩ := piece_qt hp hf c r
    have hne : qt (c :: r) ≠ [] := by rw [qt_cons]; split <;> simp
    rw [pcs_step _ _ hne, h1, h2, pcs_qt hp hf r]; rfl
theorem reach_qt {f : Fl} (hp : f.plain = false) (hf : f.fold = false) (s : List UInt8) {k : Nat} (h : Reach f (qt s) k) : ∃ s', (qt s).drop k = qt s' := by
  induction h with
  | zero => exact ⟨s, rfl⟩
  | @next k _ hk ih =>
    obtain ⟨s', e⟩ := ih
    cases s' with
    | nil => exfalso; rw [show qt [] = [] from rfl] at e; have := congrArg List.length e; simp only [List.length_drop, List.length_nil] at this; omega
    | cons c r =>
      obtain ⟨h1, h2, _⟩ := piece_qt hp hf c r
      refine ⟨r, ?_⟩
      rw [← List.drop_drop, e, h2]
theorem reach_qt_no {f : Fl} (hp : f.plain = false) (hf : f.fold = false) (s : List UInt8) (k : Nat) (hk : k < (qt s).length) (h : Reach f (qt s) k) : (qt s)[k] ≠ 91 := by
  obtain ⟨s', e⟩ := reach_qt hp hf s h
  have e2 : (qt s')[0]? = some (qt s)[k] := by rw [← e, List.getElem?_drop, Nat.add_zero, List.getElem?_eq_getElem hk]
  cases s' with
  | nil => simp [qt] at e2
  | cons c r =>
    obtain ⟨_, _, h3⟩ := piece_qt hp hf c r
    intro h91
    rw [h91] at e2
    exact h3 e2
theorem mt_this {f : Fl} {t : List UInt8} (hf : f.fold = false) : ∀ (s : List UInt8) (i : Nat), i ≤ t.length → (Mt f t (s.map .this) i ↔ t.drop i = s)
  | [], i, hi => by
    rw [List.map_nil, mt_nil]
    constructor
    · rintro rfl; simp
    · intro h; have := congrArg List.length h; simp at this; omega
  | c :: r, i, hi => by
    rw [List.map_cons, mt_one rfl]
    constructor
    · rintro ⟨h1, h2, h3⟩
      rw [mt_this hf r (i + 1) h1] at h3
      rw [List.drop_eq_getElem_cons h1, h3]
      simp only [takes, List.getElem?_eq_getElem h1, Option.map_some, beq_iff_eq, Option.some.injEq] at h2
      rw [fold_no (.inl hf)] at h2
      rw [h2]
    · intro h
      have hi : i < t.length := by have := congrArg List.length h; simp at this; omega
      rw [List.drop_eq_getElem_cons hi] at h
      injection h with h1 h2
      refine ⟨hi, ?_, (mt_this hf r (i + 1) hi).2 h2⟩
      simp only [takes, List.getElem?_eq_getElem hi, Option.map_some, beq_iff_eq, Option.some.injEq]
      rw [fold_no (.inl hf)]; exact h1
theorem mt_all {f : Fl} {t : List UInt8} (h1 : f.path = false) (h2 : f.period = false) : Mt f t [.star] 0 :=
  mt_star_iff.2 ⟨t.length, Nat.zero_le _, fun _ _ _ => guard_none h1 h2, .nil⟩
end Gl
end Go.Proofs.YtncnmeidciailabDoor
