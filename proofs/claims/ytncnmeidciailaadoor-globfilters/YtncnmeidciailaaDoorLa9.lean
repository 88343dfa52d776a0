/- The walks of the program's Quote and Match; quoted texts, read and matched. Conditions: texts that fit; what bracket answers, as a premise. -/
import Derived.Test.YtncnmeidciailaaDoorLa8
namespace Go.Proofs.YtncnmeidciailaaDoor
open Go.RowKit
attribute [local go_sem] ext_eq app_eq get_eq
set_option maxRecDepth 100000 in
set_option maxHeartbeats 2000000 in
theorem gQuote (l : List UInt8) (hl : l.length ≤ 2 ^ 40) (w : World) : Calls Tryd.prog 16 #[.string ⟨l.toArray⟩] w fun e w' => e = .returned (.string ⟨(Gl.qt l).toArray⟩) ∧ Below w.heap.size w w' := by
  have hs : (⟨l.toArray⟩ : ByteArray).size = l.length := str_size l
  obtain ⟨iB, hiB, hz0, hz1, hz2⟩ := infoB
  have HI := hidA (fun c w => Tryd.strings_IndexByte ⟨#[42, 63, 91, 92]⟩ c w)
  have HY0 := hidA (By.nil w.heap.size w)
  have HB0 := hidA (Below.refl w.heap.size w)
  go_enter Tryd.func16, Tryd.ntmps16
  go_wp2
  go_loopw [3, 7] (fun v s7 W => ∃ (k : Nat), s7 = .int .i64 k ∧ k ≤ l.length ∧ Hid (By w.heap.size W v (Gl.qt (l.take k))) ∧ Hid (Below w.heap.size w W)) (fun _ s7 _ => l.length - (intOf s7).toNat)
  case atStart => exact ⟨0, rfl, Nat.zero_le _, HY0, HB0⟩
  case round =>
    obtain ⟨k, rfl, hk, HY, HB⟩ := hrel
    rename_i wr
    have hsz : w.heap.size ≤ wr.heap.size := HB.out.size
    by_cases hlt : k < l.length
    · have HI1 : Hid (∀ W, Calls Tryd.prog 40 #[.string ⟨#[42, 63, 91, 92]⟩, .int .u8 l[k].toNat] W fun e w' => e = .returned (.int .i64 (Lib.indexByte [42, 63, 91, 92] l[k])) ∧ w' = W) := fun W => by
        have h := HI.out (l[k].toNat : Int) W
        have e : ((l[k].toNat : Int)).toNat.toUInt8 = l[k] := by simp
        rw [e] at h
        exact h
      have htk : l.take (k + 1) = l.take k ++ [l[k]] := List.take_succ_eq_append_getElem hlt
      have hqs := Gl.qt_snoc (l.take k) l[k]
      rw [← htk] at hqs
      have hql := Gl.qt_len (l.take k)
      rw [List.length_take, Nat.min_eq_left (by omega)] at hql
      have hix := Gl.idx_qt l[k]
      generalize Lib.indexByte [42, 63, 91, 92] l[k] = ix at *
      generalize Gl.qt (l.take k) = PK at *
      clear htk HI
      cases hsp : (Gl.spc l[k] || decide (l[k] = 92)) with
      | false =>
        rw [hsp] at hqs hix
        have hix' : ¬ (0 : Int) ≤ ix := fun h => by simpa using hix.1 h
        have HQ := hidA hqs
        clear hix hqs hsp
        go_wp2_with (first | (go_at_call 40; refine (HI1.out _).mono ?_; rintro e w1 ⟨rfl, hw'⟩; rw [hw']; clear hw' w1) | (at_builtin; refine wpList_append_own_at _ rfl _ _ 32 rfl w.heap.size 5 iB (.int .u8 0) 1 1 Tryd.underlying32 hiB hz0 hz1 hz2 rfl (by decide) _ _ _ rfl (HY.out.alloc _) ⟨wr.heap.size, 0, none⟩ 1 1 [.int .u8 l[k].toNat] rfl rfl (cell_one_new _ _ _) (one_u8 _) (by unfold maxLen; omega) (by omega) (by simp; omega) ?_; intro v2 w2 hown hg _ hat; obtain ⟨y2, b2, k2⟩ := HY.out.add HB.out hsz _ hown hg; have Y2 := hidA y2; have B2 := hidA b2; clear hown hg hat y2 b2 k2))
        exact ⟨⟨k + 1, by first | rfl | go_num, hlt, hidA (by rw [HQ.out]; exact Y2.out), B2⟩, by simp [intOf]; omega⟩
      | true =>
        rw [hsp] at hqs hix
        have hix' : (0 : Int) ≤ ix := hix.2 rfl
        have HQ : Hid (Gl.qt (l.take (k + 1)) = (PK ++ [92]) ++ [l[k]]) := by show _ = _; rw [hqs]; simp
        clear hix hqs hsp
        go_wp2_with (first | (go_at_call 40; refine (HI1.out _).mono ?_; rintro e w1 ⟨rfl, hw'⟩; rw [hw']; clear hw' w1) | (at_builtin; refine wpList_append_own_at _ rfl _ _ 32 rfl w.heap.size 5 iB (.int .u8 0) 1 1 Tryd.underlying32 hiB hz0 hz1 hz2 rfl (by decide) _ _ _ rfl (HY.out.alloc _) ⟨wr.heap.size, 0, none⟩ 1 1 [.int .u8 92] rfl rfl (cell_one_new _ _ _) (one_u8 _) (by unfold maxLen; omega) (by omega) (by simp; omega) ?_; intro v2 w2 hown hg _ hat; obtain ⟨y2, b2, k2⟩ := HY.out.add (c := 92) HB.out hsz _ hown hg; have Y2 := hidA y2; have B2 := hidA b2; have hsz2 : w.heap.size ≤ w2.heap.size := b2.size; clear hown hg hat y2 b2 k2) | (at_builtin; refine wpList_append_own_at _ rfl _ _ 32 rfl w.heap.size 5 iB (.int .u8 0) 1 1 Tryd.underlying32 hiB hz0 hz1 hz2 rfl (by decide) _ _ _ rfl (Y2.out.alloc _) ⟨w2.heap.size, 0, none⟩ 1 1 [.int .u8 l[k].toNat] rfl rfl (cell_one_new _ _ _) (one_u8 _) (by unfold maxLen; simp; omega) (by simp; omega) (by simp; omega) ?_; intro v3 w3 hown hg _ hat; obtain ⟨y3, b3, k3⟩ := Y2.out.add B2.out hsz2 _ hown hg; have Y3 := hidA y3; have B3 := hidA b3; clear hown hg hat y3 b3 k3))
        exact ⟨⟨k + 1, by first | rfl | go_num, hlt, hidA (by rw [HQ.out]; exact Y3.out), B3⟩, by simp [intOf]; omega⟩
    · have hcv := HY.out.text
      rw [List.take_of_length_le (by omega)] at hcv
      clear HY HI
      go_wp2
      go_ret
      exact ⟨rfl, HB.out⟩
set_option maxHeartbeats 1000000 in
theorem gMatch (l s : List UInt8) (fl : Int) (hl : l.length ≤ 2 ^ 40) (hs : s.length ≤ 2 ^ 47) (w : World)
    (hbr : ∀ k (hk : k < l.length), Gl.Reach (Gl.flOf fl) l k → l[k] = 91 → ∀ W sb rb, Below w.heap.size w W → RS W rb l fl sb k → Calls Tryd.prog 73 #[.pointer (some ⟨rb, 0, none⟩), .int .i64 ((k + 1 : Nat) : Int)] W (BrOut l fl rb sb k W)) :
    Calls Tryd.prog 12 #[.string ⟨l.toArray⟩, .string ⟨s.toArray⟩, .int .i64 fl] w fun e w' => ∃ b, e = .returned (.bool b) ∧ (b = true ↔ Gl.Mt (Gl.flOf fl) s (Gl.pcs (Gl.flOf fl) l) 0) ∧ Below w.heap.size w w' := by
  have HR := hidA (gRead l fl hl w hbr)
  have hpl : (Gl.pcs (Gl.flOf fl) l).length ≤ l.length := Gl.pcs_len _ _ _
  clear hbr
  generalize Gl.pcs (Gl.flOf fl) l = ps at *
  have HM := hidA (fun a c W hp => gMatches ps a c fl s hs (by omega) W hp)
  go_enter Tryd.func12, Tryd.ntmps12
  go_wp2_with (first | (go_at_call 36; refine HR.out.mono ?_; rintro e w1 ⟨a, c, rfl, hp, b1⟩; have HP := hidA hp; clear hp) | (go_at_call 37; refine (HM.out _ _ _ HP.out).mono ?_; rintro e w2 ⟨b, rfl, hb, b2⟩; have HB := hidA hb; clear hb))
  go_ret
  exact ⟨b, rfl, HB.out, bl2 b1 b2⟩
/-- A pattern that no bracket is begun in. -/
theorem gMatchN (l s : List UInt8) (fl : Int) (hl : l.length ≤ 2 ^ 40) (hs : s.length ≤ 2 ^ 47) (w : World) (hn : ∀ k (hk : k < l.length), Gl.Reach (Gl.flOf fl) l k → l[k] ≠ 91) :
    Calls Tryd.prog 12 #[.string ⟨l.toArray⟩, .string ⟨s.toArray⟩, .int .i64 fl] w fun e w' => ∃ b, e = .returned (.bool b) ∧ (b = true ↔ Gl.Mt (Gl.flOf fl) s (Gl.pcs (Gl.flOf fl) l) 0) ∧ Below w.heap.size w w' :=
  gMatch l s fl hl hs w (fun k hk hr hc => absurd hc (hn k hk hr))
namespace Gl
theorem fl0 : flOf 0 = ⟨false, false, false, false⟩ := by rfl
theorem fl1 : flOf 1 = ⟨true, false, false, false⟩ := by rfl
theorem guard_none {f : Fl} {s : List UInt8} {i : Nat} (h1 : f.path = false) (h2 : f.period = false) : guard f s i = false := by
  unfold guard
  rw [h1, h2]
  split
  · rfl
  split
  · rfl
  · rfl
theorem qt_cons (c : UInt8) (r : List UInt8) : qt (c :: r) = (if spc c || decide (c = 92) then [92, c] else [c]) ++ qt r := rfl
/-- The first piece of a quoted text. -/
theorem piece_qt {f : Fl} (hp : f.plain = false) (hf : f.fold = false) (c : UInt8) (r : List UInt8) : (piece f (qt (c :: r))).1 = .this c ∧ (qt (c :: r)).drop (piece f (qt (c :: r))).2 = qt r ∧ (qt (c :: r))[0]? ≠ some 91 := by
  rw [qt_cons]
  have hfo : ∀ d, fold f d = d := fun d => fold_no (.inl hf)
  split
  · have h : piece f ([92, c] ++ qt r) = (.this c, 2) := by
      show piece f (92 :: c :: qt r) = _
      unfold piece
      simp [one, hp, hfo]
    rw [h]
    exact ⟨rfl, rfl, by simp⟩
  · rename_i hc
    simp only [spc, Bool.or_eq_true, decide_eq_true_eq, not_or] at hc
    obtain ⟨⟨⟨c1, c2⟩, c3⟩, c4⟩ := hc
    have h : piece f ([c] ++ qt r) = (.this c, 1) := by
      show piece f (c :: qt r) = _
      unfold piece
      simp only [c1, c2, c3, if_false]
      cases hq : qt r with
      | nil => simp [one, hfo]
      | cons d t => simp [one, hfo, c4]
    rw [h]
    exact ⟨rfl, rfl, by simp [c3]⟩
theorem pcs_qt {f : Fl} (hp : f.plain = false) (hf : f.fold = false) : ∀ s : List UInt8, pcs f (qt s) = s.map .this
  | [] => rfl
  | c :: r => by
    obtain ⟨h1, h2, _⟩ := piece_qt hp hf c r
    have hne : qt (c :: r) ≠ [] := by rw [qt_cons]; split <;> simp
    rw [pcs_step _ _ hne, h1, h2, pcs_qt hp hf r]; rfl
theorem reach_qt {f : Fl} (hp : f.plain = false) (hf : f.fold = false) (s : List UInt8) {k : Nat} (h : Reach f (qt s) k) : ∃ s', (qt s).drop k = qt s' := by
  induction h with
  | zero => exact ⟨s, rfl⟩
  | @next k _ hk ih =>
    obtain ⟨s', e⟩ := ih
    cases s' with
    | nil => exfalso; rw [show qt [] = [] from rfl] at e; have := congrArg List.length e; simp only [List.length_drop, List.length_nil] at this; omega
    | cons c r =>
      obtain ⟨h1, h2, _⟩ := piece_qt hp hf c r
      refine ⟨r, ?_⟩
      rw [← List.drop_drop, e, h2]
theorem reach_qt_no {f : Fl} (hp : f.plain = false) (hf : f.fold = false) (s : List UInt8) (k : Nat) (hk : k < (qt s).length) (h : Reach f (qt s) k) : (qt s)[k] ≠ 91 := by
  obtain ⟨s', e⟩ := reach_qt hp hf s h
  have e2 : (qt s')[0]? = some (qt s)[k] := by rw [← e, List.getElem?_drop, Nat.add_zero, List.getElem?_eq_getElem hk]
  cases s' with
  | nil => simp [qt] at e2
  | cons c r =>
    obtain ⟨_, _, h3⟩ := piece_qt hp hf c r
    intro h91
    rw [h91] at e2
    exact h3 e2
theorem mt_this {f : Fl} {t : List UInt8} (hf : f.fold = false) : ∀ (s : List UInt8) (i : Nat), i ≤ t.length → (Mt f t (s.map .this) i ↔ t.drop i = s)
  | [], i, hi => by
    rw [List.map_nil, mt_nil]
    constructor
    · rintro rfl; simp
    · intro h; have := congrArg List.length h; simp at this; omega
  | c :: r, i, hi => by
    rw [List.map_cons, mt_one rfl]
    constructor
    · rintro ⟨h1, h2, h3⟩
      rw [mt_this hf r (i + 1) h1] at h3
      rw [List.drop_eq_getElem_cons h1, h3]
      simp only [takes, List.getElem?_eq_getElem h1, Option.map_some, beq_iff_eq, Option.some.injEq] at h2
      rw [fold_no (.inl hf)] at h2
      rw [h2]
    · intro h
      have hi : i < t.length := by have := congrArg List.length h; simp at this; omega
      rw [List.drop_eq_getElem_cons hi] at h
      injection h with h1 h2
      refine ⟨hi, ?_, (mt_this hf r (i + 1) hi).2 h2⟩
      simp only [takes, List.getElem?_eq_getElem hi, Option.map_some, beq_iff_eq, Option.some.injEq]
      rw [fold_no (.inl hf)]; exact h1
theorem mt_all {f : Fl} {t : List UInt8} (h1 : f.path = false) (h2 : f.period = false) : Mt f t [.star] 0 :=
  mt_star_iff.2 ⟨t.length, Nat.zero_le _, fun _ _ _ => guard_none h1 h2, .nil⟩
end Gl
end Go.Proofs.YtncnmeidciailaaDoor
