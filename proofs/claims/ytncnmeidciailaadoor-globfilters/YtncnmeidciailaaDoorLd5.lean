/- The walk of the program's item of a bracket: a class, a range, a byte. Conditions as in Ld4. -/
import Derived.Test.YtncnmeidciailaaDoorLd4
namespace Go.Proofs.YtncnmeidciailaaDoor
open Go.RowKit
attribute [local go_sem] ext_eq app_eq get_eq
namespace Gl
theorem item_cls {f : Fl} {l n : List UInt8} (h : classAt l = some n) : item f l = (inC n, n.length + 4) := by unfold item; rw [h]
theorem item_rng {f : Fl} {l : List UInt8} (h : classAt l = none) (hd : dash (l.drop (one f l).2) = true) : item f l = (rng (one f l).1 (one f (l.drop ((one f l).2 + 1))).1, (one f l).2 + 1 + (one f (l.drop ((one f l).2 + 1))).2) := by unfold item; rw [h]; simp only; rw [if_pos hd]
theorem item_one {f : Fl} {l : List UInt8} (h : classAt l = none) (hd : dash (l.drop (one f l).2) = false) : item f l = (fun x => decide (x = (one f l).1), (one f l).2) := by unfold item; rw [h]; simp only; rw [if_neg (by simp [hd])]
end Gl
theorem CE.on {W W' : World} {p0 p1 p2 rb b : Nat} (h : CE W p0 p1 p2 rb b) (e : ∀ z, z = p0 ∨ z = p1 ∨ z = p2 → W'.heap[z]? = W.heap[z]?) : CE W' p0 p1 p2 rb b :=
  ⟨(e _ (.inl rfl)).trans h.e0, (e _ (.inr (.inl rfl))).trans h.e1, (e _ (.inr (.inr rfl))).trans h.e2⟩
set_option maxRecDepth 100000 in
set_option maxHeartbeats 1000000 in
theorem gItem (l : List UInt8) (fl : Int) (p0 p1 p2 rb b k : Nat) (g : UInt8 → Bool) (hk : k < l.length) (hl : l.length ≤ 2 ^ 40) (w : World) (hE : CE w p0 p1 p2 rb b) (h0 : w.cell? ⟨rb, 0, none⟩ = some (.string ⟨l.toArray⟩)) (h1 : w.cell? ⟨rb, 1, none⟩ = some (.int .i64 fl)) (hS : SetT w b g) (hc : CN w) :
    Calls Tryd.prog 91 #[.int .i64 k, .int .i64 (-1), .pointer (some ⟨p0, 0, none⟩), .pointer (some ⟨p1, 0, none⟩), .pointer (some ⟨p2, 0, none⟩)] w fun e w' => e = .returned (.int .i64 ((k + (Gl.item (Gl.flOf fl) (l.drop k)).2 : Nat) : Int)) ∧ SetT w' b (fun x => g x || (Gl.item (Gl.flOf fl) (l.drop k)).1 x) ∧ Md (fun z => z = b) w w' := by
  have hs : (⟨l.toArray⟩ : ByteArray).size = l.length := str_size l
  obtain ⟨c0, c1, c2⟩ := hE.cells
  have HCa := hidA (fun W hc => gClassAt (l.drop k) W hc)
  have HCN := hidA hc
  have htk : List.take l.length l = l := by simp
  have hkl : ((k : Int)) ≤ (l.length : Int) := by omega
  cases hcl : Gl.classAt (l.drop k) with
  | some n =>
    obtain ⟨hn1, hn2⟩ := Gl.classAt_len hcl
    rw [List.length_drop] at hn1
    have HE := hidA (Gl.item_cls (f := Gl.flOf fl) hcl)
    have hnn : (n == []) = false := by
      cases n with
      | nil => exact absurd hn2 (by decide)
      | cons => rfl
    rw [hcl] at HCa
    have HCa2 : Hid (∀ W, CN W → Calls Tryd.prog 92 #[.string ⟨(l.drop k).toArray⟩] W fun e w' => e = .returned (.string ⟨n.toArray⟩) ∧ w' = W) := HCa.out
    have HA := hidA (gAddClass b n hn2 g w hS)
    have hw1 : IntKind.i64.wrap ((k : Int) + 2) = ((k + 2 : Nat) : Int) := by rw [IntKind.wrap_i64]; omega
    have hw2 : IntKind.i64.wrap (((k + 2 : Nat) : Int) + (n.length : Int)) = ((k + 2 + n.length : Nat) : Int) := by rw [IntKind.wrap_i64]; omega
    have hw3 : IntKind.i64.wrap (((k + 2 + n.length : Nat) : Int) + 2) = ((k + 2 + n.length + 2 : Nat) : Int) := by rw [IntKind.wrap_i64]; omega
    clear hE hS hc hcl hn2 HCa
    generalize Gl.item (Gl.flOf fl) (l.drop k) = I at *
    go_enter Tryd.func91, Tryd.ntmps91
    go_wp2_with (first | (go_at_call 92; go_loud (refine (HCa2.out _ HCN.out).mono ?_); rintro e w1 ⟨rfl, hw'⟩; rw [hw']; clear hw' w1) | (go_at_call 50; go_loud (refine HA.out.mono ?_); rintro e w2 ⟨rfl, q1, q2⟩; have Q1 := hidA q1; have Q2 := hidA q2; clear q1 q2))
    go_ret
    exact ⟨ret_int (by rw [HE.out]; simp; omega), by rw [HE.out]; exact Q1.out, Q2.out⟩
  | none =>
    rw [hcl] at HCa
    have HCa2 : Hid (∀ W, CN W → Calls Tryd.prog 92 #[.string ⟨(l.drop k).toArray⟩] W fun e w' => e = .returned (.string ⟨#[]⟩) ∧ w' = W) := HCa.out
    have HLt := hidA (gLetter rb l fl k hk (by omega) w h0 h1)
    have hne : l.drop k ≠ [] := by intro e; have := congrArg List.length e; simp at this; omega
    obtain ⟨hp1, hp2⟩ := Gl.one_pos (Gl.flOf fl) (l.drop k) hne
    rw [List.length_drop] at hp2
    have hi1 := Gl.item_rng (f := Gl.flOf fl) hcl
    have hi2 := Gl.item_one (f := Gl.flOf fl) hcl
    rw [List.drop_drop] at hi1 hi2
    have HD := hidA (fun P (hP : P ≤ l.length) => gDash rb l P (by omega) hP w h0)
    have HHi := hidA (fun P (hP : P < l.length) lo => gItemHi l fl p0 p1 p2 rb b P lo g hP hl w hE h0 h1 hS hc)
    have HSt := hidA hS
    have HMr := hidA (Md.refl (fun z => z = b) w)
    clear hE hS hc hcl HCa hne
    obtain ⟨⟨c, n⟩, hO⟩ : ∃ O, Gl.one (Gl.flOf fl) (l.drop k) = O := ⟨_, rfl⟩
    simp only [hO] at hi1 hi2 HLt hp1 hp2
    have hcb := c.toNat_lt
    clear hO
    cases hd : Gl.dash (l.drop (k + n)) with
    | true =>
      have hdl := Gl.dash_len hd
      rw [List.length_drop] at hdl
      have HE := hidA (hi1 hd)
      have HD2 := hidA (HD.out (k + n) (by omega))
      rw [hd] at HD2
      rw [List.drop_drop, show k + (n + 1) = k + n + 1 by omega] at HE
      have HH2 := hidA (HHi.out (k + n + 1) (by omega) c)
      have hw1 : IntKind.i64.wrap (((k + n : Nat) : Int) + 1) = ((k + n + 1 : Nat) : Int) := by rw [IntKind.wrap_i64]; omega
      clear hi1 hi2 hd HD HHi
      generalize Gl.item (Gl.flOf fl) (l.drop k) = I at *
      generalize Gl.one (Gl.flOf fl) (l.drop (k + n + 1)) = O2 at *
      go_enter Tryd.func91, Tryd.ntmps91
      go_wp2_with (first | (go_at_call 92; go_loud (refine (HCa2.out _ HCN.out).mono ?_); rintro e w1 ⟨rfl, hw'⟩; rw [hw']; clear hw' w1) | (go_at_call 74; go_loud (refine HLt.out.mono ?_); rintro e w1 ⟨rfl, hw'⟩; rw [hw']; clear hw' w1) | (go_at_call 94; go_loud (refine HD2.out.mono ?_); rintro e w1 ⟨rfl, hw'⟩; rw [hw']; clear hw' w1) | (go_at_call 91; go_loud (refine HH2.out.mono ?_); rintro e w2 ⟨rfl, q1, q2⟩; have Q1 := hidA q1; have Q2 := hidA q2; clear q1 q2))
      go_ret
      exact ⟨ret_int (by rw [HE.out]; simp; omega), by rw [HE.out]; exact Q1.out, Q2.out⟩
    | false =>
      have HE := hidA (hi2 hd)
      have HD2 := hidA (HD.out (k + n) (by omega))
      rw [hd] at HD2
      have hcc := HSt.out.cell c
      have hcf := HSt.out.frozen c.toNat
      have HQ1 := hidA (HSt.out.set c true)
      have HQ2 := hidA (HMr.out.setCell ⟨b, c.toNat, none⟩ (.bool true) (.inl rfl))
      clear hi1 hi2 hd HD HHi
      generalize Gl.item (Gl.flOf fl) (l.drop k) = I at *
      go_enter Tryd.func91, Tryd.ntmps91
      go_wp2_with (first | (go_at_call 92; go_loud (refine (HCa2.out _ HCN.out).mono ?_); rintro e w1 ⟨rfl, hw'⟩; rw [hw']; clear hw' w1) | (go_at_call 74; go_loud (refine HLt.out.mono ?_); rintro e w1 ⟨rfl, hw'⟩; rw [hw']; clear hw' w1) | (go_at_call 94; go_loud (refine HD2.out.mono ?_); rintro e w1 ⟨rfl, hw'⟩; rw [hw']; clear hw' w1))
      go_ret
      refine ⟨ret_int (by rw [HE.out]; simp), ?_, HQ2.out⟩
      rw [HE.out]
      refine HQ1.out.congr (fun x => ?_)
      show (g x || decide (x = c)) = _
      unfold Gl.updB
      by_cases e : x = c
      · rw [if_pos e, decide_eq_true e, Bool.or_true]
      · rw [if_neg e, decide_eq_false e, Bool.or_false]
end Go.Proofs.YtncnmeidciailaaDoor
