/- A list's parts; the walk of the program's allItems. Conditions: lengths that fit. -/
import Derived.Test.YtgkjpfebjhhdkaaDoorNr2
namespace Go.Proofs.YtgkjpfebjhhdkaaDoor
open Go.RowKit
attribute [local go_sem] ext_eq app_eq get_eq
def bOf : Value → Bool
  | .bool b => b
  | _ => false
def sOf : Value → Nat
  | .string s => s.size
  | _ => 0
theorem dropWhile_nil {p : UInt8 → Bool} : ∀ l : List UInt8, l.dropWhile p = [] → ∀ x ∈ l, p x = true
  | [], _, x, hx => by simp at hx
  | c :: r, h, x, hx => by
    cases hc : p c with
    | false => rw [List.dropWhile_cons_of_neg (by simp [hc])] at h; cases h
    | true =>
      rw [List.dropWhile_cons_of_pos hc] at h
      rcases List.mem_cons.1 hx with rfl | hx
      · exact hc
      · exact dropWhile_nil r h x hx
theorem has_split {m : UInt8} {l : List UInt8} (h : Na.has m l = true) : (Na.behind m l).length < l.length := by
  unfold Na.has at h
  rw [List.any_eq_true] at h
  obtain ⟨x, hx, he⟩ := h
  unfold Na.behind
  cases hd : l.dropWhile (fun c => decide (c ≠ m)) with
  | nil =>
    have := dropWhile_nil l hd x hx
    simp at this he
    exact absurd he this
  | cons y r =>
    have := (List.dropWhile_sublist (l := l) (fun c => decide (c ≠ m))).length_le
    rw [hd] at this
    simp at this ⊢
    omega
theorem has_no {m : UInt8} {l : List UInt8} (h : Na.has m l = false) : Na.ahead m l = l ∧ Na.behind m l = [] := by
  have hn : ∀ j (hj : j < l.length), j < l.length → l[j] ≠ m := by
    intro j hj _ e
    unfold Na.has at h
    rw [List.any_eq_false] at h
    exact h l[j] (List.getElem_mem hj) (decide_eq_true e)
  obtain ⟨h1, h2, -⟩ := aheads_no hn
  exact ⟨h1, h2⟩
namespace Na
/-- What stands between the commas. -/
def parts (l : List UInt8) : List (List UInt8) := if h : has 44 l = true then have := has_split h; ahead 44 l :: parts (behind 44 l) else [l]
termination_by l.length
def allI (l : List UInt8) : Bool := (parts l).all isItem
theorem parts_yes {l : List UInt8} (h : has 44 l = true) : parts l = ahead 44 l :: parts (behind 44 l) := by rw [parts, dif_pos h]
theorem parts_no {l : List UInt8} (h : has 44 l = false) : parts l = [l] := by rw [parts, dif_neg (by simp [h])]
theorem allI_yes {l : List UInt8} (h : has 44 l = true) : allI l = (isItem (ahead 44 l) && allI (behind 44 l)) := by unfold allI; rw [parts_yes h, List.all_cons]
theorem allI_no {l : List UInt8} (h : has 44 l = false) : allI l = isItem (ahead 44 l) := by unfold allI; rw [parts_no h, (has_no h).1]; simp
end Na
set_option maxRecDepth 100000 in
set_option maxHeartbeats 1000000 in
theorem nAllItems (l : List UInt8) (w : World) (hl : l.length ≤ 2 ^ 47) : Calls Tryd.prog 43 #[.string ⟨l.toArray⟩] w fun e w' => e = .returned (.bool (Na.allI l)) ∧ Below w.heap.size w w' := by
  have HB0 := hidA (Below.refl w.heap.size w)
  go_enter Tryd.func43, Tryd.ntmps43
  go_wp2_with fail
  go_loopw [0, 3] (fun s b w' => ∃ (r : List UInt8) (m : Bool), s = .string ⟨r.toArray⟩ ∧ b = .bool m ∧ r.length ≤ l.length ∧ Hid (Na.allI l = if m then Na.allI r else true) ∧ Hid (Below w.heap.size w w')) (fun s b _ => if bOf b then sOf s + 1 else 0)
  case atStart => exact ⟨l, true, rfl, rfl, Nat.le_refl _, rfl, HB0⟩
  case round =>
    obtain ⟨r, m, rfl, rfl, hrl, HE, HB⟩ := hrel
    cases m with
    | false =>
      rw [if_neg (by simp)] at HE
      go_wp2
      go_ret
      exact ⟨by rw [HE.out]; rfl, HB.out⟩
    | true =>
      rw [if_pos rfl] at HE
      rename_i wr
      have HC := hidA (nCut 44 (by decide) r wr (by omega))
      have hal := ahead_len 44 r
      have hbl := behind_len 44 r
      have HI := hidA (fun w => nIsItem (Na.ahead 44 r) w (by omega))
      cases hh : Na.has 44 r with
      | true =>
        have hlt := has_split hh
        have HE2 : Hid (Na.allI l = (Na.isItem (Na.ahead 44 r) && Na.allI (Na.behind 44 r))) := HE.out.trans (Na.allI_yes hh)
        rw [hh] at HC
        clear hh HE
        generalize Na.ahead 44 r = A at *
        generalize Na.behind 44 r = B at *
        cases hi : Na.isItem A with
        | false =>
          rw [hi] at HI HE2
          clear hi
          go_wp2_with (first | (go_at_call 34; refine HC.out.mono ?_; rintro e w1 ⟨rfl, b1⟩) | (go_at_call 67; refine (HI.out _).mono ?_; rintro e w2 ⟨rfl, b2⟩))
          go_ret
          exact ⟨by rw [HE2.out]; rfl, bl2 (bl2 HB.out b1) b2⟩
        | true =>
          rw [hi, Bool.true_and] at HE2
          rw [hi] at HI
          clear hi
          go_wp2_with (first | (go_at_call 34; refine HC.out.mono ?_; rintro e w1 ⟨rfl, b1⟩) | (go_at_call 67; refine (HI.out _).mono ?_; rintro e w2 ⟨rfl, b2⟩))
          exact ⟨⟨B, true, rfl, rfl, by omega, by rw [if_pos rfl]; exact HE2, hidA (bl2 (bl2 HB.out b1) b2)⟩, by simp [bOf, sOf, ByteArray.size]; omega⟩
      | false =>
        have HE2 : Hid (Na.allI l = Na.isItem (Na.ahead 44 r)) := HE.out.trans (Na.allI_no hh)
        rw [hh] at HC
        clear hh HE
        generalize Na.ahead 44 r = A at *
        generalize Na.behind 44 r = B at *
        cases hi : Na.isItem A with
        | false =>
          rw [hi] at HI HE2
          clear hi
          go_wp2_with (first | (go_at_call 34; refine HC.out.mono ?_; rintro e w1 ⟨rfl, b1⟩) | (go_at_call 67; refine (HI.out _).mono ?_; rintro e w2 ⟨rfl, b2⟩))
          go_ret
          exact ⟨by rw [HE2.out]; rfl, bl2 (bl2 HB.out b1) b2⟩
        | true =>
          rw [hi] at HI HE2
          clear hi
          go_wp2_with (first | (go_at_call 34; refine HC.out.mono ?_; rintro e w1 ⟨rfl, b1⟩) | (go_at_call 67; refine (HI.out _).mono ?_; rintro e w2 ⟨rfl, b2⟩))
          exact ⟨⟨B, false, rfl, rfl, by omega, by rw [if_neg (by simp)]; exact HE2, hidA (bl2 (bl2 HB.out b1) b2)⟩, by simp [bOf]⟩
end Go.Proofs.YtgkjpfebjhhdkaaDoor
