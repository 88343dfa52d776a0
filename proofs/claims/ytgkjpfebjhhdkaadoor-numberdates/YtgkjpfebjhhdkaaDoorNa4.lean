/- The walk of the program's Owner. Conditions: lengths that fit. -/
import Derived.Test.YtgkjpfebjhhdkaaDoorNa3
namespace Go.Proofs.YtgkjpfebjhhdkaaDoor
open Go.RowKit
attribute [local go_sem] ext_eq app_eq get_eq
theorem ahead_len (m : UInt8) (l : List UInt8) : (Na.ahead m l).length ≤ l.length := (List.takeWhile_sublist _).length_le
theorem behind_len (m : UInt8) (l : List UInt8) : (Na.behind m l).length ≤ l.length := by
  unfold Na.behind
  rw [List.length_tail]
  have := (List.dropWhile_sublist (l := l) (fun c => decide (c ≠ m))).length_le
  omega
set_option maxRecDepth 100000 in
set_option maxHeartbeats 4000000 in
theorem nOwner (l : List UInt8) (w : World) (hl : l.length ≤ 2 ^ 47) : Calls Tryd.prog 11 #[.string ⟨l.toArray⟩] w fun e w' => e = .returned (.tuple #[.int .i64 (Na.ownP l).1, .int .i64 (Na.ownP l).2.1, .int .i64 (Na.ownP l).2.2]) ∧ Below w.heap.size w w' := by
  have HC := hidA (nCut 58 (by decide) l w hl)
  have HE0 : Hid (Na.ownP l = Na.ownQ (Na.ahead 58 l) (Na.behind 58 l)) := rfl
  generalize Na.ahead 58 l = A at HC HE0
  generalize Na.behind 58 l = B at HC HE0
  have HO := hidA (fun (l : List UInt8) (w : World) => nOptional l w)
  have HN := hidA (fun (l : List UInt8) (w : World) => nOwnerNumber l w)
  cases ho1 : Na.opt A with
  | false =>
    have he1 : A.isEmpty = false := by cases A with
      | nil => simp [Na.opt] at ho1
      | cons c r => rfl
    have HE : Hid (Na.ownP l = (0, 0, 22)) := by show _ = _; rw [HE0.out, Na.ownQ, ho1, he1]; rfl
    have HO1 := hidA (HO.out A)
    rw [ho1] at HO1
    clear HE0 HN ho1 HO
    go_enter Tryd.func11, Tryd.ntmps11
    go_wp2_with (first | (go_at_call 34; refine HC.out.mono ?_; rintro e w1 ⟨rfl, b1⟩) | (go_at_call 35; refine (HO1.out _).mono ?_; rintro e w2 ⟨rfl, b2⟩))
    go_ret3
    exact ⟨by rw [HE.out]; rfl, b1.trans (b2.mono b1.size)⟩
  | true =>
    cases ho2 : Na.opt B with
    | false =>
      have he2 : B.isEmpty = false := by cases B with
        | nil => simp [Na.opt] at ho2
        | cons c r => rfl
      have HE : Hid (Na.ownP l = (0, 0, 22)) := by show _ = _; rw [HE0.out, Na.ownQ, ho1, ho2, he2]; simp
      have HO1 := hidA (HO.out A)
      have HO2 := hidA (HO.out B)
      rw [ho1] at HO1
      rw [ho2] at HO2
      clear HE0 HN ho1 ho2 HO
      cases he1 : A.isEmpty
      · go_enter Tryd.func11, Tryd.ntmps11
        go_wp2_with (first | (go_at_call 34; refine HC.out.mono ?_; rintro e w1 ⟨rfl, b1⟩) | (go_at_call 35; first | (with_reducible refine (HO1.out _).mono ?_; rintro e w2 ⟨rfl, b2⟩) | (with_reducible refine (HO2.out _).mono ?_; rintro e w3 ⟨rfl, b3⟩)))
        go_ret3
        exact ⟨by rw [HE.out]; rfl, bl2 (bl2 b1 b2) b3⟩
      · go_enter Tryd.func11, Tryd.ntmps11
        go_wp2_with (first | (go_at_call 34; refine HC.out.mono ?_; rintro e w1 ⟨rfl, b1⟩) | (go_at_call 35; first | (with_reducible refine (HO1.out _).mono ?_; rintro e w2 ⟨rfl, b2⟩) | (with_reducible refine (HO2.out _).mono ?_; rintro e w3 ⟨rfl, b3⟩)))
        go_ret3
        exact ⟨by rw [HE.out]; rfl, bl2 (bl2 b1 b2) b3⟩
    | true =>
      by_cases hee : A.isEmpty = true ∧ B.isEmpty = true
      · obtain ⟨he1, he2⟩ := hee
        have HE : Hid (Na.ownP l = (0, 0, 22)) := by show _ = _; rw [HE0.out, Na.ownQ, he1, he2]; rfl
        clear HE0 HN ho1 ho2 HO
        go_enter Tryd.func11, Tryd.ntmps11
        go_wp2_with (go_at_call 34; refine HC.out.mono ?_; rintro e w1 ⟨rfl, b1⟩)
        go_ret3
        exact ⟨by rw [HE.out]; rfl, b1⟩
      · have hec : (A.isEmpty && B.isEmpty) = false := by
          cases h1 : A.isEmpty with
          | false => rfl
          | true => cases h2 : B.isEmpty with
            | false => rfl
            | true => exact absurd ⟨h1, h2⟩ hee
        have HE1 : Hid (Na.ownP l = match Na.own A, Na.own B with | some u, some g => (u, g, 0) | _, _ => (0, 0, 34)) := by show _ = _; rw [HE0.out, Na.ownQ, ho1, ho2, hec]; rfl
        have HN1 := hidA (fun w => HN.out A w ho1)
        have HN2 := hidA (fun w => HN.out B w ho2)
        have HO1 := hidA (HO.out A)
        have HO2 := hidA (HO.out B)
        rw [ho1] at HO1
        rw [ho2] at HO2
        clear HE0 HN ho1 ho2 HO hee
        have HEE : Hid (∀ u v : Option Int, Na.own A = u → Na.own B = v → Na.ownP l = (match u, v with | some u, some g => (u, g, 0) | _, _ => (0, 0, 34))) := by
          intro u v e1 e2; rw [HE1.out, e1, e2]
        clear HE1
        cases hA : Na.own A with
        | none =>
          have HE : Hid (Na.ownP l = (0, 0, 34)) := HEE.out none _ hA rfl
          simp only [hA, Option.getD_none, Option.isSome_none] at HN1
          clear HEE hA
          cases he1 : A.isEmpty
          · clear hec
            go_enter Tryd.func11, Tryd.ntmps11
            go_wp2_with (first | (go_at_call 34; refine HC.out.mono ?_; rintro e w1 ⟨rfl, b1⟩) | (go_at_call 35; first | (with_reducible refine (HO1.out _).mono ?_; rintro e w2 ⟨rfl, b2⟩) | (with_reducible refine (HO2.out _).mono ?_; rintro e w3 ⟨rfl, b3⟩)) | (go_at_call 36; first | (with_reducible refine (HN1.out _).mono ?_; rintro e w4 ⟨rfl, b4⟩) | (with_reducible refine (HN2.out _).mono ?_; rintro e w5 ⟨rfl, b5⟩)))
            go_ret3
            exact ⟨by rw [HE.out]; rfl, bl2 (bl2 (bl2 (bl2 b1 b2) b3) b4) b5⟩
          · have he2 : B.isEmpty = false := by rw [he1] at hec; simpa using hec
            clear hec
            go_enter Tryd.func11, Tryd.ntmps11
            go_wp2_with (first | (go_at_call 34; refine HC.out.mono ?_; rintro e w1 ⟨rfl, b1⟩) | (go_at_call 35; first | (with_reducible refine (HO1.out _).mono ?_; rintro e w2 ⟨rfl, b2⟩) | (with_reducible refine (HO2.out _).mono ?_; rintro e w3 ⟨rfl, b3⟩)) | (go_at_call 36; first | (with_reducible refine (HN1.out _).mono ?_; rintro e w4 ⟨rfl, b4⟩) | (with_reducible refine (HN2.out _).mono ?_; rintro e w5 ⟨rfl, b5⟩)))
            go_ret3
            exact ⟨by rw [HE.out]; rfl, bl2 (bl2 (bl2 (bl2 b1 b2) b3) b4) b5⟩
        | some u =>
          cases hB : Na.own B with
          | none =>
            have HE : Hid (Na.ownP l = (0, 0, 34)) := HEE.out _ none hA hB
            simp only [hA, Option.getD_some, Option.isSome_some] at HN1
            simp only [hB, Option.getD_none, Option.isSome_none] at HN2
            clear HEE hA hB
            cases he1 : A.isEmpty
            · clear hec
              go_enter Tryd.func11, Tryd.ntmps11
              go_wp2_with (first | (go_at_call 34; refine HC.out.mono ?_; rintro e w1 ⟨rfl, b1⟩) | (go_at_call 35; first | (with_reducible refine (HO1.out _).mono ?_; rintro e w2 ⟨rfl, b2⟩) | (with_reducible refine (HO2.out _).mono ?_; rintro e w3 ⟨rfl, b3⟩)) | (go_at_call 36; first | (with_reducible refine (HN1.out _).mono ?_; rintro e w4 ⟨rfl, b4⟩) | (with_reducible refine (HN2.out _).mono ?_; rintro e w5 ⟨rfl, b5⟩)))
              go_ret3
              exact ⟨by rw [HE.out]; rfl, bl2 (bl2 (bl2 (bl2 b1 b2) b3) b4) b5⟩
            · have he2 : B.isEmpty = false := by rw [he1] at hec; simpa using hec
              clear hec
              go_enter Tryd.func11, Tryd.ntmps11
              go_wp2_with (first | (go_at_call 34; refine HC.out.mono ?_; rintro e w1 ⟨rfl, b1⟩) | (go_at_call 35; first | (with_reducible refine (HO1.out _).mono ?_; rintro e w2 ⟨rfl, b2⟩) | (with_reducible refine (HO2.out _).mono ?_; rintro e w3 ⟨rfl, b3⟩)) | (go_at_call 36; first | (with_reducible refine (HN1.out _).mono ?_; rintro e w4 ⟨rfl, b4⟩) | (with_reducible refine (HN2.out _).mono ?_; rintro e w5 ⟨rfl, b5⟩)))
              go_ret3
              exact ⟨by rw [HE.out]; rfl, bl2 (bl2 (bl2 (bl2 b1 b2) b3) b4) b5⟩
          | some g =>
            have HE : Hid (Na.ownP l = (u, g, 0)) := HEE.out _ _ hA hB
            simp only [hA, Option.getD_some, Option.isSome_some] at HN1
            simp only [hB, Option.getD_some, Option.isSome_some] at HN2
            clear HEE hA hB
            cases he1 : A.isEmpty
            · clear hec
              go_enter Tryd.func11, Tryd.ntmps11
              go_wp2_with (first | (go_at_call 34; refine HC.out.mono ?_; rintro e w1 ⟨rfl, b1⟩) | (go_at_call 35; first | (with_reducible refine (HO1.out _).mono ?_; rintro e w2 ⟨rfl, b2⟩) | (with_reducible refine (HO2.out _).mono ?_; rintro e w3 ⟨rfl, b3⟩)) | (go_at_call 36; first | (with_reducible refine (HN1.out _).mono ?_; rintro e w4 ⟨rfl, b4⟩) | (with_reducible refine (HN2.out _).mono ?_; rintro e w5 ⟨rfl, b5⟩)))
              go_ret3
              exact ⟨by rw [HE.out]; rfl, bl2 (bl2 (bl2 (bl2 b1 b2) b3) b4) b5⟩
            · have he2 : B.isEmpty = false := by rw [he1] at hec; simpa using hec
              clear hec
              go_enter Tryd.func11, Tryd.ntmps11
              go_wp2_with (first | (go_at_call 34; refine HC.out.mono ?_; rintro e w1 ⟨rfl, b1⟩) | (go_at_call 35; first | (with_reducible refine (HO1.out _).mono ?_; rintro e w2 ⟨rfl, b2⟩) | (with_reducible refine (HO2.out _).mono ?_; rintro e w3 ⟨rfl, b3⟩)) | (go_at_call 36; first | (with_reducible refine (HN1.out _).mono ?_; rintro e w4 ⟨rfl, b4⟩) | (with_reducible refine (HN2.out _).mono ?_; rintro e w5 ⟨rfl, b5⟩)))
              go_ret3
              exact ⟨by rw [HE.out]; rfl, bl2 (bl2 (bl2 (bl2 b1 b2) b3) b4) b5⟩
end Go.Proofs.YtgkjpfebjhhdkaaDoor
