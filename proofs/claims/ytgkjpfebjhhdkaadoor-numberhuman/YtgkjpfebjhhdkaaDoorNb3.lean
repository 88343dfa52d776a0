/- The walk of the plain answer's Owner. Conditions: lengths that fit. -/
import Derived.Test.YtgkjpfebjhhdkaaDoorNb1
import Derived.Test.YtgkjpfebjhhdkaaDoorNa3
namespace Go.Proofs.YtgkjpfebjhhdkaaDoor
open Go.RowKit
attribute [local go_sem] ext_eq app_eq get_eq
/-- Where the look for the first colon stands, from behind. -/
def Ow (l : List UInt8) (i : Nat) (p : Nat) : Prop := (p = l.length ∧ ∀ j (hj : j < l.length), i ≤ j → l[j] ≠ 58) ∨ (∃ h : p < l.length, l[p] = 58 ∧ i ≤ p ∧ ∀ j (hj : j < l.length), i ≤ j → j < p → l[j] ≠ 58)
theorem Ow.hit {l : List UInt8} {i : Nat} (h : i < l.length) (hc : l[i] = 58) : Ow l i i := by
  refine .inr ⟨h, hc, Nat.le_refl _, fun j hj h1 h2 => ?_⟩
  omega
theorem Ow.pass {l : List UInt8} {i p : Nat} (H : Ow l (i + 1) p) (h : i < l.length) (hc : l[i] ≠ 58) : Ow l i p := by
  rcases H with ⟨rfl, h1⟩ | ⟨hp, h1, h2, h3⟩
  · refine .inl ⟨rfl, fun j hj hij => ?_⟩
    by_cases e : j = i
    · subst e; exact hc
    · exact h1 j hj (by omega)
  · refine .inr ⟨hp, h1, by omega, fun j hj hij hjp => ?_⟩
    by_cases e : j = i
    · subst e; exact hc
    · exact h3 j hj (by omega) hjp
set_option maxRecDepth 100000 in
set_option maxHeartbeats 8000000 in
theorem rOwner (l : List UInt8) (w : World) (hl : l.length ≤ 2 ^ 47) : Calls Tryd.prog 15 #[.string ⟨l.toArray⟩] w fun e w' => e = .returned (.tuple #[.int .i64 (Na.ownP l).1, .int .i64 (Na.ownP l).2.1, .int .i64 (Na.ownP l).2.2]) ∧ w' = w := by
  have hw0 : IntKind.i64.wrap ((l.length : Int) - 1) = (l.length : Int) - 1 := by rw [IntKind.wrap_i64]; omega
  go_enter Tryd.func15, Tryd.ntmps15
  go_wp2_with fail
  go_loop [5, 6] (fun a i => ∃ (p k : Nat) (z : Int), a = .int .i64 p ∧ i = .int .i64 z ∧ z = (k : Int) - 1 ∧ k ≤ l.length ∧ p ≤ l.length ∧ Hid (Ow l k p)) (fun _ i => (intOf i + 1).toNat)
  case atStart => exact ⟨l.length, l.length, _, rfl, rfl, rfl, Nat.le_refl _, Nat.le_refl _, .inl ⟨rfl, fun j hj h => by omega⟩⟩
  case round =>
    obtain ⟨p, k, z, rfl, rfl, hz, hk, hp, HO⟩ := hrel
    by_cases h0 : 0 ≤ z
    · obtain ⟨i, rfl⟩ : ∃ i : Nat, k = i + 1 := ⟨k - 1, by omega⟩
      obtain rfl : z = (i : Int) := by omega
      clear hz
      have hi : i < l.length := hk
      have hws : IntKind.i64.wrap ((i : Int) - 1) = (i : Int) - 1 := by rw [IntKind.wrap_i64]; omega
      by_cases hc : l[i] = 58
      · have hc' := byte_yes l[i] 58 58 rfl hc
        have HO2 : Hid (Ow l i i) := Ow.hit hi hc
        clear hc HO
        go_wp2
        exact ⟨⟨i, i, _, rfl, rfl, rfl, by omega, by omega, HO2⟩, by simp [intOf]⟩
      · have hc' := byte_no l[i] 58 58 rfl hc
        have HO2 : Hid (Ow l i p) := HO.out.pass hi hc
        clear hc HO
        go_wp2
        exact ⟨⟨p, i, _, rfl, rfl, rfl, by omega, hp, HO2⟩, by simp [intOf]⟩
    · obtain rfl : k = 0 := by omega
      obtain rfl : z = -1 := by omega
      clear hz
      rcases HO.out with ⟨rfl, h1⟩ | ⟨hpl, h1, -, h3⟩
      · obtain ⟨e1, e2, -⟩ := aheads_no (m := 58) (l := l) (fun j hj _ => h1 j hj (Nat.zero_le _))
        have HE0 : Hid (Na.ownP l = Na.ownQ l []) := by show _ = _; unfold Na.ownP; rw [e1, e2]
        clear HO h1 e1 e2
        have hA : l.take l.length = l := List.take_length
        cases heA : l.isEmpty with
        | true =>
          have HE : Hid (Na.ownP l = (0, 0, 22)) := by show _ = _; rw [HE0.out]; simp [Na.ownQ, Na.opt, heA]
          clear HE0
          go_wp2_with (first | (go_at_call 37; first | (with_reducible refine HPA.out.mono ?_; rintro e w1 ⟨rfl, rfl⟩) | (with_reducible refine HPB.out.mono ?_; rintro e w2 ⟨rfl, rfl⟩)) | (go_at_call 38; first | (with_reducible refine HVA.out.mono ?_; rintro e w3 ⟨rfl, rfl⟩) | (with_reducible refine HVB.out.mono ?_; rintro e w4 ⟨rfl, rfl⟩)))
          go_ret3
          exact ⟨by rw [HE.out]; rfl, rfl⟩
        | false =>
          have HPA := hidA (rDigits 10 (by decide) l w (by omega))
          cases hpA : Na.pl 10 l with
          | false =>
            rw [hpA] at HPA
            have HE : Hid (Na.ownP l = (0, 0, 22)) := by show _ = _; rw [HE0.out]; simp [Na.ownQ, Na.opt, heA, hpA]
            clear HE0
            go_wp2_with (first | (go_at_call 37; first | (with_reducible refine HPA.out.mono ?_; rintro e w1 ⟨rfl, rfl⟩) | (with_reducible refine HPB.out.mono ?_; rintro e w2 ⟨rfl, rfl⟩)) | (go_at_call 38; first | (with_reducible refine HVA.out.mono ?_; rintro e w3 ⟨rfl, rfl⟩) | (with_reducible refine HVB.out.mono ?_; rintro e w4 ⟨rfl, rfl⟩)))
            go_ret3
            exact ⟨by rw [HE.out]; rfl, rfl⟩
          | true =>
            rw [hpA] at HPA
            have HVA := hidA (rValue 10 2147483647 (by decide) (by decide) l (pl_all hpA) w (by omega))
            cases hvA : Na.vl 10 2147483647 0 l with
            | none =>
              simp only [hvA, Option.getD_none, Option.isSome_none] at HVA
              have HE : Hid (Na.ownP l = (0, 0, 34)) := by show _ = _; rw [HE0.out]; simp [Na.ownQ, Na.opt, Na.own, heA, hpA, hvA]
              clear HE0
              go_wp2_with (first | (go_at_call 37; first | (with_reducible refine HPA.out.mono ?_; rintro e w1 ⟨rfl, rfl⟩) | (with_reducible refine HPB.out.mono ?_; rintro e w2 ⟨rfl, rfl⟩)) | (go_at_call 38; first | (with_reducible refine HVA.out.mono ?_; rintro e w3 ⟨rfl, rfl⟩) | (with_reducible refine HVB.out.mono ?_; rintro e w4 ⟨rfl, rfl⟩)))
              go_ret3
              exact ⟨by rw [HE.out]; rfl, rfl⟩
            | some u =>
              simp only [hvA, Option.getD_some, Option.isSome_some] at HVA
              have HE : Hid (Na.ownP l = (u, -1, 0)) := by show _ = _; rw [HE0.out]; simp [Na.ownQ, Na.opt, Na.own, heA, hpA, hvA]
              clear HE0
              go_wp2_with (first | (go_at_call 37; first | (with_reducible refine HPA.out.mono ?_; rintro e w1 ⟨rfl, rfl⟩) | (with_reducible refine HPB.out.mono ?_; rintro e w2 ⟨rfl, rfl⟩)) | (go_at_call 38; first | (with_reducible refine HVA.out.mono ?_; rintro e w3 ⟨rfl, rfl⟩) | (with_reducible refine HVB.out.mono ?_; rintro e w4 ⟨rfl, rfl⟩)))
              go_ret3
              exact ⟨by rw [HE.out]; rfl, rfl⟩
      · obtain ⟨e1, e2, -⟩ := aheads hpl (fun j hj hjp => h3 j hj (Nat.zero_le _) hjp) h1
        have HE00 : Hid (Na.ownP l = Na.ownQ (l.take p) (l.drop (p + 1))) := by show _ = _; unfold Na.ownP; rw [e1, e2]
        clear HO h1 h3 e1 e2
        have hAl : (l.take p).length ≤ l.length := List.length_take_le' _ _
        have hBl : (l.drop (p + 1)).length ≤ l.length := by rw [List.length_drop]; omega
        have htl : List.take l.length l = l := List.take_length
        have hwp : IntKind.i64.wrap ((p : Int) + 1) = ((p + 1 : Nat) : Int) := by rw [IntKind.wrap_i64]; omega
        obtain ⟨A, hA⟩ : ∃ A, l.take p = A := ⟨_, rfl⟩
        obtain ⟨B, hB⟩ : ∃ B, l.drop (p + 1) = B := ⟨_, rfl⟩
        have HE0 : Hid (Na.ownP l = Na.ownQ A B) := by show _ = _; rw [HE00.out, hA, hB]
        rw [hA] at hAl
        rw [hB] at hBl
        clear HE00
        cases heA : A.isEmpty with
        | true =>
          cases heB : B.isEmpty with
          | true =>
            have HE : Hid (Na.ownP l = (0, 0, 22)) := by show _ = _; rw [HE0.out]; simp [Na.ownQ, Na.opt, heA, heB]
            clear HE0
            go_wp2_with (first | (go_at_call 37; first | (with_reducible refine HPA.out.mono ?_; rintro e w1 ⟨rfl, rfl⟩) | (with_reducible refine HPB.out.mono ?_; rintro e w2 ⟨rfl, rfl⟩)) | (go_at_call 38; first | (with_reducible refine HVA.out.mono ?_; rintro e w3 ⟨rfl, rfl⟩) | (with_reducible refine HVB.out.mono ?_; rintro e w4 ⟨rfl, rfl⟩)))
            go_ret3
            exact ⟨by rw [HE.out]; rfl, rfl⟩
          | false =>
            have HPB := hidA (rDigits 10 (by decide) B w (by omega))
            cases hpB : Na.pl 10 B with
            | false =>
              rw [hpB] at HPB
              have HE : Hid (Na.ownP l = (0, 0, 22)) := by show _ = _; rw [HE0.out]; simp [Na.ownQ, Na.opt, heA, heB, hpB]
              clear HE0
              go_wp2_with (first | (go_at_call 37; first | (with_reducible refine HPA.out.mono ?_; rintro e w1 ⟨rfl, rfl⟩) | (with_reducible refine HPB.out.mono ?_; rintro e w2 ⟨rfl, rfl⟩)) | (go_at_call 38; first | (with_reducible refine HVA.out.mono ?_; rintro e w3 ⟨rfl, rfl⟩) | (with_reducible refine HVB.out.mono ?_; rintro e w4 ⟨rfl, rfl⟩)))
              go_ret3
              exact ⟨by rw [HE.out]; rfl, rfl⟩
            | true =>
              rw [hpB] at HPB
              have HVB := hidA (rValue 10 2147483647 (by decide) (by decide) B (pl_all hpB) w (by omega))
              cases hvB : Na.vl 10 2147483647 0 B with
              | none =>
                simp only [hvB, Option.getD_none, Option.isSome_none] at HVB
                have HE : Hid (Na.ownP l = (0, 0, 34)) := by show _ = _; rw [HE0.out]; simp [Na.ownQ, Na.opt, Na.own, heA, heB, hpB, hvB]
                clear HE0
                go_wp2_with (first | (go_at_call 37; first | (with_reducible refine HPA.out.mono ?_; rintro e w1 ⟨rfl, rfl⟩) | (with_reducible refine HPB.out.mono ?_; rintro e w2 ⟨rfl, rfl⟩)) | (go_at_call 38; first | (with_reducible refine HVA.out.mono ?_; rintro e w3 ⟨rfl, rfl⟩) | (with_reducible refine HVB.out.mono ?_; rintro e w4 ⟨rfl, rfl⟩)))
                go_ret3
                exact ⟨by rw [HE.out]; rfl, rfl⟩
              | some g =>
                simp only [hvB, Option.getD_some, Option.isSome_some] at HVB
                have HE : Hid (Na.ownP l = (-1, g, 0)) := by show _ = _; rw [HE0.out]; simp [Na.ownQ, Na.opt, Na.own, heA, heB, hpB, hvB]
                clear HE0
                go_wp2_with (first | (go_at_call 37; first | (with_reducible refine HPA.out.mono ?_; rintro e w1 ⟨rfl, rfl⟩) | (with_reducible refine HPB.out.mono ?_; rintro e w2 ⟨rfl, rfl⟩)) | (go_at_call 38; first | (with_reducible refine HVA.out.mono ?_; rintro e w3 ⟨rfl, rfl⟩) | (with_reducible refine HVB.out.mono ?_; rintro e w4 ⟨rfl, rfl⟩)))
                go_ret3
                exact ⟨by rw [HE.out]; rfl, rfl⟩
        | false =>
          have HPA := hidA (rDigits 10 (by decide) A w (by omega))
          cases hpA : Na.pl 10 A with
          | false =>
            rw [hpA] at HPA
            have HE : Hid (Na.ownP l = (0, 0, 22)) := by show _ = _; rw [HE0.out]; simp [Na.ownQ, Na.opt, heA, hpA]
            clear HE0
            go_wp2_with (first | (go_at_call 37; first | (with_reducible refine HPA.out.mono ?_; rintro e w1 ⟨rfl, rfl⟩) | (with_reducible refine HPB.out.mono ?_; rintro e w2 ⟨rfl, rfl⟩)) | (go_at_call 38; first | (with_reducible refine HVA.out.mono ?_; rintro e w3 ⟨rfl, rfl⟩) | (with_reducible refine HVB.out.mono ?_; rintro e w4 ⟨rfl, rfl⟩)))
            go_ret3
            exact ⟨by rw [HE.out]; rfl, rfl⟩
          | true =>
            rw [hpA] at HPA
            cases heB : B.isEmpty with
            | true =>
              have HVA := hidA (rValue 10 2147483647 (by decide) (by decide) A (pl_all hpA) w (by omega))
              cases hvA : Na.vl 10 2147483647 0 A with
              | none =>
                simp only [hvA, Option.getD_none, Option.isSome_none] at HVA
                have HE : Hid (Na.ownP l = (0, 0, 34)) := by show _ = _; rw [HE0.out]; simp [Na.ownQ, Na.opt, Na.own, heA, heB, hpA, hvA]
                clear HE0
                go_wp2_with (first | (go_at_call 37; first | (with_reducible refine HPA.out.mono ?_; rintro e w1 ⟨rfl, rfl⟩) | (with_reducible refine HPB.out.mono ?_; rintro e w2 ⟨rfl, rfl⟩)) | (go_at_call 38; first | (with_reducible refine HVA.out.mono ?_; rintro e w3 ⟨rfl, rfl⟩) | (with_reducible refine HVB.out.mono ?_; rintro e w4 ⟨rfl, rfl⟩)))
                go_ret3
                exact ⟨by rw [HE.out]; rfl, rfl⟩
              | some u =>
                simp only [hvA, Option.getD_some, Option.isSome_some] at HVA
                have HE : Hid (Na.ownP l = (u, -1, 0)) := by show _ = _; rw [HE0.out]; simp [Na.ownQ, Na.opt, Na.own, heA, heB, hpA, hvA]
                clear HE0
                go_wp2_with (first | (go_at_call 37; first | (with_reducible refine HPA.out.mono ?_; rintro e w1 ⟨rfl, rfl⟩) | (with_reducible refine HPB.out.mono ?_; rintro e w2 ⟨rfl, rfl⟩)) | (go_at_call 38; first | (with_reducible refine HVA.out.mono ?_; rintro e w3 ⟨rfl, rfl⟩) | (with_reducible refine HVB.out.mono ?_; rintro e w4 ⟨rfl, rfl⟩)))
                go_ret3
                exact ⟨by rw [HE.out]; rfl, rfl⟩
            | false =>
              have HPB := hidA (rDigits 10 (by decide) B w (by omega))
              cases hpB : Na.pl 10 B with
              | false =>
                rw [hpB] at HPB
                have HE : Hid (Na.ownP l = (0, 0, 22)) := by show _ = _; rw [HE0.out]; simp [Na.ownQ, Na.opt, heA, heB, hpA, hpB]
                clear HE0
                go_wp2_with (first | (go_at_call 37; first | (with_reducible refine HPA.out.mono ?_; rintro e w1 ⟨rfl, rfl⟩) | (with_reducible refine HPB.out.mono ?_; rintro e w2 ⟨rfl, rfl⟩)) | (go_at_call 38; first | (with_reducible refine HVA.out.mono ?_; rintro e w3 ⟨rfl, rfl⟩) | (with_reducible refine HVB.out.mono ?_; rintro e w4 ⟨rfl, rfl⟩)))
                go_ret3
                exact ⟨by rw [HE.out]; rfl, rfl⟩
              | true =>
                rw [hpB] at HPB
                have HVA := hidA (rValue 10 2147483647 (by decide) (by decide) A (pl_all hpA) w (by omega))
                cases hvA : Na.vl 10 2147483647 0 A with
                | none =>
                  simp only [hvA, Option.getD_none, Option.isSome_none] at HVA
                  have HE : Hid (Na.ownP l = (0, 0, 34)) := by show _ = _; rw [HE0.out]; simp [Na.ownQ, Na.opt, Na.own, heA, heB, hpA, hpB, hvA]
                  clear HE0
                  go_wp2_with (first | (go_at_call 37; first | (with_reducible refine HPA.out.mono ?_; rintro e w1 ⟨rfl, rfl⟩) | (with_reducible refine HPB.out.mono ?_; rintro e w2 ⟨rfl, rfl⟩)) | (go_at_call 38; first | (with_reducible refine HVA.out.mono ?_; rintro e w3 ⟨rfl, rfl⟩) | (with_reducible refine HVB.out.mono ?_; rintro e w4 ⟨rfl, rfl⟩)))
                  go_ret3
                  exact ⟨by rw [HE.out]; rfl, rfl⟩
                | some u =>
                  simp only [hvA, Option.getD_some, Option.isSome_some] at HVA
                  have HVB := hidA (rValue 10 2147483647 (by decide) (by decide) B (pl_all hpB) w (by omega))
                  cases hvB : Na.vl 10 2147483647 0 B with
                  | none =>
                    simp only [hvB, Option.getD_none, Option.isSome_none] at HVB
                    have HE : Hid (Na.ownP l = (0, 0, 34)) := by show _ = _; rw [HE0.out]; simp [Na.ownQ, Na.opt, Na.own, heA, heB, hpA, hpB, hvA, hvB]
                    clear HE0
                    go_wp2_with (first | (go_at_call 37; first | (with_reducible refine HPA.out.mono ?_; rintro e w1 ⟨rfl, rfl⟩) | (with_reducible refine HPB.out.mono ?_; rintro e w2 ⟨rfl, rfl⟩)) | (go_at_call 38; first | (with_reducible refine HVA.out.mono ?_; rintro e w3 ⟨rfl, rfl⟩) | (with_reducible refine HVB.out.mono ?_; rintro e w4 ⟨rfl, rfl⟩)))
                    go_ret3
                    exact ⟨by rw [HE.out]; rfl, rfl⟩
                  | some g =>
                    simp only [hvB, Option.getD_some, Option.isSome_some] at HVB
                    have HE : Hid (Na.ownP l = (u, g, 0)) := by show _ = _; rw [HE0.out]; simp [Na.ownQ, Na.opt, Na.own, heA, heB, hpA, hpB, hvA, hvB]
                    clear HE0
                    go_wp2_with (first | (go_at_call 37; first | (with_reducible refine HPA.out.mono ?_; rintro e w1 ⟨rfl, rfl⟩) | (with_reducible refine HPB.out.mono ?_; rintro e w2 ⟨rfl, rfl⟩)) | (go_at_call 38; first | (with_reducible refine HVA.out.mono ?_; rintro e w3 ⟨rfl, rfl⟩) | (with_reducible refine HVB.out.mono ?_; rintro e w4 ⟨rfl, rfl⟩)))
                    go_ret3
                    exact ⟨by rw [HE.out]; rfl, rfl⟩
end Go.Proofs.YtgkjpfebjhhdkaaDoor
