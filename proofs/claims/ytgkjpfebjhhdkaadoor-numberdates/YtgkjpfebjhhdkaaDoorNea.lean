/- Dates: the plain answer's Date, where the text has a dot third from its end and its form is wrong. No condition. -/
import Derived.Test.YtgkjpfebjhhdkaaDoorNe9
namespace Go.Proofs.YtgkjpfebjhhdkaaDoor
open Go.RowKit
attribute [local go_sem] ext_eq app_eq get_eq
set_option maxRecDepth 100000 in
set_option maxHeartbeats 4000000 in
theorem rDateD0 (A : List UInt8) (a b : UInt8) (now : Int) (w : World) (hl : A.length ≤ 2 ^ 47) (hbad : Na.pl 10 [a, b] = false ∨ (Na.pl 10 A = false ∨ (A.length ≠ 8 ∧ A.length ≠ 10 ∧ A.length ≠ 12))) :
    Calls Tryd.prog 27 #[.string ⟨(A ++ 46 :: [a, b]).toArray⟩, .int .i64 now] w fun e w' => (∃ v, DtR (A ++ 46 :: [a, b]) now v ∧ e = .returned (.tuple #[.int .i64 v.1, .int .i64 v.2])) ∧ Below w.heap.size w w' := by
  have HE : Hid (DtR (A ++ 46 :: [a, b]) now (0, 22)) := dtr_dot rfl (by
    split
    · rename_i hp; exact core_bad (hbad.resolve_left (by rw [hp]; decide))
    · rfl)
  have HG := hidA (fun W => rDigits 10 (by decide) A W (by omega))
  have HQ := hidA (fun W => rDigits 10 (by decide) [a, b] W (by simp))
  have HB : Hid (∀ n, Below w.heap.size w (w.drewN n)) := fun n => bl_drew w n
  have hlen : (A ++ 46 :: [a, b]).length = A.length + 3 := by simp
  have hget : (A ++ 46 :: [a, b])[A.length]? = some 46 := by simp
  have hdrop : (A ++ 46 :: [a, b]).drop (A.length + 1) = [a, b] := by
    rw [show A ++ 46 :: [a, b] = (A ++ [46]) ++ [a, b] by simp, List.drop_left' (by simp)]
  have htake : (A ++ 46 :: [a, b]).take A.length = A := List.take_left' rfl
  generalize A ++ 46 :: [a, b] = l at *
  obtain ⟨k, hk⟩ : ∃ k, A.length = k := ⟨_, rfl⟩
  obtain ⟨k1, hk1⟩ : ∃ k1, k + 1 = k1 := ⟨_, rfl⟩
  have hkl : k < l.length := by omega
  have hg : ((l[k].toNat : Int) == 46) = true := byte_yes _ 46 46 rfl (by rw [hk, List.getElem?_eq_getElem hkl] at hget; exact Option.some.inj hget)
  rw [hk] at hdrop htake
  rw [hk1] at hdrop
  have hw3 : IntKind.i64.wrap ((l.length : Int) - 3) = k := by rw [IntKind.wrap_i64]; omega
  have hw2 : IntKind.i64.wrap ((l.length : Int) - 2) = k1 := by rw [IntKind.wrap_i64]; omega
  have h3' : (3 : Int) ≤ l.length := by omega
  have i1 : (k : Int) < l.length := by omega
  have i2 : (k : Int) ≤ l.length := by omega
  have i3 : (k1 : Int) ≤ l.length := by omega
  have i4 : k1 ≤ l.length := by omega
  have i5 : k ≤ l.length := by omega
  have hAl : (A.length : Int) = k := by omega
  cases hq : Na.pl 10 [a, b] with
  | false =>
    rw [hq] at HQ
    clear hbad hget hlen hk hk1 hq hAl
    go_enter Tryd.func27, Tryd.ntmps27
    go_wp2_with (first | (go_at_call 37; refine (HQ.out _).mono ?_; rintro e w1 ⟨rfl, h1⟩; rw [h1]; clear h1 w1) | go_quiet (fail))
    go_ret2
    exact ⟨⟨(0, 22), HE.out, rfl⟩, by first | exact HB.out 0 | exact HB.out 1 | exact HB.out 2 | exact HB.out _⟩
  | true =>
    rw [hq] at HQ
    have hbad2 := hbad.resolve_left (by rw [hq]; decide)
    have da : Na.dig 10 a = true ∧ Na.dig 10 b = true := by have := pl_all hq; simpa using this
    have HVS := hidA (fun W => rVal2 a b da.1 da.2 W)
    generalize Na.tw [a, b] = sc at *
    clear hbad hget hlen hk1 hq da
    cases hp : Na.pl 10 A with
    | false =>
      rw [hp] at HG
      clear hbad2 hp hk hAl
      go_enter Tryd.func27, Tryd.ntmps27
      go_wp2_with (first | (go_at_call 37; with_reducible refine (HQ.out _).mono ?_; rintro e w1 ⟨rfl, h1⟩; rw [h1]; clear h1 w1) | (go_at_call 38; with_reducible refine (HVS.out _).mono ?_; rintro e w1 ⟨rfl, h1⟩; rw [h1]; clear h1 w1) | (go_at_call 37; with_reducible refine (HG.out _).mono ?_; rintro e w1 ⟨rfl, h1⟩; rw [h1]; clear h1 w1) | go_quiet (fail))
      go_ret2
      exact ⟨⟨(0, 22), HE.out, rfl⟩, by first | exact HB.out 0 | exact HB.out 1 | exact HB.out 2 | exact HB.out _⟩
    | true =>
      rw [hp] at HG
      obtain ⟨n8, n10, n12⟩ : A.length ≠ 8 ∧ A.length ≠ 10 ∧ A.length ≠ 12 := hbad2.resolve_left (by rw [hp]; decide)
      have g8 : ((A.length : Int) == 8) = false := by simp; omega
      have g10 : ((A.length : Int) == 10) = false := by simp; omega
      have g12 : ((A.length : Int) == 12) = false := by simp; omega
      have k8 : ((A.length : Int) != 8) = true := by rw [bne, g8]; rfl
      have k10 : ((A.length : Int) != 10) = true := by rw [bne, g10]; rfl
      have k12 : ((A.length : Int) != 12) = true := by rw [bne, g12]; rfl
      clear hbad2 hp hk hAl
      go_enter Tryd.func27, Tryd.ntmps27
      go_wp2_with (first | (go_at_call 37; with_reducible refine (HQ.out _).mono ?_; rintro e w1 ⟨rfl, h1⟩; rw [h1]; clear h1 w1) | (go_at_call 38; with_reducible refine (HVS.out _).mono ?_; rintro e w1 ⟨rfl, h1⟩; rw [h1]; clear h1 w1) | (go_at_call 37; with_reducible refine (HG.out _).mono ?_; rintro e w1 ⟨rfl, h1⟩; rw [h1]; clear h1 w1) | go_quiet (fail))
      go_ret2
      exact ⟨⟨(0, 22), HE.out, rfl⟩, by first | exact HB.out 0 | exact HB.out 1 | exact HB.out 2 | exact HB.out _⟩
end Go.Proofs.YtgkjpfebjhhdkaaDoor
