/- Parse of the program. Condition: a length that fits. -/
import Derived.Test.YtmminmdmhefefaaPme
namespace Go.Proofs.Ytmminmdmhefefaa
open Go.RowKit
namespace Pm
def orF (m : Int) (i : Nat) : List UInt8 → Int
  | [] => m
  | c :: cs => orF (bits .or .i64 m (bof c.toNat i)) (i + 1) cs
def parM (l : List UInt8) : Int :=
  match l with
  | c :: cs => orF (kof c.toNat) 1 cs
  | [] => 0
def parOk (l : List UInt8) : Bool := decide (l.length = 10) && decide (l.head? ≠ some 63) && decide (txt (parM l) = l)
def parR (l : List UInt8) : Int := if parOk l then parM l else 0
def parE (l : List UInt8) : Int := if parOk l then 0 else 22
end Pm
theorem get_eq (l : List UInt8) (i : Nat) (h : i < (⟨l.toArray⟩ : ByteArray).size) : (⟨l.toArray⟩ : ByteArray)[i] = l[i]'(by simpa [ByteArray.size] using h) := rfl
theorem ret_two' {a b c d : Int} (h : c = a) (k : d = b) : Ending.returned (.tuple #[.int .i64 a, .int .i64 b]) = .returned (.tuple #[.int .i64 c, .int .i64 d]) := by rw [h, k]
attribute [local go_sem] get_eq
set_option maxRecDepth 100000 in
set_option maxHeartbeats 2000000 in
theorem pParse (l : List UInt8) (w : World) (hl : l.length ≤ 2 ^ 60) : Calls Try.prog 7 #[.string ⟨l.toArray⟩] w fun e w' => e = .returned (.tuple #[.int .i64 (Pm.parR l), .int .i64 (Pm.parE l)]) ∧ Below w.heap.size w w' := by
  by_cases h10 : l.length = 10
  · have hp : 0 < l.length := by omega
    by_cases h63 : l[0] = 63
    · have hk : ((l[0].toNat : Int) == 63) = true := by rw [h63]; rfl
      have HE : Hid (Pm.parOk l = false) := by
        show _ = _
        cases l with
        | nil => rfl
        | cons c cs => simp at h63; subst h63; simp [Pm.parOk]
      have HK : Hid (Pm.parR l = 0 ∧ Pm.parE l = 22) := ⟨by simp [Pm.parR, HE.out], by simp [Pm.parE, HE.out]⟩
      have hlen : decide ((l.length : Int) = 10) = true := by simp; omega
      clear h63 HE
      go_enter Try.func7, Try.ntmps7
      go_wp2
      go_ret2
      exact ⟨ret_two' HK.out.1 HK.out.2, Below.refl _ _⟩
    · have hk : ((l[0].toNat : Int) == 63) = false := by
        have : l[0].toNat ≠ 63 := fun h => h63 (UInt8.toNat_inj.1 h)
        simp; omega
      have HH : Hid (l.head? ≠ some 63) := by
        show _ ≠ _
        cases l with
        | nil => simp
        | cons c cs => simpa using h63
      clear h63
      generalize hM : Pm.parM l = M
      have HM : Hid (Pm.parM l = M) := hM
      clear hM
      go_enter Try.func7, Try.ntmps7
      go_wp2_with fail
      refine (pKindOf _ _).mono ?_
      rintro e w' ⟨rfl, hw'⟩
      rw [hw']; clear hw' w'
      go_wp2_with fail
      go_loop [4, 5] (fun t s => ∃ (k : Nat) (m : Int), 1 ≤ k ∧ k ≤ 10 ∧ s = .int .i64 k ∧ t = .int .i64 m ∧ Hid (Pm.orF m k (l.drop k) = M)) (fun _ s => 10 - (intOf s).toNat)
      case atStart =>
        refine ⟨1, _, by omega, by omega, rfl, rfl, ?_⟩
        show _ = _
        rw [← HM.out]
        cases l with
        | nil => simp at hp
        | cons c cs => rfl
      case round =>
        obtain ⟨k, m, hk1, hk10, rfl, rfl, HN⟩ := hrel
        by_cases hlt : k < 10
        · have hkl : k < l.length := by omega
          have HN2 : Hid (Pm.orF (bits .or .i64 m (Pm.bof l[k].toNat k)) (k + 1) (l.drop (k + 1)) = M) := by
            show _ = _
            rw [← HN.out, List.drop_eq_getElem_cons hkl, Pm.orF]
          clear HN
          go_wp2_with (go_at_call 23; refine (pBitsOf _ k hk1 (by omega) _).mono ?_; rintro e w' ⟨rfl, rfl⟩)
          exact ⟨⟨k + 1, _, by omega, by omega, by go_num, rfl, HN2⟩, by simp [intOf]; omega⟩
        · obtain rfl : k = 10 := by omega
          have HN2 : Hid (m = M) := by
            show _ = _
            rw [← HN.out, List.drop_eq_nil_of_le (by omega), Pm.orF]
          clear HN
          obtain rfl := HN2.out
          clear HN2
          go_wp2_with fail
          refine (pText _ _).mono ?_
          rintro e w1 ⟨rfl, hB⟩
          have HB : Hid (Below w.heap.size w w1) := hB
          clear hB
          by_cases hT : Pm.txt m = l
          · have HK : Hid (Pm.parR l = m ∧ Pm.parE l = 0) := by
              have : Pm.parOk l = true := by simp [Pm.parOk, h10, HM.out, hT]; exact HH.out
              exact ⟨by simp [Pm.parR, this, HM.out], by simp [Pm.parE, this]⟩
            rw [hT]
            clear hT
            go_wp2_with fail
            go_ret2
            exact ⟨ret_two' HK.out.1 HK.out.2, HB⟩
          · have HK : Hid (Pm.parR l = 0 ∧ Pm.parE l = 22) := by
              have : Pm.parOk l = false := by simp [Pm.parOk, HM.out, hT]
              exact ⟨by simp [Pm.parR, this], by simp [Pm.parE, this]⟩
            have hTb : (Pm.txt m == l) = false := by simpa using hT
            go_wp2_with fail
            go_ret2
            exact ⟨ret_two' HK.out.1 HK.out.2, HB⟩
  · have HK : Hid (Pm.parR l = 0 ∧ Pm.parE l = 22) := by
      have : Pm.parOk l = false := by simp [Pm.parOk, h10]
      exact ⟨by simp [Pm.parR, this], by simp [Pm.parE, this]⟩
    have hlen : ((l.length : Int) == 10) = false := by simp; omega
    have hlen2 : ¬ (l.length : Int) = 10 := by omega
    go_enter Try.func7, Try.ntmps7
    go_wp2
    go_ret2
    exact ⟨ret_two' HK.out.1 HK.out.2, Below.refl _ _⟩
end Go.Proofs.Ytmminmdmhefefaa
