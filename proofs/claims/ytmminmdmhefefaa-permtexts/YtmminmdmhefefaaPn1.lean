/- The plain answer's three, Text and Octal. No condition. -/
import Derived.Test.YtmminmdmhefefaaPm4
namespace Go.Proofs.Ytmminmdmhefefaa
open Go.RowKit
namespace Pm
def two (y : Int) : List UInt8 := [b8 (chr y 4 114), b8 (chr y 2 119)]
def thd (y : Int) (ex : Bool) (on off : List UInt8) : List UInt8 := if ex then (if tb y 1 then on else off) else (if tb y 1 then [120] else [45])
def sOf (xs : List UInt8) : ByteArray := ⟨xs.toArray⟩
theorem and7q (x q : Int) : bits .and .i64 (x / q) 7 = x / q % 8 := and_mask (x / q) 3 (by decide)
theorem tb_sub (m s q r : Int) (h : m / s % 8 / q % 2 = m / r % 2) : tb (bits .and .i64 (m / s) 7) q = tb m r := by
  unfold tb
  rw [and7q, h]
theorem three_eq (m s r4 r2 r1 qs c : Int) (h4 : m / s % 8 / 4 % 2 = m / r4 % 2) (h2 : m / s % 8 / 2 % 2 = m / r2 % 2) (h1 : m / s % 8 / 1 % 2 = m / r1 % 2) (hq : qs ∈ ([1, 2, 4, 8, 16, 32, 64, 128, 256, 512, 1024, 2048] : List Int)) :
    two (bits .and .i64 (m / s) 7) ++ thd (bits .and .i64 (m / s) 7) (bits .and .i64 m qs != 0) [b8 c] [b8 (c - 32)] = [b8 (chr m r4 114), b8 (chr m r2 119), b8 (trd m r1 qs c)] := by
  rw [ne_bit m qs hq]
  unfold two thd chr
  rw [tb_sub m s 4 r4 h4, tb_sub m s 2 r2 h2, tb_sub m s 1 r1 h1]
  unfold trd spc chr
  cases tb m qs <;> cases tb m r1 <;> simp <;> rfl
end Pm
theorem app_eq (a b : List UInt8) : (⟨a.toArray⟩ : ByteArray) ++ (⟨b.toArray⟩ : ByteArray) = ⟨(a ++ b).toArray⟩ := by
  apply ByteArray.ext
  simp [ByteArray.data_append]
theorem ret_str {a b : List UInt8} (h : a = b) : Ending.returned (.string ⟨a.toArray⟩) = .returned (.string ⟨b.toArray⟩) := by rw [h]
attribute [local go_sem] app_eq
set_option maxRecDepth 100000 in
set_option maxHeartbeats 1000000 in
theorem rThree (y : Int) (ex : Bool) (on off : List UInt8) (w : World) (h1 : on.length ≤ 100) (h2 : off.length ≤ 100) :
    Calls Try.prog 29 #[.int .i64 y, .bool ex, .string ⟨on.toArray⟩, .string ⟨off.toArray⟩] w fun e w' => e = .returned (.string ⟨(Pm.two y ++ Pm.thd y ex on off).toArray⟩) ∧ w' = w := by
  have n4 := Pm.ne_bit y 4 (by simp)
  have n2 := Pm.ne_bit y 2 (by simp)
  have n1 := Pm.ne_bit y 1 (by simp)
  have N4 : Hid ((bits .and .i64 y 4 != 0) = Pm.tb y 4) := n4
  have N2 : Hid ((bits .and .i64 y 2 != 0) = Pm.tb y 2) := n2
  have N1 : Hid ((bits .and .i64 y 1 != 0) = Pm.tb y 1) := n1
  clear n4 n2 n1
  have hi0 : ∀ w, (Instr.index 65 (.agg #[.string ⟨#[114]⟩, .string ⟨#[119]⟩]) (.int .i64 0)).run Try.prog w = .ok (.string ⟨#[114]⟩) w := fun _ => by kernel_rfl
  have hi1 : ∀ w, (Instr.index 65 (.agg #[.string ⟨#[114]⟩, .string ⟨#[119]⟩]) (.int .i64 1)).run Try.prog w = .ok (.string ⟨#[119]⟩) w := fun _ => by kernel_rfl
  go_enter Try.func29, Try.ntmps29
  go_wp2
  go_loop [9, 14] (fun s i => ∃ k : Nat, k ≤ 2 ∧ i = .int .i64 k ∧ s = .string ⟨((Pm.two y).take k).toArray⟩) (fun _ i => 2 - (intOf i).toNat)
  case atStart => exact ⟨0, by omega, rfl, rfl⟩
  case round =>
    obtain ⟨k, hk, rfl, rfl⟩ := hrel
    obtain rfl | rfl | rfl : k = 0 ∨ k = 1 ∨ k = 2 := by omega
    · cases t4 : Pm.tb y 4
      · have n4 := N4.out
        rw [t4] at n4
        have HE : Hid ((Pm.two y).take 1 = [45]) := by show _ = _; simp only [Pm.two, Pm.chr, t4]; rfl
        go_wp2
        exact ⟨⟨1, by omega, rfl, by rw [HE.out]⟩, by decide⟩
      · have n4 := N4.out
        rw [t4] at n4
        have HE : Hid ((Pm.two y).take 1 = [114]) := by show _ = _; simp only [Pm.two, Pm.chr, t4]; rfl
        go_wp2
        exact ⟨⟨1, by omega, rfl, by rw [HE.out]⟩, by decide⟩
    · have hT : ((Pm.two y).take 1).length ≤ 1 := by simp [Pm.two]
      cases t2 : Pm.tb y 2
      · have n2 := N2.out
        rw [t2] at n2
        have HE : Hid ((Pm.two y).take 2 = (Pm.two y).take 1 ++ [45]) := by show _ = _; simp only [Pm.two, Pm.chr, t2]; rfl
        generalize (Pm.two y).take 1 = T at *
        go_wp2
        exact ⟨⟨2, by omega, rfl, by rw [HE.out]⟩, by decide⟩
      · have n2 := N2.out
        rw [t2] at n2
        have HE : Hid ((Pm.two y).take 2 = (Pm.two y).take 1 ++ [119]) := by show _ = _; simp only [Pm.two, Pm.chr, t2]; rfl
        generalize (Pm.two y).take 1 = T at *
        go_wp2
        exact ⟨⟨2, by omega, rfl, by rw [HE.out]⟩, by decide⟩
    · have hT : (Pm.two y).length ≤ 2 := by simp [Pm.two]
      have HT : Hid ((Pm.two y).take 2 = Pm.two y) := rfl
      rw [HT.out]
      clear HT
      have n1 := N1.out
      cases t1 : Pm.tb y 1 <;> cases ex
      · rw [t1] at n1
        have HE : Hid (Pm.thd y false on off = [45]) := by show _ = _; simp [Pm.thd, t1]
        generalize hTT : Pm.two y = T at *
        have HTT : Hid (Pm.two y = T) := hTT
        clear hTT
        go_wp2
        go_ret
        exact ⟨ret_str (by rw [HE.out, HTT.out]), rfl⟩
      · rw [t1] at n1
        have HE : Hid (Pm.thd y true on off = off) := by show _ = _; simp [Pm.thd, t1]
        generalize hTT : Pm.two y = T at *
        have HTT : Hid (Pm.two y = T) := hTT
        clear hTT
        go_wp2
        go_ret
        exact ⟨ret_str (by rw [HE.out, HTT.out]), rfl⟩
      · rw [t1] at n1
        have HE : Hid (Pm.thd y false on off = [120]) := by show _ = _; simp [Pm.thd, t1]
        generalize hTT : Pm.two y = T at *
        have HTT : Hid (Pm.two y = T) := hTT
        clear hTT
        go_wp2
        go_ret
        exact ⟨ret_str (by rw [HE.out, HTT.out]), rfl⟩
      · rw [t1] at n1
        have HE : Hid (Pm.thd y true on off = on) := by show _ = _; simp [Pm.thd, t1]
        generalize hTT : Pm.two y = T at *
        have HTT : Hid (Pm.two y = T) := hTT
        clear hTT
        go_wp2
        go_ret
        exact ⟨ret_str (by rw [HE.out, HTT.out]), rfl⟩
theorem r3a (m : Int) (w : World) : Calls Try.prog 29 #[.int .i64 (bits .and .i64 (m / 64) 7), .bool (bits .and .i64 m 2048 != 0), .string ⟨#[115]⟩, .string ⟨#[83]⟩] w fun e w' => e = .returned (.string ⟨[Pm.b8 (Pm.chr m 256 114), Pm.b8 (Pm.chr m 128 119), Pm.b8 (Pm.trd m 64 2048 115)].toArray⟩) ∧ w' = w := by
  have h := rThree (bits .and .i64 (m / 64) 7) (bits .and .i64 m 2048 != 0) [115] [83] w (by decide) (by decide)
  rw [show Pm.two _ ++ Pm.thd _ _ [115] [83] = _ from Pm.three_eq m 64 256 128 64 2048 115 (by omega) (by omega) (by omega) (by simp)] at h
  exact h
theorem r3b (m : Int) (w : World) : Calls Try.prog 29 #[.int .i64 (bits .and .i64 (m / 8) 7), .bool (bits .and .i64 m 1024 != 0), .string ⟨#[115]⟩, .string ⟨#[83]⟩] w fun e w' => e = .returned (.string ⟨[Pm.b8 (Pm.chr m 32 114), Pm.b8 (Pm.chr m 16 119), Pm.b8 (Pm.trd m 8 1024 115)].toArray⟩) ∧ w' = w := by
  have h := rThree (bits .and .i64 (m / 8) 7) (bits .and .i64 m 1024 != 0) [115] [83] w (by decide) (by decide)
  rw [show Pm.two _ ++ Pm.thd _ _ [115] [83] = _ from Pm.three_eq m 8 32 16 8 1024 115 (by omega) (by omega) (by omega) (by simp)] at h
  exact h
theorem r3c (m : Int) (w : World) : Calls Try.prog 29 #[.int .i64 (bits .and .i64 m 7), .bool (bits .and .i64 m 512 != 0), .string ⟨#[116]⟩, .string ⟨#[84]⟩] w fun e w' => e = .returned (.string ⟨[Pm.b8 (Pm.chr m 4 114), Pm.b8 (Pm.chr m 2 119), Pm.b8 (Pm.trd m 1 512 116)].toArray⟩) ∧ w' = w := by
  have h := rThree (bits .and .i64 (m / 1) 7) (bits .and .i64 m 512 != 0) [116] [84] w (by decide) (by decide)
  rw [show Pm.two _ ++ Pm.thd _ _ [116] [84] = _ from Pm.three_eq m 1 4 2 1 512 116 (by omega) (by omega) (by omega) (by simp), Int.ediv_one] at h
  exact h
set_option maxRecDepth 100000 in
set_option maxHeartbeats 1000000 in
theorem rText (m : Int) (w : World) : Calls Try.prog 10 #[.int .i64 m] w fun e w' => e = .returned (.string ⟨(Pm.txt m).toArray⟩) ∧ w' = w := by
  have HX : Hid (Pm.txt m = [Pm.b8 (Pm.kindB m)] ++ [Pm.b8 (Pm.chr m 256 114), Pm.b8 (Pm.chr m 128 119), Pm.b8 (Pm.trd m 64 2048 115)] ++ [Pm.b8 (Pm.chr m 32 114), Pm.b8 (Pm.chr m 16 119), Pm.b8 (Pm.trd m 8 1024 115)] ++ [Pm.b8 (Pm.chr m 4 114), Pm.b8 (Pm.chr m 2 119), Pm.b8 (Pm.trd m 1 512 116)]) := rfl
  have ha := fun w => r3a m w
  have hb := fun w => r3b m w
  have hc := fun w => r3c m w
  have la : [Pm.b8 (Pm.chr m 256 114), Pm.b8 (Pm.chr m 128 119), Pm.b8 (Pm.trd m 64 2048 115)].length ≤ 3 := by simp
  have lb : [Pm.b8 (Pm.chr m 32 114), Pm.b8 (Pm.chr m 16 119), Pm.b8 (Pm.trd m 8 1024 115)].length ≤ 3 := by simp
  have lc : [Pm.b8 (Pm.chr m 4 114), Pm.b8 (Pm.chr m 2 119), Pm.b8 (Pm.trd m 1 512 116)].length ≤ 3 := by simp
  generalize [Pm.b8 (Pm.chr m 256 114), Pm.b8 (Pm.chr m 128 119), Pm.b8 (Pm.trd m 64 2048 115)] = A at *
  generalize [Pm.b8 (Pm.chr m 32 114), Pm.b8 (Pm.chr m 16 119), Pm.b8 (Pm.trd m 8 1024 115)] = B at *
  generalize [Pm.b8 (Pm.chr m 4 114), Pm.b8 (Pm.chr m 2 119), Pm.b8 (Pm.trd m 1 512 116)] = C at *
  have HA : Hid (∀ w, Calls Try.prog 29 #[.int .i64 (bits .and .i64 (m / 64) 7), .bool (bits .and .i64 m 2048 != 0), .string ⟨#[115]⟩, .string ⟨#[83]⟩] w fun e w' => e = .returned (.string ⟨A.toArray⟩) ∧ w' = w) := ha
  have HB : Hid (∀ w, Calls Try.prog 29 #[.int .i64 (bits .and .i64 (m / 8) 7), .bool (bits .and .i64 m 1024 != 0), .string ⟨#[115]⟩, .string ⟨#[83]⟩] w fun e w' => e = .returned (.string ⟨B.toArray⟩) ∧ w' = w) := hb
  have HC : Hid (∀ w, Calls Try.prog 29 #[.int .i64 (bits .and .i64 m 7), .bool (bits .and .i64 m 512 != 0), .string ⟨#[116]⟩, .string ⟨#[84]⟩] w fun e w' => e = .returned (.string ⟨C.toArray⟩) ∧ w' = w) := hc
  clear ha hb hc
  have hk : ∃ K : UInt8, Pm.b8 (Pm.kindB m) = K ∧ (((bits .and .i64 m 61440 == 16384) = true ∧ K = 100) ∨ ((bits .and .i64 m 61440 == 16384) = false ∧ (bits .and .i64 m 61440 == 40960) = true ∧ K = 108) ∨ ((bits .and .i64 m 61440 == 16384) = false ∧ (bits .and .i64 m 61440 == 40960) = false ∧ (bits .and .i64 m 61440 == 4096) = true ∧ K = 112) ∨ ((bits .and .i64 m 61440 == 16384) = false ∧ (bits .and .i64 m 61440 == 40960) = false ∧ (bits .and .i64 m 61440 == 4096) = false ∧ (bits .and .i64 m 61440 == 32768) = true ∧ K = 45) ∨ ((bits .and .i64 m 61440 == 16384) = false ∧ (bits .and .i64 m 61440 == 40960) = false ∧ (bits .and .i64 m 61440 == 4096) = false ∧ (bits .and .i64 m 61440 == 32768) = false ∧ K = 63)) := by
    refine ⟨_, rfl, ?_⟩
    unfold Pm.kindB
    cases (bits .and .i64 m 61440 == 16384) <;> cases (bits .and .i64 m 61440 == 40960) <;> cases (bits .and .i64 m 61440 == 4096) <;> cases (bits .and .i64 m 61440 == 32768) <;> simp <;> rfl
  obtain ⟨K, hK, hk⟩ := hk
  have HX2 := HX.out
  rw [hK] at HX2
  have HY : Hid (Pm.txt m = [K] ++ A ++ B ++ C) := HX2
  clear HX HX2 hK
  rcases hk with ⟨k1, rfl⟩ | ⟨k1, k2, rfl⟩ | ⟨k1, k2, k3, rfl⟩ | ⟨k1, k2, k3, k4, rfl⟩ | ⟨k1, k2, k3, k4, rfl⟩
  all_goals
    go_enter Try.func10, Try.ntmps10
    go_wp2_with fail
    refine (HA.out _).mono ?_
    rintro e w1 ⟨rfl, hw1⟩
    rw [hw1]; clear hw1 w1
    go_wp2_with fail
    refine (HB.out _).mono ?_
    rintro e w1 ⟨rfl, hw1⟩
    rw [hw1]; clear hw1 w1
    go_wp2_with fail
    refine (HC.out _).mono ?_
    rintro e w1 ⟨rfl, hw1⟩
    rw [hw1]; clear hw1 w1
    go_wp2
    go_ret
    exact ⟨ret_str (by rw [HY.out]; simp), rfl⟩
end Go.Proofs.Ytmminmdmhefefaa
