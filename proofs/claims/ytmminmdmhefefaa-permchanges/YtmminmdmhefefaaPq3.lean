/- The plain answer's among, who, what, copied and octal. Condition: lengths that fit. -/
import Derived.Test.YtmminmdmhefefaaPq2
namespace Go.Proofs.Ytmminmdmhefefaa
open Go.RowKit
theorem get_eqc (l : List UInt8) (i : Nat) (h : i < (⟨l.toArray⟩ : ByteArray).size) : (⟨l.toArray⟩ : ByteArray)[i] = l[i]'(by simpa [ByteArray.size] using h) := rfl
theorem ret_nb {a b : Int} {c d : Bool} (h : b = a) (k : d = c) : Ending.returned (.tuple #[.int .i64 a, .bool c]) = .returned (.tuple #[.int .i64 b, .bool d]) := by rw [h, k]
attribute [local go_sem] get_eqc
theorem ne_c (c : UInt8) (k : Nat) (hk : k < 256) (h : ¬ c = UInt8.ofNat k) : ((c.toNat : Int) == (k : Int)) = false := by
  simp only [beq_eq_false_iff_ne]
  exact fun e => h ((Pm.nat_c c k hk).1 e)
set_option maxRecDepth 100000 in
set_option maxHeartbeats 1000000 in
theorem rAmong (c : UInt8) (S : List UInt8) (B : Bool) (hB : S.contains c = B) (hS : S.length ≤ 100) (w : World) : Calls Try.prog 40 #[.int .u8 c.toNat, .string ⟨S.toArray⟩] w fun e w' => e = .returned (.bool B) ∧ w' = w := by
  have HB : Hid (S.contains c = B) := hB
  clear hB
  go_enter Try.func40, Try.ntmps40
  go_wp2
  go_loop [5] (fun t => ∃ k : Nat, k ≤ S.length ∧ t = .int .i64 k ∧ Hid ((S.take k).contains c = false)) (fun t => S.length - (intOf t).toNat)
  case atStart => exact ⟨0, by omega, rfl, by show _ = _; simp⟩
  case round =>
    obtain ⟨k, hk, rfl, HN⟩ := hrel
    by_cases hlt : k < S.length
    · by_cases he : S[k] = c
      · have he' : ((S[k].toNat : Int) == (c.toNat : Int)) = true := by rw [he]; simp
        have HT : Hid (B = true) := by
          show _ = _
          rw [← HB.out, List.contains_iff_mem, ← he]
          exact List.getElem_mem hlt
        clear he
        go_wp2
        go_ret
        exact ⟨ret_bool HT.out.symm, rfl⟩
      · have he' : ((S[k].toNat : Int) == (c.toNat : Int)) = false := by
          simp only [beq_eq_false_iff_ne]
          exact fun h => he (UInt8.toNat_inj.1 (by omega))
        have HN2 : Hid ((S.take (k + 1)).contains c = false) := by
          show _ = _
          have h1 := HN.out
          rw [List.take_succ_eq_append_getElem hlt]
          simp only [List.contains_eq_mem, decide_eq_false_iff_not, List.mem_append, List.mem_singleton, not_or] at h1 ⊢
          exact ⟨h1, fun h => he h.symm⟩
        clear he
        go_wp2
        exact ⟨⟨k + 1, by omega, by go_num, HN2⟩, by simp [intOf]; omega⟩
    · have HT : Hid (B = false) := by
        show _ = _
        have h1 := HN.out
        rw [List.take_of_length_le (by omega)] at h1
        rw [← HB.out, h1]
      go_wp2
      go_ret
      exact ⟨ret_bool HT.out.symm, rfl⟩
set_option maxRecDepth 100000 in
set_option maxHeartbeats 1000000 in
theorem rWho (c : UInt8) (w : World) : Calls Try.prog 41 #[.int .u8 c.toNat] w fun e w' => e = .returned (.int .i64 (Pm.whoR c)) ∧ w' = w := by
  by_cases h117 : c = 117
  · have HE : Hid (Pm.whoR c = 2496) := by subst h117; rfl
    have hn : (c.toNat : Int) = 117 := by subst h117; rfl
    clear h117
    rw [hn]
    clear hn
    go_enter Try.func41, Try.ntmps41
    go_wp2
    go_ret
    exact ⟨ret_int HE.out.symm, rfl⟩
  by_cases h103 : c = 103
  · have HE : Hid (Pm.whoR c = 1080) := by subst h103; rfl
    have hn : (c.toNat : Int) = 103 := by subst h103; rfl
    clear h103
    rw [hn]
    clear hn
    go_enter Try.func41, Try.ntmps41
    go_wp2
    go_ret
    exact ⟨ret_int HE.out.symm, rfl⟩
  by_cases h111 : c = 111
  · have HE : Hid (Pm.whoR c = 519) := by subst h111; rfl
    have hn : (c.toNat : Int) = 111 := by subst h111; rfl
    clear h111
    rw [hn]
    clear hn
    go_enter Try.func41, Try.ntmps41
    go_wp2
    go_ret
    exact ⟨ret_int HE.out.symm, rfl⟩
  have HE : Hid (Pm.whoR c = 4095) := by show _ = _; simp [Pm.whoR, h117, h103, h111]
  have k1 : ((c.toNat : Int) == 117) = false := ne_c c 117 (by decide) h117
  have k2 : ((c.toNat : Int) == 103) = false := ne_c c 103 (by decide) h103
  have k3 : ((c.toNat : Int) == 111) = false := ne_c c 111 (by decide) h111
  clear h117 h103 h111
  go_enter Try.func41, Try.ntmps41
  go_wp2
  go_ret
  exact ⟨ret_int HE.out.symm, rfl⟩
set_option maxRecDepth 100000 in
set_option maxHeartbeats 1000000 in
theorem rWhat (c : UInt8) (old : Int) (w : World) : Calls Try.prog 43 #[.int .u8 c.toNat, .int .i64 old] w fun e w' => e = .returned (.int .i64 (Pm.whatR old c)) ∧ w' = w := by
  by_cases h114 : c = 114
  · have HE : Hid (Pm.whatR old c = 292) := by subst h114; rfl
    have hn : (c.toNat : Int) = 114 := by subst h114; rfl
    rw [hn]
    clear hn
    go_enter Try.func43, Try.ntmps43
    go_wp2
    go_ret
    exact ⟨ret_int HE.out.symm, rfl⟩
  by_cases h119 : c = 119
  · have HE : Hid (Pm.whatR old c = 146) := by subst h119; rfl
    have hn : (c.toNat : Int) = 119 := by subst h119; rfl
    rw [hn]
    clear hn
    go_enter Try.func43, Try.ntmps43
    go_wp2
    go_ret
    exact ⟨ret_int HE.out.symm, rfl⟩
  by_cases h120 : c = 120
  · have HE : Hid (Pm.whatR old c = 73) := by subst h120; rfl
    have hn : (c.toNat : Int) = 120 := by subst h120; rfl
    rw [hn]
    clear hn
    go_enter Try.func43, Try.ntmps43
    go_wp2
    go_ret
    exact ⟨ret_int HE.out.symm, rfl⟩
  by_cases h115 : c = 115
  · have HE : Hid (Pm.whatR old c = 3072) := by subst h115; rfl
    have hn : (c.toNat : Int) = 115 := by subst h115; rfl
    rw [hn]
    clear hn
    go_enter Try.func43, Try.ntmps43
    go_wp2
    go_ret
    exact ⟨ret_int HE.out.symm, rfl⟩
  by_cases h116 : c = 116
  · have HE : Hid (Pm.whatR old c = 512) := by subst h116; rfl
    have hn : (c.toNat : Int) = 116 := by subst h116; rfl
    rw [hn]
    clear hn
    go_enter Try.func43, Try.ntmps43
    go_wp2
    go_ret
    exact ⟨ret_int HE.out.symm, rfl⟩
  by_cases h88 : c = 88
  · have hn : (c.toNat : Int) = 88 := by subst h88; rfl
    have hm : ((bits .and .i64 old 61440 == 16384) = true ∧ Pm.mxB old = 73) ∨ ((bits .and .i64 old 61440 == 16384) = false ∧ (bits .and .i64 old 73 != 0) = true ∧ Pm.mxB old = 73) ∨ ((bits .and .i64 old 61440 == 16384) = false ∧ (bits .and .i64 old 73 != 0) = false ∧ Pm.mxB old = 0) := by
      unfold Pm.mxB
      cases (bits .and .i64 old 61440 == 16384) <;> cases (bits .and .i64 old 73 != 0) <;> simp
    have HW : Hid (Pm.whatR old c = Pm.mxB old) := by subst h88; rfl
    rw [hn]
    clear hn h114 h119 h120 h115 h116 h88
    rcases hm with ⟨q1, hx⟩ | ⟨q1, q2, hx⟩ | ⟨q1, q2, hx⟩
    all_goals
      have HE : Hid (Pm.whatR old c = _) := HW.out.trans hx
      clear HW hx
      go_enter Try.func43, Try.ntmps43
      go_wp2
      go_ret
      exact ⟨ret_int HE.out.symm, rfl⟩
  have HE : Hid (Pm.whatR old c = 0) := by show _ = _; simp [Pm.whatR, h114, h119, h120, h115, h116, h88]
  have k114 : ((c.toNat : Int) == 114) = false := ne_c c 114 (by decide) h114
  have k119 : ((c.toNat : Int) == 119) = false := ne_c c 119 (by decide) h119
  have k120 : ((c.toNat : Int) == 120) = false := ne_c c 120 (by decide) h120
  have k115 : ((c.toNat : Int) == 115) = false := ne_c c 115 (by decide) h115
  have k116 : ((c.toNat : Int) == 116) = false := ne_c c 116 (by decide) h116
  have k88 : ((c.toNat : Int) == 88) = false := ne_c c 88 (by decide) h88
  clear h114 h119 h120 h115 h116 h88
  go_enter Try.func43, Try.ntmps43
  go_wp2
  go_ret
  exact ⟨ret_int HE.out.symm, rfl⟩
set_option maxRecDepth 100000 in
set_option maxHeartbeats 1000000 in
theorem rCop (c : UInt8) (now : Int) (w : World) : Calls Try.prog 42 #[.int .u8 c.toNat, .int .i64 now] w fun e w' => e = .returned (.int .i64 (Pm.copR now c)) ∧ w' = w := by
  by_cases h117 : c = 117
  · have HE : Hid (Pm.copR now c = bits .and .i64 (now / 64) 7 * 73) := by subst h117; rfl
    have hn : (c.toNat : Int) = 117 := by subst h117; rfl
    rw [hn]
    clear hn
    have ha := (Pm.and7 (now / 64)).1
    have hb := (Pm.and7 (now / 64)).2
    go_enter Try.func42, Try.ntmps42
    go_wp2
    go_ret
    exact ⟨ret_int HE.out.symm, rfl⟩
  by_cases h103 : c = 103
  · have HE : Hid (Pm.copR now c = bits .and .i64 (now / 8) 7 * 73) := by subst h103; rfl
    have hn : (c.toNat : Int) = 103 := by subst h103; rfl
    rw [hn]
    clear hn
    have ha := (Pm.and7 (now / 8)).1
    have hb := (Pm.and7 (now / 8)).2
    go_enter Try.func42, Try.ntmps42
    go_wp2
    go_ret
    exact ⟨ret_int HE.out.symm, rfl⟩
  have HE : Hid (Pm.copR now c = bits .and .i64 now 7 * 73) := by show _ = _; simp [Pm.copR, h117, h103, Pm.fa]
  have k1 : ((c.toNat : Int) == 117) = false := ne_c c 117 (by decide) h117
  have k2 : ((c.toNat : Int) == 103) = false := ne_c c 103 (by decide) h103
  have ha := (Pm.and7 now).1
  have hb := (Pm.and7 now).2
  clear h117 h103
  go_enter Try.func42, Try.ntmps42
  go_wp2
  go_ret
  exact ⟨ret_int HE.out.symm, rfl⟩
namespace Pm
def octO (l : List UInt8) : Option Int := if l.length = 0 then none else numB l
def octN (l : List UInt8) : Int := (octO l).getD 0
def octK (l : List UInt8) : Bool := (octO l).isSome
theorem oct_no (l : List UInt8) (h : octO l = none) : octN l = 0 ∧ octK l = false := ⟨by rw [octN, h]; rfl, by rw [octK, h]; rfl⟩
theorem oct_yes (l : List UInt8) (n : Int) (h : octO l = some n) : octN l = n ∧ octK l = true := ⟨by rw [octN, h]; rfl, by rw [octK, h]; rfl⟩
end Pm
set_option maxRecDepth 100000 in
set_option maxHeartbeats 2000000 in
theorem rOctalB (l : List UInt8) (w : World) : Calls Try.prog 34 #[.string ⟨l.toArray⟩] w fun e w' => e = .returned (.tuple #[.int .i64 (Pm.octN l), .bool (Pm.octK l)]) ∧ w' = w := by
  by_cases h0 : l.length = 0
  · have HK : Hid (Pm.octN l = 0 ∧ Pm.octK l = false) := Pm.oct_no l (if_pos h0)
    go_enter Try.func34, Try.ntmps34
    go_wp2
    go_ret2
    exact ⟨ret_nb HK.out.1 HK.out.2, rfl⟩
  · have q0 : decide ((l.length : Int) < 1) = false := by simp; omega
    have q0' : ¬ (l.length : Int) < 1 := by omega
    by_cases h4 : 4 < l.length
    · have HK : Hid (Pm.octN l = 0 ∧ Pm.octK l = false) := Pm.oct_no l (by rw [Pm.octO, if_neg h0, Pm.numB, if_pos h4])
      have q4 : decide ((4 : Int) < (l.length : Int)) = true := by simp; omega
      have q4' : (4 : Int) < (l.length : Int) := by omega
      clear h0
      go_enter Try.func34, Try.ntmps34
      go_wp2
      go_ret2
      exact ⟨ret_nb HK.out.1 HK.out.2, rfl⟩
    · have q4 : decide ((4 : Int) < (l.length : Int)) = false := by simp; omega
      have q4' : ¬ (4 : Int) < (l.length : Int) := by omega
      have HM : Hid (Pm.octO l = Pm.numF 0 l) := by show _ = _; rw [Pm.octO, if_neg h0, Pm.numB, if_neg h4]
      clear h0
      go_enter Try.func34, Try.ntmps34
      go_wp2
      go_loop [4, 5] (fun t s => ∃ (pos : Nat) (n : Int), pos ≤ l.length ∧ s = .int .i64 pos ∧ t = .int .i64 n ∧ Hid (0 ≤ n ∧ n < 8 ^ pos) ∧ Hid (Pm.numF n (l.drop pos) = Pm.numF 0 l)) (fun _ s => l.length - (intOf s).toNat)
      case atStart => exact ⟨0, 0, by omega, rfl, rfl, ⟨by decide, by decide⟩, rfl⟩
      case round =>
        obtain ⟨pos, n, hle, rfl, rfl, HS, HN⟩ := hrel
        by_cases hp : pos < l.length
        · have hdr : l.drop pos = l[pos] :: l.drop (pos + 1) := List.drop_eq_getElem_cons hp
          have HN2 := HN.out
          rw [hdr] at HN2
          clear hdr HN
          have hbyte := l[pos].toNat_lt
          by_cases hlo : (l[pos].toNat : Int) < 48
          · have HK : Hid (Pm.octN l = 0 ∧ Pm.octK l = false) := Pm.oct_no l (by
              rw [HM.out, ← HN2, Pm.numF, if_neg]
              unfold Pm.dig
              simp only [Bool.and_eq_true, decide_eq_true_eq]
              omega)
            clear HN2
            go_wp2
            go_ret2
            exact ⟨ret_nb HK.out.1 HK.out.2, rfl⟩
          · by_cases hhi : (55 : Int) < (l[pos].toNat : Int)
            · have HK : Hid (Pm.octN l = 0 ∧ Pm.octK l = false) := Pm.oct_no l (by
                rw [HM.out, ← HN2, Pm.numF, if_neg]
                unfold Pm.dig
                simp only [Bool.and_eq_true, decide_eq_true_eq]
                omega)
              clear HN2
              go_wp2
              go_ret2
              exact ⟨ret_nb HK.out.1 HK.out.2, rfl⟩
            · have HE : Hid (Pm.numF (n * 8 + (l[pos].toNat - 48)) (l.drop (pos + 1)) = Pm.numF 0 l) := by
                show _ = _
                rw [← HN2, Pm.numF, if_pos]
                unfold Pm.dig
                simp only [Bool.and_eq_true, decide_eq_true_eq]
                omega
              clear HN2
              have hn1 : n < 512 := Int.lt_of_lt_of_le HS.out.2 (Pm.pow8 pos (by omega))
              have hn0 : 0 ≤ n := HS.out.1
              have HS2 : Hid (0 ≤ n * 8 + ((l[pos].toNat : Int) - 48) ∧ n * 8 + ((l[pos].toNat : Int) - 48) < 8 ^ (pos + 1)) := ⟨by omega, by
                have := HS.out.2
                rw [Int.pow_succ]
                omega⟩
              go_wp2
              exact ⟨⟨pos + 1, _, by omega, by go_num, rfl, HS2, HE⟩, by simp [intOf]; omega⟩
        · have HN2 := HN.out
          rw [List.drop_eq_nil_of_le (by omega)] at HN2
          have HK : Hid (Pm.octN l = n ∧ Pm.octK l = true) := Pm.oct_yes l n (by rw [HM.out, ← HN2]; rfl)
          clear HN HN2
          go_wp2
          go_ret2
          exact ⟨ret_nb HK.out.1 HK.out.2, rfl⟩
end Go.Proofs.Ytmminmdmhefefaa
