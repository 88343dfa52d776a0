/- Plain facts: a text falls into its classes, and is put together again. No condition. -/
import Derived.Test.YtmminmdmhefefaaPn2
import Derived.Test.YtmminmdmhefefaaPmh
namespace Go.Proofs.Ytmminmdmhefefaa
open Go.RowKit
namespace Pm
theorem and_of_or (a b c : Int) : bits .and .i64 (bits .or .i64 a b) c = bits .or .i64 (bits .and .i64 a c) (bits .and .i64 b c) := by
  simp only [and_eq, or_eq, B_toInt]
  congr 1
  ext i hi
  simp
  cases (B c)[i] <;> simp
theorem or_z {y : Int} (h : In64 y) : bits .or .i64 y 0 = y := by rw [or_eq, show B 0 = 0#64 from rfl, BitVec.or_zero, back h]
theorem or_same {y : Int} (h : In64 y) : bits .or .i64 y y = y := by rw [or_eq, BitVec.or_self, back h]
theorem in_q {q : Int} (hq : q ∈ ([1, 2, 4, 8, 16, 32, 64, 128, 256, 512, 1024, 2048] : List Int)) : In64 q := by simp only [List.mem_cons, List.not_mem_nil, or_false] at hq; unfold In64; omega
theorem tb_or (a b q : Int) (hq : q ∈ ([1, 2, 4, 8, 16, 32, 64, 128, 256, 512, 1024, 2048] : List Int)) : tb (bits .or .i64 a b) q = (tb a q || tb b q) := by
  rw [← ne_bit (bits .or .i64 a b) q hq, and_of_or, and_bit a q hq, and_bit b q hq]
  have h0 : q ≠ 0 := by simp only [List.mem_cons, List.not_mem_nil, or_false] at hq; omega
  cases tb a q <;> cases tb b q
  · rw [show bits .or .i64 (if false = true then q else 0) (if false = true then q else 0) = 0 from (show bits .or .i64 0 0 = 0 by kernel_rfl)]; rfl
  · simp only [Bool.false_eq_true, if_false, if_true, or_zero (in_q hq)]; simpa using h0
  · simp only [Bool.false_eq_true, if_false, if_true, or_z (in_q hq)]; simpa using h0
  · simp only [if_true, or_same (in_q hq)]; simpa using h0
def mv (sh v x : Int) : Int := bits .or .i64 (v * sh) x
theorem off0 : ∀ v < 8, ∀ x ∈ ([0, 2048] : List Int), ∀ q ∈ ([32, 16, 8, 4, 2, 1, 1024, 512] : List Int), tb (mv 64 ((v : Nat) : Int) x) q = false := by decide +kernel
theorem off1 : ∀ v < 8, ∀ x ∈ ([0, 1024] : List Int), ∀ q ∈ ([256, 128, 64, 4, 2, 1, 2048, 512] : List Int), tb (mv 8 ((v : Nat) : Int) x) q = false := by decide +kernel
theorem off2 : ∀ v < 8, ∀ x ∈ ([0, 512] : List Int), ∀ q ∈ ([256, 128, 64, 32, 16, 8, 2048, 1024] : List Int), tb (mv 1 ((v : Nat) : Int) x) q = false := by decide +kernel
theorem offk : ∀ k ∈ ([16384, 40960, 4096, 32768] : List Int), ∀ q ∈ ([1, 2, 4, 8, 16, 32, 64, 128, 256, 512, 1024, 2048] : List Int), tb k q = false := by decide +kernel
theorem kin0 : ∀ v < 8, ∀ x ∈ ([0, 2048] : List Int), bits .and .i64 (mv 64 ((v : Nat) : Int) x) 61440 = 0 := by decide +kernel
theorem kin1 : ∀ v < 8, ∀ x ∈ ([0, 1024] : List Int), bits .and .i64 (mv 8 ((v : Nat) : Int) x) 61440 = 0 := by decide +kernel
theorem kin2 : ∀ v < 8, ∀ x ∈ ([0, 512] : List Int), bits .and .i64 (mv 1 ((v : Nat) : Int) x) 61440 = 0 := by decide +kernel
theorem kink : ∀ k ∈ ([16384, 40960, 4096, 32768] : List Int), bits .and .i64 k 61440 = k ∧ bits .and .i64 k 65535 = k := by decide +kernel
theorem kf0 : ∀ v < 8, ∀ x ∈ ([0, 2048] : List Int), bits .and .i64 (mv 64 ((v : Nat) : Int) x) 65535 = mv 64 v x := by decide +kernel
theorem kf1 : ∀ v < 8, ∀ x ∈ ([0, 1024] : List Int), bits .and .i64 (mv 8 ((v : Nat) : Int) x) 65535 = mv 8 v x := by decide +kernel
theorem kf2 : ∀ v < 8, ∀ x ∈ ([0, 512] : List Int), bits .and .i64 (mv 1 ((v : Nat) : Int) x) 65535 = mv 1 v x := by decide +kernel
/-- The mode that a kind and three classes make. -/
def all4 (k a b c : Int) : Int := bits .or .i64 (bits .or .i64 (bits .or .i64 k a) b) c
theorem tb4 (k a b c q : Int) (hq : q ∈ ([1, 2, 4, 8, 16, 32, 64, 128, 256, 512, 1024, 2048] : List Int)) : tb (all4 k a b c) q = (tb k q || tb a q || tb b q || tb c q) := by
  unfold all4
  rw [tb_or _ _ q hq, tb_or _ _ q hq, tb_or _ _ q hq]
theorem F3_0 (v x : Int) : F3 0 64 v x = [b8 (chr (mv 64 v x) 256 114), b8 (chr (mv 64 v x) 128 119), b8 (trd (mv 64 v x) 64 2048 115)] := rfl
theorem F3_1 (v x : Int) : F3 1 8 v x = [b8 (chr (mv 8 v x) 32 114), b8 (chr (mv 8 v x) 16 119), b8 (trd (mv 8 v x) 8 1024 115)] := rfl
theorem F3_2 (v x : Int) : F3 2 1 v x = [b8 (chr (mv 1 v x) 4 114), b8 (chr (mv 1 v x) 2 119), b8 (trd (mv 1 v x) 1 512 116)] := rfl
theorem txt_all (k : Int) (hk : k ∈ ([16384, 40960, 4096, 32768] : List Int)) (v0 v1 v2 : Nat) (h0 : v0 < 8) (h1 : v1 < 8) (h2 : v2 < 8) (x0 x1 x2 : Int) (e0 : x0 ∈ ([0, 2048] : List Int)) (e1 : x1 ∈ ([0, 1024] : List Int)) (e2 : x2 ∈ ([0, 512] : List Int)) :
    txt (all4 k (mv 64 v0 x0) (mv 8 v1 x1) (mv 1 v2 x2)) = b8 (kindB k) :: (F3 0 64 v0 x0 ++ F3 1 8 v1 x1 ++ F3 2 1 v2 x2) ∧ bits .and .i64 (all4 k (mv 64 v0 x0) (mv 8 v1 x1) (mv 1 v2 x2)) 65535 = all4 k (mv 64 v0 x0) (mv 8 v1 x1) (mv 1 v2 x2) := by
  have hand : bits .and .i64 (all4 k (mv 64 v0 x0) (mv 8 v1 x1) (mv 1 v2 x2)) 61440 = bits .and .i64 k 61440 := by
    unfold all4
    rw [and_of_or, and_of_or, and_of_or, kin0 v0 h0 x0 e0, kin1 v1 h1 x1 e1, kin2 v2 h2 x2 e2, or_z (in_or _ _), or_z (in_or _ _), or_z (in_and _ _)]
  have hfull : bits .and .i64 (all4 k (mv 64 v0 x0) (mv 8 v1 x1) (mv 1 v2 x2)) 65535 = all4 k (mv 64 v0 x0) (mv 8 v1 x1) (mv 1 v2 x2) := by
    unfold all4
    rw [and_of_or, and_of_or, and_of_or, (kink k hk).2, kf0 v0 h0 x0 e0, kf1 v1 h1 x1 e1, kf2 v2 h2 x2 e2]
  refine ⟨?_, hfull⟩
  have hkind : kindB (all4 k (mv 64 v0 x0) (mv 8 v1 x1) (mv 1 v2 x2)) = kindB k := by unfold kindB; rw [hand]
  have t : ∀ q, q ∈ ([1, 2, 4, 8, 16, 32, 64, 128, 256, 512, 1024, 2048] : List Int) → tb (all4 k (mv 64 v0 x0) (mv 8 v1 x1) (mv 1 v2 x2)) q = (tb (mv 64 v0 x0) q || tb (mv 8 v1 x1) q || tb (mv 1 v2 x2) q) := fun q hq => by
    rw [tb4 _ _ _ _ q hq, offk k hk q hq]; simp
  have z0 := off0 v0 h0 x0 e0
  have z1 := off1 v1 h1 x1 e1
  have z2 := off2 v2 h2 x2 e2
  rw [F3_0, F3_1, F3_2]
  simp only [txt, txtI, List.map_cons, List.map_nil, List.cons_append, List.nil_append, hkind]
  unfold trd spc chr
  rw [t 256 (by simp), t 128 (by simp), t 64 (by simp), t 2048 (by simp), t 32 (by simp), t 16 (by simp), t 8 (by simp), t 1024 (by simp), t 4 (by simp), t 2 (by simp), t 1 (by simp), t 512 (by simp)]
  rw [z1 256 (by simp), z2 256 (by simp), z1 128 (by simp), z2 128 (by simp), z1 64 (by simp), z2 64 (by simp), z1 2048 (by simp), z2 2048 (by simp), z0 32 (by simp), z2 32 (by simp), z0 16 (by simp), z2 16 (by simp), z0 8 (by simp), z2 8 (by simp), z0 1024 (by simp), z2 1024 (by simp), z0 4 (by simp), z1 4 (by simp), z0 2 (by simp), z1 2 (by simp), z0 1 (by simp), z1 1 (by simp), z0 512 (by simp), z1 512 (by simp)]
  simp only [Bool.or_false, Bool.false_or]
theorem cls0 (M : Int) : ∃ (v : Nat) (x : Int), v < 8 ∧ (x = 0 ∨ x = 2048) ∧ F3 0 64 v x = ((txt M).take 4).drop 1 := by
  refine ⟨(M / 64 % 8).toNat, if tb M 2048 then 2048 else 0, by omega, by split <;> simp, ?_⟩
  have hj : (((M / 64 % 8).toNat : Nat) : Int) = M / 64 % 8 := by omega
  rw [F3_0, hj]
  show _ = [b8 (chr M 256 114), b8 (chr M 128 119), b8 (trd M 64 2048 115)]
  have t : ∀ q x, q ∈ ([1, 2, 4, 8, 16, 32, 64, 128, 256, 512, 1024, 2048] : List Int) → tb (mv 64 (M / 64 % 8) x) q = (tb (M / 64 % 8 * 64) q || tb x q) := fun q x hq => tb_or _ _ q hq
  have s4 : tb (M / 64 % 8 * 64) 256 = tb M 256 := by unfold tb; rw [show M / 64 % 8 * 64 / 256 % 2 = M / 256 % 2 by omega]
  have s2 : tb (M / 64 % 8 * 64) 128 = tb M 128 := by unfold tb; rw [show M / 64 % 8 * 64 / 128 % 2 = M / 128 % 2 by omega]
  have s1 : tb (M / 64 % 8 * 64) 64 = tb M 64 := by unfold tb; rw [show M / 64 % 8 * 64 / 64 % 2 = M / 64 % 2 by omega]
  have se : tb (M / 64 % 8 * 64) 2048 = false := by unfold tb; rw [show M / 64 % 8 * 64 / 2048 % 2 = 0 by omega]; rfl
  unfold trd spc chr
  rw [t 256 _ (by simp), t 128 _ (by simp), t 64 _ (by simp), t 2048 _ (by simp), s4, s2, s1, se]
  cases tb M 2048
  · simp only [Bool.false_eq_true, if_false, show tb 0 256 = false by kernel_rfl, show tb 0 128 = false by kernel_rfl, show tb 0 64 = false by kernel_rfl, show tb 0 2048 = false by kernel_rfl, Bool.or_false]
  · simp only [if_true, show tb 2048 256 = false by kernel_rfl, show tb 2048 128 = false by kernel_rfl, show tb 2048 64 = false by kernel_rfl, show tb 2048 2048 = true by kernel_rfl, Bool.or_false, Bool.or_true]
theorem cls1 (M : Int) : ∃ (v : Nat) (x : Int), v < 8 ∧ (x = 0 ∨ x = 1024) ∧ F3 1 8 v x = ((txt M).take 7).drop 4 := by
  refine ⟨(M / 8 % 8).toNat, if tb M 1024 then 1024 else 0, by omega, by split <;> simp, ?_⟩
  have hj : (((M / 8 % 8).toNat : Nat) : Int) = M / 8 % 8 := by omega
  rw [F3_1, hj]
  show _ = [b8 (chr M 32 114), b8 (chr M 16 119), b8 (trd M 8 1024 115)]
  have t : ∀ q x, q ∈ ([1, 2, 4, 8, 16, 32, 64, 128, 256, 512, 1024, 2048] : List Int) → tb (mv 8 (M / 8 % 8) x) q = (tb (M / 8 % 8 * 8) q || tb x q) := fun q x hq => tb_or _ _ q hq
  have s4 : tb (M / 8 % 8 * 8) 32 = tb M 32 := by unfold tb; rw [show M / 8 % 8 * 8 / 32 % 2 = M / 32 % 2 by omega]
  have s2 : tb (M / 8 % 8 * 8) 16 = tb M 16 := by unfold tb; rw [show M / 8 % 8 * 8 / 16 % 2 = M / 16 % 2 by omega]
  have s1 : tb (M / 8 % 8 * 8) 8 = tb M 8 := by unfold tb; rw [show M / 8 % 8 * 8 / 8 % 2 = M / 8 % 2 by omega]
  have se : tb (M / 8 % 8 * 8) 1024 = false := by unfold tb; rw [show M / 8 % 8 * 8 / 1024 % 2 = 0 by omega]; rfl
  unfold trd spc chr
  rw [t 32 _ (by simp), t 16 _ (by simp), t 8 _ (by simp), t 1024 _ (by simp), s4, s2, s1, se]
  cases tb M 1024
  · simp only [Bool.false_eq_true, if_false, show tb 0 32 = false by kernel_rfl, show tb 0 16 = false by kernel_rfl, show tb 0 8 = false by kernel_rfl, show tb 0 1024 = false by kernel_rfl, Bool.or_false]
  · simp only [if_true, show tb 1024 32 = false by kernel_rfl, show tb 1024 16 = false by kernel_rfl, show tb 1024 8 = false by kernel_rfl, show tb 1024 1024 = true by kernel_rfl, Bool.or_false, Bool.or_true]
theorem cls2 (M : Int) : ∃ (v : Nat) (x : Int), v < 8 ∧ (x = 0 ∨ x = 512) ∧ F3 2 1 v x = ((txt M).take 10).drop 7 := by
  refine ⟨(M / 1 % 8).toNat, if tb M 512 then 512 else 0, by omega, by split <;> simp, ?_⟩
  have hj : (((M / 1 % 8).toNat : Nat) : Int) = M / 1 % 8 := by omega
  rw [F3_2, hj]
  show _ = [b8 (chr M 4 114), b8 (chr M 2 119), b8 (trd M 1 512 116)]
  have t : ∀ q x, q ∈ ([1, 2, 4, 8, 16, 32, 64, 128, 256, 512, 1024, 2048] : List Int) → tb (mv 1 (M / 1 % 8) x) q = (tb (M / 1 % 8 * 1) q || tb x q) := fun q x hq => tb_or _ _ q hq
  have s4 : tb (M / 1 % 8 * 1) 4 = tb M 4 := by unfold tb; rw [show M / 1 % 8 * 1 / 4 % 2 = M / 4 % 2 by omega]
  have s2 : tb (M / 1 % 8 * 1) 2 = tb M 2 := by unfold tb; rw [show M / 1 % 8 * 1 / 2 % 2 = M / 2 % 2 by omega]
  have s1 : tb (M / 1 % 8 * 1) 1 = tb M 1 := by unfold tb; rw [show M / 1 % 8 * 1 / 1 % 2 = M / 1 % 2 by omega]
  have se : tb (M / 1 % 8 * 1) 512 = false := by unfold tb; rw [show M / 1 % 8 * 1 / 512 % 2 = 0 by omega]; rfl
  unfold trd spc chr
  rw [t 4 _ (by simp), t 2 _ (by simp), t 1 _ (by simp), t 512 _ (by simp), s4, s2, s1, se]
  cases tb M 512
  · simp only [Bool.false_eq_true, if_false, show tb 0 4 = false by kernel_rfl, show tb 0 2 = false by kernel_rfl, show tb 0 1 = false by kernel_rfl, show tb 0 512 = false by kernel_rfl, Bool.or_false]
  · simp only [if_true, show tb 512 4 = false by kernel_rfl, show tb 512 2 = false by kernel_rfl, show tb 512 1 = false by kernel_rfl, show tb 512 512 = true by kernel_rfl, Bool.or_false, Bool.or_true]
def G0 (l : List UInt8) (a : Int) : Prop := ∃ (v : Nat) (x : Int), v < 8 ∧ (x = 0 ∨ x = 2048) ∧ F3 0 64 v x = (l.take 4).drop 1 ∧ a = bits .or .i64 (v * 64) x
def G1 (l : List UInt8) (a : Int) : Prop := ∃ (v : Nat) (x : Int), v < 8 ∧ (x = 0 ∨ x = 1024) ∧ F3 1 8 v x = (l.take 7).drop 4 ∧ a = bits .or .i64 (v * 8) x
def G2 (l : List UInt8) (a : Int) : Prop := ∃ (v : Nat) (x : Int), v < 8 ∧ (x = 0 ∨ x = 512) ∧ F3 2 1 v x = (l.take 10).drop 7 ∧ a = bits .or .i64 (v * 1) x
theorem ten (l : List UInt8) (h : l.length = 10) : ∃ c r, l = c :: r ∧ l = c :: ((l.take 4).drop 1 ++ (l.take 7).drop 4 ++ (l.take 10).drop 7) := by
  match l, h with
  | [a0, a1, a2, a3, a4, a5, a6, a7, a8, a9], _ => exact ⟨a0, _, rfl, rfl⟩
theorem not_ok (l : List UInt8) (h : parOk l = false) : parR l = 0 ∧ parE l = 22 := ⟨by rw [parR, h]; rfl, by rw [parE, h]; rfl⟩
theorem ok_txt (l : List UInt8) (h : parOk l = true) : ∃ M, txt M = l ∧ l.head? ≠ some 63 := by
  simp only [parOk, Bool.and_eq_true, decide_eq_true_eq] at h
  exact ⟨_, h.2, h.1.2⟩
theorem no0 (l : List UInt8) (h : noF 0 64 2048 ((l.take 4).drop 1) 8) : parOk l = false := by
  cases hb : parOk l with
  | false => rfl
  | true =>
    obtain ⟨M, hM, -⟩ := ok_txt l hb
    obtain ⟨v, x, hv, hx, hF⟩ := cls0 M
    rw [hM] at hF
    rcases hx with rfl | rfl
    · exact absurd hF (h v hv).1
    · exact absurd hF (h v hv).2
theorem no1 (l : List UInt8) (h : noF 1 8 1024 ((l.take 7).drop 4) 8) : parOk l = false := by
  cases hb : parOk l with
  | false => rfl
  | true =>
    obtain ⟨M, hM, -⟩ := ok_txt l hb
    obtain ⟨v, x, hv, hx, hF⟩ := cls1 M
    rw [hM] at hF
    rcases hx with rfl | rfl
    · exact absurd hF (h v hv).1
    · exact absurd hF (h v hv).2
theorem no2 (l : List UInt8) (h : noF 2 1 512 ((l.take 10).drop 7) 8) : parOk l = false := by
  cases hb : parOk l with
  | false => rfl
  | true =>
    obtain ⟨M, hM, -⟩ := ok_txt l hb
    obtain ⟨v, x, hv, hx, hF⟩ := cls2 M
    rw [hM] at hF
    rcases hx with rfl | rfl
    · exact absurd hF (h v hv).1
    · exact absurd hF (h v hv).2
theorem nok (l : List UInt8) (hl : 0 < l.length) (h1 : l[0].toNat ≠ 100) (h2 : l[0].toNat ≠ 108) (h3 : l[0].toNat ≠ 112) (h4 : l[0].toNat ≠ 45) : parOk l = false := by
  cases hb : parOk l with
  | false => rfl
  | true =>
    obtain ⟨M, hM, h6⟩ := ok_txt l hb
    subst hM
    have hk : (((txt M)[0].toNat : Nat) : Int) = kindB M := b8k M
    have h5 : (txt M)[0].toNat ≠ 63 := fun h => h6 (by
      have : (txt M)[0] = 63 := UInt8.toNat_inj.1 h
      rw [← this]; rfl)
    unfold kindB at hk
    repeat' split at hk
    all_goals omega
theorem par_ok (l : List UInt8) (h10 : l.length = 10) (k : Int) (hk : k ∈ ([16384, 40960, 4096, 32768] : List Int)) (hc : (l[0].toNat : Int) = kindB k) (a b c : Int) (ga : G0 l a) (gb : G1 l b) (gc : G2 l c) : parR l = all4 k a b c ∧ parE l = 0 := by
  obtain ⟨v0, x0, hv0, hx0, hF0, rfl⟩ := ga
  obtain ⟨v1, x1, hv1, hx1, hF1, rfl⟩ := gb
  obtain ⟨v2, x2, hv2, hx2, hF2, rfl⟩ := gc
  obtain ⟨ht, hf⟩ := txt_all k hk v0 v1 v2 hv0 hv1 hv2 x0 x1 x2 (by simpa using hx0) (by simpa using hx1) (by simpa using hx2)
  obtain ⟨c0, r, hl, hl2⟩ := ten l h10
  have hcc : c0 = b8 (kindB k) := by
    apply UInt8.toNat_inj.1
    have h1 := b8k k
    subst hl
    simp at hc
    omega
  rw [hF0, hF1, hF2, ← hcc, ← hl2] at ht
  have hkk : kindB k ≠ 63 := by
    simp only [List.mem_cons, List.not_mem_nil, or_false] at hk
    rcases hk with rfl | rfl | rfl | rfl <;> exact by decide +kernel
  generalize hM : all4 k (mv 64 v0 x0) (mv 8 v1 x1) (mv 1 v2 x2) = M at *
  have hkM : ¬ kindB M = 63 := by
    intro h
    have h1 := b8k M
    rw [h] at h1
    have h2 : l.head? = some (b8 (kindB M)) := by rw [← ht]; rfl
    rw [hl] at h2
    simp at h2
    rw [h2, h] at hcc
    have h3 := b8k k
    rw [← hcc] at h3
    have h4 : ((b8 63).toNat : Int) = 63 := by decide +kernel
    omega
  have hp := par_txt M hkM
  rw [ht, hf] at hp
  have ho : parOk l = true := by
    simp only [parOk, Bool.and_eq_true, decide_eq_true_eq]
    refine ⟨⟨h10, ?_⟩, by rw [hp, ht]⟩
    rw [hl]
    intro h
    simp at h
    subst hl
    simp at hc
    rw [h] at hc
    exact hkk hc.symm
  exact ⟨by rw [parR, ho, hp]; exact hM.symm, by rw [parE, ho]; rfl⟩
end Pm
end Go.Proofs.Ytmminmdmhefefaa
