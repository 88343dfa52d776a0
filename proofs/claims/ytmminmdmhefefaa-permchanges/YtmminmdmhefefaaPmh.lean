/- Plain facts for PermBack: a text is read back, octal digits set, a clause for all. No condition. -/
import Derived.Test.YtmminmdmhefefaaPmd
import Derived.Test.YtmminmdmhefefaaPmf
import Derived.Test.YtmminmdmhefefaaPmg
namespace Go.Proofs.Ytmminmdmhefefaa
open Go.RowKit
namespace Pm
theorem and_or (X c d : BitVec 64) : (X &&& c) ||| (X &&& d) = X &&& (c ||| d) := by
  ext i hi
  simp
  cases X[i] <;> simp
theorem kof_kind (x : Int) (h : ¬ kindB x = 63) : kof (kindB x) = bits .and .i64 x 61440 := by
  unfold kindB at h ⊢
  split
  · rename_i h1; rw [eq_of_beq h1]; rfl
  · split
    · rename_i h1; rw [eq_of_beq h1]; rfl
    · split
      · rename_i h1; rw [eq_of_beq h1]; rfl
      · split
        · rename_i h1; rw [eq_of_beq h1]; rfl
        · rename_i h1 h2 h3 h4
          rw [if_neg h1, if_neg h2, if_neg h3, if_neg h4] at h
          exact absurd rfl h
theorem bof_chr (x q c : Int) (i : Nat) (hq : q ∈ ([1, 2, 4, 8, 16, 32, 64, 128, 256, 512, 1024, 2048] : List Int)) (hc : c = 114 ∨ c = 119 ∨ c = 120) (hi : ((2 ^ (9 - i) : Nat) : Int) = q) : bof (chr x q c) i = bits .and .i64 x q := by
  rw [and_bit x q hq]
  unfold chr
  cases tb x q
  · simp [bof]
  · simp only [if_true]
    unfold bof
    rw [if_pos hc, hi]
theorem bof_trd (x q qs c : Int) (i : Nat) (hq : q ∈ ([1, 2, 4, 8, 16, 32, 64, 128, 256, 512, 1024, 2048] : List Int)) (hs : qs ∈ ([1, 2, 4, 8, 16, 32, 64, 128, 256, 512, 1024, 2048] : List Int)) (hc : c = 115 ∨ c = 116) (hi : ((2 ^ (9 - i) : Nat) : Int) = q) (hk : ((2 ^ (12 - i / 3) : Nat) : Int) = qs) :
    bof (trd x q qs c) i = bits .or .i64 (bits .and .i64 x q) (bits .and .i64 x qs) := by
  rw [and_bit x q hq, and_bit x qs hs]
  unfold trd
  have hz : ∀ y, In64 y → bits .or .i64 y 0 = y := fun y h => by rw [or_eq, show B 0 = 0#64 from rfl, BitVec.or_zero, back h]
  have iq : In64 q := by simp only [List.mem_cons, List.not_mem_nil, or_false] at hq; unfold In64; omega
  have is : In64 qs := by simp only [List.mem_cons, List.not_mem_nil, or_false] at hs; unfold In64; omega
  cases tb x qs
  · simp only [Bool.false_eq_true, if_false]
    rw [bof_chr x q 120 i hq (by simp) hi, and_bit x q hq, hz]
    cases tb x q
    · exact (show In64 0 from ⟨by decide, by decide⟩)
    · exact iq
  · simp only [if_true]
    unfold chr
    cases tb x q
    · simp only [Bool.false_eq_true, if_false]
      rw [or_zero is]
      unfold spc bof
      rcases hc with rfl | rfl <;> simp [hk]
    · simp only [if_true]
      unfold spc bof
      rcases hc with rfl | rfl <;> simp [hk, hi]
theorem b8k (x : Int) : ((b8 (kindB x)).toNat : Int) = kindB x := b8_back (kind_in x).1 (kind_in x).2
theorem b8c (x q c : Int) (h0 : 0 ≤ c) (h1 : c < 256) : ((b8 (chr x q c)).toNat : Int) = chr x q c := b8_back (chr_in x q c h0 h1).1 (chr_in x q c h0 h1).2
theorem b8t (x q qs c : Int) (h0 : 32 ≤ c) (h1 : c < 256) : ((b8 (trd x q qs c)).toNat : Int) = trd x q qs c := b8_back (trd_in x q qs c h0 h1).1 (trd_in x q qs c h0 h1).2
theorem par_txt (x : Int) (h : ¬ kindB x = 63) : parM (txt x) = bits .and .i64 x 65535 := by
  have e : parM (txt x) = bits .or .i64 (bits .or .i64 (bits .or .i64 (bits .or .i64 (bits .or .i64 (bits .or .i64 (bits .or .i64 (bits .or .i64 (bits .or .i64 (bits .and .i64 x 61440) (bits .and .i64 x 256)) (bits .and .i64 x 128)) (bits .or .i64 (bits .and .i64 x 64) (bits .and .i64 x 2048))) (bits .and .i64 x 32)) (bits .and .i64 x 16)) (bits .or .i64 (bits .and .i64 x 8) (bits .and .i64 x 1024))) (bits .and .i64 x 4)) (bits .and .i64 x 2)) (bits .or .i64 (bits .and .i64 x 1) (bits .and .i64 x 512)) := by
    simp only [txt, txtI, List.map_cons, List.map_nil, parM, orF]
    rw [b8k, b8c _ _ _ (by decide) (by decide), b8c _ _ _ (by decide) (by decide), b8t _ _ _ _ (by decide) (by decide), b8c _ _ _ (by decide) (by decide), b8c _ _ _ (by decide) (by decide), b8t _ _ _ _ (by decide) (by decide), b8c _ _ _ (by decide) (by decide), b8c _ _ _ (by decide) (by decide), b8t _ _ _ _ (by decide) (by decide)]
    rw [kof_kind x h, bof_chr x 256 114 1 (by simp) (by simp) rfl, bof_chr x 128 119 2 (by simp) (by simp) rfl, bof_trd x 64 2048 115 3 (by simp) (by simp) (by simp) rfl rfl, bof_chr x 32 114 4 (by simp) (by simp) rfl, bof_chr x 16 119 5 (by simp) (by simp) rfl, bof_trd x 8 1024 115 6 (by simp) (by simp) (by simp) rfl rfl, bof_chr x 4 114 7 (by simp) (by simp) rfl, bof_chr x 2 119 8 (by simp) (by simp) rfl, bof_trd x 1 512 116 9 (by simp) (by simp) (by simp) rfl rfl]
  rw [e]
  simp only [and_eq, or_eq, B_toInt, and_or]
  congr 2
theorem and_twice (m : Int) : bits .and .i64 (bits .and .i64 m 65535) 65535 = bits .and .i64 m 65535 := by
  simp only [and_eq, B_toInt, BitVec.and_assoc, BitVec.and_self]
theorem par_back (m : Int) (h : ¬ kindB (bits .and .i64 m 65535) = 63) : parR (txt (bits .and .i64 m 65535)) = bits .and .i64 m 65535 ∧ parE (txt (bits .and .i64 m 65535)) = 0 := by
  have hp := par_txt _ h
  rw [and_twice] at hp
  have hh : (txt (bits .and .i64 m 65535)).head? ≠ some 63 := by
    simp only [txt, txtI, List.map_cons, List.head?_cons]
    intro k
    have k2 := b8k (bits .and .i64 m 65535)
    rw [Option.some.inj k] at k2
    exact h k2.symm
  have ho : parOk (txt (bits .and .i64 m 65535)) = true := by
    unfold parOk
    rw [hp]
    simp [hh]
    rfl
  exact ⟨by rw [parR, ho, hp]; rfl, by rw [parE, ho]; rfl⟩
theorem and7' (x q : Int) : bits .and .i64 (x / q) 7 = x / q % 8 := and_mask (x / q) 3 (by decide)
theorem b8o (x q : Int) : ((b8 (od x q)).toNat : Int) = od x q := by
  have h := and7 (x / q)
  exact b8_back (by unfold od; omega) (by unfold od; omega)
theorem dig_od (x q : Int) : dig (b8 (od x q)) = true := by
  have h := and7 (x / q)
  unfold dig
  rw [b8o]
  unfold od
  simp
  omega
theorem chg_oct (x umask : Int) : chgO (oct x) 32768 umask = some (bits .and .i64 x 4095) := by
  have h1 : chgO (oct x) 32768 umask = numB (oct x) := by
    show (if dig (b8 (od x 512)) then _ else _) = _
    rw [dig_od]; rfl
  rw [h1]
  have h2 : numB (oct x) = numF 0 (oct x) := rfl
  rw [h2]
  simp only [oct, octI, List.map_cons, List.map_nil, numF, dig_od, if_true, b8o]
  unfold od
  rw [and7', and7', and7', and7']
  have h3 := and_mask x 12 (by decide)
  rw [show ((2 ^ 12 - 1 : Nat) : Int) = 4095 from rfl, show ((2 ^ 12 : Nat) : Int) = 4096 from rfl] at h3
  rw [h3]
  congr 1
  omega
theorem chg_rw (x umask : Int) : chgO [97, 43, 114, 119] x umask = some (bits .or .i64 (bits .and .i64 x 4095) 438) := by kernel_rfl
theorem chg_x (x umask : Int) : chgO [97, 43, 120, 44, 97, 45, 114, 119, 120, 115, 116] x umask = some (bits .andNot .i64 (bits .or .i64 (bits .and .i64 x 4095) 73) 4095) := by kernel_rfl
theorem absorb (X Y C : BitVec 64) : (X ||| (Y ||| C)) &&& C = C := by
  ext i hi
  simp
  cases C[i] <;> simp
theorem gone (X P Y C : BitVec 64) (h : P &&& C = 0#64) : ((X &&& P) ||| (Y &&& ~~~C)) &&& C = 0#64 := by
  ext i hi
  have k := congrArg (fun v => v[i]) h
  simp at k ⊢
  cases hp : P[i] <;> cases hc : C[i] <;> simp_all
theorem rw_all (x umask : Int) : bits .and .i64 (chgM [97, 43, 114, 119] x umask) 438 = 438 := by
  rw [chgM, chg_rw]
  simp only [and_eq, or_eq, B_toInt, absorb]
  rfl
theorem x_none (x umask : Int) : bits .and .i64 (chgM [97, 43, 120, 44, 97, 45, 114, 119, 120, 115, 116] x umask) 4095 = 0 := by
  rw [chgM, chg_x]
  simp only [and_eq, or_eq, andNot_eq, B_toInt]
  rw [gone _ _ _ _ (by decide)]
  rfl
end Pm
end Go.Proofs.Ytmminmdmhefefaa
