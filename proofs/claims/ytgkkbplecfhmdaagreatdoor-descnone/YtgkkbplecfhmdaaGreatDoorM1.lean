/- Several texts of this claim, one behind the other, in their order. -/
import Derived.WalkKit
import Derived.WalkSpells
import Derived.WalkLawsBesides
import Derived.Handy
import Derived.Deep.QuietTactic
import Derived.BigQuiet
import Derived.Below
import Derived.Test.YtgkkbplecfhmdaaGreatDoorProg
/- Plain facts on the bits of 64-bit numbers. No condition. -/
namespace Go.Proofs.YtgkkbplecfhmdaaGreatDoor
open Go.RowKit
namespace Pm
abbrev B (x : Int) : BitVec 64 := BitVec.ofInt 64 x
theorem wrap_toInt (v : BitVec 64) : IntKind.i64.wrap (v.toNat : Int) = v.toInt := by
  rw [BitVec.toInt_eq_toNat_bmod]
  simp only [IntKind.wrap, IntKind.bits, IntKind.signed, Int.bmod]
  have := v.isLt
  simp
  omega
theorem and_eq (x y : Int) : bits .and .i64 x y = (B x &&& B y).toInt := wrap_toInt _
theorem or_eq (x y : Int) : bits .or .i64 x y = (B x ||| B y).toInt := wrap_toInt _
theorem andNot_eq (x y : Int) : bits .andNot .i64 x y = (B x &&& ~~~B y).toInt := wrap_toInt _
def In64 (x : Int) : Prop := -9223372036854775808 ≤ x ∧ x < 9223372036854775808
theorem back {x : Int} (h : In64 x) : (B x).toInt = x := by
  rw [BitVec.toInt_ofInt]
  obtain ⟨h1, h2⟩ := h
  exact Int.bmod_eq_of_le_mul_two (by omega) (by omega)
theorem B_toInt (v : BitVec 64) : B v.toInt = v := BitVec.ofInt_toInt
theorem in_bv (v : BitVec 64) : In64 v.toInt := by
  have h1 := BitVec.le_toInt v
  have h2 := BitVec.toInt_lt (x := v)
  constructor <;> simp at h1 h2 <;> omega
theorem in_and (x y : Int) : In64 (bits .and .i64 x y) := by rw [and_eq]; exact in_bv _
theorem in_or (x y : Int) : In64 (bits .or .i64 x y) := by rw [or_eq]; exact in_bv _
theorem in_andNot (x y : Int) : In64 (bits .andNot .i64 x y) := by rw [andNot_eq]; exact in_bv _
/-- All of a's bits stand in b, said in two ways. -/
theorem sub_two {a : Int} (b : Int) (ha : In64 a) : (bits .andNot .i64 a b == 0) = (bits .and .i64 b a == a) := by
  rw [Bool.eq_iff_iff, beq_iff_eq, beq_iff_eq, andNot_eq, and_eq]
  conv => rhs; rhs; rw [← back ha]
  rw [BitVec.toInt_inj, show (0 : Int) = (0#64).toInt from rfl, BitVec.toInt_inj]
  constructor
  · intro h
    ext i hi
    have := congrArg (fun v => v.getLsbD i) h
    simp [hi] at this
    simp
    intro h1
    have := this (by simpa [hi] using h1)
    simpa [hi] using this
  · intro h
    ext i hi
    have := congrArg (fun v => v.getLsbD i) h
    simp [hi] at this
    simp
    simpa [hi] using this
theorem or_zero {x : Int} (h : In64 x) : bits .or .i64 0 x = x := by
  rw [or_eq, show B 0 = 0#64 from rfl, BitVec.zero_or, back h]
theorem toNat_B (x : Int) : (B x).toNat = (x % 18446744073709551616).toNat := by simp [BitVec.toNat_ofInt]
theorem toInt_small (v : BitVec 64) (h : v.toNat < 9223372036854775808) : v.toInt = v.toNat := by
  rw [BitVec.toInt_eq_toNat_bmod]; exact Int.bmod_eq_of_le_mul_two (by omega) (by omega)
/-- The lowest k bits. -/
theorem and_mask (x : Int) (k : Nat) (hk : k < 63) : bits .and .i64 x ((2 ^ k - 1 : Nat) : Int) = x % ((2 ^ k : Nat) : Int) := by
  have hp : (2 : Nat) ^ k ≤ 2 ^ 62 := Nat.pow_le_pow_right (by decide) (by omega)
  have hp0 : 0 < (2 : Nat) ^ k := Nat.two_pow_pos k
  have e : (B x &&& B ((2 ^ k - 1 : Nat) : Int)).toNat = (x % 18446744073709551616).toNat % 2 ^ k := by
    rw [BitVec.toNat_and, toNat_B, toNat_B, show (((2 ^ k - 1 : Nat) : Int) % 18446744073709551616).toNat = 2 ^ k - 1 by omega, Nat.and_two_pow_sub_one_eq_mod]
  have hlt : (x % 18446744073709551616).toNat % 2 ^ k < 2 ^ k := Nat.mod_lt _ hp0
  rw [and_eq, toInt_small _ (by rw [e]; omega), e]
  have hx : 0 ≤ x % 18446744073709551616 := Int.emod_nonneg _ (by decide)
  rw [Int.natCast_emod, Int.toNat_of_nonneg hx]
  apply Int.emod_emod_of_dvd
  refine ⟨((2 ^ (64 - k) : Nat) : Int), ?_⟩
  rw [← Int.natCast_mul, ← Nat.pow_add, show k + (64 - k) = 64 by omega]; rfl
end Pm
end Go.Proofs.YtgkkbplecfhmdaaGreatDoor
/- Access, Member and Remove, of the program and of the plain answer. Condition: the groups lie where the slice says. -/
namespace Go.Proofs.YtgkkbplecfhmdaaGreatDoor
open Go.RowKit
def Ints (w : World) (a : Option Addr) (xs : List Int) : Prop := ∀ i (h : i < xs.length), ∃ bk o, a = some ⟨bk, o, none⟩ ∧ bk < w.heap.size ∧ w.cell? ⟨bk, o + i, none⟩ = some (.int .i64 xs[i])
theorem Ints.grow {w w' : World} {a : Option Addr} {xs : List Int} (h : Ints w a xs) (b : Below w.heap.size w w') : Ints w' a xs := by
  intro i hi
  obtain ⟨bk, o, h1, h2, h3⟩ := h i hi
  exact ⟨bk, o, h1, Nat.lt_of_lt_of_le h2 b.size, by rw [b.cell h2]; exact h3⟩
theorem Ints.alloc {w : World} {a : Option Addr} {xs : List Int} (h : Ints w a xs) (o : Obj) : Ints (w.alloc o) a xs := h.grow ((Below.refl _ _).alloc (Nat.le_refl _) _)
theorem ret_bool {a b : Bool} (h : a = b) : Ending.returned (.bool a) = .returned (.bool b) := by rw [h]
def hasB (xs : List Int) (g : Int) : Bool := xs.contains g
theorem take_no (xs : List Int) (k : Nat) (g : Int) (h : k < xs.length) (hb : hasB (xs.take k) g = false) (hg : ¬ g = xs[k]) : hasB (xs.take (k + 1)) g = false := by
  unfold hasB at *
  rw [List.take_succ_eq_append_getElem h]
  simp only [List.contains_eq_mem, decide_eq_false_iff_not, List.mem_append, List.mem_singleton, not_or] at *
  exact ⟨hb, hg⟩
set_option maxRecDepth 100000 in
set_option maxHeartbeats 1000000 in
theorem sIndex (a : Option Addr) (c : Nat) (xs : List Int) (g : Int) (w : World) (hI : Ints w a xs) (hn : xs.length ≤ 9223372036854775807) :
    Calls Tryz.prog 207 #[.slice a xs.length c, .int .i64 g] w fun e w' => ∃ r : Int, e = .returned (.int .i64 r) ∧ Hid (0 ≤ r ↔ hasB xs g = true) ∧ w' = w := by
  have HI : Hid (Ints w a xs) := hI
  clear hI
  go_enter Tryz.func207, Tryz.ntmps207
  go_wp2
  go_loop [8] (fun t => ∃ k : Nat, k ≤ xs.length ∧ t = .int .i64 k ∧ Hid (hasB (xs.take k) g = false)) (fun t => xs.length - (intOf t).toNat)
  case atStart => exact ⟨0, by omega, rfl, by show _ = _; simp [hasB]⟩
  case round =>
    obtain ⟨k, hk, rfl, hb⟩ := hrel
    by_cases hlt : k < xs.length
    · obtain ⟨bk, o, rfl, -, hc⟩ := HI.out k hlt
      by_cases he : g = xs[k]
      · have he' : (g == xs[k]) = true := by simpa using he
        have HE : Hid (g = xs[k]) := he
        clear he
        go_wp2
        go_ret
        refine ⟨_, rfl, ?_, rfl⟩
        refine (iff_of_true (Int.natCast_nonneg k) ?_ : _ ↔ _)
        unfold hasB
        rw [List.contains_iff_mem, HE.out]
        exact List.getElem_mem hlt
      · have he' : (g == xs[k]) = false := by simpa using he
        have HE : Hid (¬ g = xs[k]) := he
        clear he
        go_wp2
        exact ⟨⟨k + 1, by omega, by go_num, take_no xs k g hlt hb.out HE.out⟩, by simp [intOf]; omega⟩
    · go_wp2
      go_ret
      refine ⟨_, rfl, ?_, rfl⟩
      have := hb.out
      rw [List.take_of_length_le (by omega)] at this
      show (0 : Int) ≤ -1 ↔ hasB xs g = true
      rw [this]
      decide
set_option maxRecDepth 100000 in
set_option maxHeartbeats 1000000 in
theorem sContains (a : Option Addr) (c : Nat) (xs : List Int) (g : Int) (w : World) (hI : Ints w a xs) (hn : xs.length ≤ 9223372036854775807) :
    Calls Tryz.prog 193 #[.slice a xs.length c, .int .i64 g] w fun e w' => e = .returned (.bool (hasB xs g)) ∧ w' = w := by
  go_enter Tryz.func193, Tryz.ntmps193
  go_wp2_with fail
  refine (sIndex a c xs g w hI hn).mono ?_
  rintro e w' ⟨r, rfl, hr, rfl⟩
  go_wp2
  go_ret
  exact ⟨ret_bool (by rw [Bool.eq_iff_iff]; simpa using hr.out), rfl⟩
def memB (g : Int) (xs : List Int) (gid : Int) : Bool := g == gid || hasB xs gid
set_option maxRecDepth 100000 in
set_option maxHeartbeats 1000000 in
theorem pMember (u g : Int) (a : Option Addr) (c : Nat) (xs : List Int) (um cw gid : Int) (w : World) (hI : Ints w a xs) (hn : xs.length ≤ 9223372036854775807) :
    Calls Tryz.prog 174 #[.agg #[.int .i64 u, .int .i64 g, .slice a xs.length c, .int .i64 um, .int .i64 cw], .int .i64 gid] w fun e w' => e = .returned (.bool (memB g xs gid)) ∧ Below w.heap.size w w' := by
  have HI : Hid (Ints w a xs) := hI
  clear hI
  by_cases hg : g = gid
  · have hg' : (g == gid) = true := by simpa using hg
    have HM : Hid (memB g xs gid = true) := by show _ = _; simp [memB, hg]
    clear hg
    go_enter Tryz.func174, Tryz.ntmps174
    go_wp2
    go_ret
    exact ⟨ret_bool HM.out.symm, (Below.refl _ _).alloc (Nat.le_refl _) _⟩
  · have hg' : (g == gid) = false := by simpa using hg
    have HM : Hid (memB g xs gid = hasB xs gid) := by show _ = _; simp [memB, hg]
    clear hg
    go_enter Tryz.func174, Tryz.ntmps174
    go_wp2_with fail
    refine (sContains a c xs gid _ (HI.out.alloc _) hn).mono ?_
    rintro e w' ⟨rfl, rfl⟩
    go_wp2
    go_ret
    exact ⟨ret_bool HM.out.symm, (Below.refl _ _).alloc (Nat.le_refl _) _⟩
def accB (m uid u : Int) (mem : Bool) (want : Int) : Bool :=
  let need := bits .and .i64 want 7
  if u = 0 then bits .and .i64 need 1 == 0 || bits .and .i64 m 61440 == 16384 || bits .and .i64 m 73 != 0
  else if u = uid then bits .and .i64 (m / 64) need == need
  else if mem then bits .and .i64 (m / 8) need == need
  else bits .and .i64 m need == need
set_option maxRecDepth 100000 in
set_option maxHeartbeats 1000000 in
theorem pAccess (m uid gid u g : Int) (a : Option Addr) (c : Nat) (xs : List Int) (um cw want : Int) (w : World) (hI : Ints w a xs) (hn : xs.length ≤ 9223372036854775807) :
    Calls Tryz.prog 146 #[.int .i64 m, .int .i64 uid, .int .i64 gid, .agg #[.int .i64 u, .int .i64 g, .slice a xs.length c, .int .i64 um, .int .i64 cw], .int .i64 want] w fun e w' => e = .returned (.bool (accB m uid u (memB g xs gid) want)) ∧ Below w.heap.size w w' := by
  have hB := fun o => (Below.refl w.heap.size w).alloc (Nat.le_refl _) o
  have HB : Hid (∀ o, Below w.heap.size w (w.alloc o)) := hB
  clear hB
  by_cases h0 : u = 0
  · have h0' : (u == 0) = true := by simpa using h0
    have HM : Hid (accB m uid u (memB g xs gid) want = (bits .and .i64 (bits .and .i64 want 7) 1 == 0 || bits .and .i64 m 61440 == 16384 || bits .and .i64 m 73 != 0)) := by show _ = _; simp [accB, h0]
    clear h0 hI
    cases h1 : (bits .and .i64 (bits .and .i64 want 7) 1 == 0) <;> cases h2 : (bits .and .i64 m 61440 == 16384) <;> cases h3 : (bits .and .i64 m 73 != 0)
    all_goals
      have HH := HM.out
      rw [h1, h2, h3] at HH
      have HK : Hid (accB m uid u (memB g xs gid) want = _) := HH
      clear HH HM
      go_enter Tryz.func146, Tryz.ntmps146
      go_wp2
      go_ret
      exact ⟨ret_bool HK.out.symm, HB.out _⟩
  · have h0' : (u == 0) = false := by simpa using h0
    by_cases h1 : u = uid
    · have h1' : (u == uid) = true := by simpa using h1
      have HM : Hid (accB m uid u (memB g xs gid) want = (bits .and .i64 (m / 64) (bits .and .i64 want 7) == bits .and .i64 want 7)) := by show _ = _; subst h1; simp [accB, h0]
      clear h0 hI h1
      go_enter Tryz.func146, Tryz.ntmps146
      go_wp2
      go_ret
      exact ⟨ret_bool (by rw [HM.out]; exact Pm.sub_two _ (Pm.in_and _ _)), HB.out _⟩
    · have h1' : (u == uid) = false := by simpa using h1
      have HM : Hid (accB m uid u (memB g xs gid) want = if memB g xs gid then (bits .and .i64 (m / 8) (bits .and .i64 want 7) == bits .and .i64 want 7) else (bits .and .i64 m (bits .and .i64 want 7) == bits .and .i64 want 7)) := by show _ = _; simp [accB, h0, h1]
      have HI : Hid (∀ o, Ints (w.alloc o) a xs) := fun o => hI.alloc o
      clear hI h0 h1
      go_enter Tryz.func146, Tryz.ntmps146
      go_wp2_with fail
      refine (pMember u g a c xs um cw gid _ (HI.out _) hn).mono ?_
      rintro e w' ⟨rfl, hb⟩
      have HW : Hid (Below w.heap.size w w') := (HB.out _).trans (hb.mono (by simp))
      clear hb
      cases hm : memB g xs gid
      · have HK := HM.out
        rw [hm] at HK
        have HN : Hid (accB m uid u false want = _) := HK
        clear HK HM
        go_wp2
        go_ret
        exact ⟨ret_bool (by rw [hm, HN.out]; exact Pm.sub_two _ (Pm.in_and _ _)), HW⟩
      · have HK := HM.out
        rw [hm] at HK
        have HN : Hid (accB m uid u true want = _) := HK
        clear HK HM
        go_wp2
        go_ret
        exact ⟨ret_bool (by rw [hm, HN.out]; exact Pm.sub_two _ (Pm.in_and _ _)), HW⟩
set_option maxRecDepth 100000 in
set_option maxHeartbeats 1000000 in
theorem pRemove (d0 d1 d2 d3 d4 d5 d6 d7 d8 d9 f0 f1 f2 f3 f4 f5 f6 f7 f8 f9 u g : Int) (a : Option Addr) (n c : Nat) (um cw : Int) (w : World) :
    Calls Tryz.prog 166 #[.agg #[.int .i64 d0, .int .i64 d1, .int .i64 d2, .int .i64 d3, .int .i64 d4, .int .i64 d5, .int .i64 d6, .int .i64 d7, .int .i64 d8, .int .i64 d9], .agg #[.int .i64 f0, .int .i64 f1, .int .i64 f2, .int .i64 f3, .int .i64 f4, .int .i64 f5, .int .i64 f6, .int .i64 f7, .int .i64 f8, .int .i64 f9], .agg #[.int .i64 u, .int .i64 g, .slice a n c, .int .i64 um, .int .i64 cw]] w fun e w' => e = .returned (.bool (bits .and .i64 d6 512 == 0 || u == 0 || u == f2 || u == d2)) ∧ Below w.heap.size w w' := by
  have HB : Hid (∀ o o1 o2, Below w.heap.size w (((w.alloc o).alloc o1).alloc o2)) := fun o o1 o2 => (((Below.refl w.heap.size w).alloc (Nat.le_refl _) o).alloc (by simp) _).alloc (by simp; omega) _
  cases h1 : (bits .and .i64 d6 512 == 0) <;> cases h2 : (u == 0) <;> cases h3 : (u == f2) <;> cases h4 : (u == d2)
  all_goals
    go_enter Tryz.func166, Tryz.ntmps166
    go_wp2
    go_ret
    exact ⟨rfl, HB.out _ _ _⟩
end Go.Proofs.YtgkkbplecfhmdaaGreatDoor
/- The tree's small functions: what gives a call up, and what a file is. -/
namespace Go.Proofs.YtgkkbplecfhmdaaGreatDoor
open Go.RowKit
/-- A call that gave up with an error. -/
def EP (e : Int) : List PanicEntry := [{ v := .iface 35 (.int .i64 e), recovered := false }]
theorem refuse_no (e : Value) (w : World) : Calls Tryz.prog 43 #[e, .bool false] w fun x w' => x = .returned (.tuple #[]) ∧ w' = w := by
  go_enter Tryz.func43, Tryz.ntmps43
  go_wp2
  exact ⟨rfl, _, results_none rfl _ _ _, rfl, rfl⟩
theorem refuse_yes (e : Int) (w : World) : Calls Tryz.prog 43 #[.int .i64 e, .bool true] w fun x w' => x = .panicked (EP e) ∧ w' = w := by
  go_enter Tryz.func43, Tryz.ntmps43
  go_wp2
  exact ⟨rfl, rfl, rfl⟩
theorem must_no (w : World) : Calls Tryz.prog 52 #[.int .i64 0] w fun x w' => x = .returned (.tuple #[]) ∧ w' = w := by
  go_enter Tryz.func52, Tryz.ntmps52
  go_wp2
  exact ⟨rfl, _, results_none rfl _ _ _, rfl, rfl⟩
theorem must_yes (e : Int) (he : (e == 0) = false) (w : World) : Calls Tryz.prog 52 #[.int .i64 e] w fun x w' => x = .panicked (EP e) ∧ w' = w := by
  go_enter Tryz.func52, Tryz.ntmps52
  go_wp2
  exact ⟨rfl, rfl, rfl⟩
end Go.Proofs.YtgkkbplecfhmdaaGreatDoor
