/- Several texts of this claim, one behind the other, in their order. -/
import Derived.WalkKit
import Derived.WalkSpells
import Derived.WalkLawsBesides
import Derived.Handy
import Derived.Deep.QuietTactic
import Derived.BigQuiet
import Derived.Below
import Derived.Test.YtpcbpikhiooafaaGreatDoorProg
import Derived.Test.YtpcbpikhiooafaaGreatDoorM2
import Derived.Deep.RegionHeld
/- Plain facts on the bits of 64-bit numbers. No condition. -/
namespace Go.Proofs.YtpcbpikhiooafaaGreatDoor
open Go.RowKit
namespace Pm
abbrev B (x : Int) : BitVec 64 := BitVec.ofInt 64 x
theorem wrap_toInt (v : BitVec 64) : IntKind.i64.wrap (v.toNat : Int) = v.toInt := by
  rw [BitVec.toInt_eq_toNat_bmod]
  simp only [IntKind.wrap, IntKind.bits, IntKind.signed, Int.bmod]
  have := v.isLt
  simp
  omega
theorem and_eq (x y : Int) : bits .and .i64 x y = (B x &&& B y).toInt := wrap_toInt _
theorem or_eq (x y : Int) : bits .or .i64 x y = (B x ||| B y).toInt := wrap_toInt _
theorem andNot_eq (x y : Int) : bits .andNot .i64 x y = (B x &&& ~~~B y).toInt := wrap_toInt _
def In64 (x : Int) : Prop := -9223372036854775808 ≤ x ∧ x < 9223372036854775808
theorem back {x : Int} (h : In64 x) : (B x).toInt = x := by
  rw [BitVec.toInt_ofInt]
  obtain ⟨h1, h2⟩ := h
  exact Int.bmod_eq_of_le_mul_two (by omega) (by omega)
theorem B_toInt (v : BitVec 64) : B v.toInt = v := BitVec.ofInt_toInt
theorem in_bv (v : BitVec 64) : In64 v.toInt := by
  have h1 := BitVec.le_toInt v
  have h2 := BitVec.toInt_lt (x := v)
  constructor <;> simp at h1 h2 <;> omega
theorem in_and (x y : Int) : In64 (bits .and .i64 x y) := by rw [and_eq]; exact in_bv _
theorem in_or (x y : Int) : In64 (bits .or .i64 x y) := by rw [or_eq]; exact in_bv _
theorem in_andNot (x y : Int) : In64 (bits .andNot .i64 x y) := by rw [andNot_eq]; exact in_bv _
/-- All of a's bits stand in b, said in two ways. -/
theorem sub_two {a : Int} (b : Int) (ha : In64 a) : (bits .andNot .i64 a b == 0) = (bits .and .i64 b a == a) := by
  rw [Bool.eq_iff_iff, beq_iff_eq, beq_iff_eq, andNot_eq, and_eq]
  conv => rhs; rhs; rw [← back ha]
  rw [BitVec.toInt_inj, show (0 : Int) = (0#64).toInt from rfl, BitVec.toInt_inj]
  constructor
  · intro h
    ext i hi
    have := congrArg (fun v => v.getLsbD i) h
    simp [hi] at this
    simp
    intro h1
    have := this (by simpa [hi] using h1)
    simpa [hi] using this
  · intro h
    ext i hi
    have := congrArg (fun v => v.getLsbD i) h
    simp [hi] at this
    simp
    simpa [hi] using this
theorem or_zero {x : Int} (h : In64 x) : bits .or .i64 0 x = x := by
  rw [or_eq, show B 0 = 0#64 from rfl, BitVec.zero_or, back h]
theorem toNat_B (x : Int) : (B x).toNat = (x % 18446744073709551616).toNat := by simp [BitVec.toNat_ofInt]
theorem toInt_small (v : BitVec 64) (h : v.toNat < 9223372036854775808) : v.toInt = v.toNat := by
  rw [BitVec.toInt_eq_toNat_bmod]; exact Int.bmod_eq_of_le_mul_two (by omega) (by omega)
/-- The lowest k bits. -/
theorem and_mask (x : Int) (k : Nat) (hk : k < 63) : bits .and .i64 x ((2 ^ k - 1 : Nat) : Int) = x % ((2 ^ k : Nat) : Int) := by
  have hp : (2 : Nat) ^ k ≤ 2 ^ 62 := Nat.pow_le_pow_right (by decide) (by omega)
  have hp0 : 0 < (2 : Nat) ^ k := Nat.two_pow_pos k
  have e : (B x &&& B ((2 ^ k - 1 : Nat) : Int)).toNat = (x % 18446744073709551616).toNat % 2 ^ k := by
    rw [BitVec.toNat_and, toNat_B, toNat_B, show (((2 ^ k - 1 : Nat) : Int) % 18446744073709551616).toNat = 2 ^ k - 1 by omega, Nat.and_two_pow_sub_one_eq_mod]
  have hlt : (x % 18446744073709551616).toNat % 2 ^ k < 2 ^ k := Nat.mod_lt _ hp0
  rw [and_eq, toInt_small _ (by rw [e]; omega), e]
  have hx : 0 ≤ x % 18446744073709551616 := Int.emod_nonneg _ (by decide)
  rw [Int.natCast_emod, Int.toNat_of_nonneg hx]
  apply Int.emod_emod_of_dvd
  refine ⟨((2 ^ (64 - k) : Nat) : Int), ?_⟩
  rw [← Int.natCast_mul, ← Nat.pow_add, show k + (64 - k) = 64 by omega]; rfl
end Pm
end Go.Proofs.YtpcbpikhiooafaaGreatDoor
/- Access, Member and Remove, of the program and of the plain answer. Condition: the groups lie where the slice says. -/
namespace Go.Proofs.YtpcbpikhiooafaaGreatDoor
open Go.RowKit
def Ints (w : World) (a : Option Addr) (xs : List Int) : Prop := ∀ i (h : i < xs.length), ∃ bk o, a = some ⟨bk, o, none⟩ ∧ bk < w.heap.size ∧ w.cell? ⟨bk, o + i, none⟩ = some (.int .i64 xs[i])
theorem Ints.grow {w w' : World} {a : Option Addr} {xs : List Int} (h : Ints w a xs) (b : Below w.heap.size w w') : Ints w' a xs := by
  intro i hi
  obtain ⟨bk, o, h1, h2, h3⟩ := h i hi
  exact ⟨bk, o, h1, Nat.lt_of_lt_of_le h2 b.size, by rw [b.cell h2]; exact h3⟩
theorem Ints.alloc {w : World} {a : Option Addr} {xs : List Int} (h : Ints w a xs) (o : Obj) : Ints (w.alloc o) a xs := h.grow ((Below.refl _ _).alloc (Nat.le_refl _) _)
theorem ret_bool {a b : Bool} (h : a = b) : Ending.returned (.bool a) = .returned (.bool b) := by rw [h]
def hasB (xs : List Int) (g : Int) : Bool := xs.contains g
theorem take_no (xs : List Int) (k : Nat) (g : Int) (h : k < xs.length) (hb : hasB (xs.take k) g = false) (hg : ¬ g = xs[k]) : hasB (xs.take (k + 1)) g = false := by
  unfold hasB at *
  rw [List.take_succ_eq_append_getElem h]
  simp only [List.contains_eq_mem, decide_eq_false_iff_not, List.mem_append, List.mem_singleton, not_or] at *
  exact ⟨hb, hg⟩
set_option maxRecDepth 100000 in
set_option maxHeartbeats 1000000 in
theorem sIndex (a : Option Addr) (c : Nat) (xs : List Int) (g : Int) (w : World) (hI : Ints w a xs) (hn : xs.length ≤ 9223372036854775807) :
    Calls Tryz.prog 148 #[.slice a xs.length c, .int .i64 g] w fun e w' => ∃ r : Int, e = .returned (.int .i64 r) ∧ Hid (0 ≤ r ↔ hasB xs g = true) ∧ w' = w := by
  have HI : Hid (Ints w a xs) := hI
  clear hI
  go_enter Tryz.func148, Tryz.ntmps148
  go_wp2
  go_loop [8] (fun t => ∃ k : Nat, k ≤ xs.length ∧ t = .int .i64 k ∧ Hid (hasB (xs.take k) g = false)) (fun t => xs.length - (intOf t).toNat)
  case atStart => exact ⟨0, by omega, rfl, by show _ = _; simp [hasB]⟩
  case round =>
    obtain ⟨k, hk, rfl, hb⟩ := hrel
    by_cases hlt : k < xs.length
    · obtain ⟨bk, o, rfl, -, hc⟩ := HI.out k hlt
      by_cases he : g = xs[k]
      · have he' : (g == xs[k]) = true := by simpa using he
        have HE : Hid (g = xs[k]) := he
        clear he
        go_wp2
        go_ret
        refine ⟨_, rfl, ?_, rfl⟩
        refine (iff_of_true (Int.natCast_nonneg k) ?_ : _ ↔ _)
        unfold hasB
        rw [List.contains_iff_mem, HE.out]
        exact List.getElem_mem hlt
      · have he' : (g == xs[k]) = false := by simpa using he
        have HE : Hid (¬ g = xs[k]) := he
        clear he
        go_wp2
        exact ⟨⟨k + 1, by omega, by go_num, take_no xs k g hlt hb.out HE.out⟩, by simp [intOf]; omega⟩
    · go_wp2
      go_ret
      refine ⟨_, rfl, ?_, rfl⟩
      have := hb.out
      rw [List.take_of_length_le (by omega)] at this
      show (0 : Int) ≤ -1 ↔ hasB xs g = true
      rw [this]
      decide
set_option maxRecDepth 100000 in
set_option maxHeartbeats 1000000 in
theorem sContains (a : Option Addr) (c : Nat) (xs : List Int) (g : Int) (w : World) (hI : Ints w a xs) (hn : xs.length ≤ 9223372036854775807) :
    Calls Tryz.prog 139 #[.slice a xs.length c, .int .i64 g] w fun e w' => e = .returned (.bool (hasB xs g)) ∧ w' = w := by
  go_enter Tryz.func139, Tryz.ntmps139
  go_wp2_with fail
  refine (sIndex a c xs g w hI hn).mono ?_
  rintro e w' ⟨r, rfl, hr, rfl⟩
  go_wp2
  go_ret
  exact ⟨ret_bool (by rw [Bool.eq_iff_iff]; simpa using hr.out), rfl⟩
def memB (g : Int) (xs : List Int) (gid : Int) : Bool := g == gid || hasB xs gid
set_option maxRecDepth 100000 in
set_option maxHeartbeats 1000000 in
theorem pMember (u g : Int) (a : Option Addr) (c : Nat) (xs : List Int) (um cw gid : Int) (w : World) (hI : Ints w a xs) (hn : xs.length ≤ 9223372036854775807) :
    Calls Tryz.prog 123 #[.agg #[.int .i64 u, .int .i64 g, .slice a xs.length c, .int .i64 um, .int .i64 cw], .int .i64 gid] w fun e w' => e = .returned (.bool (memB g xs gid)) ∧ Below w.heap.size w w' := by
  have HI : Hid (Ints w a xs) := hI
  clear hI
  by_cases hg : g = gid
  · have hg' : (g == gid) = true := by simpa using hg
    have HM : Hid (memB g xs gid = true) := by show _ = _; simp [memB, hg]
    clear hg
    go_enter Tryz.func123, Tryz.ntmps123
    go_wp2
    go_ret
    exact ⟨ret_bool HM.out.symm, (Below.refl _ _).alloc (Nat.le_refl _) _⟩
  · have hg' : (g == gid) = false := by simpa using hg
    have HM : Hid (memB g xs gid = hasB xs gid) := by show _ = _; simp [memB, hg]
    clear hg
    go_enter Tryz.func123, Tryz.ntmps123
    go_wp2_with fail
    refine (sContains a c xs gid _ (HI.out.alloc _) hn).mono ?_
    rintro e w' ⟨rfl, rfl⟩
    go_wp2
    go_ret
    exact ⟨ret_bool HM.out.symm, (Below.refl _ _).alloc (Nat.le_refl _) _⟩
def accB (m uid u : Int) (mem : Bool) (want : Int) : Bool :=
  let need := bits .and .i64 want 7
  if u = 0 then bits .and .i64 need 1 == 0 || bits .and .i64 m 61440 == 16384 || bits .and .i64 m 73 != 0
  else if u = uid then bits .and .i64 (m / 64) need == need
  else if mem then bits .and .i64 (m / 8) need == need
  else bits .and .i64 m need == need
set_option maxRecDepth 100000 in
set_option maxHeartbeats 1000000 in
theorem pAccess (m uid gid u g : Int) (a : Option Addr) (c : Nat) (xs : List Int) (um cw want : Int) (w : World) (hI : Ints w a xs) (hn : xs.length ≤ 9223372036854775807) :
    Calls Tryz.prog 99 #[.int .i64 m, .int .i64 uid, .int .i64 gid, .agg #[.int .i64 u, .int .i64 g, .slice a xs.length c, .int .i64 um, .int .i64 cw], .int .i64 want] w fun e w' => e = .returned (.bool (accB m uid u (memB g xs gid) want)) ∧ Below w.heap.size w w' := by
  have hB := fun o => (Below.refl w.heap.size w).alloc (Nat.le_refl _) o
  have HB : Hid (∀ o, Below w.heap.size w (w.alloc o)) := hB
  clear hB
  by_cases h0 : u = 0
  · have h0' : (u == 0) = true := by simpa using h0
    have HM : Hid (accB m uid u (memB g xs gid) want = (bits .and .i64 (bits .and .i64 want 7) 1 == 0 || bits .and .i64 m 61440 == 16384 || bits .and .i64 m 73 != 0)) := by show _ = _; simp [accB, h0]
    clear h0 hI
    cases h1 : (bits .and .i64 (bits .and .i64 want 7) 1 == 0) <;> cases h2 : (bits .and .i64 m 61440 == 16384) <;> cases h3 : (bits .and .i64 m 73 != 0)
    all_goals
      have HH := HM.out
      rw [h1, h2, h3] at HH
      have HK : Hid (accB m uid u (memB g xs gid) want = _) := HH
      clear HH HM
      go_enter Tryz.func99, Tryz.ntmps99
      go_wp2
      go_ret
      exact ⟨ret_bool HK.out.symm, HB.out _⟩
  · have h0' : (u == 0) = false := by simpa using h0
    by_cases h1 : u = uid
    · have h1' : (u == uid) = true := by simpa using h1
      have HM : Hid (accB m uid u (memB g xs gid) want = (bits .and .i64 (m / 64) (bits .and .i64 want 7) == bits .and .i64 want 7)) := by show _ = _; subst h1; simp [accB, h0]
      clear h0 hI h1
      go_enter Tryz.func99, Tryz.ntmps99
      go_wp2
      go_ret
      exact ⟨ret_bool (by rw [HM.out]; exact Pm.sub_two _ (Pm.in_and _ _)), HB.out _⟩
    · have h1' : (u == uid) = false := by simpa using h1
      have HM : Hid (accB m uid u (memB g xs gid) want = if memB g xs gid then (bits .and .i64 (m / 8) (bits .and .i64 want 7) == bits .and .i64 want 7) else (bits .and .i64 m (bits .and .i64 want 7) == bits .and .i64 want 7)) := by show _ = _; simp [accB, h0, h1]
      have HI : Hid (∀ o, Ints (w.alloc o) a xs) := fun o => hI.alloc o
      clear hI h0 h1
      go_enter Tryz.func99, Tryz.ntmps99
      go_wp2_with fail
      refine (pMember u g a c xs um cw gid _ (HI.out _) hn).mono ?_
      rintro e w' ⟨rfl, hb⟩
      have HW : Hid (Below w.heap.size w w') := (HB.out _).trans (hb.mono (by simp))
      clear hb
      cases hm : memB g xs gid
      · have HK := HM.out
        rw [hm] at HK
        have HN : Hid (accB m uid u false want = _) := HK
        clear HK HM
        go_wp2
        go_ret
        exact ⟨ret_bool (by rw [hm, HN.out]; exact Pm.sub_two _ (Pm.in_and _ _)), HW⟩
      · have HK := HM.out
        rw [hm] at HK
        have HN : Hid (accB m uid u true want = _) := HK
        clear HK HM
        go_wp2
        go_ret
        exact ⟨ret_bool (by rw [hm, HN.out]; exact Pm.sub_two _ (Pm.in_and _ _)), HW⟩
end Go.Proofs.YtpcbpikhiooafaaGreatDoor
/- The tree's small functions: what gives a call up, and what a file is. -/
namespace Go.Proofs.YtpcbpikhiooafaaGreatDoor
open Go.RowKit
/-- A call that gave up with an error. -/
def EP (e : Int) : List PanicEntry := [{ v := .iface 25 (.int .i64 e), recovered := false }]
theorem refuse_no (e : Value) (w : World) : Calls Tryz.prog 48 #[e, .bool false] w fun x w' => x = .returned (.tuple #[]) ∧ w' = w := by
  go_enter Tryz.func48, Tryz.ntmps48
  go_wp2
  exact ⟨rfl, _, results_none rfl _ _ _, rfl, rfl⟩
theorem refuse_yes (e : Int) (w : World) : Calls Tryz.prog 48 #[.int .i64 e, .bool true] w fun x w' => x = .panicked (EP e) ∧ w' = w := by
  go_enter Tryz.func48, Tryz.ntmps48
  go_wp2
  exact ⟨rfl, rfl, rfl⟩
theorem must_no (w : World) : Calls Tryz.prog 57 #[.int .i64 0] w fun x w' => x = .returned (.tuple #[]) ∧ w' = w := by
  go_enter Tryz.func57, Tryz.ntmps57
  go_wp2
  exact ⟨rfl, _, results_none rfl _ _ _, rfl, rfl⟩
theorem must_yes (e : Int) (he : (e == 0) = false) (w : World) : Calls Tryz.prog 57 #[.int .i64 e] w fun x w' => x = .panicked (EP e) ∧ w' = w := by
  go_enter Tryz.func57, Tryz.ntmps57
  go_wp2
  exact ⟨rfl, rfl, rfl⟩
end Go.Proofs.YtpcbpikhiooafaaGreatDoor
/- The tree's small functions on what Stat tells, and the task's call may. Conditions: the task lies in memory as 'TkAt' says (no groups); what Stat tells. -/
namespace Go.Proofs.YtpcbpikhiooafaaGreatDoor
open Go.RowKit
/-- A task: its table, who calls (of no groups). -/
structure TkAt (w : World) (k t : Nat) (u g : Int) (ga : Option Addr) (gc : Nat) (um cw : Int) : Prop where
  c0 : w.cell? ⟨k, 0, none⟩ = some (.pointer (some ⟨t, 0, none⟩))
  c1 : w.cell? ⟨k, 1, none⟩ = some (.int .i64 u)
  c2 : w.cell? ⟨k, 2, none⟩ = some (.int .i64 g)
  c3 : w.cell? ⟨k, 3, none⟩ = some (.slice ga 0 gc)
  c4 : w.cell? ⟨k, 4, none⟩ = some (.int .i64 um)
  c5 : w.cell? ⟨k, 5, none⟩ = some (.int .i64 cw)
theorem TkAt.lt {w : World} {k t : Nat} {u g : Int} {ga : Option Addr} {gc : Nat} {um cw : Int} (h : TkAt w k t u g ga gc um cw) : k < w.heap.size := block_lt_of_cell h.c0
theorem TkAt.mod {w w' : World} {k t : Nat} {u g : Int} {ga : Option Addr} {gc : Nat} {um cw : Int} (h : TkAt w k t u g ga gc um cw) {s : Nat → Prop} (hM : Mod s w w') (hk : ¬ s k) : TkAt w' k t u g ga gc um cw where
  c0 := (hM.cell (p := ⟨k, 0, none⟩) h.lt hk).trans h.c0
  c1 := (hM.cell (p := ⟨k, 1, none⟩) h.lt hk).trans h.c1
  c2 := (hM.cell (p := ⟨k, 2, none⟩) h.lt hk).trans h.c2
  c3 := (hM.cell (p := ⟨k, 3, none⟩) h.lt hk).trans h.c3
  c4 := (hM.cell (p := ⟨k, 4, none⟩) h.lt hk).trans h.c4
  c5 := (hM.cell (p := ⟨k, 5, none⟩) h.lt hk).trans h.c5
theorem TkAt.new {w w' : World} {k t : Nat} {u g : Int} {ga : Option Addr} {gc : Nat} {um cw : Int} (h : TkAt w k t u g ga gc um cw) (hM : Mod (fun _ => False) w w') : TkAt w' k t u g ga gc um cw := h.mod hM (fun e => e)
theorem hid6 {p : Prop} (h : p) : Hid p := h
theorem Mod.new6 {s : Nat → Prop} {w0 w w' : World} (h0 : Mod (fun _ => False) w0 w) (h : Mod s w w') (hs : ∀ k, s k → w0.heap.size ≤ k) : Mod (fun _ => False) w0 w' :=
  ⟨h.os.trans h0.os, h.tape.trans h0.tape, h.output.trans h0.output, Nat.le_trans h0.size h.size, fun k hk _ => (h.block k (Nat.lt_of_lt_of_le hk h0.size) (fun e => by have := hs k e; omega)).trans (h0.block k hk (fun h => h))⟩
theorem mod_below {w w' : World} (h : Below w.heap.size w w') : Mod (fun _ => False) w w' := ⟨h.os, h.tape, h.output, h.size, fun k hk _ => h.block k hk⟩
/-- What Stat tells, as a value. -/
def sA (s0 s1 s2 s3 s4 s5 s6 s7 s8 s9 : Int) : Value := .agg #[.int .i64 s0, .int .i64 s1, .int .i64 s2, .int .i64 s3, .int .i64 s4, .int .i64 s5, .int .i64 s6, .int .i64 s7, .int .i64 s8, .int .i64 s9]
/-- Where a path leads, as a value. -/
def spA (d : Int) (l : List UInt8) (i : Int) (sl : Bool) : Value := .agg #[.int .i64 d, .string ⟨l.toArray⟩, .int .i64 i, .bool sl]
section
variable (s0 s1 s2 s3 s4 s5 s6 s7 s8 s9 : Int) (w : World)
theorem tKind : Calls Tryz.prog 73 #[sA s0 s1 s2 s3 s4 s5 s6 s7 s8 s9] w fun e w' => e = .returned (.int .i64 (bits .and .i64 s6 61440)) ∧ Mod (fun _ => False) w w' := by
  have HB : Hid (∀ o, Mod (fun _ => False) w (w.alloc o)) := fun o => (Mod.refl _ w).alloc o
  unfold sA
  go_enter Tryz.func73, Tryz.ntmps73
  go_wp2
  go_ret
  exact ⟨rfl, HB.out _⟩
theorem tIsDir : Calls Tryz.prog 76 #[sA s0 s1 s2 s3 s4 s5 s6 s7 s8 s9] w fun e w' => e = .returned (.bool (bits .and .i64 s6 61440 == 16384)) ∧ Mod (fun _ => False) w w' := by
  have HB : Hid (∀ o, Mod (fun _ => False) w (w.alloc o)) := fun o => (Mod.refl _ w).alloc o
  have HK : Hid (∀ W, _) := fun W => tKind s0 s1 s2 s3 s4 s5 s6 s7 s8 s9 W
  unfold sA at *
  go_enter Tryz.func76, Tryz.ntmps76
  go_wp2_with (go_at_call 73; refine (HK.out _).mono ?_; rintro e w1 ⟨rfl, HM1⟩)
  go_ret
  exact ⟨rfl, (HB.out _).trans HM1⟩
theorem tGone : Calls Tryz.prog 94 #[sA s0 s1 s2 s3 s4 s5 s6 s7 s8 s9] w fun e w' => e = .returned (.bool (s1 == 0)) ∧ Mod (fun _ => False) w w' := by
  have HB : Hid (∀ o, Mod (fun _ => False) w (w.alloc o)) := fun o => (Mod.refl _ w).alloc o
  unfold sA
  go_enter Tryz.func94, Tryz.ntmps94
  go_wp2
  go_ret
  exact ⟨rfl, HB.out _⟩
end
theorem tThrough (d i e : Int) (l : List UInt8) (sl : Bool) (w : World) : Calls Tryz.prog 74 #[spA d l i sl, .int .i64 e] w fun x w' => x = .returned (.bool (e == 0 || (e == 1 && sl))) ∧ Mod (fun _ => False) w w' := by
  have HB : Hid (∀ o, Mod (fun _ => False) w (w.alloc o)) := fun o => (Mod.refl _ w).alloc o
  unfold spA
  cases h0 : (e == 0) <;> cases h1 : (e == 1)
  all_goals
    go_enter Tryz.func74, Tryz.ntmps74
    go_wp2
    go_ret
    exact ⟨by simp, HB.out _⟩
theorem tMasked {w : World} {k t : Nat} {u g : Int} {ga : Option Addr} {gc : Nat} {um cw : Int} (h : TkAt w k t u g ga gc um cw) (m : Int) : Calls Tryz.prog 79 #[.pointer (some ⟨k, 0, none⟩), .int .i64 m] w fun e w' => e = .returned (.int .i64 (bits .andNot .i64 m um)) ∧ w' = w := by
  have c4 := h.c4
  clear h
  go_enter Tryz.func79, Tryz.ntmps79
  go_wp2
  go_ret
  exact ⟨rfl, rfl⟩
theorem ints_nil (w : World) (a : Option Addr) : Ints w a [] := fun j h => absurd h (by simp)
set_option maxRecDepth 100000 in
set_option maxHeartbeats 2000000 in
theorem tMay {w : World} {k t : Nat} {u g : Int} {ga : Option Addr} {gc : Nat} {um cw : Int} (h : TkAt w k t u g ga gc um cw) (s0 s1 s2 s3 s4 s5 s6 s7 s8 s9 want : Int) :
    Calls Tryz.prog 82 #[.pointer (some ⟨k, 0, none⟩), sA s0 s1 s2 s3 s4 s5 s6 s7 s8 s9, .int .i64 want] w fun e w' => e = .returned (.bool (accB s6 s2 u (memB g [] s3) want)) ∧ Mod (fun _ => False) w w' := by
  have HP : Hid (∀ W, _) := fun W => pAccess s6 s2 s3 u g ga gc [] um cw want W (ints_nil W ga) (by simp)
  have HM0 : Hid (∀ o, Mod (fun _ => False) w (w.alloc o)) := fun o => (Mod.refl _ w).alloc o
  have hk := h.lt
  obtain ⟨c0, c1, c2, c3, c4, c5⟩ := h
  have hne : ∀ j (o : Obj), (w.alloc o).cell? ⟨k, j, none⟩ = w.cell? ⟨k, j, none⟩ := fun j o => World.cell?_alloc_past _ _ _ hk
  obtain ⟨B, hB⟩ : ∃ B, B = w.heap.size := ⟨_, rfl⟩
  have HS : Hid (∀ W W', Below W.heap.size W W' → w.heap.size < W.heap.size → (W.cell? ⟨k, 1, none⟩ = some (.int .i64 u) ∧ W.cell? ⟨k, 2, none⟩ = some (.int .i64 g) ∧ W.cell? ⟨k, 3, none⟩ = some (.slice ga 0 gc) ∧ W.cell? ⟨k, 4, none⟩ = some (.int .i64 um) ∧ W.cell? ⟨k, 5, none⟩ = some (.int .i64 cw) ∧ W.cell? ⟨w.heap.size, 6, none⟩ = some (.int .i64 s6) ∧ W.cell? ⟨w.heap.size, 2, none⟩ = some (.int .i64 s2) ∧ W.cell? ⟨w.heap.size, 3, none⟩ = some (.int .i64 s3)) → (W'.cell? ⟨k, 1, none⟩ = some (.int .i64 u) ∧ W'.cell? ⟨k, 2, none⟩ = some (.int .i64 g) ∧ W'.cell? ⟨k, 3, none⟩ = some (.slice ga 0 gc) ∧ W'.cell? ⟨k, 4, none⟩ = some (.int .i64 um) ∧ W'.cell? ⟨k, 5, none⟩ = some (.int .i64 cw) ∧ W'.cell? ⟨w.heap.size, 6, none⟩ = some (.int .i64 s6) ∧ W'.cell? ⟨w.heap.size, 2, none⟩ = some (.int .i64 s2) ∧ W'.cell? ⟨w.heap.size, 3, none⟩ = some (.int .i64 s3))) := fun W W' hb hw ⟨a1, a2, a3, a4, a5, a6, a7, a8⟩ =>
    ⟨(hb.cell (p := ⟨k, 1, none⟩) (by show k < _; omega)).trans a1, (hb.cell (p := ⟨k, 2, none⟩) (by show k < _; omega)).trans a2, (hb.cell (p := ⟨k, 3, none⟩) (by show k < _; omega)).trans a3, (hb.cell (p := ⟨k, 4, none⟩) (by show k < _; omega)).trans a4, (hb.cell (p := ⟨k, 5, none⟩) (by show k < _; omega)).trans a5, (hb.cell (p := ⟨w.heap.size, 6, none⟩) hw).trans a6, (hb.cell (p := ⟨w.heap.size, 2, none⟩) hw).trans a7, (hb.cell (p := ⟨w.heap.size, 3, none⟩) hw).trans a8⟩
  have hS0 : (w.alloc (.cells #[.int .i64 s0, .int .i64 s1, .int .i64 s2, .int .i64 s3, .int .i64 s4, .int .i64 s5, .int .i64 s6, .int .i64 s7, .int .i64 s8, .int .i64 s9] 54)).drew.cell? ⟨k, 1, none⟩ = some (.int .i64 u) ∧ (w.alloc (.cells #[.int .i64 s0, .int .i64 s1, .int .i64 s2, .int .i64 s3, .int .i64 s4, .int .i64 s5, .int .i64 s6, .int .i64 s7, .int .i64 s8, .int .i64 s9] 54)).drew.cell? ⟨k, 2, none⟩ = some (.int .i64 g) ∧ (w.alloc (.cells #[.int .i64 s0, .int .i64 s1, .int .i64 s2, .int .i64 s3, .int .i64 s4, .int .i64 s5, .int .i64 s6, .int .i64 s7, .int .i64 s8, .int .i64 s9] 54)).drew.cell? ⟨k, 3, none⟩ = some (.slice ga 0 gc) ∧ (w.alloc (.cells #[.int .i64 s0, .int .i64 s1, .int .i64 s2, .int .i64 s3, .int .i64 s4, .int .i64 s5, .int .i64 s6, .int .i64 s7, .int .i64 s8, .int .i64 s9] 54)).drew.cell? ⟨k, 4, none⟩ = some (.int .i64 um) ∧ (w.alloc (.cells #[.int .i64 s0, .int .i64 s1, .int .i64 s2, .int .i64 s3, .int .i64 s4, .int .i64 s5, .int .i64 s6, .int .i64 s7, .int .i64 s8, .int .i64 s9] 54)).drew.cell? ⟨k, 5, none⟩ = some (.int .i64 cw) ∧ (w.alloc (.cells #[.int .i64 s0, .int .i64 s1, .int .i64 s2, .int .i64 s3, .int .i64 s4, .int .i64 s5, .int .i64 s6, .int .i64 s7, .int .i64 s8, .int .i64 s9] 54)).drew.cell? ⟨w.heap.size, 6, none⟩ = some (.int .i64 s6) ∧ (w.alloc (.cells #[.int .i64 s0, .int .i64 s1, .int .i64 s2, .int .i64 s3, .int .i64 s4, .int .i64 s5, .int .i64 s6, .int .i64 s7, .int .i64 s8, .int .i64 s9] 54)).drew.cell? ⟨w.heap.size, 2, none⟩ = some (.int .i64 s2) ∧ (w.alloc (.cells #[.int .i64 s0, .int .i64 s1, .int .i64 s2, .int .i64 s3, .int .i64 s4, .int .i64 s5, .int .i64 s6, .int .i64 s7, .int .i64 s8, .int .i64 s9] 54)).drew.cell? ⟨w.heap.size, 3, none⟩ = some (.int .i64 s3) :=
    ⟨(hne _ _).trans c1, (hne _ _).trans c2, (hne _ _).trans c3, (hne _ _).trans c4, (hne _ _).trans c5, by show (w.alloc _).cell? _ = _; rw [World.cell?_alloc_at _ _ _ _ rfl]; rfl, by show (w.alloc _).cell? _ = _; rw [World.cell?_alloc_at _ _ _ _ rfl]; rfl, by show (w.alloc _).cell? _ = _; rw [World.cell?_alloc_at _ _ _ _ rfl]; rfl⟩
  clear hne c0
  unfold sA
  go_enter Tryz.func82, Tryz.ntmps82
  go_wp2_with fail
  go_region_held (fun W' => W'.cell? ⟨k, 1, none⟩ = some (.int .i64 u) ∧ W'.cell? ⟨k, 2, none⟩ = some (.int .i64 g) ∧ W'.cell? ⟨k, 3, none⟩ = some (.slice ga 0 gc) ∧ W'.cell? ⟨k, 4, none⟩ = some (.int .i64 um) ∧ W'.cell? ⟨k, 5, none⟩ = some (.int .i64 cw) ∧ W'.cell? ⟨w.heap.size, 6, none⟩ = some (.int .i64 s6) ∧ W'.cell? ⟨w.heap.size, 2, none⟩ = some (.int .i64 s2) ∧ W'.cell? ⟨w.heap.size, 3, none⟩ = some (.int .i64 s3)) (first | with_reducible exact hS1 | with_reducible exact hS0)
    (first | (go_at_call 99; refine (HP.out _).mono ?_; rintro e w1 ⟨rfl, HB1⟩; have hS1 := HS.out _ _ HB1 (by show _ < (w.alloc _).heap.size; simp) hS0))
  go_wp2
  go_ret
  exact ⟨rfl, ((Mod.drewN (HM0.out _) 1)).trans (mod_below HB1)⟩
end Go.Proofs.YtpcbpikhiooafaaGreatDoor
/- The task's call find, and vacant, writable. Conditions: the task lies in memory as 'TkAt' says (no groups); what Stat and Find tell. -/
namespace Go.Proofs.YtpcbpikhiooafaaGreatDoor
open Go.RowKit
/-- What the task's stat tells of an inode, in whatever later world. -/
def StA (w : World) (k : Nat) (i : Int) (f : Nat → Int) : Prop := ∀ W, Mod (fun _ => False) w W → Calls Tryz.prog 56 #[.pointer (some ⟨k, 0, none⟩), .int .i64 i] W fun e w' => (∃ bl : Nat, e = .returned (.agg #[.int .i64 i, .int .i64 (f 3), .int .i64 (f 1), .int .i64 (f 2), .int .i64 (f 5), .int .i64 (bl : Nat), .int .i64 (f 0), .int .i64 (f 6), .int .i64 (f 7), .int .i64 (f 8)])) ∧ Mod (fun _ => False) W w'
/-- What dir's Find tells, in whatever later world. -/
def FdA (w : World) (t : Nat) (i : Int) (l : List UInt8) (r er : Int) : Prop := ∀ W, Mod (fun _ => False) w W → Calls Tryz.prog 92 #[.pointer (some ⟨t, 0, none⟩), .int .i64 i, .string ⟨l.toArray⟩] W fun e w' => e = .returned (.tuple #[.int .i64 r, .int .i64 er]) ∧ Mod (fun _ => False) W w'
/-- What the task's find tells, in whatever later world. -/
def TfA (w : World) (k : Nat) (i : Int) (l : List UInt8) (r : Int) : Prop := ∀ W, Mod (fun _ => False) w W → Calls Tryz.prog 72 #[.pointer (some ⟨k, 0, none⟩), .int .i64 i, .string ⟨l.toArray⟩] W fun e w' => e = .returned (.int .i64 r) ∧ Mod (fun _ => False) W w'
theorem StA.new {w w' : World} {k : Nat} {i : Int} {f : Nat → Int} (h : StA w k i f) (hM : Mod (fun _ => False) w w') : StA w' k i f := fun W hW => h W (hM.trans hW)
theorem TfA.new {w w' : World} {k : Nat} {i : Int} {l : List UInt8} {r : Int} (h : TfA w k i l r) (hM : Mod (fun _ => False) w w') : TfA w' k i l r := fun W hW => h W (hM.trans hW)
set_option maxRecDepth 100000 in
set_option maxHeartbeats 2000000 in
theorem tFind {w : World} {k t : Nat} {u g : Int} {ga : Option Addr} {gc : Nat} {um cw : Int} (h : TkAt w k t u g ga gc um cw) (i : Int) (f : Nat → Int) (hS : StA w k i f) (hd : (bits .and .i64 (f 0) 61440 == 16384) = true) (hacc : accB (f 0) (f 1) u (memB g [] (f 2)) 1 = true) (l : List UInt8) (hl : ¬ l = [46]) (r er : Int) (hF : FdA w t i l r er) :
    Calls Tryz.prog 72 #[.pointer (some ⟨k, 0, none⟩), .int .i64 i, .string ⟨l.toArray⟩] w fun e w' => e = .returned (.int .i64 r) ∧ Mod (fun _ => False) w w' := by
  have HK := hid6 h
  have HS := hid6 hS
  have HF := hid6 hF
  have hl' : (l == [46]) = false := by simpa using hl
  have HI : Hid (∀ s0 s1 s2 s3 s4 s5 s7 s8 s9 W, _) := fun s0 s1 s2 s3 s4 s5 s7 s8 s9 W => tIsDir s0 s1 s2 s3 s4 s5 (f 0) s7 s8 s9 W
  have HY : Hid (∀ s0 s1 s4 s5 s7 s8 s9 W (hM : Mod (fun _ => False) w W), _) := fun s0 s1 s4 s5 s7 s8 s9 W hM => tMay (h.new hM) s0 s1 (f 1) (f 2) s4 s5 (f 0) s7 s8 s9 1
  unfold sA at HI HY
  rw [hd] at HI
  rw [hacc] at HY
  clear hS hF hacc hd
  obtain ⟨c0, -, -, -, -, -⟩ := h
  go_enter Tryz.func72, Tryz.ntmps72
  go_wp2_with fail
  refine (HS.out _ (Mod.refl _ _)).mono ?_
  rintro e w1 ⟨⟨bl, rfl⟩, M1⟩
  have HM1 := hid6 (fun o => M1.alloc o)
  clear M1
  go_wp2_with fail
  refine Calls.mono (HI.out _ _ _ _ _ _ _ _ _ _) ?_
  rintro e w2 ⟨rfl, M2⟩
  have HM2 := hid6 ((HM1.out _).trans M2)
  have k2 : ∀ j, j < 10 → w2.cell? ⟨w1.heap.size, j, none⟩ = _ := fun j hj => M2.cell (p := ⟨w1.heap.size, j, none⟩) (by simp) (fun e => e)
  clear M2 HM1
  have e0 := k2 0 (by omega); have e1 := k2 1 (by omega); have e2 := k2 2 (by omega); have e3 := k2 3 (by omega); have e4 := k2 4 (by omega); have e5 := k2 5 (by omega); have e6 := k2 6 (by omega); have e7 := k2 7 (by omega); have e8 := k2 8 (by omega); have e9 := k2 9 (by omega)
  simp [go_sem] at e0 e1 e2 e3 e4 e5 e6 e7 e8 e9
  clear k2
  go_wp2_with (first | (go_at_call 48; refine (refuse_no _ _).mono ?_; rintro e w3 ⟨rfl, hw3⟩; rw [hw3]; clear hw3 w3))
  refine Calls.mono (HY.out _ _ _ _ _ _ _ _ HM2.out) ?_
  rintro e w3 ⟨rfl, M3⟩
  have HM3 := hid6 (HM2.out.trans M3)
  have c0' : w3.cell? ⟨k, 0, none⟩ = some (.pointer (some ⟨t, 0, none⟩)) := (HK.out.new HM3.out).c0
  clear M3 e0 e1 e2 e3 e4 e5 e6 e7 e8 e9 HM2
  go_wp2_with (first | (go_at_call 48; refine (refuse_no _ _).mono ?_; rintro e w4 ⟨rfl, hw4⟩; rw [hw4]; clear hw4 w4))
  refine Calls.mono (HF.out _ HM3.out) ?_
  rintro e w4 ⟨rfl, M4⟩
  have HM4 := hid6 (HM3.out.trans M4)
  clear M4
  go_wp2
  go_ret
  exact ⟨rfl, HM4.out⟩
set_option maxRecDepth 100000 in
set_option maxHeartbeats 2000000 in
theorem tWritable {w : World} {k t : Nat} {u g : Int} {ga : Option Addr} {gc : Nat} {um cw : Int} (h : TkAt w k t u g ga gc um cw) (d i : Int) (l : List UInt8) (sl : Bool) (f : Nat → Int) (hS : StA w k d f) (hl : (f 3 == 0) = false) (hacc : accB (f 0) (f 1) u (memB g [] (f 2)) 2 = true) :
    Calls Tryz.prog 77 #[.pointer (some ⟨k, 0, none⟩), .agg #[.int .i64 d, .string ⟨l.toArray⟩, .int .i64 i, .bool sl]] w fun x w' => x = .returned (.tuple #[]) ∧ Mod (fun _ => False) w w' := by
  have HS := hid6 hS
  have HM0 : Hid (∀ o, Mod (fun _ => False) w (w.alloc o)) := fun o => (Mod.refl _ w).alloc o
  have HG : Hid (∀ s0 s2 s3 s4 s5 s6 s7 s8 s9 W, _) := fun s0 s2 s3 s4 s5 s6 s7 s8 s9 W => tGone s0 (f 3) s2 s3 s4 s5 s6 s7 s8 s9 W
  have HY : Hid (∀ s0 s1 s4 s5 s7 s8 s9 W (hM : Mod (fun _ => False) w W), _) := fun s0 s1 s4 s5 s7 s8 s9 W hM => tMay (h.new hM) s0 s1 (f 1) (f 2) s4 s5 (f 0) s7 s8 s9 2
  unfold sA at HG HY
  rw [hl] at HG
  rw [hacc] at HY
  clear hS hacc hl h
  go_enter Tryz.func77, Tryz.ntmps77
  go_wp2_with fail
  refine (HS.out _ (HM0.out _)).mono ?_
  rintro e w1 ⟨⟨bl, rfl⟩, M1⟩
  have HM1 := hid6 (fun o => ((HM0.out _).trans M1).alloc o)
  clear M1
  go_wp2_with fail
  refine Calls.mono (HG.out _ _ _ _ _ _ _ _ _ _) ?_
  rintro e w2 ⟨rfl, M2⟩
  have HM2 := hid6 ((HM1.out _).trans M2)
  have k2 : ∀ j, j < 10 → w2.cell? ⟨w1.heap.size, j, none⟩ = _ := fun j hj => M2.cell (p := ⟨w1.heap.size, j, none⟩) (by simp) (fun e => e)
  clear M2 HM1
  have e0 := k2 0 (by omega); have e1 := k2 1 (by omega); have e2 := k2 2 (by omega); have e3 := k2 3 (by omega); have e4 := k2 4 (by omega); have e5 := k2 5 (by omega); have e6 := k2 6 (by omega); have e7 := k2 7 (by omega); have e8 := k2 8 (by omega); have e9 := k2 9 (by omega)
  simp [go_sem] at e0 e1 e2 e3 e4 e5 e6 e7 e8 e9
  clear k2
  go_wp2_with (first | (go_at_call 48; refine (refuse_no _ _).mono ?_; rintro e w3 ⟨rfl, hw3⟩; rw [hw3]; clear hw3 w3))
  refine Calls.mono (HY.out _ _ _ _ _ _ _ _ HM2.out) ?_
  rintro e w3 ⟨rfl, M3⟩
  have HM3 := hid6 (HM2.out.trans M3)
  clear M3 e0 e1 e2 e3 e4 e5 e6 e7 e8 e9 HM2
  go_wp2_with (first | (go_at_call 48; refine (refuse_no _ _).mono ?_; rintro e w4 ⟨rfl, hw4⟩; rw [hw4]; clear hw4 w4))
  exact ⟨rfl, _, results_none rfl _ _ _, rfl, HM3.out⟩
end Go.Proofs.YtpcbpikhiooafaaGreatDoor
