/- Plain facts for PermChanges: clauses by lists, and what the program's reader makes of them. No condition. -/
import Derived.Test.YtmminmdmhefefaaPmd
namespace Go.Proofs.Ytmminmdmhefefaa
open Go.RowKit
namespace Pm
def isU (c : UInt8) : Bool := [117, 103, 111, 97].contains c
def isO (c : UInt8) : Bool := [43, 45, 61].contains c
def isV (c : UInt8) : Bool := [117, 103, 111].contains c
def isR (c : UInt8) : Bool := [114, 119, 120, 88, 115, 116].contains c
def whoR (c : UInt8) : Int := if c = 117 then 2496 else if c = 103 then 1080 else if c = 111 then 519 else 4095
def whatR (old : Int) (c : UInt8) : Int := if c = 114 then 292 else if c = 119 then 146 else if c = 120 then 73 else if c = 115 then 3072 else if c = 116 then 512 else if c = 88 then mxB old else 0
def copR (now : Int) (c : UInt8) : Int := if c = 117 then fa (now / 64) else if c = 103 then fa (now / 8) else fa now
def p1 (m : Int) : List UInt8 → Int × List UInt8
  | [] => (m, [])
  | c :: cs => if isU c then p1 (bits .or .i64 m (whoR c)) cs else (m, c :: cs)
def p3 (old b : Int) : List UInt8 → Int × List UInt8
  | [] => (b, [])
  | c :: cs => if isR c then p3 old (bits .or .i64 b (whatR old c)) cs else (b, c :: cs)
def appR (op : UInt8) (now b mask : Int) : Int :=
  if op = 43 then bits .or .i64 now (bits .and .i64 b mask) else if op = 45 then bits .andNot .i64 now (bits .and .i64 b mask) else bits .or .i64 (bits .andNot .i64 now mask) (bits .and .i64 b mask)
def actR (old now : Int) : List UInt8 → Int × List UInt8
  | [] => (0, [])
  | c :: cs => if isV c then (copR now c, cs) else p3 old 0 (c :: cs)
def acts (old mask : Int) : Nat → Int → List UInt8 → Option Int
  | _, now, [] => some now
  | 0, _, _ :: _ => none
  | n + 1, now, op :: r => if isO op then acts old mask n (appR op now (actR old now r).1 mask) (actR old now r).2 else none
def clB (old un now : Int) (s : List UInt8) : Option Int :=
  if (p1 0 s).2 = [] then none else acts old (if (p1 0 s).2.length = s.length then un else (p1 0 s).1) s.length now (p1 0 s).2
def refRun (old un : Int) : Int → List UInt8 → List UInt8 → Option Int
  | now, part, [] => clB old un now part
  | now, part, c :: cs => if c = 44 then (clB old un now part).bind fun n => refRun old un n [] cs else refRun old un now (part ++ [c]) cs
theorem nat_c (c : UInt8) (k : Nat) (hk : k < 256) : ((c.toNat : Int) = (k : Int)) ↔ c = UInt8.ofNat k := by
  constructor
  · intro h
    apply UInt8.toNat_inj.1
    rw [UInt8.toNat_ofNat']
    omega
  · intro h
    rw [h, UInt8.toNat_ofNat']
    omega
theorem op_c (c : UInt8) : ((c.toNat : Int) = 43 ∨ (c.toNat : Int) = 45 ∨ (c.toNat : Int) = 61) ↔ isO c = true := by
  have h1 := nat_c c 43 (by decide)
  have h2 := nat_c c 45 (by decide)
  have h3 := nat_c c 61 (by decide)
  simp [isO]
  simp at h1 h2 h3
  rw [h1, h2, h3]
theorem take_op (r : Rd) (c : UInt8) (h : isO c = true) : takeB r c.toNat = some { r with now := nowB r, sign := c.toNat, what := 0, bare := true, closed := false } := by
  unfold takeB
  rw [if_pos ((op_c c).2 h)]
theorem bits_c (now old : Int) (c : UInt8) : bitsB now (mxB old) c.toNat = if isR c then some (whatR old c) else if isV c then some (copR now c) else none := by
  have e := fun k hk => nat_c c k hk
  unfold bitsB whatR copR
  by_cases h1 : c = 114
  · subst h1; rfl
  by_cases h2 : c = 119
  · subst h2; rfl
  by_cases h3 : c = 120
  · subst h3; rfl
  by_cases h4 : c = 88
  · subst h4; rfl
  by_cases h5 : c = 115
  · subst h5; rfl
  by_cases h6 : c = 116
  · subst h6; rfl
  by_cases h7 : c = 117
  · subst h7; rfl
  by_cases h8 : c = 103
  · subst h8; rfl
  by_cases h9 : c = 111
  · subst h9; rfl
  have g : ∀ k : Nat, k < 256 → c ≠ UInt8.ofNat k → ¬ (c.toNat : Int) = (k : Int) := fun k hk hc h => hc ((nat_c c k hk).1 h)
  rw [if_neg (show ¬ (c.toNat : Int) = 114 from g 114 (by decide) h1), if_neg (show ¬ (c.toNat : Int) = 119 from g 119 (by decide) h2), if_neg (show ¬ (c.toNat : Int) = 120 from g 120 (by decide) h3), if_neg (show ¬ (c.toNat : Int) = 88 from g 88 (by decide) h4), if_neg (show ¬ (c.toNat : Int) = 115 from g 115 (by decide) h5), if_neg (show ¬ (c.toNat : Int) = 116 from g 116 (by decide) h6), if_neg (show ¬ (c.toNat : Int) = 117 from g 117 (by decide) h7), if_neg (show ¬ (c.toNat : Int) = 103 from g 103 (by decide) h8), if_neg (show ¬ (c.toNat : Int) = 111 from g 111 (by decide) h9)]
  simp [isR, isV, h1, h2, h3, h4, h5, h6, h7, h8, h9]
theorem alone_c (c : UInt8) : aloneB c.toNat = isV c := by
  have h1 := nat_c c 117 (by decide)
  have h2 := nat_c c 103 (by decide)
  have h3 := nat_c c 111 (by decide)
  simp at h1 h2 h3
  rw [Bool.eq_iff_iff]
  simp [aloneB, isV]
  rw [h1, h2, h3]
  simp [or_assoc]
theorem take_letter (r : Rd) (c : UInt8) (hs : ¬ r.sign = 0) (ho : isO c = false) (hc : c ≠ 44) : takeB r c.toNat = letterB r c.toNat := by
  unfold takeB
  rw [if_neg (fun h => by rw [(op_c c).1 h] at ho; cases ho), if_neg hs, if_neg (show ¬ (c.toNat : Int) = 44 from fun h => hc ((nat_c c 44 (by decide)).1 h))]
theorem take_R (old : Int) (r : Rd) (c : UInt8) (hs : ¬ r.sign = 0) (hm : r.mx = mxB old) (hcl : r.closed = false) (hR : isR c = true) : takeB r c.toNat = some { r with what := bits .or .i64 r.what (whatR old c), bare := false, closed := false } := by
  have hV : isV c = false := by
    simp [isR] at hR
    rcases hR with rfl | rfl | rfl | rfl | rfl | rfl <;> rfl
  have hO : isO c = false := by
    simp [isR] at hR
    rcases hR with rfl | rfl | rfl | rfl | rfl | rfl <;> rfl
  have h4 : c ≠ 44 := by rintro rfl; simp [isR] at hR
  rw [take_letter r c hs hO h4]
  unfold letterB
  rw [alone_c, hV, hcl, hm, bits_c, hR]
  rfl
theorem take_V (old : Int) (r : Rd) (c : UInt8) (hs : ¬ r.sign = 0) (hm : r.mx = mxB old) (hcl : r.closed = false) (hb : r.bare = true) (hV : isV c = true) : takeB r c.toNat = some { r with what := bits .or .i64 r.what (copR r.now c), bare := false, closed := true } := by
  have hR : isR c = false := by
    simp [isV] at hV
    rcases hV with rfl | rfl | rfl <;> rfl
  have hO : isO c = false := by
    simp [isV] at hV
    rcases hV with rfl | rfl | rfl <;> rfl
  have h4 : c ≠ 44 := by rintro rfl; simp [isV] at hV
  rw [take_letter r c hs hO h4]
  unfold letterB
  rw [alone_c, hV, hcl, hm, hb, bits_c, hR, hV]
  rfl
theorem take_bad (old : Int) (r : Rd) (c : UInt8) (hs : ¬ r.sign = 0) (hm : r.mx = mxB old) (ho : isO c = false) (hc : c ≠ 44) (h : r.closed = true ∨ (isV c = true ∧ r.bare = false) ∨ (isV c = false ∧ isR c = false)) : takeB r c.toNat = none := by
  rw [take_letter r c hs ho hc]
  unfold letterB
  rw [alone_c, hm, bits_c]
  rcases h with h | ⟨h1, h2⟩ | ⟨h1, h2⟩
  · rw [h]; rfl
  · rw [h1, h2]; simp
  · rw [h1, h2]; simp
theorem now_app (r : Rd) (c : UInt8) (hO : isO c = true) (hs : r.sign = c.toNat) : nowB r = appR c r.now r.what (whoB r) := by
  unfold nowB appR
  simp [isO] at hO
  rw [hs]
  rcases hO with rfl | rfl | rfl <;> rfl
theorem in_cop (now : Int) (c : UInt8) : In64 (copR now c) := by
  unfold copR fa
  have h1 := and7 (now / 64)
  have h2 := and7 (now / 8)
  have h3 := and7 now
  unfold In64
  repeat' split
  all_goals omega
end Pm
end Go.Proofs.Ytmminmdmhefefaa
