/- The program's numberIn and Number; bytes.TrimLeft and TrimRight of noughts, CutPrefix of one byte. Condition: lengths that fit. -/
import Derived.Test.YtdjefinehabifaaDoorOa3
namespace Go.Proofs.YtdjefinehabifaaDoor
open Go.RowKit
attribute [local go_sem] ext_eq app_eq get_eq
namespace Od
/-- A text without the byte that it may begin with. -/
def cp (x : UInt8) (l : List UInt8) : List UInt8 := if l.head? = some x then l.tail else l
theorem cp_len (x : UInt8) (l : List UInt8) : (cp x l).length ≤ l.length := by unfold cp; split <;> simp
def LZ (l : List UInt8) : List UInt8 := l.dropWhile (fun c => decide (c = 48))
def RZ (l : List UInt8) : List UInt8 := (l.reverse.dropWhile (fun c => decide (c = 48))).reverse
theorem LZ_cons (l : List UInt8) : LZ (48 :: l) = LZ l := by simp [LZ]
theorem LZ_stop {l : List UInt8} (h : 0 < l.length) (hc : l[0] ≠ 48) : LZ l = l := by
  cases l with
  | nil => simp at h
  | cons c r => simp at hc; simp [LZ, hc]
theorem LZ_len (l : List UInt8) : (LZ l).length ≤ l.length := by
  unfold LZ; exact (List.dropWhile_sublist _).length_le
theorem RZ_len (l : List UInt8) : (RZ l).length ≤ l.length := by
  unfold RZ; have := (List.dropWhile_sublist (fun c => decide (c = (48 : UInt8))) (l := l.reverse)).length_le; simpa using this
theorem RZ_snoc (l : List UInt8) (c : UInt8) : RZ (l ++ [c]) = if c = 48 then RZ l else l ++ [c] := by
  unfold RZ
  rw [List.reverse_append]
  by_cases h : c = 48
  · simp [h]
  · simp [h]
theorem RZ_cut {l : List UInt8} (h : 0 < l.length) (hc : l[l.length - 1] = 48) : RZ (l.take (l.length - 1)) = RZ l := by
  have e : l = l.take (l.length - 1) ++ [48] := by
    conv => lhs; rw [← List.take_append_drop (l.length - 1) l]
    congr 1
    rw [List.drop_eq_getElem_cons (by omega), hc, List.drop_eq_nil_of_le (by omega)]
  conv => rhs; rw [e]
  rw [RZ_snoc, if_pos rfl]
theorem RZ_stop {l : List UInt8} (h : 0 < l.length) (hc : l[l.length - 1] ≠ 48) : RZ l = l := by
  have e : l = l.take (l.length - 1) ++ [l[l.length - 1]] := by
    conv => lhs; rw [← List.take_append_drop (l.length - 1) l]
    congr 1
    rw [List.drop_eq_getElem_cons (by omega), List.drop_eq_nil_of_le (by omega)]
  conv => lhs; rw [e]
  rw [RZ_snoc, if_neg hc, ← e]
/-- What stands behind a number's sign; its digits; those behind its point. -/
def n2 (l : List UInt8) : List UInt8 := cp 45 (l.drop (lead bl l))
def nW (l : List UInt8) : List UInt8 := (n2 l).take (lead dg (n2 l))
def n3 (l : List UInt8) : List UInt8 := (n2 l).drop (lead dg (n2 l))
def nD (l : List UInt8) : List UInt8 := if (n3 l).head? = some 46 then (cp 46 (n3 l)).take (lead dg (cp 46 (n3 l))) else []
def nG (l : List UInt8) : Bool := decide ((l.drop (lead bl l)).head? = some 45) && decide (0 < (LZ (nW l)).length + (RZ (nD l)).length)
end Od
theorem Sr.empty (W : World) : Sr W none 0 [] := ⟨Src.nil _ _, Nat.le_refl _, fun _ => rfl⟩
set_option maxRecDepth 100000 in
set_option maxHeartbeats 2000000 in
theorem oTrimLB (l : List UInt8) (a : Option Addr) (c : Nat) (hl : l.length ≤ 2 ^ 60) (w : World) (hS : Sr w a c l) : Calls Tryd.prog 82 #[.slice a l.length c, .int .u8 48] w fun e w' => w' = w ∧ ∃ a' c', e = .returned (.slice a' (Od.LZ l).length c') ∧ Sr w a' c' (Od.LZ l) := by
  have HS := hidA hS
  clear hS
  go_enter Tryd.func82, Tryd.ntmps82
  go_wp2
  go_loop [0] (fun s0 => ∃ (x : List UInt8) (a' : Option Addr) (c' : Nat), s0 = .slice a' x.length c' ∧ x.length ≤ 2 ^ 60 ∧ Hid (Sr w a' c' x) ∧ Hid (Od.LZ x = Od.LZ l)) (fun s0 => match s0 with | .slice _ n _ => n | _ => 0)
  case atStart => exact ⟨l, a, c, rfl, hl, HS, hidA rfl⟩
  case round =>
    obtain ⟨x, a', c', rfl, hx, HX, HE⟩ := hrel
    cases x with
    | nil =>
      have HR : Hid (Od.LZ l = []) := HE.out.symm
      clear HS HX HE
      go_wp2_with (go_quiet (fail))
      go_ret
      rw [HR.out]
      exact ⟨rfl, none, 0, rfl, Sr.empty w⟩
    | cons u r =>
      obtain ⟨g, o, rfl, hg, hc⟩ := HX.out.src 0 (by simp)
      rw [show (u :: r)[0] = u from rfl, Nat.add_zero] at hc
      by_cases hu : u = 48
      · subst hu
        have hc8 : w.cell? ⟨g, o, none⟩ = some (.int .u8 48) := hc
        clear hc
        obtain ⟨a2, c2, hs2, hr2⟩ := sl_from HX.out 1 (by simp)
        have HX2 := hidA hr2
        rw [show ((48 : UInt8) :: r).drop 1 = r from rfl] at HX2 hs2
        have HE2 : Hid (Od.LZ r = Od.LZ l) := by rw [← HE.out, Od.LZ_cons]; exact hidA rfl
        have hlr : r.length ≤ 2 ^ 60 := by simp at hx; omega
        have hn : 0 < (48 :: r : List UInt8).length := by simp
        have hln : r.length < (48 :: r : List UInt8).length := by simp
        clear HS HX HE hr2
        obtain ⟨N, hN⟩ : ∃ N, N = (48 :: r : List UInt8).length := ⟨_, rfl⟩
        rw [← hN] at hx hs2 hn hln ⊢
        have hs3 : ∀ W : World, (Instr.slice 22 (.slice (some ⟨g, o, none⟩) N c') (some (.int .i64 1)) none none).run Tryd.prog W = .ok (.slice a2 r.length c2) W := hs2
        clear hN hs2
        go_wp2_with (go_quiet (fail))
        exact ⟨⟨r, a2, c2, rfl, hlr, HX2, HE2⟩, hln⟩
      · have e1 := byte_no u 48 48 rfl hu
        have HR : Hid (Od.LZ l = u :: r) := by rw [← HE.out, Od.LZ_stop (by simp) (by simpa using hu)]; exact hidA rfl
        have HX2 := hidA HX.out
        have hn : 0 < (u :: r).length := by simp
        clear HS HX HE
        generalize u :: r = y at *
        go_wp2_with (go_quiet (fail))
        go_ret
        rw [HR.out]
        exact ⟨rfl, _, _, rfl, HX2.out⟩
set_option maxRecDepth 100000 in
set_option maxHeartbeats 2000000 in
theorem oTrimRB (l : List UInt8) (a : Option Addr) (c : Nat) (hl : l.length ≤ 2 ^ 60) (w : World) (hS : Sr w a c l) : Calls Tryd.prog 86 #[.slice a l.length c, .int .u8 48] w fun e w' => w' = w ∧ ∃ a' c', e = .returned (.slice a' (Od.RZ l).length c') ∧ Sr w a' c' (Od.RZ l) := by
  have HS := hidA hS
  clear hS
  go_enter Tryd.func86, Tryd.ntmps86
  go_wp2
  go_loop [0] (fun s0 => ∃ (x : List UInt8) (a' : Option Addr) (c' : Nat), s0 = .slice a' x.length c' ∧ x.length ≤ 2 ^ 60 ∧ Hid (Sr w a' c' x) ∧ Hid (Od.RZ x = Od.RZ l)) (fun s0 => match s0 with | .slice _ n _ => n | _ => 0)
  case atStart => exact ⟨l, a, c, rfl, hl, HS, hidA rfl⟩
  case round =>
    obtain ⟨x, a', c', rfl, hx, HX, HE⟩ := hrel
    by_cases hn : 0 < x.length
    · obtain ⟨g, o, rfl, hg, hc⟩ := HX.out.src (x.length - 1) (by omega)
      obtain ⟨k, Hk⟩ : ∃ k, Hid (k = x.length - 1) := ⟨_, hidA rfl⟩
      have hkx : k < x.length := by have := Hk.out; omega
      have hsub : IntKind.i64.wrap ((x.length : Int) - 1) = (k : Int) := by have := Hk.out; rw [IntKind.wrap_i64]; omega
      have hsub2 : (x.length : Int) - 1 = (k : Int) := by have := Hk.out; omega
      have hc8 : w.cell? ⟨g, o + k, none⟩ = some (.int .u8 (x[k]'hkx).toNat) := by
        have := Hk.out
        subst this; exact hc
      clear hc
      by_cases hu : x[k]'hkx = 48
      · rw [hu] at hc8
        have hc9 : w.cell? ⟨g, o + k, none⟩ = some (.int .u8 48) := hc8
        obtain ⟨hs2, hr2⟩ := sl_to HX.out k (by omega)
        have HX2 := hidA hr2
        have HE2 : Hid (Od.RZ (x.take k) = Od.RZ l) := by
          have h1 := Hk.out
          subst h1
          rw [← HE.out, Od.RZ_cut hn hu]; exact hidA rfl
        have hlen : (x.take k).length < x.length := by rw [List.length_take]; omega
        have hle2 : (x.take k).length ≤ 2 ^ 60 := by omega
        clear HS HX HE hr2 hu hc8 Hk
        generalize x.take k = r at *
        go_wp2_with (go_quiet (fail))
        exact ⟨⟨r, _, _, rfl, hle2, HX2, HE2⟩, hlen⟩
      · have e1 := byte_no (x[k]'hkx) 48 48 rfl hu
        have HR : Hid (Od.RZ l = x) := by
          have h1 := Hk.out
          subst h1
          rw [← HE.out, Od.RZ_stop hn hu]; exact hidA rfl
        have HX2 := hidA HX.out
        clear HS HX HE hu Hk
        generalize x[k]'hkx = u at *
        go_wp2_with (go_quiet (fail))
        go_ret
        rw [HR.out]
        exact ⟨rfl, _, _, rfl, HX2.out⟩
    · have hx0 : x = [] := List.length_eq_zero_iff.1 (by omega)
      subst hx0
      have HR : Hid (Od.RZ l = []) := HE.out.symm
      have HX2 := hidA HX.out
      clear HS HX HE hn
      go_wp2_with (go_quiet (fail))
      go_ret
      rw [HR.out]
      exact ⟨rfl, _, _, rfl, HX2.out⟩
theorem st48 (w : World) : (Instr.index 9 (.string ⟨#[48]⟩) (.int .i64 0)).run Tryd.prog w = .ok (.int .u8 48) w := by kernel_rfl
set_option maxRecDepth 100000 in
set_option maxHeartbeats 2000000 in
theorem oTrimL (l : List UInt8) (a : Option Addr) (c : Nat) (hl : l.length ≤ 2 ^ 60) (w : World) (hS : Sr w a c l) : Calls Tryd.prog 58 #[.slice a l.length c, .string ⟨#[48]⟩] w fun e w' => w' = w ∧ ∃ a' c', e = .returned (.slice a' (Od.LZ l).length c') ∧ Sr w a' c' (Od.LZ l) := by
  have HA := hidA (oTrimLB l a c hl w hS)
  by_cases hn : l.length = 0
  · have h0 : l = [] := List.length_eq_zero_iff.1 hn
    subst h0
    clear HA hS
    go_enter Tryd.func58, Tryd.ntmps58
    go_wp2_with fail
    go_ret
    exact ⟨rfl, none, 0, rfl, Sr.empty w⟩
  · have hne : ((l.length : Int) == 0) = false := by rw [beq_eq_false_iff_ne]; omega
    have h48 := st48
    clear hS
    go_enter Tryd.func58, Tryd.ntmps58
    go_wp2_with (go_at_call 82; refine HA.out.mono ?_; rintro e w1 ⟨hw1, a', c', rfl, hr⟩; rw [hw1]; clear hw1 w1)
    go_ret
    exact ⟨rfl, _, _, rfl, hr⟩
set_option maxRecDepth 100000 in
set_option maxHeartbeats 2000000 in
theorem oTrimR (l : List UInt8) (a : Option Addr) (c : Nat) (hl : l.length ≤ 2 ^ 60) (w : World) (hS : Sr w a c l) : Calls Tryd.prog 59 #[.slice a l.length c, .string ⟨#[48]⟩] w fun e w' => w' = w ∧ ∃ a' c', e = .returned (.slice a' (Od.RZ l).length c') ∧ Sr w a' c' (Od.RZ l) := by
  have HA := hidA (oTrimRB l a c hl w hS)
  by_cases hn : l.length = 0
  · have h0 : l = [] := List.length_eq_zero_iff.1 hn
    subst h0
    have HS := hidA hS
    clear HA hS
    go_enter Tryd.func59, Tryd.ntmps59
    go_wp2_with fail
    go_ret
    exact ⟨rfl, a, c, rfl, HS.out⟩
  · have hne : ((l.length : Int) == 0) = false := by rw [beq_eq_false_iff_ne]; omega
    have h48 := st48
    clear hS
    go_enter Tryd.func59, Tryd.ntmps59
    go_wp2_with (go_at_call 86; refine HA.out.mono ?_; rintro e w1 ⟨hw1, a', c', rfl, hr⟩; rw [hw1]; clear hw1 w1)
    go_ret
    exact ⟨rfl, _, _, rfl, hr⟩
theorem oCut (l : List UInt8) (a : Option Addr) (c g : Nat) (x : UInt8) (w : World) (hS : Sr w a c l) (hg : w.cell? ⟨g, 0, none⟩ = some (.int .u8 x.toNat)) : Calls Tryd.prog 54 #[.slice a l.length c, .slice (some ⟨g, 0, none⟩) 1 1] w fun e w' => w' = w ∧ ∃ a' c', e = .returned (.tuple #[.slice a' (Od.cp x l).length c', .bool (decide (l.head? = some x))]) ∧ Sr w a' c' (Od.cp x l) := by
  cases l with
  | nil =>
    refine (Tryd.bytes_CutPrefix_e1 a (some ⟨g, 0, none⟩) c 1 1 (by omega) w).mono ?_
    rintro e w' ⟨rfl, rfl⟩
    exact ⟨rfl, a, c, rfl, hS⟩
  | cons u r =>
    obtain ⟨gb, o, rfl, -, -⟩ := hS.src 0 (by simp)
    refine (Tryd.bytes_CutPrefix gb o (u :: r).length c g 0 1 1 (nums (u :: r)) (nums [x]) w (nums_len _) rfl hS.le (fun i hi => by
      obtain ⟨g', o', e, _, hc⟩ := hS.src i hi
      cases e
      rw [nums_get _ hi]; exact hc) (fun i hi => by
      obtain rfl : i = 0 := by omega
      exact hg)).mono ?_
    rintro e w' ⟨rfl, rfl⟩
    rw [nums_of, nums_of]
    have hp : Lib.hasPrefix (u :: r) [x] = decide (u = x) := by
      by_cases h : u = x
      · simp [Lib.hasPrefix, List.isPrefixOf, h]
      · simp [Lib.hasPrefix, List.isPrefixOf, h, Ne.symm h]
    unfold Lib.bytesTrimPrefix
    rw [nums_of, nums_of, hp]
    by_cases h : u = x
    · subst h
      have e2 : Od.cp u (u :: r) = r := if_pos rfl
      have h2 := hS.src.sub 1 (u :: r).length c (Nat.le_refl _) hS.le
      rw [List.take_length, show (u :: r).drop 1 = r from rfl, show (some (⟨gb, o, none⟩ : Addr)).map (·.add (1 * 1)) = some ⟨gb, o + 1, none⟩ by simp [Addr.add]] at h2
      have hle := hS.le
      rw [List.length_cons] at hle
      rw [e2]
      refine ⟨rfl, (if c = 1 then some ⟨gb, o, none⟩ else some ⟨gb, o + 1, none⟩), c - 1, ?_, h2, by omega, fun e => by split at e <;> cases e⟩
      rw [if_pos (by simp)]
      unfold Lib.sliceFrom
      rw [show (nums [u]).length = 1 from rfl]
      simp
    · have e2 : Od.cp x (u :: r) = u :: r := if_neg (by simp [h])
      refine ⟨rfl, some ⟨gb, o, none⟩, c, ?_, by rw [e2]; exact hS⟩
      rw [e2, if_neg (by simp [h])]
      simp [h]
end Go.Proofs.YtdjefinehabifaaDoor
