/- The program's reach, part, Part. Condition: lengths that fit. -/
import Derived.Test.YtdjefinehabifaaDoorOa2
import Derived.Deep.DeepCutAuto
namespace Go.Proofs.YtdjefinehabifaaDoor
open Go.RowKit
attribute [local go_sem] ext_eq app_eq get_eq
namespace Od
/-- The place behind the first n bytes of a field, behind its blanks or not. -/
def rc (sk : Bool) (l : List UInt8) (b e : Nat) (n : Int) : Nat := (b + if sk then lead bl ((l.take e).drop b) else 0) + (min n ((l.length - (b + if sk then lead bl ((l.take e).drop b) else 0) : Nat) : Int)).toNat
theorem skip_le (sk : Bool) (l : List UInt8) (b e : Nat) (h1 : b ≤ e) (h2 : e ≤ l.length) : (b + if sk then lead bl ((l.take e).drop b) else 0) ≤ l.length := by
  have := lead_le bl ((l.take e).drop b)
  have hl : ((l.take e).drop b).length = e - b := by simp [h2]
  split <;> omega
theorem rc_le (sk : Bool) (l : List UInt8) (b e : Nat) (n : Int) (h1 : b ≤ e) (h2 : e ≤ l.length) : rc sk l b e n ≤ l.length := by
  have := skip_le sk l b e h1 h2
  unfold rc; omega
abbrev K5 := Int × Int × Int × Int × Int
/-- A key's flags: do blanks ahead of a field not count? -/
def sk (k : K5) : Bool := decide (bits .and .i64 k.2.2.2.2 8 ≠ 0)
/-- Where a key's part begins, and where it ends. -/
def lo (l : List UInt8) (k : K5) (sep : UInt8) : Nat := rc (sk k) l (fd sep l k.1).1 (fd sep l k.1).2 (max k.2.1 1 - 1)
def hi (l : List UInt8) (k : K5) (sep : UInt8) : Nat := if 0 < k.2.2.1 then (if 0 < k.2.2.2.1 then rc (sk k) l (fd sep l k.2.2.1).1 (fd sep l k.2.2.1).2 k.2.2.2.1 else (fd sep l k.2.2.1).2) else l.length
theorem lo_le (l : List UInt8) (k : K5) (sep : UInt8) : lo l k sep ≤ l.length := rc_le _ _ _ _ _ (fd_in sep l _).1 (fd_in sep l _).2
theorem hi_le (l : List UInt8) (k : K5) (sep : UInt8) : hi l k sep ≤ l.length := by
  unfold hi
  split
  · split
    · exact rc_le _ _ _ _ _ (fd_in sep l _).1 (fd_in sep l _).2
    · exact (fd_in sep l _).2
  · exact Nat.le_refl _
def PT (l : List UInt8) (k : K5) (sep : UInt8) : List UInt8 := (l.take (hi l k sep)).drop (min (lo l k sep) (hi l k sep))
end Od
set_option maxRecDepth 100000 in
set_option maxHeartbeats 2000000 in
theorem oReach (l : List UInt8) (a : Option Addr) (c b e : Nat) (n F : Int) (hl : l.length ≤ 2 ^ 60) (hbe : b ≤ e) (hel : e ≤ l.length) (h0 : 0 ≤ n) (hn : n < 2 ^ 63) (w : World) (hS : Sr w a c l) : Calls Tryd.prog 53 #[.slice a l.length c, .int .i64 b, .int .i64 e, .int .i64 n, .int .i64 F] w fun e' w' => e' = .returned (.int .i64 ((Od.rc (decide (bits .and .i64 F 8 ≠ 0)) l b e n : Nat) : Int)) ∧ w' = w := by
  obtain ⟨R, HR⟩ : ∃ R : Nat, Hid (R = Od.rc (decide (bits .and .i64 F 8 ≠ 0)) l b e n) := ⟨_, hidA rfl⟩
  rw [← HR.out]
  have hR := HR.out
  clear HR
  unfold Od.rc at hR
  have hsk := Od.skip_le (decide (bits .and .i64 F 8 ≠ 0)) l b e hbe hel
  by_cases hz : bits .and .i64 F 8 = 0
  · rw [decide_eq_false (by simp [hz])] at hR
    simp only [Bool.false_eq_true, if_false, Nat.add_zero] at hR
    have hb2 : b ≤ l.length := by omega
    obtain ⟨M, hM⟩ : ∃ M : Nat, Hid ((M : Int) = min n ((l.length : Int) - b)) := ⟨(min n ((l.length : Int) - b)).toNat, hidA (by omega)⟩
    have hmin : min n ((l.length : Int) - b) = (M : Int) := hM.out.symm
    have hMb : M ≤ 2 ^ 60 := by have := hM.out; omega
    have hR3 := hidA (show R = b + M by have := hM.out; omega)
    clear hR hM hS
    go_enter Tryd.func53, Tryd.ntmps53
    go_wp2_with fail
    go_ret
    exact ⟨by rw [hR3.out]; simp, rfl⟩
  · have hz2 : (bits .and .i64 F 8 == 0) = false := by simpa using hz
    rw [decide_eq_true (by simpa using hz)] at hR hsk
    simp only [if_true] at hR hsk
    obtain ⟨a1, c1, hs1, hr⟩ := sl_mid hS b e hbe hel
    have HA := hidA (oLeadBlank ((l.take e).drop b) a1 c1 (by simp; omega) w hr.src)
    generalize (l.take e).drop b = r at *
    generalize Od.lead Od.bl r = B at *
    have hb2 : b + B ≤ l.length := hsk
    obtain ⟨M, hM⟩ : ∃ M : Nat, Hid ((M : Int) = min n ((l.length : Int) - ((b : Int) + (B : Int)))) := ⟨(min n ((l.length : Int) - ((b : Int) + (B : Int)))).toNat, hidA (by omega)⟩
    have hmin : min n ((l.length : Int) - ((b : Int) + (B : Int))) = (M : Int) := hM.out.symm
    have hMb : M ≤ 2 ^ 60 := by have := hM.out; omega
    have hR3 := hidA (show R = b + B + M by have := hM.out; omega)
    clear hR hM hS hr
    go_enter Tryd.func53, Tryd.ntmps53
    go_wp2_with fail
    refine HA.out.mono ?_
    rintro e w1 ⟨rfl, rfl⟩
    go_wp2_with fail
    go_ret
    exact ⟨by rw [hR3.out]; simp, rfl⟩
namespace Od
/-- A key that lies at a block. -/
structure Kf (g : Nat) (k : K5) (W : World) : Prop where
  lt : g < W.heap.size
  c0 : W.cell? ⟨g, 0, none⟩ = some (.int .i64 k.1)
  c1 : W.cell? ⟨g, 1, none⟩ = some (.int .i64 k.2.1)
  c2 : W.cell? ⟨g, 2, none⟩ = some (.int .i64 k.2.2.1)
  c3 : W.cell? ⟨g, 3, none⟩ = some (.int .i64 k.2.2.2.1)
  c4 : W.cell? ⟨g, 4, none⟩ = some (.int .i64 k.2.2.2.2)
theorem Kf.grow {g : Nat} {k : K5} {W W' : World} (h : Kf g k W) (e : Below W.heap.size W W') : Kf g k W' where
  lt := Nat.lt_of_lt_of_le h.lt e.size
  c0 := (e.cell (p := ⟨g, 0, none⟩) h.lt).trans h.c0
  c1 := (e.cell (p := ⟨g, 1, none⟩) h.lt).trans h.c1
  c2 := (e.cell (p := ⟨g, 2, none⟩) h.lt).trans h.c2
  c3 := (e.cell (p := ⟨g, 3, none⟩) h.lt).trans h.c3
  c4 := (e.cell (p := ⟨g, 4, none⟩) h.lt).trans h.c4
theorem Kf.made (w : World) (k : K5) (T : TypeId) : Kf w.heap.size k (w.alloc (.cells #[.int .i64 k.1, .int .i64 k.2.1, .int .i64 k.2.2.1, .int .i64 k.2.2.2.1, .int .i64 k.2.2.2.2] T)) where
  lt := by simp
  c0 := World.cell?_alloc_at _ _ _ _ rfl
  c1 := World.cell?_alloc_at _ _ _ _ rfl
  c2 := World.cell?_alloc_at _ _ _ _ rfl
  c3 := World.cell?_alloc_at _ _ _ _ rfl
  c4 := World.cell?_alloc_at _ _ _ _ rfl
/-- The numbers of a key are ints. -/
def In (k : K5) : Prop := (-(2 ^ 63) ≤ k.1 ∧ k.1 < 2 ^ 63) ∧ (-(2 ^ 63) ≤ k.2.1 ∧ k.2.1 < 2 ^ 63) ∧ (-(2 ^ 63) ≤ k.2.2.1 ∧ k.2.2.1 < 2 ^ 63) ∧ (-(2 ^ 63) ≤ k.2.2.2.1 ∧ k.2.2.2.1 < 2 ^ 63)
end Od
set_option maxRecDepth 100000 in
set_option maxHeartbeats 4000000 in
theorem oPartIn (l : List UInt8) (a : Option Addr) (c : Nat) (k : Od.K5) (sep : UInt8) (hl : l.length ≤ 2 ^ 60) (hk : Od.In k) (w : World) (hS : Sr w a c l) : Calls Tryd.prog 31 #[.slice a l.length c, .agg #[.int .i64 k.1, .int .i64 k.2.1, .int .i64 k.2.2.1, .int .i64 k.2.2.2.1, .int .i64 k.2.2.2.2], .int .u8 sep.toNat] w fun e w' => ∃ a' c', e = .returned (.slice a' (Od.PT l k sep).length c') ∧ Sr w' a' c' (Od.PT l k sep) ∧ Below w.heap.size w w' := by
  obtain ⟨kF, kC, kE, kD, kG⟩ := k
  obtain ⟨h1, h2, h3, h4⟩ := hk
  dsimp only at h1 h2 h3 h4
  have HK := hidA (Od.Kf.made w (kF, kC, kE, kD, kG) 24)
  have HB := hidA ((Below.refl w.heap.size w).alloc (Nat.le_refl _) (.cells #[.int .i64 kF, .int .i64 kC, .int .i64 kE, .int .i64 kD, .int .i64 kG] 24))
  have HS := hidA hS
  have HF := hidA (fun W hW => oField l a c kF sep hl h1 W hW)
  have HE := hidA (fun W hW => oField l a c kE sep hl h3 W hW)
  clear hS
  have hin := fun n => Od.fd_in sep l n
  have HR := hidA (fun (b e : Nat) (n F : Int) h1 h2 h3 h4 (W : World) hW => oReach l a c b e n F hl h1 h2 h3 h4 W hW)
  obtain ⟨T, hT⟩ : ∃ T : Nat, Hid (T = Od.hi l (kF, kC, kE, kD, kG) sep) := ⟨_, hidA rfl⟩
  obtain ⟨L, hL⟩ : ∃ L : Nat, Hid (L = Od.lo l (kF, kC, kE, kD, kG) sep) := ⟨_, hidA rfl⟩
  have hTl : T ≤ l.length := by rw [hT.out]; exact Od.hi_le _ _ _
  have hLl : L ≤ l.length := by rw [hL.out]; exact Od.lo_le _ _ _
  have hPT : Od.PT l (kF, kC, kE, kD, kG) sep = (l.take T).drop (min L T) := by rw [hT.out, hL.out]; rfl
  rw [hPT]
  clear hPT
  obtain ⟨a1, c1, hs1, hp1⟩ := sl_mid HS.out (min L T) T (Nat.min_le_right _ _) hTl
  have HP := hidA (fun W (b : Below w.heap.size w W) => hp1.grow b)
  clear hp1
  generalize (l.take T).drop (min L T) = r at *
  have hmT : (min (L : Int) (T : Int)) = ((min L T : Nat) : Int) := by omega
  generalize min L T = M at *
  obtain ⟨M1, hM1⟩ : ∃ M1 : Int, Hid (M1 = max kC 1) := ⟨_, hidA rfl⟩
  have hmx : max kC 1 = M1 := hM1.out.symm
  have hM1a : 1 ≤ M1 := by have := hM1.out; omega
  have hM1b : M1 < 2 ^ 63 := by have := hM1.out; omega
  obtain ⟨f1, f2⟩ := hin kF
  have hL1 := hidA (show L = Od.rc (decide (bits .and .i64 kG 8 ≠ 0)) l (Od.fd sep l kF).1 (Od.fd sep l kF).2 (M1 - 1) by rw [hL.out, hM1.out]; rfl)
  have HF1 := HF.out
  generalize (Od.fd sep l kF).1 = B1 at *
  generalize (Od.fd sep l kF).2 = E1 at *
  have HF := hidA HF1
  clear HF1
  go_enter Tryd.func31, Tryd.ntmps31
  go_upto_region 1 with fail
  have hsz := HK.out.lt
  generalize w.alloc (.cells #[.int .i64 kF, .int .i64 kC, .int .i64 kE, .int .i64 kD, .int .i64 kG] 24) = W0 at *
  have r0 := HK.out.c0
  go_upto_region 2 with (go_at_call 52; refine (HF.out _ (HS.out.grow HB.out)).mono ?_; rintro e w1 ⟨rfl, b1⟩)
  clear r0
  have HK1 := hidA (HK.out.grow b1)
  have HB1 := hidA (HB.out.trans (b1.mono HB.out.size))
  clear HK HB b1 HF hsz
  have hsz := HK1.out.lt
  have r1 := HK1.out.c1
  have r4 := HK1.out.c4
  have hA := hidA (HR.out B1 E1 (M1 - 1) kG f1 f2 (by omega) (by omega) w1 (HS.out.grow HB1.out))
  rw [← hL1.out] at hA
  clear hL1 f1 f2
  go_upto_region 3 with (go_at_call 53; refine hA.out.mono ?_; rintro e w2 ⟨rfl, hw⟩; rw [hw]; clear hw w2)
  clear r1 r4 hA
  have r2 := HK1.out.c2
  have HE1 := HE.out w1 (HS.out.grow HB1.out)
  obtain ⟨f1, f2⟩ := hin kE
  have hT1 := hT.out
  unfold Od.hi at hT1
  dsimp only at hT1
  generalize (Od.fd sep l kE).1 = B2 at *
  generalize (Od.fd sep l kE).2 = E2 at *
  clear hin HE hmx
  have fin : ∀ W, Below w.heap.size w W → ∃ a' c', Ending.returned (.slice a1 r.length c1) = .returned (.slice a' r.length c') ∧ Sr W a' c' r ∧ Below w.heap.size w W := fun W hW => ⟨a1, c1, rfl, HP.out W hW, hW⟩
  have FIN := hidA fin
  clear fin HP
  have HT1 := hidA hT1
  clear hT1 hT hL hM1
  by_cases hE0 : 0 < kE
  · have hT2 := HT1.out
    rw [if_pos hE0] at hT2
    clear HT1
    go_upto_region 5 with (go_at_call 52; refine HE1.mono ?_; rintro e w2 ⟨rfl, b2⟩)
    clear r2 hsz HE1
    have HK2 := hidA (HK1.out.grow b2)
    have HB2 := hidA (HB1.out.trans (b2.mono HB1.out.size))
    clear HK1 HB1 b2
    have hsz := HK2.out.lt
    have r3 := HK2.out.c3
    have r4 := HK2.out.c4
    by_cases hD : 0 < kD
    · rw [if_pos hD] at hT2
      have hA := hidA (HR.out B2 E2 kD kG f1 f2 (by omega) (by omega) w2 (HS.out.grow HB2.out))
      rw [show Od.rc (decide (bits .and .i64 kG 8 ≠ 0)) l B2 E2 kD = T from hT2.symm] at hA
      clear hT2 HR HS
      go_wp2_with (go_at_call 53; refine hA.out.mono ?_; rintro e w3 ⟨rfl, hw⟩; rw [hw]; clear hw w3)
      go_ret
      exact FIN.out _ HB2.out
    · rw [if_neg hD] at hT2
      subst hT2
      clear HR HS
      go_wp2_with fail
      go_ret
      exact FIN.out _ HB2.out
  · have hT2 := HT1.out
    rw [if_neg hE0] at hT2
    subst hT2
    clear HT1 HR HS HE1
    go_wp2_with fail
    go_ret
    exact FIN.out _ HB1.out
set_option maxRecDepth 100000 in
set_option maxHeartbeats 2000000 in
theorem oClone (l : List UInt8) (a : Option Addr) (c : Nat) (hl : l.length ≤ 140737488355328) (w : World) (hS : Sr w a c l) : Calls Tryd.prog 30 #[.slice a l.length c] w fun e w' => ∃ v, e = .returned v ∧ By w.heap.size w' v l ∧ Below w.heap.size w w' := by
  cases a with
  | none =>
    have h0 : c = 0 := hS.nil rfl
    have hl : l = [] := List.length_eq_zero_iff.1 (by have := hS.le; omega)
    subst h0 hl
    refine (Tryd.bytes_Clone_nil 0 0 w).mono ?_
    rintro e w' ⟨rfl, rfl⟩
    exact ⟨_, rfl, By.nil _ _, Below.refl _ _⟩
  | some ad =>
    refine (Tryd.bytes_Clone_at ad l.length c (nums l) w (nums_len l) hl (fun i hi => by
      obtain ⟨g, o, e, _, hc⟩ := hS.src i hi
      cases e
      rw [nums_get l hi]
      rw [show (⟨g, o, none⟩ : Addr).add i = ⟨g, o + i, none⟩ by simp [Addr.add]]; exact hc)).mono ?_
    rintro e w' ⟨v, rfl, ho, -, hB⟩
    refine ⟨v, rfl, ?_, hB⟩
    unfold By bCs
    rw [show (nums l).map (Value.int .u8) = l.map fun c => Value.int .u8 (c.toNat : Int) by simp [nums]] at ho
    exact ho
set_option maxRecDepth 100000 in
set_option maxHeartbeats 2000000 in
theorem oPart (l : List UInt8) (a : Option Addr) (c : Nat) (k : Od.K5) (sep : UInt8) (hl : l.length ≤ 140737488355328) (hk : Od.In k) (w : World) (hS : Sr w a c l) : Calls Tryd.prog 10 #[.slice a l.length c, .agg #[.int .i64 k.1, .int .i64 k.2.1, .int .i64 k.2.2.1, .int .i64 k.2.2.2.1, .int .i64 k.2.2.2.2], .int .u8 sep.toNat] w fun e w' => ∃ v, e = .returned v ∧ By w.heap.size w' v (Od.PT l k sep) ∧ Below w.heap.size w w' := by
  have hpl : (Od.PT l k sep).length ≤ l.length := by unfold Od.PT; simp; omega
  have HK := hidA (Od.Kf.made w k 24)
  have HB := hidA ((Below.refl w.heap.size w).alloc (Nat.le_refl _) (.cells #[.int .i64 k.1, .int .i64 k.2.1, .int .i64 k.2.2.1, .int .i64 k.2.2.2.1, .int .i64 k.2.2.2.2] 24))
  have HA := hidA (fun W hW => oPartIn l a c k sep (by omega) hk W hW)
  have HS := hidA hS
  clear hS
  generalize Od.PT l k sep = r at *
  obtain ⟨kF, kC, kE, kD, kG⟩ := k
  dsimp only at HK HB HA
  go_enter Tryd.func10, Tryd.ntmps10
  go_upto_region 1 with fail
  have hsz := HK.out.lt
  have r0 := HK.out.c0
  have r1 := HK.out.c1
  have r2 := HK.out.c2
  have r3 := HK.out.c3
  have r4 := HK.out.c4
  clear HK
  dsimp only at r0 r1 r2 r3 r4
  generalize w.alloc (.cells #[.int .i64 kF, .int .i64 kC, .int .i64 kE, .int .i64 kD, .int .i64 kG] 24) = W0 at *
  go_wp2_with fail
  refine (HA.out _ (HS.out.grow HB.out)).mono ?_
  rintro e w1 ⟨a1, c1, rfl, hr, b1⟩
  have HC := hidA (oClone r a1 c1 (by omega) w1 hr)
  have HB1 := hidA (HB.out.trans (b1.mono HB.out.size))
  clear HA HB hr b1
  go_wp2_with fail
  refine HC.out.mono ?_
  rintro e w2 ⟨v, rfl, hv, b2⟩
  obtain ⟨a3, c3, rfl⟩ := hv.slice
  go_wp2_with fail
  go_ret
  exact ⟨_, rfl, hv.mono HB1.out.size, HB1.out.trans (b2.mono HB1.out.size)⟩
end Go.Proofs.YtdjefinehabifaaDoor
