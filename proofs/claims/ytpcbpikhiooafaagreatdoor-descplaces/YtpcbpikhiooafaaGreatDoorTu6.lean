/- The file system's New: the root alone. Condition: the library's table is as its initialiser lays it. -/
import Derived.Test.YtpcbpikhiooafaaGreatDoorM18
import Derived.Test.YtpcbpikhiooafaaGreatDoorM17
import Derived.Test.YtpcbpikhiooafaaGreatDoorM20
import Derived.Test.YtpcbpikhiooafaaGreatDoorDr8
import Derived.Test.YtpcbpikhiooafaaGreatDoorM10
namespace Go.Proofs.YtpcbpikhiooafaaGreatDoor
open Go.RowKit
/-- The root's bytes, its inode, its refs, behind New. -/
def rB : List Nat := sBytes [nslot [46] 1, nslot [46, 46] 1]
def rD : Nat → Nat := over (fun _ => 0) 0 rB
def rF1 : Nat → Nat → Int := setN (fun _ _ => 0) 0 (freshF 16877 0 0 0)
def rF2 : Nat → Nat → Int := upd2 (upd2 (upd2 rF1 0 5 64) 0 7 0) 0 8 0
def rF : Nat → Nat → Int := upd2 (upd2 rF2 0 3 2) 0 8 0
def rR : Nat → Nat → Nat := setN (setN (fun _ _ => 0) 0 (fun _ => 0)) 0 (upd (fun _ => 0) 0 1)
theorem uK0 : (fun _ => false : Nat → Bool) = uK 0 := by funext j; simp [uK]
theorem rB_len : rB.length = 64 := by decide +kernel
theorem r_st (n : Nat) (hn : 1 ≤ n) : (⟨64, uK 1, rD, upd (fun _ => 0) 0 1⟩ : WS) = wrun n 0 (sBytes [nslot [46] (0 + 1), nslot [46, 46] (0 + 1)]) 64 ⟨0, uK 0, fun _ => 0, setN (fun _ _ => 0) 0 (fun _ => 0) 0⟩ := by
  have h := wrun_new n 0 rB 63 0 (fun _ => 0) (setN (fun _ _ => 0) 0 (fun _ => 0) 0) (by decide) (by rw [rB_len]; decide) (by rw [rB_len]; decide) rfl (by omega)
  rw [rB_len] at h
  exact h.symm
/-- The file system lies in memory: its blocks. -/
structure FsIn (w W : World) (fb t q b c : Nat) : Prop where
  f : FsAt W fb t
  lt : q < fb ∧ b < fb ∧ c < fb ∧ t < fb
  le : w.heap.size ≤ t ∧ w.heap.size ≤ q ∧ w.heap.size ≤ b ∧ w.heap.size ≤ c
  M : Mod (fun _ => False) w W
set_option maxRecDepth 8000 in
set_option maxHeartbeats 2000000 in
theorem treeNew (n N : Nat) (w : World) (hn : 1 ≤ n) (hn2 : n ≤ 4096) (hN : 1 ≤ N) (hN2 : N ≤ 4096) (hT : TabIs w) : Calls Tryz.prog 4 #[.int .i64 n, .int .i64 N] w fun e w' => ∃ fb t q b c, e = .returned (.tuple #[.pointer (some ⟨fb, 0, none⟩), .int .i64 0]) ∧ FsIn w w' fb t q b c ∧ Tb w' t q b c n N 0 rF rR (uK 1) rD := by
  have HT := hid6 hT
  clear hT
  go_enter Tryz.func4, Tryz.ntmps4
  go_wp2_with fail
  refine (tnew_ok n N w hn hn2 hN hN2 HT.out).mono ?_
  rintro e w1 ⟨t, q, b, c, rfl, T1, M1, ht, hq, hb, hc⟩
  rw [uK0] at T1
  have HT1 := hid6 T1
  have HM1 := hid6 M1
  have HQ := hid6 (show w.heap.size ≤ t ∧ w.heap.size ≤ q ∧ w.heap.size ≤ b ∧ w.heap.size ≤ c from ⟨ht, hq, hb, hc⟩)
  clear T1 M1 ht hq hb hc
  go_wp2_with fail
  refine (talloc_ok HT1.out 16877 0 0 0 (by decide +kernel) (by omega) (by omega) (by omega) rfl (fun j hj => by omega)).mono ?_
  rintro e w2 ⟨rfl, T2, M2⟩
  have HT2 : Hid (Tb w2 t q b c n N 0 rF1 (setN (fun _ _ => 0) 0 (fun _ => 0)) (uK 0) (fun _ => 0)) := T2
  have HM2 := hid6 (HM1.out.new6 M2 (fun k e => by rw [e]; exact HQ.out.2.1))
  clear T2 M2
  go_wp2_with fail
  refine (dInit HT2.out 0 0 (by omega) (by omega) (by decide) (by decide) (by decide) (fun W hM => tstat (HT2.out.new hM) 0 (by omega) (by decide)) (by decide +kernel) hN2 ⟨64, uK 1, rD, upd (fun _ => 0) 0 1⟩ (r_st n hn) 0 rfl rF2 rfl).mono ?_
  rintro e w3 ⟨rfl, M3, T3⟩
  have HT3 : Hid (Tb w3 t q b c n N 0 rF2 rR (uK 1) rD) := T3
  have HM3 := hid6 (HM2.out.new6 M3 (fun k e => by obtain ⟨a1, a2, a3, a4⟩ := HQ.out; rcases e with e | e | e <;> omega))
  clear T3 M3
  go_wp2_with fail
  refine (tlinks_keep HT3.out 0 2 (by omega) (by decide) (by decide) (by decide) (by decide) (.inl (by decide))).mono ?_
  rintro e w4 ⟨rfl, T4, M4⟩
  have HT4 : Hid (Tb w4 t q b c n N 0 rF rR (uK 1) rD) := T4
  have HM4 := hid6 (HM3.out.new6 M4 (fun k e => by rw [e]; exact HQ.out.2.1))
  clear T4 M4
  go_wp2
  go_ret2
  have t1 := HT4.out.lt_t; have t2 := HT4.out.lt_q; have t3 := HT4.out.S.lt_b; have t4 := HT4.out.S.lt_c
  exact ⟨w4.heap.size, t, q, b, c, rfl, ⟨by unfold FsAt; rw [World.cell?_alloc_at _ _ _ _ rfl]; rfl, ⟨t2, t3, t4, t1⟩, HQ.out, HM4.out.alloc _⟩, HT4.out.new ((Mod.refl _ _).alloc _)⟩
end Go.Proofs.YtpcbpikhiooafaaGreatDoor
