/- Several texts of this claim, one behind the other, in their order. -/
import Derived.Test.YtpohjgnfndgniaaGreatDoorM27
import Derived.Test.YtpohjgnfndgniaaGreatDoorTy5
import Derived.Test.YtpohjgnfndgniaaGreatDoorM26
import Derived.Test.YtpohjgnfndgniaaGreatDoorTy7
/- Layer 6's example: Rename of /a to /a/b/c, which is refused, and Stat of /a/b. Condition: the file system lies in memory as Mkdir of /l/b leaves it. -/
namespace Go.Proofs.YtpohjgnfndgniaaGreatDoor
open Go.RowKit
section
variable {w : World} {fb t q b c K : Nat}
theorem yf_a (T : Tb w t q b c 64 16 0 yC5 yCR3 (uK 6) yCD3) (hk : TkAt w K t 0 0 none 0 0 0) : TfA w K 1 [97] 2 := tfa6 T hk 0 (by omega) (by decide) (by decide +kernel) (by decide +kernel) [97] (by decide) 2 0 (fds6 T 0 128 2 [97] 2 (by omega) (by decide) (by decide) (by omega) (by decide +kernel) (by decide) (by decide) (by decide +kernel) yD_a yD_av)
theorem yf_b (T : Tb w t q b c 64 16 0 yC5 yCR3 (uK 6) yCD3) (hk : TkAt w K t 0 0 none 0 0 0) : TfA w K 2 [98] 4 := tfa6 T hk 1 (by omega) (by decide) (by decide +kernel) (by decide +kernel) [98] (by decide) 4 0 (fds6 T 1 96 2 [98] 4 (by omega) (by decide) (by decide) (by omega) (by decide +kernel) (by decide) (by decide) (by decide +kernel) yD_b yD_bv)
theorem yf_c (T : Tb w t q b c 64 16 0 yC5 yCR3 (uK 6) yCD3) (hk : TkAt w K t 0 0 none 0 0 0) : TfA w K 4 [99] 0 := tfa6 T hk 3 (by omega) (by decide) (by decide +kernel) (by decide +kernel) [99] (by decide) 0 2 (fdn6 T 3 64 [99] (by omega) (by decide) (by decide) (by omega) (by decide +kernel) (by decide) (by decide) (by decide +kernel) yD_none)
theorem yS1 (T : Tb w t q b c 64 16 0 yC5 yCR3 (uK 6) yCD3) (hk : TkAt w K t 0 0 none 0 0 0) : StA w K 1 (yC5 0) := sta6 T hk.c0 0 (by omega) (by decide)
theorem yS2 (T : Tb w t q b c 64 16 0 yC5 yCR3 (uK 6) yCD3) (hk : TkAt w K t 0 0 none 0 0 0) : StA w K 2 (yC5 1) := sta6 T hk.c0 1 (by omega) (by decide)
theorem yS4 (T : Tb w t q b c 64 16 0 yC5 yCR3 (uK 6) yCD3) (hk : TkAt w K t 0 0 none 0 0 0) : StA w K 4 (yC5 3) := sta6 T hk.c0 3 (by omega) (by decide)
theorem yFoA (T : Tb w t q b c 64 16 0 yC5 yCR3 (uK 6) yCD3) (hk : TkAt w K t 0 0 none 0 0 0) : FoA w K [47, 97] 2 1 [97] 2 := fun _ hM =>
  tFollow (hk.new hM) [47, 97] true [[97]] ySplA 1 (.inl ⟨.inl rfl, rfl⟩) 2 1 [97] 2 ⟨2, yf_a (T.new hM) (hk.new hM), .inr ⟨rfl, ⟨yC5 1, yS2 (T.new hM) (hk.new hM), by decide +kernel⟩, rfl, rfl, rfl⟩⟩ (by decide)
theorem yFoABC (T : Tb w t q b c 64 16 0 yC5 yCR3 (uK 6) yCD3) (hk : TkAt w K t 0 0 none 0 0 0) : FoA w K [47, 97, 47, 98, 47, 99] 2 4 [99] 0 := fun _ hM =>
  tFollow (hk.new hM) [47, 97, 47, 98, 47, 99] true [[97], [98], [99]] ySplABC 1 (.inl ⟨.inl rfl, rfl⟩) 2 4 [99] 0 ⟨2, yf_a (T.new hM) (hk.new hM), .inr ⟨rfl, ⟨yC5 1, yS2 (T.new hM) (hk.new hM), by decide +kernel⟩, 4, yf_b (T.new hM) (hk.new hM), .inr ⟨rfl, ⟨yC5 3, yS4 (T.new hM) (hk.new hM), by decide +kernel⟩, 0, yf_c (T.new hM) (hk.new hM), .inl ⟨rfl, rfl, rfl, rfl, rfl⟩⟩⟩⟩ (by decide)
theorem yFoAB (T : Tb w t q b c 64 16 0 yC5 yCR3 (uK 6) yCD3) (hk : TkAt w K t 0 0 none 0 0 0) : FoA w K [47, 97, 47, 98] 0 2 [98] 4 := fun _ hM =>
  tFollow (hk.new hM) [47, 97, 47, 98] true [[97], [98]] ySplAB 1 (.inl ⟨.inl rfl, rfl⟩) 0 2 [98] 4 ⟨2, yf_a (T.new hM) (hk.new hM), .inr ⟨rfl, ⟨yC5 1, yS2 (T.new hM) (hk.new hM), by decide +kernel⟩, 4, yf_b (T.new hM) (hk.new hM), .inr ⟨rfl, ⟨yC5 3, yS4 (T.new hM) (hk.new hM), by decide +kernel⟩, rfl, rfl, rfl⟩⟩⟩ (by decide)
theorem yUp (T : Tb w t q b c 64 16 0 yC5 yCR3 (uK 6) yCD3) : FdA w t 4 [46, 46] 2 0 := fds6 T 3 64 1 [46, 46] 2 (by omega) (by decide) (by decide) (by omega) (by decide +kernel) (by decide) (by decide) (by decide +kernel) yD_up yD_upv
theorem yMov (T : Tb w t q b c 64 16 0 yC5 yCR3 (uK 6) yCD3) (hk : TkAt w K t 0 0 none 0 0 0) : Calls Tryz.prog 85 #[.pointer (some ⟨K, 0, none⟩), .agg #[.int .i64 1, .string ⟨#[97]⟩, .int .i64 2, .bool false], .agg #[.int .i64 4, .string ⟨#[99]⟩, .int .i64 0, .bool false]] w fun x w' => x = .returned (.tuple #[]) ∧ Mod (fun _ => False) w w' :=
  tMovable hk 1 2 4 [97] [99] (yC5 1) (yC5 0) (yC5 3) (yS2 T hk) (yS1 T hk) (yS4 T hk) (by decide +kernel) (by decide) (by decide +kernel) (by decide +kernel) (by decide +kernel) (fun _ hM => tUnstuck (hk.new hM) (by decide) 1 2 [97] (yC5 0) (yC5 1) (yS1 (T.new hM) (hk.new hM)) (yS2 (T.new hM) (hk.new hM)))
theorem yRename (T : Tb w t q b c 64 16 0 yC5 yCR3 (uK 6) yCD3) (hf : FsAt w fb t) :
    Calls Tryz.prog 16 #[.pointer (some ⟨fb, 0, none⟩), .agg #[.int .i64 0, .int .i64 0, .slice none 0 0, .int .i64 0, .int .i64 0], .string ⟨#[47, 97]⟩, .string ⟨#[47, 97, 47, 98, 47, 99]⟩] w fun e w' => e = .returned (.int .i64 22) ∧ Mod (fun _ => False) w w' :=
  fsRenameF hf 0 0 none 0 0 0 [47, 97] [47, 97, 47, 98, 47, 99] 22 (fun _ _ _ _ hN c1 c2 =>
    tRename22 (t := t) hN.k.c0 [47, 97] [47, 97, 47, 98, 47, 99] c1 c2 1 2 4 [97] [99] (yFoA (T.new hN.M) hN.k) (yFoABC (T.new hN.M) hN.k) (by decide) (by decide) (by decide) (by decide) (by decide) (by decide) rfl
      (yC5 3) (yS4 (T.new hN.M) hN.k) (by decide) (fun _ hM' => yMov ((T.new hN.M).new hM') (hN.k.new hM')) (yC5 1) (yS2 (T.new hN.M) hN.k) (by decide +kernel) (yUp (T.new hN.M)) (by decide) (by decide))
theorem yStat (T : Tb w t q b c 64 16 0 yC5 yCR3 (uK 6) yCD3) (hf : FsAt w fb t) :
    Calls Tryz.prog 5 #[.pointer (some ⟨fb, 0, none⟩), .agg #[.int .i64 0, .int .i64 0, .slice none 0 0, .int .i64 0, .int .i64 0], .string ⟨#[47, 97, 47, 98]⟩, .bool true] w fun e w' => (∃ L : List Value, (∃ bl : Nat, L = st10 4 2 0 0 64 bl 16877 0 0 0) ∧ L.length = 10 ∧ L.toArray.all (·.oneCell') = true ∧ e = .returned (.tuple #[.agg L.toArray, .int .i64 0])) ∧ Mod (fun _ => False) w w' :=
  fsStat hf 0 0 none 0 0 0 [47, 97, 47, 98] true (fun L => ∃ bl : Nat, L = st10 4 2 0 0 64 bl 16877 0 0 0) (fun _ _ _ _ hN c1 c2 => by
    refine (tStatWork [47, 97, 47, 98] c1 c2 2 [98] 4 (yFoAB (T.new hN.M) hN.k) rfl (yC5 3) (yS4 (T.new hN.M) hN.k)).mono ?_
    rintro e w' ⟨⟨bl, rfl⟩, hM⟩
    exact ⟨⟨_, ⟨bl, rfl⟩, rfl, st10_one 4 2 0 0 64 bl 16877 0 0 0, rfl⟩, hM⟩)
end
end Go.Proofs.YtpohjgnfndgniaaGreatDoor
/- Layer 6's example, as the statements ask it: 'awake' answers true in whatever memory. Condition: the library's table is as its initialiser lays it. -/
namespace Go.Proofs.YtpohjgnfndgniaaGreatDoor
open Go.RowKit
theorem num6 (x : Int) (w : World) : Calls Tryz.prog 9 #[.int .i64 x] w fun e w' => e = .returned (.int .i64 x) ∧ w' = w := by
  go_enter Tryz.func9, Tryz.ntmps9
  go_wp2
  go_ret
  exact ⟨rfl, rfl⟩
set_option maxRecDepth 100000 in
set_option maxHeartbeats 4000000 in
theorem awake6 (w : World) (hT : TabIs w) : Calls Tryz.prog 36 #[] w fun e w' => e = .returned (.bool true) ∧ Mod (fun _ => False) w w' := by
  have HT := hid6 hT
  clear hT
  go_enter Tryz.func36, Tryz.ntmps36
  go_wp2_with fail
  refine (treeNew 64 16 w (by omega) (by omega) (by omega) (by omega) HT.out).mono ?_
  rintro e w1 ⟨fb, t, q, b, c, rfl, I1, T1⟩
  have HI := hid6 (show (q < fb ∧ b < fb ∧ c < fb ∧ t < fb) ∧ (w.heap.size ≤ t ∧ w.heap.size ≤ q ∧ w.heap.size ≤ b ∧ w.heap.size ≤ c) from ⟨I1.lt, I1.le⟩)
  have HT1 := hid6 T1
  have HF1 := hid6 I1.f
  have HM1 := hid6 I1.M
  have hfb := block_lt_of_cell I1.f
  clear I1 T1
  go_wp2_with (first | (go_at_call 9; refine (num6 _ _).mono ?_; rintro e w9 ⟨rfl, hw9⟩; rw [hw9]; clear hw9 w9))
  have hC : ∀ j, (w1.alloc (.cells #[.int .i64 0, .int .i64 0, .slice none 0 0, .int .i64 0, .int .i64 0] 24)).cell? ⟨w1.heap.size, j, none⟩ = #[Value.int .i64 0, .int .i64 0, .slice none 0 0, .int .i64 0, .int .i64 0][j]? := fun j => World.cell?_alloc_at _ _ _ _ rfl
  have HA1 := hid6 ((Mod.refl (fun _ => False) w1).alloc (.cells #[.int .i64 0, .int .i64 0, .slice none 0 0, .int .i64 0, .int .i64 0] 24))
  have HT2 := hid6 (HT1.out.new HA1.out)
  have HF2 : Hid (FsAt (w1.alloc (.cells #[.int .i64 0, .int .i64 0, .slice none 0 0, .int .i64 0, .int .i64 0] 24)) fb t) := (HA1.out.cell (p := ⟨fb, 0, none⟩) hfb (fun e => e)).trans HF1.out
  have HM2 := hid6 (HM1.out.trans HA1.out)
  have hz2 : w1.heap.size < (w1.alloc (.cells #[.int .i64 0, .int .i64 0, .slice none 0 0, .int .i64 0, .int .i64 0] 24)).heap.size := by simp
  clear HA1 HT1 HF1 HM1
  generalize w1.alloc (.cells #[.int .i64 0, .int .i64 0, .slice none 0 0, .int .i64 0, .int .i64 0] 24) = W at *
  generalize w1.heap.size = B at *
  have HC := hid6 (show ∀ (w' : World) (S : Nat → Prop), Mod S W w' → ¬ S B → (w'.cell? ⟨B, 0, none⟩ = some (.int .i64 0) ∧ w'.cell? ⟨B, 1, none⟩ = some (.int .i64 0) ∧ w'.cell? ⟨B, 2, none⟩ = some (.slice none 0 0) ∧ w'.cell? ⟨B, 3, none⟩ = some (.int .i64 0) ∧ w'.cell? ⟨B, 4, none⟩ = some (.int .i64 0)) from fun w' S hM hS =>
    ⟨(hM.cell (p := ⟨B, 0, none⟩) hz2 hS).trans (hC 0), (hM.cell (p := ⟨B, 1, none⟩) hz2 hS).trans (hC 1), (hM.cell (p := ⟨B, 2, none⟩) hz2 hS).trans (hC 2), (hM.cell (p := ⟨B, 3, none⟩) hz2 hS).trans (hC 3), (hM.cell (p := ⟨B, 4, none⟩) hz2 hS).trans (hC 4)⟩)
  have HNb := hid6 (show ¬ (B = b ∨ B = c ∨ B = q) ∧ ¬ (fb = b ∨ fb = c ∨ fb = q) from ⟨by have := HI.out; omega, by have := HI.out; omega⟩)
  obtain ⟨p0, p1, p2, p3, p4⟩ := HC.out W (fun _ => False) (Mod.refl _ _) (fun e => e)
  clear hC hz2 hfb
  go_wp2_with fail
  refine Calls.mono (yMkdir1 HT2.out HF2.out) ?_
  rintro e w3 ⟨rfl, M3, T3⟩
  have HMW := hid6 M3
  have HT3 := hid6 T3
  have HF3 : Hid (FsAt w3 fb t) := (M3.cell (p := ⟨fb, 0, none⟩) (block_lt_of_cell HF2.out) HNb.out.2).trans HF2.out
  have HM3 := hid6 (HM2.out.new6 M3 (fun k e => by have := HI.out; omega))
  clear p0 p1 p2 p3 p4 M3 T3
  obtain ⟨p0, p1, p2, p3, p4⟩ := HC.out w3 _ HMW.out HNb.out.1
  go_wp2_with fail
  refine Calls.mono (ySym HT3.out HF3.out) ?_
  rintro e w4 ⟨rfl, M4, T4⟩
  have HMW4 := hid6 (HMW.out.trans M4)
  have HT4 := hid6 T4
  have HF4 : Hid (FsAt w4 fb t) := (M4.cell (p := ⟨fb, 0, none⟩) (block_lt_of_cell HF3.out) HNb.out.2).trans HF3.out
  have HM4 := hid6 (HM3.out.new6 M4 (fun k e => by have := HI.out; omega))
  clear p0 p1 p2 p3 p4 M4 T4 HMW HT3 HF3 HM3 HT2 HF2
  obtain ⟨p0, p1, p2, p3, p4⟩ := HC.out w4 _ HMW4.out HNb.out.1
  go_wp2_with fail
  refine Calls.mono (yMkdir2 HT4.out HF4.out) ?_
  rintro e w5 ⟨rfl, M5, T5⟩
  have HMW5 := hid6 (HMW4.out.trans M5)
  have HT5 := hid6 T5
  have HF5 : Hid (FsAt w5 fb t) := (M5.cell (p := ⟨fb, 0, none⟩) (block_lt_of_cell HF4.out) HNb.out.2).trans HF4.out
  have HM5 := hid6 (HM4.out.new6 M5 (fun k e => by have := HI.out; omega))
  clear p0 p1 p2 p3 p4 M5 T5 HMW4 HT4 HF4 HM4
  obtain ⟨p0, p1, p2, p3, p4⟩ := HC.out w5 _ HMW5.out HNb.out.1
  go_wp2_with fail
  refine Calls.mono (yRename HT5.out HF5.out) ?_
  rintro e w6 ⟨rfl, M6⟩
  have HMW6 := hid6 (HMW5.out.trans (M6.mono (fun _ _ e => e.elim)))
  have HT6 := hid6 (HT5.out.new M6)
  have HF6 : Hid (FsAt w6 fb t) := (M6.cell (p := ⟨fb, 0, none⟩) (block_lt_of_cell HF5.out) (fun e => e)).trans HF5.out
  have HM6 := hid6 (HM5.out.trans M6)
  clear p0 p1 p2 p3 p4 M6 HMW5 HT5 HF5 HM5
  obtain ⟨p0, p1, p2, p3, p4⟩ := HC.out w6 _ HMW6.out HNb.out.1
  go_wp2_with fail
  refine Calls.mono (yStat HT6.out HF6.out) ?_
  rintro e w7 ⟨⟨L, ⟨bl, rfl⟩, -, -, rfl⟩, M7⟩
  have HM7 := hid6 (fun o => (HM6.out.trans M7).alloc o)
  clear p0 p1 p2 p3 p4 M7 HMW6 HT6 HF6 HM6
  unfold st10 at *
  go_wp2_with (first | (go_at_call 9; refine (num6 _ _).mono ?_; rintro e w9 ⟨rfl, hw9⟩; rw [hw9]; clear hw9 w9))
  go_ret
  exact ⟨rfl, HM7.out _⟩
end Go.Proofs.YtpohjgnfndgniaaGreatDoor
