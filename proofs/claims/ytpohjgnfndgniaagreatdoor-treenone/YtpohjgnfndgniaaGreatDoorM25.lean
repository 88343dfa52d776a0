/- Several texts of this claim, one behind the other, in their order. -/
import Derived.Test.YtpohjgnfndgniaaGreatDoorM24
import Derived.Test.YtpohjgnfndgniaaGreatDoorM20
/- The task's calls resolve, look, parent, within, and the work of Stat. Conditions: what follow, stat and Find tell. -/
namespace Go.Proofs.YtpohjgnfndgniaaGreatDoor
open Go.RowKit
/-- What follow tells of a path, in whatever later world. -/
def FoA (w : World) (k : Nat) (l : List UInt8) (en : Int) (fd : Int) (fx : List UInt8) (fi : Int) : Prop := ∀ W, Mod (fun _ => False) w W → Calls Tryz.prog 50 #[.pointer (some ⟨k, 0, none⟩), .string ⟨l.toArray⟩, .int .i64 en] W fun e w' => e = .returned (.agg #[.int .i64 fd, .string ⟨fx.toArray⟩, .int .i64 fi, .bool false]) ∧ Mod (fun _ => False) W w'
set_option maxRecDepth 100000 in
set_option maxHeartbeats 2000000 in
theorem tResolve {w : World} {k : Nat} (l : List UInt8) (fd : Int) (fx : List UInt8) (fi : Int) (hF : FoA w k l 0 fd fx fi) (h0 : (fi == 0) = false) :
    Calls Tryz.prog 39 #[.pointer (some ⟨k, 0, none⟩), .string ⟨l.toArray⟩, .bool true] w fun e w' => e = .returned (.int .i64 fi) ∧ Mod (fun _ => False) w w' := by
  have HF := hid6 hF
  clear hF
  go_enter Tryz.func39, Tryz.ntmps39
  go_wp2_with fail
  refine Calls.mono (HF.out _ (Mod.refl _ _)) ?_
  rintro e w1 ⟨rfl, M1⟩
  have HM := hid6 (fun o => M1.alloc o)
  clear M1
  go_wp2_with (first | (go_at_call 45; refine (refuse_no _ _).mono ?_; rintro e w3 ⟨rfl, hw3⟩; rw [hw3]; clear hw3 w3))
  go_ret
  exact ⟨rfl, HM.out _⟩
theorem ret_look6 {W : World} {B : Nat} {L : List Value} (h : W.rangeAt B 0 L) (hl : L.length = 10) (tmps : Array Value) (h4 : tmps[6]?.getD undef = .pointer (some ⟨B, 0, none⟩)) :
    (results Tryz.f42 tmps).run Tryz.prog W = .ok (.agg L.toArray) W := by
  have h2 := run_loadVar_mid (P := Tryz.prog) W B 0 38 L _ h Tryz.underlying38 rfl (by rw [hl]; exact infSt)
  unfold results
  rw [Tryz.results42]
  simp [h4, asAddr, h2]
theorem ret_stat1 {W : World} {B : Nat} {L : List Value} (h : W.rangeAt B 0 L) (hl : L.length = 10) (tmps : Array Value) (h4 : tmps[4]?.getD undef = .pointer (some ⟨B, 0, none⟩)) :
    (results Tryz.f41 tmps).run Tryz.prog W = .ok (.agg L.toArray) W := by
  have h2 := run_loadVar_mid (P := Tryz.prog) W B 0 38 L _ h Tryz.underlying38 rfl (by rw [hl]; exact infSt)
  unfold results
  rw [Tryz.results41]
  simp [h4, asAddr, h2]
def st10 (a0 a1 a2 a3 a4 a5 a6 a7 a8 a9 : Int) : List Value := [.int .i64 a0, .int .i64 a1, .int .i64 a2, .int .i64 a3, .int .i64 a4, .int .i64 a5, .int .i64 a6, .int .i64 a7, .int .i64 a8, .int .i64 a9]
theorem st10_one (a0 a1 a2 a3 a4 a5 a6 a7 a8 a9 : Int) : (st10 a0 a1 a2 a3 a4 a5 a6 a7 a8 a9).toArray.all (·.oneCell') = true := by
  refine all_oneCell_toArray (fun v hv => ?_)
  simp only [st10, List.mem_cons, List.not_mem_nil, or_false] at hv
  rcases hv with rfl | rfl | rfl | rfl | rfl | rfl | rfl | rfl | rfl | rfl <;> rfl
/-- A result's ten cells, that were made at first. -/
theorem ten_there (w w1 : World) (hM : Mod (fun _ => False) (w.alloc (.cells #[.int .i64 0, .int .i64 0, .int .i64 0, .int .i64 0, .int .i64 0, .int .i64 0, .int .i64 0, .int .i64 0, .int .i64 0, .int .i64 0] 38)) w1) : w1.there w.heap.size 0 10 := fun j hj => by
  have h0 := there_new w 38 #[.int .i64 0, .int .i64 0, .int .i64 0, .int .i64 0, .int .i64 0, .int .i64 0, .int .i64 0, .int .i64 0, .int .i64 0, .int .i64 0] (n := 10) rfl j hj
  rw [hM.cell (p := ⟨w.heap.size, 0 + j, none⟩) (by simp) (fun h => h), hM.frozen (p := ⟨w.heap.size, 0 + j, none⟩) (by simp) (fun h => h)]
  exact h0
theorem ten_all {w w1 : World} (hM : Mod (fun _ => False) (w.alloc (.cells #[.int .i64 0, .int .i64 0, .int .i64 0, .int .i64 0, .int .i64 0, .int .i64 0, .int .i64 0, .int .i64 0, .int .i64 0, .int .i64 0] 38)) w1) (L : List Value) (hL : L.length = 10) : (w1.setCells w.heap.size 0 L).rangeAt w.heap.size 0 L ∧ Mod (fun _ => False) w (w1.setCells w.heap.size 0 L) :=
  ⟨World.rangeAt_setCells_same _ _ _ _ (by have := ten_there w w1 hM; rw [hL]; exact this), mod_new_cells hM (Nat.le_refl _) _ _⟩
set_option maxRecDepth 100000 in
set_option maxHeartbeats 2000000 in
theorem tLook {w : World} {k : Nat} (l : List UInt8) (fd : Int) (fx : List UInt8) (fi : Int) (hF : FoA w k l 0 fd fx fi) (h0 : (fi == 0) = false) (f : Nat → Int) (hS : StA w k fi f) :
    Calls Tryz.prog 42 #[.pointer (some ⟨k, 0, none⟩), .string ⟨l.toArray⟩, .bool true] w fun e w' => (∃ bl : Nat, e = .returned (.agg (st10 fi (f 3) (f 1) (f 2) (f 5) bl (f 0) (f 6) (f 7) (f 8)).toArray)) ∧ Mod (fun _ => False) w w' := by
  have HR : Hid (∀ o, _) := fun o => tResolve (w := w.alloc o) l fd fx fi (fun W hW => hF W (((Mod.refl _ w).alloc o).trans hW)) h0
  have HS := hid6 hS
  clear hF h0 hS
  go_enter Tryz.func42, Tryz.ntmps42
  go_wp2_with fail
  refine Calls.mono (HR.out _) ?_
  rintro e w1 ⟨rfl, M1⟩
  have HM1 := hid6 M1
  clear M1
  go_wp2_with fail
  refine Calls.mono (HS.out _ (((Mod.refl _ w).alloc _).trans HM1.out)) ?_
  rintro e w2 ⟨⟨bl, rfl⟩, M2⟩
  have HM2 := hid6 (HM1.out.trans M2)
  have HTh := hid6 (ten_there w w2 HM2.out)
  have HOne := hid6 (st10_one fi (f 3) (f 1) (f 2) (f 5) bl (f 0) (f 6) (f 7) (f 8))
  have HAll := hid6 (ten_all HM2.out (st10 fi (f 3) (f 1) (f 2) (f 5) bl (f 0) (f 6) (f 7) (f 8)) rfl)
  obtain ⟨wE, hwE⟩ : ∃ wE, Hid (w2.setCells w.heap.size 0 (st10 fi (f 3) (f 1) (f 2) (f 5) bl (f 0) (f 6) (f 7) (f 8)) = wE) := ⟨_, rfl⟩
  rw [hwE.out] at HAll
  clear M2 HM1 HM2
  unfold st10 at *
  go_wp2_with (refine wpList_store_mid rfl 38 _ _ rfl w.heap.size 0 _ rfl rfl HTh.out infSt HOne.out ?_; rw [hwE.out])
  exact bodyPost_ret (ret_look6 HAll.out.1 rfl _ rfl) rfl ⟨⟨bl, rfl⟩, HAll.out.2⟩
set_option maxRecDepth 100000 in
set_option maxHeartbeats 2000000 in
theorem tStatWork {w : World} {k b1 b2 : Nat} (l : List UInt8) (e1 : w.cell? ⟨b1, 0, none⟩ = some (.string ⟨l.toArray⟩)) (e2 : w.cell? ⟨b2, 0, none⟩ = some (.bool true)) (fd : Int) (fx : List UInt8) (fi : Int) (hF : FoA w k l 0 fd fx fi) (h0 : (fi == 0) = false) (f : Nat → Int) (hS : StA w k fi f) :
    Calls Tryz.prog 41 #[.pointer (some ⟨k, 0, none⟩), .pointer (some ⟨b1, 0, none⟩), .pointer (some ⟨b2, 0, none⟩)] w fun e w' => (∃ bl : Nat, e = .returned (.agg (st10 fi (f 3) (f 1) (f 2) (f 5) bl (f 0) (f 6) (f 7) (f 8)).toArray)) ∧ Mod (fun _ => False) w w' := by
  have HR : Hid (∀ o, _) := fun o => tLook (w := w.alloc o) l fd fx fi (fun W hW => hF W (((Mod.refl _ w).alloc o).trans hW)) h0 f (hS.new ((Mod.refl _ w).alloc o))
  have hb1 := block_lt_of_cell e1
  have hb2 := block_lt_of_cell e2
  clear hF h0 hS
  go_enter Tryz.func41, Tryz.ntmps41
  go_wp2_with fail
  refine Calls.mono (HR.out _) ?_
  rintro e w2 ⟨⟨bl, rfl⟩, M2⟩
  have HTh := hid6 (ten_there w w2 M2)
  have HOne := hid6 (st10_one fi (f 3) (f 1) (f 2) (f 5) bl (f 0) (f 6) (f 7) (f 8))
  have HAll := hid6 (ten_all M2 (st10 fi (f 3) (f 1) (f 2) (f 5) bl (f 0) (f 6) (f 7) (f 8)) rfl)
  obtain ⟨wE, hwE⟩ : ∃ wE, Hid (w2.setCells w.heap.size 0 (st10 fi (f 3) (f 1) (f 2) (f 5) bl (f 0) (f 6) (f 7) (f 8)) = wE) := ⟨_, rfl⟩
  rw [hwE.out] at HAll
  clear M2
  unfold st10 at *
  go_wp2_with (refine wpList_store_mid rfl 38 _ _ rfl w.heap.size 0 _ rfl rfl HTh.out infSt HOne.out ?_; rw [hwE.out])
  exact bodyPost_ret (ret_stat1 HAll.out.1 rfl _ rfl) rfl ⟨⟨bl, rfl⟩, HAll.out.2⟩
set_option maxRecDepth 100000 in
theorem tParent {w : World} {k t : Nat} (hc : w.cell? ⟨k, 0, none⟩ = some (.pointer (some ⟨t, 0, none⟩))) (d up : Int) (hF : FdA w t d [46, 46] up 0) :
    Calls Tryz.prog 110 #[.pointer (some ⟨k, 0, none⟩), .int .i64 d] w fun e w' => e = .returned (.int .i64 up) ∧ Mod (fun _ => False) w w' := by
  have HF := hid6 hF
  clear hF
  go_enter Tryz.func110, Tryz.ntmps110
  go_wp2_with fail
  refine Calls.mono (HF.out _ (Mod.refl _ _)) ?_
  rintro e w1 ⟨rfl, M1⟩
  have HM := hid6 M1
  clear M1
  go_wp2_with (first | (go_at_call 57; refine (must_no _).mono ?_; rintro e w3 ⟨rfl, hw3⟩; rw [hw3]; clear hw3 w3))
  go_ret
  exact ⟨rfl, HM.out⟩
set_option maxRecDepth 100000 in
theorem tWithin {w : World} {k t : Nat} (hc : w.cell? ⟨k, 0, none⟩ = some (.pointer (some ⟨t, 0, none⟩))) (d up : Int) (hF : FdA w t d [46, 46] up 0) (hd : (d != up) = true) (hd1 : (d != 1) = true) :
    Calls Tryz.prog 156 #[.pointer (some ⟨k, 0, none⟩), .int .i64 d, .int .i64 up] w fun e w' => e = .returned (.bool true) ∧ Mod (fun _ => False) w w' := by
  have HP : Hid (∀ W, Mod (fun _ => False) w W → _) := fun W hM => tParent (w := W) ((hM.cell (p := ⟨k, 0, none⟩) (block_lt_of_cell hc) (fun e => e)).trans hc) d up (fun W' h' => hF W' (hM.trans h'))
  clear hF hc
  go_enter Tryz.func156, Tryz.ntmps156
  go_wp2_with fail
  go_loopg [1] 1 (fun gh r wr => (gh = 1 ∧ r = .int .i64 d ∨ gh = 0 ∧ r = .int .i64 up) ∧ Hid (Mod (fun _ => False) w wr))
  case atStart => exact ⟨.inl ⟨rfl, rfl⟩, Mod.refl _ _⟩
  case round =>
    obtain ⟨h1 | h1, HM⟩ := hrel
    · obtain ⟨rfl, rfl⟩ := h1
      go_wp2_with fail
      refine Calls.mono (HP.out _ HM.out) ?_
      rintro e w1 ⟨rfl, M1⟩
      have HM1 := hid6 (HM.out.trans M1)
      clear M1 HM
      go_wp2_with fail
      go_roundg 0
      case measure => omega
      case rel => exact ⟨.inr ⟨rfl, rfl⟩, HM1⟩
    · obtain ⟨rfl, rfl⟩ := h1
      have huu : (up != up) = false := by simp
      go_wp2_with fail
      go_ret
      exact ⟨rfl, HM.out⟩
end Go.Proofs.YtpohjgnfndgniaaGreatDoor
/- The task's call fits, where a directory would come to lie in itself. Conditions: what stat tells of the directory; its name's directory lies just in it. -/
namespace Go.Proofs.YtpohjgnfndgniaaGreatDoor
open Go.RowKit
set_option maxRecDepth 100000 in
set_option maxHeartbeats 2000000 in
theorem tFits22 {w : World} {k t : Nat} (hc : w.cell? ⟨k, 0, none⟩ = some (.pointer (some ⟨t, 0, none⟩))) (ad ai bd bi : Int) (an bn : List UInt8) (asl bsl : Bool) (f : Nat → Int) (hS : StA w k ai f) (hd : (bits .and .i64 (f 0) 61440 == 16384) = true) (hF : FdA w t bd [46, 46] ai 0) (h1 : (bd != ai) = true) (h2 : (bd != 1) = true) :
    Calls Tryz.prog 86 #[.pointer (some ⟨k, 0, none⟩), .agg #[.int .i64 ad, .string ⟨an.toArray⟩, .int .i64 ai, .bool asl], .agg #[.int .i64 bd, .string ⟨bn.toArray⟩, .int .i64 bi, .bool bsl]] w fun x w' => x = .panicked (EP 22) ∧ Mod (fun _ => False) w w' := by
  have HS := hid6 hS
  have HD : Hid (∀ s0 s1 s2 s3 s4 s5 s7 s8 s9 W, _) := fun s0 s1 s2 s3 s4 s5 s7 s8 s9 W => tIsDir s0 s1 s2 s3 s4 s5 (f 0) s7 s8 s9 W
  have HWi : Hid (∀ W, Mod (fun _ => False) w W → _) := fun W hM => tWithin (w := W) ((hM.cell (p := ⟨k, 0, none⟩) (block_lt_of_cell hc) (fun e => e)).trans hc) bd ai (fun W' h' => hF W' (hM.trans h')) h1 h2
  unfold sA at HD
  rw [hd] at HD
  have HM0 : Hid (∀ o o', Mod (fun _ => False) w ((w.alloc o).alloc o')) := fun o o' => ((Mod.refl _ w).alloc o).alloc o'
  clear hS hd hF h1 h2
  go_enter Tryz.func86, Tryz.ntmps86
  go_wp2_with fail
  refine Calls.mono (HS.out _ (HM0.out _ _)) ?_
  rintro e w1 ⟨⟨bl, rfl⟩, M1⟩
  have HM1 := hid6 ((HM0.out _ _).trans M1)
  have hcl := fun (j B : Nat) (hB : B < w.heap.size + 2) => M1.cell (p := ⟨B, j, none⟩) (by simpa using hB) (fun e => e)
  have e0 := hcl 0 (w.heap.size + 1) (by omega)
  have e2 := hcl 2 w.heap.size (by omega)
  simp [go_sem] at e0 e2
  have hl0 := block_lt_of_cell e0
  have hl2 := block_lt_of_cell e2
  clear M1 hcl
  go_wp2_with fail
  refine Calls.mono (HD.out _ _ _ _ _ _ _ _ _ _) ?_
  rintro e w2 ⟨rfl, M2⟩
  have HM2 := hid6 (HM1.out.trans M2)
  have g0 := (M2.cell (p := ⟨w.heap.size + 1, 0, none⟩) hl0 (fun e => e)).trans e0
  have g2 := (M2.cell (p := ⟨w.heap.size, 2, none⟩) hl2 (fun e => e)).trans e2
  clear M2 e0 e2 HM1
  go_wp2_with fail
  refine Calls.mono (HWi.out _ HM2.out) ?_
  rintro e w3 ⟨rfl, M3⟩
  have HM3 := hid6 (HM2.out.trans M3)
  clear M3 g0 g2 HM2
  go_wp2_with fail
  refine Calls.mono (refuse_yes _ _) ?_
  rintro e w4 ⟨rfl, hw4⟩
  rw [hw4]
  clear hw4 w4
  go_wp2
  exact ⟨rfl, rfl, HM3.out⟩
end Go.Proofs.YtpohjgnfndgniaaGreatDoor
/- The work of Rename, where a directory would come to lie in itself. Conditions: what follow tells of both paths, what stat tells, that the caller may move it. -/
namespace Go.Proofs.YtpohjgnfndgniaaGreatDoor
open Go.RowKit
set_option maxRecDepth 100000 in
set_option maxHeartbeats 4000000 in
theorem tRename22 {w : World} {k t b1 b2 : Nat} (hc : w.cell? ⟨k, 0, none⟩ = some (.pointer (some ⟨t, 0, none⟩))) (la lb : List UInt8) (e1 : w.cell? ⟨b1, 0, none⟩ = some (.string ⟨la.toArray⟩)) (e2 : w.cell? ⟨b2, 0, none⟩ = some (.string ⟨lb.toArray⟩))
    (ad ai bd : Int) (an bn : List UInt8) (hA : FoA w k la 2 ad an ai) (hB : FoA w k lb 2 bd bn 0) (ha1 : ¬ an = []) (ha2 : ¬ an = [46]) (ha3 : ¬ an = [46, 46]) (hb1 : ¬ bn = []) (hb2 : ¬ bn = [46]) (hb3 : ¬ bn = [46, 46]) (hai : (ai == 0) = false)
    (fb : Nat → Int) (hSb : StA w k bd fb) (hlb : (fb 3 == 0) = false)
    (hMv : ∀ W, Mod (fun _ => False) w W → Calls Tryz.prog 85 #[.pointer (some ⟨k, 0, none⟩), .agg #[.int .i64 ad, .string ⟨an.toArray⟩, .int .i64 ai, .bool false], .agg #[.int .i64 bd, .string ⟨bn.toArray⟩, .int .i64 0, .bool false]] W fun x w' => x = .returned (.tuple #[]) ∧ Mod (fun _ => False) W w')
    (f : Nat → Int) (hS : StA w k ai f) (hd : (bits .and .i64 (f 0) 61440 == 16384) = true) (hF : FdA w t bd [46, 46] ai 0) (h1 : (bd != ai) = true) (h2 : (bd != 1) = true) :
    Calls Tryz.prog 83 #[.pointer (some ⟨k, 0, none⟩), .pointer (some ⟨b1, 0, none⟩), .pointer (some ⟨b2, 0, none⟩)] w fun x w' => x = .panicked (EP 22) ∧ Mod (fun _ => False) w w' := by
  have HA := hid6 hA
  have HB := hid6 hB
  have HSb := hid6 hSb
  have HMv := hid6 hMv
  have HBa : Hid (∀ W, _) := fun W => tBad ad ai an false W ha1 ha2 ha3
  have HBb : Hid (∀ W, _) := fun W => tBad bd 0 bn false W hb1 hb2 hb3
  have HG : Hid (∀ s0 s2 s3 s4 s5 s6 s7 s8 s9 W, _) := fun s0 s2 s3 s4 s5 s6 s7 s8 s9 W => tGone s0 (fb 3) s2 s3 s4 s5 s6 s7 s8 s9 W
  have HFi : Hid (∀ W, Mod (fun _ => False) w W → _) := fun W hM => tFits22 (w := W) ((hM.cell (p := ⟨k, 0, none⟩) (block_lt_of_cell hc) (fun e => e)).trans hc) ad ai bd 0 an bn false false f (hS.new hM) hd (fun W' h' => hF W' (hM.trans h')) h1 h2
  unfold sA at HG
  unfold spA at HBa HBb
  rw [hlb] at HG
  have hl1 := block_lt_of_cell e1
  have hl2 := block_lt_of_cell e2
  clear hA hB hSb hMv ha1 ha2 ha3 hb1 hb2 hb3 hlb hS hd hF h1 h2 hc
  go_enter Tryz.func83, Tryz.ntmps83
  go_wp2_with fail
  refine Calls.mono (HA.out _ (Mod.refl _ _)) ?_
  rintro e w1 ⟨rfl, M1⟩
  have HM1 := hid6 (fun o => M1.alloc o)
  have HPa := hid6 (SpAt.fresh w1 ad an ai false 87)
  have f2 : w1.cell? ⟨b2, 0, none⟩ = some (.string ⟨lb.toArray⟩) := (M1.cell (p := ⟨b2, 0, none⟩) hl2 (fun e => e)).trans e2
  have hl21 := block_lt_of_cell f2
  clear M1
  go_wp2_with fail
  refine Calls.mono (HB.out _ (HM1.out _)) ?_
  rintro e w2 ⟨rfl, M2⟩
  have HM2 := hid6 (fun o => ((HM1.out _).trans M2).alloc o)
  have hsz : w1.heap.size < w2.heap.size := by have := M2.size; simp at this; omega
  have HPa2 := hid6 ((HPa.out.mod M2 (fun e => e)).mod ((Mod.refl (fun _ => False) w2).alloc (.cells #[.int .i64 bd, .string ⟨bn.toArray⟩, .int .i64 0, .bool false] 87)) (fun e => e))
  have HPb2 := hid6 (SpAt.fresh w2 bd bn 0 false 87)
  have HMw := hid6 (HM2.out (.cells #[.int .i64 bd, .string ⟨bn.toArray⟩, .int .i64 0, .bool false] 87))
  have j0 := (HPa.out.mod M2 (fun e => e)).c0
  have j1 := (HPa.out.mod M2 (fun e => e)).c1
  have j2 := (HPa.out.mod M2 (fun e => e)).c2
  have j3 := (HPa.out.mod M2 (fun e => e)).c3
  clear M2 HPa HM1 f2 hl21
  go_wp2_with fail
  generalize w1.heap.size = Ba at *
  generalize w2.heap.size = Bb at *
  generalize w2.alloc (.cells #[.int .i64 bd, .string ⟨bn.toArray⟩, .int .i64 0, .bool false] 87) = W2 at *
  refine Calls.mono (HBa.out _) ?_
  rintro e w3 ⟨rfl, M3⟩
  have HPa3 := hid6 (HPa2.out.mod M3 (fun e => e))
  have HPb3 := hid6 (HPb2.out.mod M3 (fun e => e))
  have HM3 := hid6 (HMw.out.trans M3)
  clear M3 HPa2 HPb2 HMw HM2 j0 j1 j2 j3
  obtain ⟨p0, p1, p2, p3, pf⟩ := HPa3.out
  obtain ⟨q0, q1, q2, q3, qf⟩ := HPb3.out
  go_wp2_with fail
  refine Calls.mono (HBb.out _) ?_
  rintro e w4 ⟨rfl, M4⟩
  have HPa4 := hid6 (HPa3.out.mod M4 (fun e => e))
  have HPb4 := hid6 (HPb3.out.mod M4 (fun e => e))
  have HM4 := hid6 (HM3.out.trans M4)
  clear M4 p0 p1 p2 p3 pf q0 q1 q2 q3 qf HPa3 HPb3 HM3
  obtain ⟨p0, p1, p2, p3, pf⟩ := HPa4.out
  obtain ⟨q0, q1, q2, q3, qf⟩ := HPb4.out
  go_wp2_with (first | (go_at_call 45; refine (refuse_no _ _).mono ?_; rintro e w9 ⟨rfl, hw9⟩; rw [hw9]; clear hw9 w9))
  refine Calls.mono (HSb.out _ HM4.out) ?_
  rintro e w5 ⟨⟨bl, rfl⟩, M5⟩
  have HPa5 := hid6 (HPa4.out.mod M5 (fun e => e))
  have HPb5 := hid6 (HPb4.out.mod M5 (fun e => e))
  have HM5 := hid6 (HM4.out.trans M5)
  clear M5 p0 p1 p2 p3 pf q0 q1 q2 q3 qf HPa4 HPb4 HM4
  go_wp2_with fail
  refine Calls.mono (HG.out _ _ _ _ _ _ _ _ _ _) ?_
  rintro e w6 ⟨rfl, M6⟩
  have HPa6 := hid6 (HPa5.out.mod M6 (fun e => e))
  have HPb6 := hid6 (HPb5.out.mod M6 (fun e => e))
  have HM6 := hid6 (HM5.out.trans M6)
  clear M6 HPa5 HPb5 HM5
  obtain ⟨p0, p1, p2, p3, pf⟩ := HPa6.out
  obtain ⟨q0, q1, q2, q3, qf⟩ := HPb6.out
  go_wp2_with (first | (go_at_call 45; refine (refuse_no _ _).mono ?_; rintro e w9 ⟨rfl, hw9⟩; rw [hw9]; clear hw9 w9))
  refine Calls.mono (HMv.out _ HM6.out) ?_
  rintro e w7 ⟨rfl, M7⟩
  have HPa7 := hid6 (HPa6.out.mod M7 (fun e => e))
  have HPb7 := hid6 (HPb6.out.mod M7 (fun e => e))
  have HM7 := hid6 (HM6.out.trans M7)
  clear M7 p0 p1 p2 p3 pf q0 q1 q2 q3 qf HPa6 HPb6 HM6
  obtain ⟨p0, p1, p2, p3, pf⟩ := HPa7.out
  obtain ⟨q0, q1, q2, q3, qf⟩ := HPb7.out
  go_wp2_with fail
  refine Calls.mono (HFi.out _ HM7.out) ?_
  rintro e w8 ⟨rfl, M8⟩
  have HM8 := hid6 (HM7.out.trans M8)
  clear M8 p0 p1 p2 p3 pf q0 q1 q2 q3 qf
  go_wp2
  exact ⟨rfl, rfl, HM8.out⟩
end Go.Proofs.YtpohjgnfndgniaaGreatDoor
/- The task's call movable, of a directory into another directory, to a name at which nothing is. Conditions: the task lies in memory as 'TkAt' says (no groups); what stat tells; what unstuck does. -/
namespace Go.Proofs.YtpohjgnfndgniaaGreatDoor
open Go.RowKit
set_option maxRecDepth 100000 in
set_option maxHeartbeats 4000000 in
theorem tMovable {w : World} {k t : Nat} {u g : Int} {ga : Option Addr} {gc : Nat} {um cw : Int} (h : TkAt w k t u g ga gc um cw) (ad ai bd : Int) (an bn : List UInt8) (fi fa fb : Nat → Int) (hSi : StA w k ai fi) (hSa : StA w k ad fa) (hSb : StA w k bd fb)
    (hd : (bits .and .i64 (fi 0) 61440 == 16384) = true) (hne : (ad != bd) = true) (hacc : accB (fa 0) (fa 1) u (memB g [] (fa 2)) 2 = true) (hbcc : accB (fb 0) (fb 1) u (memB g [] (fb 2)) 2 = true) (hicc : accB (fi 0) (fi 1) u (memB g [] (fi 2)) 2 = true)
    (hU : ∀ W, Mod (fun _ => False) w W → Calls Tryz.prog 149 #[.pointer (some ⟨k, 0, none⟩), .agg #[.int .i64 ad, .string ⟨an.toArray⟩, .int .i64 ai, .bool false]] W fun x w' => x = .returned (.tuple #[]) ∧ Mod (fun _ => False) W w') :
    Calls Tryz.prog 85 #[.pointer (some ⟨k, 0, none⟩), .agg #[.int .i64 ad, .string ⟨an.toArray⟩, .int .i64 ai, .bool false], .agg #[.int .i64 bd, .string ⟨bn.toArray⟩, .int .i64 0, .bool false]] w fun x w' => x = .returned (.tuple #[]) ∧ Mod (fun _ => False) w w' := by
  have HSi := hid6 hSi
  have HSa := hid6 hSa
  have HSb := hid6 hSb
  have HU := hid6 hU
  have HD : Hid (∀ s0 s1 s2 s3 s4 s5 s7 s8 s9 W, _) := fun s0 s1 s2 s3 s4 s5 s7 s8 s9 W => tIsDir s0 s1 s2 s3 s4 s5 (fi 0) s7 s8 s9 W
  have HYa : Hid (∀ s0 s1 s4 s5 s7 s8 s9 W (hM : Mod (fun _ => False) w W), _) := fun s0 s1 s4 s5 s7 s8 s9 W hM => tMay (h.new hM) s0 s1 (fa 1) (fa 2) s4 s5 (fa 0) s7 s8 s9 2
  have HYb : Hid (∀ s0 s1 s4 s5 s7 s8 s9 W (hM : Mod (fun _ => False) w W), _) := fun s0 s1 s4 s5 s7 s8 s9 W hM => tMay (h.new hM) s0 s1 (fb 1) (fb 2) s4 s5 (fb 0) s7 s8 s9 2
  have HYi : Hid (∀ s0 s1 s4 s5 s7 s8 s9 W (hM : Mod (fun _ => False) w W), _) := fun s0 s1 s4 s5 s7 s8 s9 W hM => tMay (h.new hM) s0 s1 (fi 1) (fi 2) s4 s5 (fi 0) s7 s8 s9 2
  unfold sA at HD HYa HYb HYi
  rw [hd] at HD
  rw [hacc] at HYa
  rw [hbcc] at HYb
  rw [hicc] at HYi
  have HA : Hid (SpAt ((w.alloc (.cells #[.int .i64 ad, .string ⟨an.toArray⟩, .int .i64 ai, .bool false] 87)).alloc (.cells #[.int .i64 bd, .string ⟨bn.toArray⟩, .int .i64 0, .bool false] 87)) w.heap.size ad an ai false) := (SpAt.fresh w ad an ai false 87).mod ((Mod.refl (fun _ => False) _).alloc _) (fun e => e)
  have HB : Hid (SpAt ((w.alloc (.cells #[.int .i64 ad, .string ⟨an.toArray⟩, .int .i64 ai, .bool false] 87)).alloc (.cells #[.int .i64 bd, .string ⟨bn.toArray⟩, .int .i64 0, .bool false] 87)) (w.heap.size + 1) bd bn 0 false) := by
    have := SpAt.fresh (w.alloc (.cells #[.int .i64 ad, .string ⟨an.toArray⟩, .int .i64 ai, .bool false] 87)) bd bn 0 false 87
    simp at this; exact this
  have HM0 := hid6 (((Mod.refl (fun _ => False) w).alloc (.cells #[.int .i64 ad, .string ⟨an.toArray⟩, .int .i64 ai, .bool false] 87)).alloc (.cells #[.int .i64 bd, .string ⟨bn.toArray⟩, .int .i64 0, .bool false] 87))
  clear hSi hSa hSb hU hd hacc hbcc hicc h
  go_enter Tryz.func85, Tryz.ntmps85
  go_wp2_with fail
  generalize (w.alloc (.cells #[.int .i64 ad, .string ⟨an.toArray⟩, .int .i64 ai, .bool false] 87)).alloc (.cells #[.int .i64 bd, .string ⟨bn.toArray⟩, .int .i64 0, .bool false] 87) = W0 at *
  generalize w.heap.size + 1 = Bb at *
  generalize w.heap.size = Ba at *
  refine Calls.mono (HSi.out _ HM0.out) ?_
  rintro e w1 ⟨⟨bl, rfl⟩, M1⟩
  have hal := (Mod.refl (fun _ => False) w1).alloc (.cells #[.int .i64 ai, .int .i64 (fi 3), .int .i64 (fi 1), .int .i64 (fi 2), .int .i64 (fi 5), .int .i64 (bl : Nat), .int .i64 (fi 0), .int .i64 (fi 6), .int .i64 (fi 7), .int .i64 (fi 8)] 38)
  have HA1 := hid6 (HA.out.mod M1 (fun e => e))
  have HB1 := hid6 (HB.out.mod M1 (fun e => e))
  have HA2 := hid6 (HA1.out.mod hal (fun e => e))
  have HB2 := hid6 (HB1.out.mod hal (fun e => e))
  have HM1 := hid6 ((HM0.out.trans M1).trans hal)
  have HC : Hid (∀ W, Mod (fun _ => False) (w1.alloc (.cells #[.int .i64 ai, .int .i64 (fi 3), .int .i64 (fi 1), .int .i64 (fi 2), .int .i64 (fi 5), .int .i64 (bl : Nat), .int .i64 (fi 0), .int .i64 (fi 6), .int .i64 (fi 7), .int .i64 (fi 8)] 38)) W → ∀ j, W.cell? ⟨w1.heap.size, j, none⟩ = #[Value.int .i64 ai, .int .i64 (fi 3), .int .i64 (fi 1), .int .i64 (fi 2), .int .i64 (fi 5), .int .i64 (bl : Nat), .int .i64 (fi 0), .int .i64 (fi 6), .int .i64 (fi 7), .int .i64 (fi 8)][j]?) := fun W hM j => by
    rw [hM.cell (p := ⟨w1.heap.size, j, none⟩) (by simp) (fun e => e), World.cell?_alloc_at _ _ _ _ rfl]
  have la := HA1.out.lt
  have lb := HB1.out.lt
  clear M1 hal HA HB HM0
  obtain ⟨p0, p1, p2, p3, pf⟩ := HA1.out
  obtain ⟨q0, q1, q2, q3, qf⟩ := HB1.out
  go_wp2_with (first | (go_at_call 45; refine (refuse_no _ _).mono ?_; rintro e w9 ⟨rfl, hw9⟩; rw [hw9]; clear hw9 w9))
  refine Calls.mono (HSa.out _ HM1.out) ?_
  rintro e w2 ⟨⟨bl2, rfl⟩, M2⟩
  have HM2 := hid6 (HM1.out.trans M2)
  have HN2 := hid6 M2
  have HA3 := hid6 (HA2.out.mod M2 (fun e => e))
  have HB3 := hid6 (HB2.out.mod M2 (fun e => e))
  clear M2 p0 p1 p2 p3 pf q0 q1 q2 q3 qf HA1 HB1 HA2 HB2 HM1
  go_wp2_with fail
  refine Calls.mono (HYa.out _ _ _ _ _ _ _ _ HM2.out) ?_
  rintro e w3 ⟨rfl, M3⟩
  have HM3 := hid6 (HM2.out.trans M3)
  have HN3 := hid6 (HN2.out.trans M3)
  have HA4 := hid6 (HA3.out.mod M3 (fun e => e))
  have HB4 := hid6 (HB3.out.mod M3 (fun e => e))
  clear M3 HM2 HN2 HA3 HB3
  obtain ⟨q0, q1, q2, q3, qf⟩ := HB4.out
  go_wp2_with (first | (go_at_call 45; refine (refuse_no _ _).mono ?_; rintro e w9 ⟨rfl, hw9⟩; rw [hw9]; clear hw9 w9))
  refine Calls.mono (HSb.out _ HM3.out) ?_
  rintro e w4 ⟨⟨bl4, rfl⟩, M4⟩
  have HM4 := hid6 (HM3.out.trans M4)
  have HN4 := hid6 (HN3.out.trans M4)
  have HA5 := hid6 (HA4.out.mod M4 (fun e => e))
  have HB5 := hid6 (HB4.out.mod M4 (fun e => e))
  clear M4 q0 q1 q2 q3 qf HA4 HB4 HM3 HN3
  go_wp2_with fail
  refine Calls.mono (HYb.out _ _ _ _ _ _ _ _ HM4.out) ?_
  rintro e w5 ⟨rfl, M5⟩
  have HM5 := hid6 (HM4.out.trans M5)
  have HN5 := hid6 (HN4.out.trans M5)
  have HA6 := hid6 (HA5.out.mod M5 (fun e => e))
  have HB6 := hid6 (HB5.out.mod M5 (fun e => e))
  clear M5 HM4 HN4 HA5 HB5
  have k0 := HC.out _ HN5.out 0; have k1 := HC.out _ HN5.out 1; have k2 := HC.out _ HN5.out 2; have k3 := HC.out _ HN5.out 3; have k4 := HC.out _ HN5.out 4; have k5 := HC.out _ HN5.out 5; have k6 := HC.out _ HN5.out 6; have k7 := HC.out _ HN5.out 7; have k8 := HC.out _ HN5.out 8; have k9 := HC.out _ HN5.out 9
  simp only [List.getElem?_toArray, List.getElem?_cons_zero, List.getElem?_cons_succ] at k0 k1 k2 k3 k4 k5 k6 k7 k8 k9
  go_wp2_with (first | (go_at_call 45; refine (refuse_no _ _).mono ?_; rintro e w9 ⟨rfl, hw9⟩; rw [hw9]; clear hw9 w9))
  refine Calls.mono (HD.out _ _ _ _ _ _ _ _ _ _) ?_
  rintro e w6 ⟨rfl, M6⟩
  have HM6 := hid6 (HM5.out.trans M6)
  have HN6 := hid6 (HN5.out.trans M6)
  have HA7 := hid6 (HA6.out.mod M6 (fun e => e))
  have HB7 := hid6 (HB6.out.mod M6 (fun e => e))
  clear M6 HM5 HN5 HA6 HB6 k0 k1 k2 k3 k4 k5 k6 k7 k8 k9
  have k0 := HC.out _ HN6.out 0; have k1 := HC.out _ HN6.out 1; have k2 := HC.out _ HN6.out 2; have k3 := HC.out _ HN6.out 3; have k4 := HC.out _ HN6.out 4; have k5 := HC.out _ HN6.out 5; have k6 := HC.out _ HN6.out 6; have k7 := HC.out _ HN6.out 7; have k8 := HC.out _ HN6.out 8; have k9 := HC.out _ HN6.out 9
  simp only [List.getElem?_toArray, List.getElem?_cons_zero, List.getElem?_cons_succ] at k0 k1 k2 k3 k4 k5 k6 k7 k8 k9
  obtain ⟨p0, p1, p2, p3, pf⟩ := HA7.out
  obtain ⟨q0, q1, q2, q3, qf⟩ := HB7.out
  go_wp2_with fail
  refine Calls.mono (HYi.out _ _ _ _ _ _ _ _ HM6.out) ?_
  rintro e w7 ⟨rfl, M7⟩
  have HM7 := hid6 (HM6.out.trans M7)
  have HA8 := hid6 (HA7.out.mod M7 (fun e => e))
  have HB8 := hid6 (HB7.out.mod M7 (fun e => e))
  clear M7 HM6 HN6 k0 k1 k2 k3 k4 k5 k6 k7 k8 k9 p0 p1 p2 p3 pf q0 q1 q2 q3 qf HA7 HB7
  obtain ⟨p0, p1, p2, p3, pf⟩ := HA8.out
  go_wp2_with (first | (go_at_call 45; refine (refuse_no _ _).mono ?_; rintro e w9 ⟨rfl, hw9⟩; rw [hw9]; clear hw9 w9))
  refine Calls.mono (HU.out _ HM7.out) ?_
  rintro e w8 ⟨rfl, M8⟩
  have HM8 := hid6 (HM7.out.trans M8)
  have HB9 := hid6 (HB8.out.mod M8 (fun e => e))
  clear M8 p0 p1 p2 p3 pf
  obtain ⟨q0, q1, q2, q3, qf⟩ := HB9.out
  go_wp2
  exact ⟨rfl, _, results_none rfl _ _ _, rfl, HM8.out⟩
end Go.Proofs.YtpohjgnfndgniaaGreatDoor
