/- The process' calls that DescCounts asks: Open of a directory for reading; Open, Dup, Pipe where no number is free; Close of a file, and of a number that is not open. Conditions: the process lies in memory as 'PAt' says; what the file system's Open and Release do. -/
import Derived.Test.YtkokejgaclabdaaGreatDoorM24
import Derived.Test.YtkokejgaclabdaaGreatDoorM25
import Derived.Test.YtkokejgaclabdaaGreatDoorPx4
import Derived.Test.YtkokejgaclabdaaGreatDoorPy1
import Derived.Test.YtkokejgaclabdaaGreatDoorM10
namespace Go.Proofs.YtkokejgaclabdaaGreatDoor
open Go.RowKit
theorem b1k : bits .andNot .i64 1 255 = 0 := by decide +kernel
theorem spl_root : SplOf [47] true [] false := by
  have h := splOf [47] (by decide) (by decide +kernel)
  rw [show Pa.splA [47] = true by decide +kernel, show Pa.splN [47] = [] by decide +kernel, show Pa.splS [47] = false by decide +kernel] at h
  exact h
section
variable {w : World} {t q b c n N : Nat} {clk : Int} {F : Nat → Nat → Int} {R : Nat → Nat → Nat} {u : Nat → Bool} {D : Nat → Nat}
/-- The file system's Open of the root for reading. -/
theorem openRoot {fb : Nat} (T : Tb w t q b c n N clk F R u D) (hf : FsAt w fb t) (hN : 0 < N) (hz : F 0 0 ≠ 0) (hm : bits .and .i64 (F 0 0) 61440 = 16384) (hacc : accB (F 0 0) (F 0 1) 0 (memB 0 [] (F 0 2)) 4 = true) (hh : -1000000000 ≤ F 0 4 ∧ F 0 4 ≤ 9223372036854775806) (m : Int) :
    Calls Tryz.prog 22 #[.pointer (some ⟨fb, 0, none⟩), .agg #[.int .i64 0, .int .i64 0, .slice none 0 0, .int .i64 0, .int .i64 1], .string ⟨#[47]⟩, .int .i64 1, .int .i64 m] w fun e w' => e = .returned (.tuple #[.int .i64 1, .int .i64 0]) ∧ Mod (fun x => x = q) w w' ∧ Tb w' t q b c n N clk (upd2 F 0 4 (F 0 4 + 1)) R u D := by
  have l1 := T.lt_t; have l2 := T.lt_q; have l3 := T.S.lt_b; have l4 := T.S.lt_c; have l5 := T.S.tab.lt
  refine fsOpen (l := [47]) hf 0 0 none 0 0 1 1 m 1 (fun x => x = q) (fun x hx => by have e : x = q := hx; omega) (fun w' => Tb w' t q b c n N clk (upd2 F 0 4 (F 0 4 + 1)) R u D) (fun a' b' hT hM => hT.mod hM (by omega) (by omega) (by omega) (by omega) (by omega)) (fun W K b1 b2 b3 hK c1 c2 c3 => ?_)
  have TW := T.new hK.M
  have hkK : TkAt W K t 0 0 none 0 0 1 := hK.k
  have hsta : StA W K 1 (F 0) := staOf TW hkK.c0 0 hN hz
  refine (tOpenOld (q := q) hkK [47] 1 (F 0) (by decide) c1 c2 (fun W' hM' => tFollow (hkK.new hM') [47] true [] spl_root 1 (.inl ⟨.inl rfl, rfl⟩) 0 0 [] 1 ⟨rfl, rfl, rfl⟩ (by decide)) hsta hm hacc (fun w' => Tb w' t q b c n N clk (upd2 F 0 4 (F 0 4 + 1)) R u D) (fun W' hM' => ?_)).mono ?_
  · refine (thold (TW.new hM') 0 hN hz hh).mono ?_
    rintro e w' ⟨rfl, T', M'⟩
    exact ⟨rfl, M', T'⟩
  · rintro e w' ⟨rfl, M', T'⟩
    exact ⟨rfl, M'.mono (fun _ _ e => .inl e), T'⟩
end
theorem fsRelease {w : World} {fb t : Nat} (hf : FsAt w fb t) (i : Int) (Q : World → Prop) (hL : Calls Tryz.prog 190 #[.pointer (some ⟨t, 0, none⟩), .int .i64 i] w fun e w' => e = .returned (.int .i64 0) ∧ Q w') :
    Calls Tryz.prog 186 #[.pointer (some ⟨fb, 0, none⟩), .int .i64 i] w fun e w' => e = .returned (.int .i64 0) ∧ Q w' := by
  have HL := hid6 hL
  have HT := hid6 (tTable fb _ w hf)
  clear hL hf
  go_enter Tryz.func186, Tryz.ntmps186
  go_wp2_with (first | (go_at_call 39; refine Calls.mono HT.out ?_; rintro e w3 ⟨rfl, hw3⟩; rw [hw3]; clear hw3 w3))
  refine Calls.mono HL.out ?_
  rintro e w1 ⟨rfl, q1⟩
  have HQ := hid6 q1
  clear q1
  go_wp2
  go_ret
  exact ⟨rfl, HQ.out⟩
section
variable {w : World} {P fb : Nat} {u g : Int} {ga : Option Addr} {gc : Nat} {um cw : Int} {d : Nat → Option Addr}
set_option maxRecDepth 100000 in
set_option maxHeartbeats 2000000 in
theorem pOpenR (h : PAt w P fb u g ga gc um cw d) (j : Nat) (hj : j < 16) (h0 : d j = none) (h1 : ∀ i, i < j → ∃ B : Nat, d i = some ⟨B, 0, none⟩) (hr : fdN d + 1 ≤ 16) (l : List UInt8) (m r : Int) (S : Nat → Prop) (hSP : ¬ S P) (Q : World → Prop)
    (hO : ∀ W, Mod (fun _ => False) w W → Calls Tryz.prog 22 #[.pointer (some ⟨fb, 0, none⟩), .agg #[.int .i64 u, .int .i64 g, .slice ga 0 gc, .int .i64 um, .int .i64 cw], .string ⟨l.toArray⟩, .int .i64 1, .int .i64 m] W fun e w' => e = .returned (.tuple #[.int .i64 r, .int .i64 0]) ∧ Mod S W w' ∧ Q w') :
    Calls Tryz.prog 6 #[.pointer (some ⟨P, 0, none⟩), .string ⟨l.toArray⟩, .int .i64 1, .int .i64 m] w fun e w' => e = .returned (.tuple #[.int .i64 j, .int .i64 0]) ∧ ∃ w5 B D, Mod S w w5 ∧ Q w5 ∧ Mod (fun x => x = P) w5 w' ∧ w5.heap.size ≤ B ∧ w5.heap.size ≤ D ∧ B ≠ D ∧ PAt w' P fb u g ga gc um cw (fun i => if i = j then some ⟨D, 0, none⟩ else d i) ∧ DAt w' D (.iface 65 (.pointer (some ⟨B, 0, none⟩))) 1 ∧ FlAt w' B fb r 1 0 := by
  have HF := hid6 (pMade h)
  have HR := hid6 (pRoom h 1 (by omega) (by omega))
  have HH := hid6 h
  have HO := hid6 hO
  have H1 := hid6 h1
  have hb1 := b1b
  have hb2 := b1k
  have hPl := h.lt
  clear h hO h1
  go_enter Tryz.func6, Tryz.ntmps6
  go_wp2_with (first | (go_at_call 20; refine Calls.mono HF.out ?_; rintro e w3 ⟨rfl, hw3⟩; rw [hw3]; clear hw3 w3))
  refine Calls.mono HR.out ?_
  rintro e w1 ⟨rfl, M1⟩
  have HM1 := hid6 M1
  have HH1 := hid6 (HH.out.new M1)
  have hPl1 := HH1.out.lt
  obtain ⟨c0, c1, c2, c3, c4, c5, -, -⟩ := HH1.out
  clear M1
  have HSt : Hid (∀ w', Mod S (w1.drewN 1) w' → w'.cell? ⟨P, 0, none⟩ = some (.pointer (some ⟨fb, 0, none⟩)) ∧ w'.cell? ⟨P, 1, none⟩ = some (.int .i64 u) ∧ w'.cell? ⟨P, 2, none⟩ = some (.int .i64 g) ∧ w'.cell? ⟨P, 3, none⟩ = some (.slice ga 0 gc) ∧ w'.cell? ⟨P, 4, none⟩ = some (.int .i64 um) ∧ w'.cell? ⟨P, 5, none⟩ = some (.int .i64 cw)) := fun w' hM => ⟨(hM.cell (p := ⟨P, 0, none⟩) hPl1 hSP).trans c0, (hM.cell (p := ⟨P, 1, none⟩) hPl1 hSP).trans c1, (hM.cell (p := ⟨P, 2, none⟩) hPl1 hSP).trans c2, (hM.cell (p := ⟨P, 3, none⟩) hPl1 hSP).trans c3, (hM.cell (p := ⟨P, 4, none⟩) hPl1 hSP).trans c4, (hM.cell (p := ⟨P, 5, none⟩) hPl1 hSP).trans c5⟩
  go_upto_region 9 with fail
  go_cut [11, 12] (fun v11 v12 wc => v11 = .int .i64 r ∧ v12 = .int .i64 0 ∧ Hid (Mod S w wc ∧ Q wc) ∧ Hid (PAt wc P fb u g ga gc um cw d))
  case first =>
    go_region_held (fun W' => W'.cell? ⟨P, 0, none⟩ = some (.pointer (some ⟨fb, 0, none⟩)) ∧ W'.cell? ⟨P, 1, none⟩ = some (.int .i64 u) ∧ W'.cell? ⟨P, 2, none⟩ = some (.int .i64 g) ∧ W'.cell? ⟨P, 3, none⟩ = some (.slice ga 0 gc) ∧ W'.cell? ⟨P, 4, none⟩ = some (.int .i64 um) ∧ W'.cell? ⟨P, 5, none⟩ = some (.int .i64 cw)) (first | with_reducible exact hS1 | go_keep)
      (first | (go_at_call 22; refine (HO.out _ (HM1.out.drewN 1)).mono ?_; rintro e w3 ⟨rfl, M3, q3⟩; have hS1 := HSt.out _ M3; have HRq := hid6 (And.intro (((HM1.out.mono (t := S) (fun _ _ e => e.elim)).drewN 1).trans M3) q3); have HP3 := hid6 ((HH1.out.new ((Mod.refl (fun _ => False) _).drewN 1)).mod M3 hSP); clear M3 q3))
    all_goals
      go_wp2_with fail
      go_meet
      exact ⟨rfl, rfl, HRq, HP3⟩
  case rest =>
    obtain ⟨rfl, rfl, HRq, HP3⟩ := hcut
    have d0 := HP3.out.c0
    have hPc := HP3.out.lt
    clear c0 c1 c2 c3 c4 c5
    go_wp2_with fail
    have M5 : Mod (fun _ => False) wc ((wc.alloc (.cells #[.pointer (some ⟨fb, 0, none⟩), .int .i64 r, .int .i64 1, .int .i64 0, .bool false, .slice none 0 0] 68)).alloc (.cells #[.iface 65 (.pointer (some ⟨wc.heap.size, 0, none⟩)), .int .i64 0] 72)) := ((Mod.refl _ _).alloc _).alloc _
    have k0 : ((wc.alloc (.cells #[.pointer (some ⟨fb, 0, none⟩), .int .i64 r, .int .i64 1, .int .i64 0, .bool false, .slice none 0 0] 68)).alloc (.cells #[.iface 65 (.pointer (some ⟨wc.heap.size, 0, none⟩)), .int .i64 0] 72)).cell? ⟨wc.heap.size + 1, 0, none⟩ = some (.iface 65 (.pointer (some ⟨wc.heap.size, 0, none⟩))) := by simp [go_sem]
    have k1 : ((wc.alloc (.cells #[.pointer (some ⟨fb, 0, none⟩), .int .i64 r, .int .i64 1, .int .i64 0, .bool false, .slice none 0 0] 68)).alloc (.cells #[.iface 65 (.pointer (some ⟨wc.heap.size, 0, none⟩)), .int .i64 0] 72)).cell? ⟨wc.heap.size + 1, 1, none⟩ = some (.int .i64 0) := by simp [go_sem]
    have kf : ∀ o, ((wc.alloc (.cells #[.pointer (some ⟨fb, 0, none⟩), .int .i64 r, .int .i64 1, .int .i64 0, .bool false, .slice none 0 0] 68)).alloc (.cells #[.iface 65 (.pointer (some ⟨wc.heap.size, 0, none⟩)), .int .i64 0] 72)).frozen? ⟨wc.heap.size + 1, o, none⟩ = false := fun o => by simp [go_sem]
    have kF : FlAt ((wc.alloc (.cells #[.pointer (some ⟨fb, 0, none⟩), .int .i64 r, .int .i64 1, .int .i64 0, .bool false, .slice none 0 0] 68)).alloc (.cells #[.iface 65 (.pointer (some ⟨wc.heap.size, 0, none⟩)), .int .i64 0] 72)) wc.heap.size fb r 1 0 := ⟨by simp [go_sem], by simp [go_sem], by simp [go_sem], by simp [go_sem], by simp [go_sem], by simp [go_sem], fun o => by simp [go_sem]⟩
    have HE := hid6 (low_end HP3.out j hj M5 k0 k1 kf (by omega))
    have HLo := hid6 (pLowest (HP3.out.new M5) j (wc.heap.size + 1) hj h0 H1.out (by omega) k1 kf)
    have HKF := hid6 kF
    clear k0 k1 kf kF M5
    refine Calls.mono HLo.out ?_
    rintro e w7 ⟨rfl, hw7⟩
    have HFin := hid6 (show Mod (fun x => x = P) wc w7 ∧ PAt w7 P fb u g ga gc um cw (fun i => if i = j then some ⟨wc.heap.size + 1, 0, none⟩ else d i) ∧ DAt w7 (wc.heap.size + 1) (.iface 65 (.pointer (some ⟨wc.heap.size, 0, none⟩))) 1 ∧ FlAt w7 wc.heap.size fb r 1 0 from by
      rw [hw7]
      exact ⟨HE.out.2.2.1, HE.out.1, HE.out.2.1, HKF.out.mod HE.out.2.2.2 (fun e => by rcases e with e | e <;> omega)⟩)
    clear hw7 HE HLo HKF
    go_wp2
    go_ret2
    exact ⟨rfl, wc, wc.heap.size, wc.heap.size + 1, HRq.out.1, HRq.out.2, HFin.out.1, Nat.le_refl _, by omega, by omega, HFin.out.2.1, HFin.out.2.2.1, HFin.out.2.2.2⟩
set_option maxRecDepth 100000 in
theorem pRoomNo (h : PAt w P fb u g ga gc um cw d) (n : Nat) (hn : n ≤ 16) (hr : 16 < fdN d + n) : Calls Tryz.prog 21 #[.pointer (some ⟨P, 0, none⟩), .int .i64 n] w fun e w' => e = .returned (.int .i64 24) ∧ Mod (fun _ => False) w w' := by
  have HF := hid6 (pMade h)
  have HD := hid6 (pFds h)
  have hle : fdN d ≤ 16 := used_le16 _ 16
  clear h
  generalize fdN d = m at *
  have hw : IntKind.i64.wrap ((m : Int) + n) = (m : Int) + n := by rw [IntKind.wrap_i64]; omega
  have hc : decide ((16 : Int) < (m : Int) + n) = true := decide_eq_true (by omega)
  go_enter Tryz.func21, Tryz.ntmps21
  go_wp2_with (first | (go_at_call 20; refine Calls.mono HF.out ?_; rintro e w3 ⟨rfl, hw3⟩; rw [hw3]; clear hw3 w3))
  refine Calls.mono HD.out ?_
  rintro e w1 ⟨a, c, rfl, M1⟩
  have HM := hid6 M1
  clear M1
  go_wp2
  go_ret
  exact ⟨rfl, HM.out⟩
set_option maxRecDepth 100000 in
theorem pOpenNo (h : PAt w P fb u g ga gc um cw d) (hr : 16 < fdN d + 1) (p : ByteArray) (m : Int) : Calls Tryz.prog 6 #[.pointer (some ⟨P, 0, none⟩), .string p, .int .i64 1, .int .i64 m] w fun e w' => e = .returned (.tuple #[.int .i64 0, .int .i64 24]) ∧ Mod (fun _ => False) w w' := by
  have HF := hid6 (pMade h)
  have HR := hid6 (pRoomNo h 1 (by omega) hr)
  have hb1 := b1b
  have hb2 := b1k
  clear h
  go_enter Tryz.func6, Tryz.ntmps6
  go_wp2_with (first | (go_at_call 20; refine Calls.mono HF.out ?_; rintro e w3 ⟨rfl, hw3⟩; rw [hw3]; clear hw3 w3))
  refine Calls.mono HR.out ?_
  rintro e w1 ⟨rfl, M1⟩
  have HM1 := hid6 M1
  clear M1
  go_wp2
  go_ret2
  exact ⟨rfl, HM1.out⟩
set_option maxRecDepth 100000 in
theorem pDupNo (h : PAt w P fb u g ga gc um cw d) (k D : Nat) (hk : k < 16) (hd : d k = some ⟨D, 0, none⟩) (hr : 16 < fdN d + 1) : Calls Tryz.prog 7 #[.pointer (some ⟨P, 0, none⟩), .int .i64 k] w fun e w' => e = .returned (.tuple #[.int .i64 0, .int .i64 24]) ∧ Mod (fun _ => False) w w' := by
  have HL := hid6 (pLead h k D hk hd)
  have HR := hid6 (pRoomNo h 1 (by omega) hr)
  clear h hd
  go_enter Tryz.func7, Tryz.ntmps7
  go_wp2_with (first | (go_at_call 24; refine Calls.mono HL.out ?_; rintro e w3 ⟨rfl, hw3⟩; rw [hw3]; clear hw3 w3))
  refine Calls.mono HR.out ?_
  rintro e w1 ⟨rfl, M1⟩
  have HM1 := hid6 M1
  clear M1
  go_wp2
  go_ret2
  exact ⟨rfl, HM1.out⟩
set_option maxRecDepth 100000 in
theorem pPipeNo (h : PAt w P fb u g ga gc um cw d) (hr : 16 < fdN d + 2) : Calls Tryz.prog 8 #[.pointer (some ⟨P, 0, none⟩)] w fun e w' => e = .returned (.tuple #[.int .i64 0, .int .i64 0, .int .i64 24]) ∧ Mod (fun _ => False) w w' := by
  have HR := hid6 (pRoomNo h 2 (by omega) hr)
  clear h
  go_enter Tryz.func8, Tryz.ntmps8
  go_wp2_with fail
  refine Calls.mono HR.out ?_
  rintro e w1 ⟨rfl, M1⟩
  have HM1 := hid6 M1
  clear M1
  go_wp2
  go_ret3
  exact ⟨rfl, HM1.out⟩
theorem pLeadNo (h : PAt w P fb u g ga gc um cw d) (j : Nat) (hj : j < 16) (hd : d j = none) : Calls Tryz.prog 24 #[.pointer (some ⟨P, 0, none⟩), .int .i64 j] w fun e w' => e = .returned (.tuple #[.pointer none, .int .i64 9]) ∧ w' = w := by
  have HF := hid6 (pMade h)
  have HI := hid6 (pIn (j : Int) w (by omega) (by omega))
  have hc := h.fd j hj
  rw [hd] at hc
  have hj' : (j : Int) < 16 := by omega
  clear h hd
  go_enter Tryz.func24, Tryz.ntmps24
  go_wp2_with (first | (go_at_call 20; refine Calls.mono HF.out ?_; rintro e w3 ⟨rfl, hw3⟩; rw [hw3]; clear hw3 w3) | (go_at_call 60; refine Calls.mono HI.out ?_; rintro e w3 ⟨rfl, hw3⟩; rw [hw3]; clear hw3 w3))
  go_ret2
  exact ⟨rfl, rfl⟩
theorem pCloseNo (h : PAt w P fb u g ga gc um cw d) (j : Nat) (hj : j < 16) (hd : d j = none) : Calls Tryz.prog 9 #[.pointer (some ⟨P, 0, none⟩), .int .i64 j] w fun e w' => e = .returned (.int .i64 9) ∧ w' = w := by
  have HL := hid6 (pLeadNo h j hj hd)
  clear h hd
  go_enter Tryz.func9, Tryz.ntmps9
  go_wp2_with (first | (go_at_call 24; refine Calls.mono HL.out ?_; rintro e w3 ⟨rfl, hw3⟩; rw [hw3]; clear hw3 w3))
  go_ret
  exact ⟨rfl, rfl⟩
/-- A file's end. -/
theorem fEndF {B : Nat} {ino fl pl : Int} (hF : FlAt w B fb ino fl pl) (qq : Nat) (hB : B ≠ qq) (Q : World → Prop) (hQ : ∀ W, Mod (fun _ => False) w W → Calls Tryz.prog 186 #[.pointer (some ⟨fb, 0, none⟩), .int .i64 ino] W fun e w' => e = .returned (.int .i64 0) ∧ (Mod (fun x => x = qq) W w' ∧ Q w')) :
    Calls Tryz.prog 183 #[.pointer (some ⟨B, 0, none⟩)] w fun e w' => e = .returned (.tuple #[]) ∧ (Mod (fun x => x = qq) w w' ∧ Q w') := by
  have HQ := hid6 hQ
  have hBl := hF.lt
  have HSt : Hid (∀ w', Mod (fun x => x = qq) w.drew w' → w'.cell? ⟨B, 0, none⟩ = some (.pointer (some ⟨fb, 0, none⟩)) ∧ w'.cell? ⟨B, 1, none⟩ = some (.int .i64 ino)) := fun w' hM => ⟨(hM.cell (p := ⟨B, 0, none⟩) hBl hB).trans hF.c0, (hM.cell (p := ⟨B, 1, none⟩) hBl hB).trans hF.c1⟩
  obtain ⟨c0, c1, -, -, -, -, -⟩ := hF
  clear hQ
  go_enter Tryz.func183, Tryz.ntmps183
  go_wp2_with fail
  go_region_held3 (fun W' => W'.cell? ⟨B, 0, none⟩ = some (.pointer (some ⟨fb, 0, none⟩)) ∧ W'.cell? ⟨B, 1, none⟩ = some (.int .i64 ino)) (first | with_reducible exact hS1 | go_keep)
    (first | (go_at_call 186; refine Calls.mono (HQ.out w.drew ((Mod.refl _ _).drewN 1)) ?_; rintro e w3 ⟨rfl, M3, q3⟩; have hS1 := HSt.out _ M3; have HR := hid6 (And.intro (((Mod.refl (fun x => x = qq) w).drewN 1).trans M3) q3); clear M3 q3))
  all_goals
    go_wp2
    exact ⟨rfl, _, results_none rfl _ _ _, rfl, HR.out⟩
set_option maxRecDepth 100000 in
set_option maxHeartbeats 2000000 in
/-- detach of the last descriptor of a file. -/
theorem pDetachF (h : PAt w P fb u g ga gc um cw d) (k D B : Nat) (hk : k < 16) (hd : d k = some ⟨D, 0, none⟩) (hD : DAt w D (.iface 65 (.pointer (some ⟨B, 0, none⟩))) 1) (hDP : D ≠ P) (qq : Nat) (Q : World → Prop)
    (hE : ∀ W, Mod (fun x => x = P ∨ x = D) w W → Calls Tryz.prog 183 #[.pointer (some ⟨B, 0, none⟩)] W fun e w' => e = .returned (.tuple #[]) ∧ (Mod (fun x => x = qq) W w' ∧ Q w')) :
    Calls Tryz.prog 25 #[.pointer (some ⟨P, 0, none⟩), .int .i64 k] w fun e w' => e = .returned (.tuple #[]) ∧ ∃ W, PAt W P fb u g ga gc um cw (fun i => if i = k then none else d i) ∧ Mod (fun x => x = P ∨ x = D) w W ∧ Mod (fun x => x = qq) W w' ∧ Q w' := by
  have hc := h.fd k hk
  rw [hd] at hc
  have hfr := h.fr
  have hk' : (k : Int) < 16 := by omega
  have m1 : Mod (fun x => x = P) w (w.setCell ⟨P, 6 + k, none⟩ (.pointer none)) := (Mod.refl _ _).setCell _ _ rfl
  have HD1 := hid6 (hD.mod m1 hDP)
  have m2 : Mod (fun x => x = D) (w.setCell ⟨P, 6 + k, none⟩ (.pointer none)) ((w.setCell ⟨P, 6 + k, none⟩ (.pointer none)).setCell ⟨D, 1, none⟩ (.int .i64 0)) := (Mod.refl _ _).setCell _ _ rfl
  have HD2 := hid6 (HD1.out.count 0)
  have HF := hid6 (show PAt ((w.setCell ⟨P, 6 + k, none⟩ (.pointer none)).setCell ⟨D, 1, none⟩ (.int .i64 0)) P fb u g ga gc um cw (fun i => if i = k then none else d i) ∧ Mod (fun x => x = P ∨ x = D) w ((w.setCell ⟨P, 6 + k, none⟩ (.pointer none)).setCell ⟨D, 1, none⟩ (.int .i64 0)) from
    ⟨(h.set k hk none).mod m2 (fun e => hDP e.symm), (m1.mono (fun _ _ e => .inl e)).trans (m2.mono (fun _ _ e => .inr e))⟩)
  have HE := hid6 (hE _ HF.out.2)
  have d1 := HD1.out.c1
  have df := HD1.out.fr
  have e0 := HD2.out.c0
  have e1 := HD2.out.c1
  clear h hD hd m1 m2 hE
  go_enter Tryz.func25, Tryz.ntmps25
  go_wp2_with fail
  refine Calls.mono HE.out ?_
  rintro e w3 ⟨rfl, M3, Q3⟩
  have HR := hid6 (show ∃ W, PAt W P fb u g ga gc um cw (fun i => if i = k then none else d i) ∧ Mod (fun x => x = P ∨ x = D) w W ∧ Mod (fun x => x = qq) W w3 ∧ Q w3 from ⟨_, HF.out.1, HF.out.2, M3, Q3⟩)
  clear Q3 M3 HE HF
  go_wp2
  exact ⟨rfl, _, results_none rfl _ _ _, rfl, HR.out⟩
end
end Go.Proofs.YtkokejgaclabdaaGreatDoor
