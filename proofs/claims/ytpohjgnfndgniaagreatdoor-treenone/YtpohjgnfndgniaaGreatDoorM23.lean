/- Several texts of this claim, one behind the other, in their order. -/
import Derived.Test.YtpohjgnfndgniaaGreatDoorM22
import Derived.Test.YtpohjgnfndgniaaGreatDoorM7
import Derived.Test.YtpohjgnfndgniaaGreatDoorM21
import Derived.Laws.IdiomStrings
/- The work of Symlink. Conditions: the task lies in memory as 'TkAt' says (no groups); what Split, follow, create, Write, Add and Links do. -/
namespace Go.Proofs.YtpohjgnfndgniaaGreatDoor
open Go.RowKit
section
variable {w : World} {t q b c n N : Nat} {clk : Int} {F1 F2 F3 F4 : Nat → Nat → Int} {R1 R2 R3 : Nat → Nat → Nat} {u u2 u3 : Nat → Bool} {D D2 D3 : Nat → Nat}
theorem w_conv6 (w5 : World) (tg : List UInt8) (cp : Nat) (mk : Nat × Nat) (j : Nat) (y : UInt8) (h : tg[j]? = some y) : (w5.alloc (.cells (bytesRow ⟨tg.toArray⟩ cp) 5 mk)).drew.drew.cell? ⟨w5.heap.size, j, none⟩ = some (.int .u8 (y.toNat : Nat)) := by
  have e := World.cell?_alloc_mark w5 (bytesRow ⟨tg.toArray⟩ cp) 5 mk j
  have hj : j < tg.length := List.getElem?_eq_some_iff.mp h |>.1
  rw [bytesRow_at _ _ j (by simpa using hj)] at e
  have : tg[j] = y := (List.getElem?_eq_some_iff.mp h).2
  refine Eq.trans (b := (w5.alloc (.cells (bytesRow ⟨tg.toArray⟩ cp) 5 mk)).cell? ⟨w5.heap.size, j, none⟩) rfl (e.trans ?_)
  simp [this]
set_option maxRecDepth 100000 in
set_option maxHeartbeats 4000000 in
theorem tSymlinkWork {k b1 b2 : Nat} {uid gid : Int} {ga : Option Addr} {gc : Nat} {um cw : Int} (h : TkAt w k t uid gid ga gc um cw) (hk : k ≠ q ∧ k ≠ b ∧ k ≠ c) (hlt : q < w.heap.size ∧ b < w.heap.size ∧ c < w.heap.size)
    (tg l x : List UInt8) (ab sl : Bool) (ns : List (List UInt8)) (hP : SplOf tg ab ns sl) (htl : tg.length ≤ 2 ^ 40) (e1 : w.cell? ⟨b1, 0, none⟩ = some (.string ⟨tg.toArray⟩)) (e2 : w.cell? ⟨b2, 0, none⟩ = some (.string ⟨l.toArray⟩)) (hbq : b1 ≠ q ∧ b1 ≠ k ∧ b1 ≠ b ∧ b1 ≠ c) (hx1 : ¬ x = []) (hx2 : ¬ x = [46]) (hx3 : ¬ x = [46, 46])
    (d : Int) (fp : Nat → Int) (hS : StA w k d fp) (hl : (fp 3 == 0) = false) (hacc : accB (fp 0) (fp 1) uid (memB gid [] (fp 2)) 2 = true) (r : Int)
    (hF : ∀ W, Mod (fun _ => False) w W → Calls Tryz.prog 50 #[.pointer (some ⟨k, 0, none⟩), .string ⟨l.toArray⟩, .int .i64 2] W fun e w' => e = .returned (.agg #[.int .i64 d, .string ⟨x.toArray⟩, .int .i64 0, .bool false]) ∧ Mod (fun _ => False) W w')
    (hC : ∀ W, Mod (fun _ => False) w W → Calls Tryz.prog 67 #[.pointer (some ⟨k, 0, none⟩), .int .i64 d, .int .i64 40960, .int .i64 511] W fun e w' => e = .returned (.int .i64 r) ∧ Tb w' t q b c n N clk F1 R1 u D ∧ Mod (fun x => x = q ∨ x = k) W w' ∧ w'.cell? ⟨k, 0, none⟩ = some (.pointer (some ⟨t, 0, none⟩)))
    (hWr : ∀ W g cp, Tb W t q b c n N clk F1 R1 u D → w.heap.size ≤ g → (∀ j x, tg[j]? = some x → W.cell? ⟨g, j, none⟩ = some (.int .u8 (x.toNat : Nat))) → tg.length ≤ cp → cp ≤ 9223372036854775807 → Calls Tryz.prog 79 #[.pointer (some ⟨t, 0, none⟩), .int .i64 r, .int .i64 0, .slice (some ⟨g, 0, none⟩) tg.length cp] W fun e w' => e = .returned (.tuple #[.int .i64 tg.length, .int .i64 0]) ∧ Mod (fun x => x = b ∨ x = c ∨ x = q) W w' ∧ Tb w' t q b c n N clk F2 R2 u2 D2)
    (hD : ∀ W, Tb W t q b c n N clk F2 R2 u2 D2 → Calls Tryz.prog 70 #[.pointer (some ⟨t, 0, none⟩), .int .i64 d, .string ⟨x.toArray⟩, .int .i64 r] W fun e w' => e = .returned (.int .i64 0) ∧ Mod (fun x => x = b ∨ x = c ∨ x = q) W w' ∧ Tb w' t q b c n N clk F3 R3 u3 D3)
    (hL : ∀ W, Tb W t q b c n N clk F3 R3 u3 D3 → Calls Tryz.prog 141 #[.pointer (some ⟨t, 0, none⟩), .int .i64 r, .int .i64 1] W fun e w' => e = .returned (.int .i64 0) ∧ Tb w' t q b c n N clk F4 R3 u3 D3 ∧ Mod (fun x => x = q) W w') :
    Calls Tryz.prog 77 #[.pointer (some ⟨k, 0, none⟩), .pointer (some ⟨b1, 0, none⟩), .pointer (some ⟨b2, 0, none⟩)] w fun e w' => e = .returned (.tuple #[]) ∧ Tb w' t q b c n N clk F4 R3 u3 D3 ∧ Mod (fun x => x = b ∨ x = c ∨ x = q ∨ x = k) w w' := by
  have HK := hid6 h
  have HWr : Hid (∀ W, Mod (fun _ => False) w W → _) := fun W hM => tWritable (h.new hM) d 0 x false fp (hS.new hM) hl hacc
  have HVa : Hid (∀ W, _) := fun W => tVacant k d x false W hx1 hx2 hx3
  have HP := hid6 hP
  have HF := hid6 hF
  have HC := hid6 hC
  have HWt := hid6 hWr
  have HD := hid6 hD
  have HL := hid6 hL
  have HQ := hid6 hk
  have hkw := h.lt
  have hb1 := block_lt_of_cell e1
  have hb2 := block_lt_of_cell e2
  have HB := hid6 (show ∀ B, w.heap.size ≤ B → ¬ B = q ∧ ¬ B = k ∧ ¬ B = b ∧ ¬ B = c from fun B hB => by obtain ⟨a1, a2, a3⟩ := hlt; exact ⟨by omega, by omega, by omega, by omega⟩)
  clear h hC hWr hD hL hS hl hacc hk hlt hF hx1 hx2 hx3 hP
  go_enter Tryz.func77, Tryz.ntmps77
  go_wp2_with fail
  refine Calls.mono (HP.out _) ?_
  rintro e w0 ⟨a0, c0, rfl, -, -, B0⟩
  have HM0 := hid6 (fun o => (mod_below B0).alloc o)
  have f2 : w0.cell? ⟨b2, 0, none⟩ = some (.string ⟨l.toArray⟩) := ((mod_below B0).cell (p := ⟨b2, 0, none⟩) hb2 (fun e => e)).trans e2
  have hb20 : b2 < w0.heap.size := block_lt_of_cell f2
  clear B0
  go_wp2_with (first | (go_at_call 57; refine (must_no _).mono ?_; rintro e w9 ⟨rfl, hw9⟩; rw [hw9]; clear hw9 w9))
  refine Calls.mono (HF.out _ (HM0.out _)) ?_
  rintro e w1 ⟨rfl, M1⟩
  have HM1 := hid6 ((HM0.out _).trans M1)
  have HBs := HB.out w1.heap.size HM1.out.size
  have hsz1 := HM1.out.size
  clear M1 f2 hb20
  have HSp : Hid (∀ W, Mod (fun _ => False) (w1.alloc (.cells #[.int .i64 d, .string ⟨x.toArray⟩, .int .i64 0, .bool false] 87)) W → W.cell? ⟨w1.heap.size, 0, none⟩ = some (.int .i64 d) ∧ W.cell? ⟨w1.heap.size, 1, none⟩ = some (.string ⟨x.toArray⟩) ∧ W.cell? ⟨w1.heap.size, 2, none⟩ = some (.int .i64 0) ∧ W.cell? ⟨w1.heap.size, 3, none⟩ = some (.bool false)) := fun W hM => by
    have hcl := fun (p : Addr) (hp : p.block < _) => hM.cell (p := p) hp (fun e => e)
    exact ⟨by rw [hcl _ (by simp)]; simp [go_sem], by rw [hcl _ (by simp)]; simp [go_sem], by rw [hcl _ (by simp)]; simp [go_sem], by rw [hcl _ (by simp)]; simp [go_sem]⟩
  have HM1a := hid6 (HM1.out.alloc (.cells #[.int .i64 d, .string ⟨x.toArray⟩, .int .i64 0, .bool false] 87))
  go_wp2_with fail
  refine Calls.mono (HVa.out _) ?_
  rintro e w2 ⟨rfl, M2⟩
  have HN2 := hid6 M2
  have HM2 := hid6 (HM1a.out.trans M2)
  obtain ⟨p0, p1, p2, p3⟩ := HSp.out _ M2
  clear M2
  go_wp2_with (first | (go_at_call 45; refine (refuse_no _ _).mono ?_; rintro e w9 ⟨rfl, hw9⟩; rw [hw9]; clear hw9 w9))
  refine Calls.mono (HWr.out _ HM2.out) ?_
  rintro e w3 ⟨rfl, M3⟩
  have HN3 := hid6 (HN2.out.trans M3)
  have HM3 := hid6 (HM2.out.trans M3)
  clear M3 p0 p1 p2 p3
  obtain ⟨p0, p1, p2, p3⟩ := HSp.out _ HN3.out
  have hw3 : w1.heap.size < w3.heap.size := block_lt_of_cell p0
  have hb13 : b1 < w3.heap.size := Nat.lt_of_lt_of_le hb1 HM3.out.size
  have q1 : w3.cell? ⟨b1, 0, none⟩ = some (.string ⟨tg.toArray⟩) := (HM3.out.cell (p := ⟨b1, 0, none⟩) hb1 (fun e => e)).trans e1
  go_wp2_with fail
  refine Calls.mono (HC.out _ HM3.out) ?_
  rintro e w5 ⟨rfl, T5, M5, k5⟩
  have g0 := (M5.cell (p := ⟨w1.heap.size, 0, none⟩) hw3 (fun e => by rcases e with e | e; exact HBs.1 e; exact HBs.2.1 e)).trans p0
  have g1 := (M5.cell (p := ⟨w1.heap.size, 1, none⟩) hw3 (fun e => by rcases e with e | e; exact HBs.1 e; exact HBs.2.1 e)).trans p1
  have gb := (M5.cell (p := ⟨b1, 0, none⟩) hb13 (fun e => by rcases e with e | e; exact hbq.1 e; exact hbq.2.1 e)).trans q1
  have HT5 := hid6 T5
  have HM5 := hid6 M5
  clear T5 M5 p0 p1 p2 p3 q1
  have hw5 : w1.heap.size < w5.heap.size := block_lt_of_cell g0
  have hb15 : b1 < w5.heap.size := block_lt_of_cell gb
  have hk5 : k < w5.heap.size := block_lt_of_cell k5
  have hsz5 : w.heap.size ≤ w5.heap.size := Nat.le_trans HM3.out.size HM5.out.size
  have hml : tg.length ≤ maxLen := by unfold maxLen; omega
  have HBe : Hid (¬ (w1.heap.size = b ∨ w1.heap.size = c ∨ w1.heap.size = q)) := fun e => by rcases e with e | e | e; exact HBs.2.2.1 e; exact HBs.2.2.2 e; exact HBs.1 e
  have hcv2 := fun w s => run_bytes_of_string (P := Tryz.prog) w 9 26 5 s Tryz.underlying9 Tryz.underlying26 Tryz.underlying5
  go_upto_region 7 with fail
  go_cut [8] (fun v8 wc => v8 = .int .i64 (tg.length : Nat) ∧ wc.cell? ⟨w1.heap.size, 0, none⟩ = some (.int .i64 d) ∧ wc.cell? ⟨w1.heap.size, 1, none⟩ = some (.string ⟨x.toArray⟩) ∧ wc.cell? ⟨b1, 0, none⟩ = some (.string ⟨tg.toArray⟩) ∧ wc.cell? ⟨k, 0, none⟩ = some (.pointer (some ⟨t, 0, none⟩)) ∧ Hid (Tb wc t q b c n N clk F2 R2 u2 D2) ∧ Hid (Mod (fun x => x = b ∨ x = c ∨ x = q) w5 wc))
  case first =>
    go_region_held (fun W' => W'.cell? ⟨b1, 0, none⟩ = some (.string ⟨tg.toArray⟩) ∧ W'.cell? ⟨k, 0, none⟩ = some (.pointer (some ⟨t, 0, none⟩))) (first | with_reducible exact hS1 | go_keep)
      (first | (go_at_call 79; refine (HWt.out _ w5.heap.size _ (HT5.out.new ((((Mod.refl _ _).alloc _).drewN 1).drewN 1)) hsz5 (fun j y hj => w_conv6 _ _ _ _ j y hj) (grownCap_ge _ _ _ _) (grownCap_le_maxLen _ _ _ _ hml)).mono ?_; rintro e w6 ⟨rfl, M6, T6⟩; have HM6 := hid6 (show Mod (fun x => x = b ∨ x = c ∨ x = q) w5 w6 from ((((Mod.refl _ _).alloc _).drewN 1).drewN 1).trans M6); have hS1 := And.intro ((HM6.out.cell (p := ⟨b1, 0, none⟩) hb15 (fun e => by rcases e with e | e | e; exact hbq.2.2.1 e; exact hbq.2.2.2 e; exact hbq.1 e)).trans gb) ((HM6.out.cell (p := ⟨k, 0, none⟩) hk5 (fun e => by rcases e with e | e | e; exact HQ.out.2.1 e; exact HQ.out.2.2 e; exact HQ.out.1 e)).trans k5); have HT6 := hid6 T6; clear T6 M6))
    all_goals
      go_wp2_with fail
      go_meet
      exact ⟨rfl, (HM6.out.cell (p := ⟨w1.heap.size, 0, none⟩) hw5 HBe.out).trans g0, (HM6.out.cell (p := ⟨w1.heap.size, 1, none⟩) hw5 HBe.out).trans g1, hS1.1, hS1.2, HT6, HM6⟩
  case rest =>
    obtain ⟨rfl, j0, j1, jb, jk, HT6, HM6⟩ := hcut
    have hwc : w1.heap.size < wc.heap.size := block_lt_of_cell j0
    have hkc : k < wc.heap.size := block_lt_of_cell jk
    obtain ⟨wA, hwA⟩ : ∃ y, y = wc := ⟨wc, rfl⟩
    subst hwA
    clear g0 g1 gb k5 hcv2
    have hlt8 : ¬ ((tg.length : Int) < (tg.length : Int)) := by omega
    go_upto_region 9 with (first | (go_at_call 45; refine (refuse_no _ _).mono ?_; rintro e w9 ⟨rfl, hw9⟩; rw [hw9]; clear hw9 w9))
    go_cut [] (fun wc => wc.cell? ⟨k, 0, none⟩ = some (.pointer (some ⟨t, 0, none⟩)) ∧ Hid (Tb wc t q b c n N clk F3 R3 u3 D3) ∧ Hid (Mod (fun x => x = b ∨ x = c ∨ x = q) wA wc))
    case first =>
      go_region_held (fun W' => W'.cell? ⟨w1.heap.size, 0, none⟩ = some (.int .i64 d) ∧ W'.cell? ⟨w1.heap.size, 1, none⟩ = some (.string ⟨x.toArray⟩) ∧ W'.cell? ⟨k, 0, none⟩ = some (.pointer (some ⟨t, 0, none⟩))) (first | with_reducible exact hS1 | go_keep)
        (first | (go_at_call 70; refine (HD.out _ (HT6.out.new ((Mod.refl _ _).drewN 1))).mono ?_; rintro e w7 ⟨rfl, M7, T7⟩; have hkk : w7.cell? ⟨k, 0, none⟩ = some (.pointer (some ⟨t, 0, none⟩)) := ((M7.cell (p := ⟨k, 0, none⟩) hkc (fun e => by rcases e with e | e | e; exact HQ.out.2.1 e; exact HQ.out.2.2 e; exact HQ.out.1 e)).trans jk); have hS1 := And.intro ((M7.cell (p := ⟨w1.heap.size, 0, none⟩) hwc HBe.out).trans j0) (And.intro ((M7.cell (p := ⟨w1.heap.size, 1, none⟩) hwc HBe.out).trans j1) hkk); have HT7 := hid6 T7; have HM7 := hid6 M7; clear T7 M7) | (go_at_call 57; refine (must_no _).mono ?_; rintro e w9 ⟨rfl, hw9⟩; rw [hw9]; clear hw9 w9))
      all_goals
        go_wp2_with fail
        go_meet
        exact ⟨hkk, HT7, ((Mod.refl _ _).drewN 1).trans HM7.out⟩
    case rest =>
      obtain ⟨hk', HT7, HM7⟩ := hcut
      have HFin : Hid (∀ w', Mod (fun x => x = q) wc w' → Mod (fun x => x = b ∨ x = c ∨ x = q ∨ x = k) w w') := fun w' hM => ((((HM3.out.mono (fun _ _ e => e.elim)).trans (HM5.out.mono (fun _ _ e => by rcases e with e | e; exact .inr (.inr (.inl e)); exact .inr (.inr (.inr e))))).trans (HM6.out.mono (fun _ _ e => by rcases e with e | e | e; exact .inl e; exact .inr (.inl e); exact .inr (.inr (.inl e))))).trans (HM7.out.mono (fun _ _ e => by rcases e with e | e | e; exact .inl e; exact .inr (.inl e); exact .inr (.inr (.inl e))))).trans (hM.mono (fun _ _ e => .inr (.inr (.inl e))))
      go_wp2_with fail
      refine Calls.mono (tLinks hk' r 1 (fun w' => Tb w' t q b c n N clk F4 R3 u3 D3 ∧ Mod (fun x => x = q) wc w') (HL.out _ HT7.out)) ?_
      rintro e w8 ⟨rfl, T8, M8⟩
      have HR := hid6 (show Tb w8 t q b c n N clk F4 R3 u3 D3 ∧ Mod (fun x => x = b ∨ x = c ∨ x = q ∨ x = k) w w8 from ⟨T8, HFin.out _ M8⟩)
      clear T8 M8
      go_wp2
      exact ⟨rfl, _, results_none rfl _ _ _, rfl, HR.out⟩
end
end Go.Proofs.YtpohjgnfndgniaaGreatDoor
/- The work of Mkdir. Conditions: the task lies in memory as 'TkAt' says (no groups); what follow, create, Init, Add and Links do. -/
namespace Go.Proofs.YtpohjgnfndgniaaGreatDoor
open Go.RowKit
theorem fldSt1 (s0 s1 s2 s3 s4 s5 s6 s7 s8 s9 : Int) (W : World) : (Instr.field 38 (.agg #[.int .i64 s0, .int .i64 s1, .int .i64 s2, .int .i64 s3, .int .i64 s4, .int .i64 s5, .int .i64 s6, .int .i64 s7, .int .i64 s8, .int .i64 s9]) 1).run Tryz.prog W = .ok (.int .i64 s1) W := by kernel_rfl
section
variable {w : World} {t q b c n N : Nat} {clk : Int} {F1 F2 F3 F4 F5 : Nat → Nat → Int} {R1 R2 R3 : Nat → Nat → Nat} {u u2 u3 : Nat → Bool} {D D2 D3 : Nat → Nat}
set_option maxRecDepth 100000 in
set_option maxHeartbeats 4000000 in
theorem tMkdirWork {k b1 b2 : Nat} {uid gid : Int} {ga : Option Addr} {gc : Nat} {um cw : Int} (h : TkAt w k t uid gid ga gc um cw) (hk : k ≠ q ∧ k ≠ b ∧ k ≠ c) (hlt : q < w.heap.size ∧ b < w.heap.size ∧ c < w.heap.size)
    (l x : List UInt8) (m mm : Int) (e1 : w.cell? ⟨b1, 0, none⟩ = some (.string ⟨l.toArray⟩)) (e2 : w.cell? ⟨b2, 0, none⟩ = some (.int .i64 m)) (hbq : b2 ≠ q ∧ b2 ≠ k) (hx1 : ¬ x = []) (hx2 : ¬ x = [46]) (hx3 : ¬ x = [46, 46])
    (d : Int) (hmm : bits .andNot .i64 m um = mm) (fp : Nat → Int) (hS : StA w k d fp) (hl : (fp 3 == 0) = false) (hlm : decide (16 ≤ fp 3) = false) (hacc : accB (fp 0) (fp 1) uid (memB gid [] (fp 2)) 2 = true) (r : Int)
    (hF : ∀ W, Mod (fun _ => False) w W → Calls Tryz.prog 50 #[.pointer (some ⟨k, 0, none⟩), .string ⟨l.toArray⟩, .int .i64 2] W fun e w' => e = .returned (.agg #[.int .i64 d, .string ⟨x.toArray⟩, .int .i64 0, .bool false]) ∧ Mod (fun _ => False) W w')
    (hC : ∀ W, Mod (fun _ => False) w W → Calls Tryz.prog 67 #[.pointer (some ⟨k, 0, none⟩), .int .i64 d, .int .i64 16384, .int .i64 mm] W fun e w' => e = .returned (.int .i64 r) ∧ Tb w' t q b c n N clk F1 R1 u D ∧ Mod (fun x => x = q ∨ x = k) W w' ∧ w'.cell? ⟨k, 0, none⟩ = some (.pointer (some ⟨t, 0, none⟩)))
    (hI : ∀ W, Tb W t q b c n N clk F1 R1 u D → Calls Tryz.prog 69 #[.pointer (some ⟨t, 0, none⟩), .int .i64 r, .int .i64 d] W fun e w' => e = .returned (.int .i64 0) ∧ Mod (fun x => x = b ∨ x = c ∨ x = q) W w' ∧ Tb w' t q b c n N clk F2 R2 u2 D2)
    (hD : ∀ W, Tb W t q b c n N clk F2 R2 u2 D2 → Calls Tryz.prog 70 #[.pointer (some ⟨t, 0, none⟩), .int .i64 d, .string ⟨x.toArray⟩, .int .i64 r] W fun e w' => e = .returned (.int .i64 0) ∧ Mod (fun x => x = b ∨ x = c ∨ x = q) W w' ∧ Tb w' t q b c n N clk F3 R3 u3 D3)
    (hL : ∀ W, Tb W t q b c n N clk F3 R3 u3 D3 → Calls Tryz.prog 141 #[.pointer (some ⟨t, 0, none⟩), .int .i64 r, .int .i64 2] W fun e w' => e = .returned (.int .i64 0) ∧ Tb w' t q b c n N clk F4 R3 u3 D3 ∧ Mod (fun x => x = q) W w')
    (hL2 : ∀ W, Tb W t q b c n N clk F4 R3 u3 D3 → Calls Tryz.prog 141 #[.pointer (some ⟨t, 0, none⟩), .int .i64 d, .int .i64 1] W fun e w' => e = .returned (.int .i64 0) ∧ Tb w' t q b c n N clk F5 R3 u3 D3 ∧ Mod (fun x => x = q) W w') :
    Calls Tryz.prog 64 #[.pointer (some ⟨k, 0, none⟩), .pointer (some ⟨b1, 0, none⟩), .pointer (some ⟨b2, 0, none⟩)] w fun e w' => e = .returned (.tuple #[]) ∧ Tb w' t q b c n N clk F5 R3 u3 D3 ∧ Mod (fun x => x = b ∨ x = c ∨ x = q ∨ x = k) w w' := by
  have HK := hid6 h
  have HWr : Hid (∀ W, Mod (fun _ => False) w W → _) := fun W hM => tWritable (h.new hM) d 0 x false fp (hS.new hM) hl hacc
  have HVa : Hid (∀ W, _) := fun W => tVacant k d x false W hx1 hx2 hx3
  have HMk : Hid (∀ W, TkAt W k t uid gid ga gc um cw → _) := fun W hW => tMasked hW m
  rw [hmm] at HMk
  have HF := hid6 hF
  have HC := hid6 hC
  have HI := hid6 hI
  have HD := hid6 hD
  have HL := hid6 hL
  have HL2 := hid6 hL2
  have HQ := hid6 hk
  have HS := hid6 hS
  have hkw := h.lt
  have hb2 := block_lt_of_cell e2
  have HB := hid6 (show ∀ B, w.heap.size ≤ B → ¬ B = q ∧ ¬ B = k ∧ ¬ B = b ∧ ¬ B = c from fun B hB => by obtain ⟨a1, a2, a3⟩ := hlt; exact ⟨by omega, by omega, by omega, by omega⟩)
  have hfl := fldSt1
  clear h hC hI hD hL hL2 hS hl hacc hk hlt hmm hF hx1 hx2 hx3
  go_enter Tryz.func64, Tryz.ntmps64
  go_wp2_with fail
  refine Calls.mono (HF.out _ (Mod.refl _ _)) ?_
  rintro e w1 ⟨rfl, M1⟩
  have HM1 := hid6 M1
  have HBs := HB.out w1.heap.size M1.size
  have hsz1 := M1.size
  clear M1
  have HSp : Hid (∀ W, Mod (fun _ => False) (w1.alloc (.cells #[.int .i64 d, .string ⟨x.toArray⟩, .int .i64 0, .bool false] 87)) W → W.cell? ⟨w1.heap.size, 0, none⟩ = some (.int .i64 d) ∧ W.cell? ⟨w1.heap.size, 1, none⟩ = some (.string ⟨x.toArray⟩) ∧ W.cell? ⟨w1.heap.size, 2, none⟩ = some (.int .i64 0) ∧ W.cell? ⟨w1.heap.size, 3, none⟩ = some (.bool false)) := fun W hM => by
    have hcl := fun (p : Addr) (hp : p.block < _) => hM.cell (p := p) hp (fun e => e)
    exact ⟨by rw [hcl _ (by simp)]; simp [go_sem], by rw [hcl _ (by simp)]; simp [go_sem], by rw [hcl _ (by simp)]; simp [go_sem], by rw [hcl _ (by simp)]; simp [go_sem]⟩
  have HM1a := hid6 (HM1.out.alloc (.cells #[.int .i64 d, .string ⟨x.toArray⟩, .int .i64 0, .bool false] 87))
  go_wp2_with fail
  refine Calls.mono (HVa.out _) ?_
  rintro e w2 ⟨rfl, M2⟩
  have HN2 := hid6 M2
  have HM2 := hid6 (HM1a.out.trans M2)
  obtain ⟨p0, p1, p2, p3⟩ := HSp.out _ M2
  clear M2
  go_wp2_with fail
  refine Calls.mono (HWr.out _ HM2.out) ?_
  rintro e w3 ⟨rfl, M3⟩
  have HN3 := hid6 (HN2.out.trans M3)
  have HM3 := hid6 (HM2.out.trans M3)
  clear M3 p0 p1 p2 p3
  obtain ⟨p0, p1, p2, p3⟩ := HSp.out _ HN3.out
  go_wp2_with fail
  refine Calls.mono (HS.out _ HM3.out) ?_
  rintro e w4 ⟨⟨bl, rfl⟩, M4⟩
  have HN4 := hid6 (HN3.out.trans M4)
  have HM4 := hid6 (HM3.out.trans M4)
  clear M4 p0 p1 p2 p3
  obtain ⟨p0, p1, p2, p3⟩ := HSp.out _ HN4.out
  have q2 : w4.cell? ⟨b2, 0, none⟩ = some (.int .i64 m) := (HM4.out.cell (p := ⟨b2, 0, none⟩) hb2 (fun e => e)).trans e2
  have hw4 : w1.heap.size < w4.heap.size := block_lt_of_cell p0
  have hb24 : b2 < w4.heap.size := Nat.lt_of_lt_of_le hb2 HM4.out.size
  have hk4 : k < w4.heap.size := Nat.lt_of_lt_of_le hkw HM4.out.size
  go_upto_region 4 with (first | (go_at_call 45; refine (refuse_no _ _).mono ?_; rintro e w3 ⟨rfl, hw3⟩; rw [hw3]; clear hw3 w3))
  go_cut [5] (fun v5 wc => v5 = .int .i64 r ∧ wc.cell? ⟨w1.heap.size, 0, none⟩ = some (.int .i64 d) ∧ wc.cell? ⟨w1.heap.size, 1, none⟩ = some (.string ⟨x.toArray⟩) ∧ wc.cell? ⟨k, 0, none⟩ = some (.pointer (some ⟨t, 0, none⟩)) ∧ Hid (Tb wc t q b c n N clk F1 R1 u D) ∧ Hid (Mod (fun x => x = q ∨ x = k) w4 wc))
  case first =>
    go_region_held (fun W' => W'.cell? ⟨w1.heap.size, 0, none⟩ = some (.int .i64 d) ∧ W'.cell? ⟨b2, 0, none⟩ = some (.int .i64 m)) (first | with_reducible exact hS1 | go_keep)
      (first | (go_at_call 68; refine (HMk.out _ ((HK.out.new HM4.out).new ((Mod.refl _ _).drewN 1))).mono ?_; rintro e w9 ⟨rfl, hw9⟩; rw [hw9]; clear hw9 w9) | (go_at_call 67; refine (HC.out _ (HM4.out.drewN 1)).mono ?_; rintro e w5 ⟨rfl, T5, M5, k5⟩; have hS1 := And.intro ((M5.cell (p := ⟨w1.heap.size, 0, none⟩) hw4 (fun e => by rcases e with e | e; exact HBs.1 e; exact HBs.2.1 e)).trans p0) ((M5.cell (p := ⟨b2, 0, none⟩) hb24 (fun e => by rcases e with e | e; exact hbq.1 e; exact hbq.2 e)).trans q2); have hS0 := ((M5.cell (p := ⟨w1.heap.size, 0, none⟩) hw4 (fun e => by rcases e with e | e; exact HBs.1 e; exact HBs.2.1 e)).trans p0); have hS2 := ((M5.cell (p := ⟨w1.heap.size, 1, none⟩) hw4 (fun e => by rcases e with e | e; exact HBs.1 e; exact HBs.2.1 e)).trans p1); have HT5 := hid6 T5; have HM5 := hid6 M5; clear T5 M5))
    all_goals
      go_wp2_with fail
      go_meet
      exact ⟨rfl, hS0, hS2, k5, HT5, ((Mod.refl _ _).drewN 1).trans HM5.out⟩
  case rest =>
    obtain ⟨rfl, g0, g1, gk, HT5, HM5⟩ := hcut
    have hwc : w1.heap.size < wc.heap.size := Nat.lt_of_lt_of_le hw4 HM5.out.size
    have hkc : k < wc.heap.size := Nat.lt_of_lt_of_le hk4 HM5.out.size
    obtain ⟨wA, hwA⟩ : ∃ y, y = wc := ⟨wc, rfl⟩
    subst hwA
    clear p0 p1 p2 p3 q2
    go_upto_region 5 with fail
    go_cut [] (fun wc => wc.cell? ⟨w1.heap.size, 0, none⟩ = some (.int .i64 d) ∧ wc.cell? ⟨w1.heap.size, 1, none⟩ = some (.string ⟨x.toArray⟩) ∧ wc.cell? ⟨k, 0, none⟩ = some (.pointer (some ⟨t, 0, none⟩)) ∧ Hid (Tb wc t q b c n N clk F2 R2 u2 D2) ∧ Hid (Mod (fun x => x = b ∨ x = c ∨ x = q) wA wc))
    case first =>
      go_region_held (fun W' => W'.cell? ⟨w1.heap.size, 0, none⟩ = some (.int .i64 d) ∧ W'.cell? ⟨w1.heap.size, 1, none⟩ = some (.string ⟨x.toArray⟩) ∧ W'.cell? ⟨k, 0, none⟩ = some (.pointer (some ⟨t, 0, none⟩))) (first | with_reducible exact hS1 | go_keep)
        (first | (go_at_call 69; refine (HI.out _ (HT5.out.new ((Mod.refl _ _).drewN 1))).mono ?_; rintro e w6 ⟨rfl, M6, T6⟩; have hkk : w6.cell? ⟨k, 0, none⟩ = some (.pointer (some ⟨t, 0, none⟩)) := ((M6.cell (p := ⟨k, 0, none⟩) hkc (fun e => by rcases e with e | e | e; exact HQ.out.2.1 e; exact HQ.out.2.2 e; exact HQ.out.1 e)).trans gk); have hS1 := And.intro ((M6.cell (p := ⟨w1.heap.size, 0, none⟩) hwc (fun e => by rcases e with e | e | e; exact HBs.2.2.1 e; exact HBs.2.2.2 e; exact HBs.1 e)).trans g0) (And.intro ((M6.cell (p := ⟨w1.heap.size, 1, none⟩) hwc (fun e => by rcases e with e | e | e; exact HBs.2.2.1 e; exact HBs.2.2.2 e; exact HBs.1 e)).trans g1) hkk); have HT6 := hid6 T6; have HM6 := hid6 M6; clear T6 M6) | (go_at_call 57; refine (must_no _).mono ?_; rintro e w9 ⟨rfl, hw9⟩; rw [hw9]; clear hw9 w9))
      all_goals
        go_wp2_with fail
        go_meet
        exact ⟨hS1.1, hS1.2.1, hkk, HT6, ((Mod.refl _ _).drewN 1).trans HM6.out⟩
    case rest =>
      obtain ⟨g0', g1', gk', HT6, HM6⟩ := hcut
      have hwc' : w1.heap.size < wc.heap.size := Nat.lt_of_lt_of_le hwc HM6.out.size
      have hkc' : k < wc.heap.size := Nat.lt_of_lt_of_le hkc HM6.out.size
      obtain ⟨wB, hwB⟩ : ∃ y, y = wc := ⟨wc, rfl⟩
      subst hwB
      clear g0 g1 gk
      go_upto_region 6 with fail
      go_cut [] (fun wc => wc.cell? ⟨w1.heap.size, 0, none⟩ = some (.int .i64 d) ∧ wc.cell? ⟨k, 0, none⟩ = some (.pointer (some ⟨t, 0, none⟩)) ∧ Hid (Tb wc t q b c n N clk F3 R3 u3 D3) ∧ Hid (Mod (fun x => x = b ∨ x = c ∨ x = q) wB wc))
      case first =>
        go_region_held (fun W' => W'.cell? ⟨w1.heap.size, 0, none⟩ = some (.int .i64 d) ∧ W'.cell? ⟨w1.heap.size, 1, none⟩ = some (.string ⟨x.toArray⟩) ∧ W'.cell? ⟨k, 0, none⟩ = some (.pointer (some ⟨t, 0, none⟩))) (first | with_reducible exact hS1 | go_keep)
          (first | (go_at_call 70; refine (HD.out _ (HT6.out.new ((Mod.refl _ _).drewN 1))).mono ?_; rintro e w7 ⟨rfl, M7, T7⟩; have hkk : w7.cell? ⟨k, 0, none⟩ = some (.pointer (some ⟨t, 0, none⟩)) := ((M7.cell (p := ⟨k, 0, none⟩) hkc' (fun e => by rcases e with e | e | e; exact HQ.out.2.1 e; exact HQ.out.2.2 e; exact HQ.out.1 e)).trans gk'); have hS1 := And.intro ((M7.cell (p := ⟨w1.heap.size, 0, none⟩) hwc' (fun e => by rcases e with e | e | e; exact HBs.2.2.1 e; exact HBs.2.2.2 e; exact HBs.1 e)).trans g0') (And.intro ((M7.cell (p := ⟨w1.heap.size, 1, none⟩) hwc' (fun e => by rcases e with e | e | e; exact HBs.2.2.1 e; exact HBs.2.2.2 e; exact HBs.1 e)).trans g1') hkk); have HT7 := hid6 T7; have HM7 := hid6 M7; clear T7 M7) | (go_at_call 57; refine (must_no _).mono ?_; rintro e w9 ⟨rfl, hw9⟩; rw [hw9]; clear hw9 w9))
        all_goals
          go_wp2_with fail
          go_meet
          exact ⟨hS1.1, hkk, HT7, ((Mod.refl _ _).drewN 1).trans HM7.out⟩
      case rest =>
        obtain ⟨h0', hk', HT7, HM7⟩ := hcut
        have HFin : Hid (∀ w', Mod (fun x => x = q) wc w' → Mod (fun x => x = b ∨ x = c ∨ x = q ∨ x = k) w w') := fun w' hM => ((((HM4.out.mono (fun _ _ e => e.elim)).trans (HM5.out.mono (fun _ _ e => by rcases e with e | e; exact .inr (.inr (.inl e)); exact .inr (.inr (.inr e))))).trans (HM6.out.mono (fun _ _ e => by rcases e with e | e | e; exact .inl e; exact .inr (.inl e); exact .inr (.inr (.inl e))))).trans (HM7.out.mono (fun _ _ e => by rcases e with e | e | e; exact .inl e; exact .inr (.inl e); exact .inr (.inr (.inl e))))).trans (hM.mono (fun _ _ e => .inr (.inr (.inl e))))
        have hwl : w1.heap.size < wc.heap.size := block_lt_of_cell h0'
        have hkl : k < wc.heap.size := block_lt_of_cell hk'
        go_wp2_with fail
        refine Calls.mono (tLinks hk' r 2 (fun w' => Tb w' t q b c n N clk F4 R3 u3 D3 ∧ Mod (fun x => x = q) wc w') (HL.out _ HT7.out)) ?_
        rintro e w8 ⟨rfl, T8, M8⟩
        have HT8 := hid6 T8
        have HM8 := hid6 M8
        have j0 : w8.cell? ⟨w1.heap.size, 0, none⟩ = some (.int .i64 d) := (M8.cell (p := ⟨w1.heap.size, 0, none⟩) hwl HBs.1).trans h0'
        have jk : w8.cell? ⟨k, 0, none⟩ = some (.pointer (some ⟨t, 0, none⟩)) := (M8.cell (p := ⟨k, 0, none⟩) hkl HQ.out.1).trans hk'
        clear T8 M8 h0' hk'
        go_wp2_with fail
        refine Calls.mono (tLinks jk d 1 (fun w' => Tb w' t q b c n N clk F5 R3 u3 D3 ∧ Mod (fun x => x = q) w8 w') (HL2.out _ HT8.out)) ?_
        rintro e w10 ⟨rfl, T10, M10⟩
        have HR := hid6 (show Tb w10 t q b c n N clk F5 R3 u3 D3 ∧ Mod (fun x => x = b ∨ x = c ∨ x = q ∨ x = k) w w10 from ⟨T10, HFin.out _ (HM8.out.trans M10)⟩)
        clear T10 M10
        go_wp2
        exact ⟨rfl, _, results_none rfl _ _ _, rfl, HR.out⟩
end
end Go.Proofs.YtpohjgnfndgniaaGreatDoor
