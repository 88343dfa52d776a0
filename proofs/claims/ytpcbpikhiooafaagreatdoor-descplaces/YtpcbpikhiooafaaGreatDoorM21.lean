/- Several texts of this claim, one behind the other, in their order. -/
import Derived.Test.YtpcbpikhiooafaaGreatDoorM20
import Derived.Test.YtpcbpikhiooafaaGreatDoorM6
import Derived.Test.YtpcbpikhiooafaaGreatDoorM19
/- The task's call newFile. Conditions: the task lies in memory as 'TkAt' says (no groups); what create, Add and Links do. -/
namespace Go.Proofs.YtpcbpikhiooafaaGreatDoor
open Go.RowKit
section
variable {w : World} {t q b c n N : Nat} {clk : Int} {F1 F2 F3 : Nat → Nat → Int} {R1 R2 : Nat → Nat → Nat} {u u2 : Nat → Bool} {D D2 : Nat → Nat}
set_option maxRecDepth 100000 in
set_option maxHeartbeats 4000000 in
theorem tNewFile {k : Nat} {uid gid : Int} {ga : Option Addr} {gc : Nat} {um cw : Int} (h : TkAt w k t uid gid ga gc um cw) (hk : k ≠ q ∧ k ≠ b ∧ k ≠ c) (hlt : q < w.heap.size ∧ b < w.heap.size ∧ c < w.heap.size)
    (d : Int) (l : List UInt8) (m mm : Int) (hmm : bits .andNot .i64 m um = mm) (fp : Nat → Int) (hS : StA w k d fp) (hl : (fp 3 == 0) = false) (hacc : accB (fp 0) (fp 1) uid (memB gid [] (fp 2)) 2 = true) (r : Int)
    (hC : ∀ W, Mod (fun _ => False) w W → Calls Tryz.prog 78 #[.pointer (some ⟨k, 0, none⟩), .int .i64 d, .int .i64 32768, .int .i64 mm] W fun e w' => e = .returned (.int .i64 r) ∧ Tb w' t q b c n N clk F1 R1 u D ∧ Mod (fun x => x = q ∨ x = k) W w' ∧ w'.cell? ⟨k, 0, none⟩ = some (.pointer (some ⟨t, 0, none⟩)))
    (hD : ∀ W, Tb W t q b c n N clk F1 R1 u D → Calls Tryz.prog 80 #[.pointer (some ⟨t, 0, none⟩), .int .i64 d, .string ⟨l.toArray⟩, .int .i64 r] W fun e w' => e = .returned (.int .i64 0) ∧ Mod (fun x => x = b ∨ x = c ∨ x = q) W w' ∧ Tb w' t q b c n N clk F2 R2 u2 D2)
    (hL : ∀ W, Tb W t q b c n N clk F2 R2 u2 D2 → Calls Tryz.prog 16 #[.pointer (some ⟨t, 0, none⟩), .int .i64 r, .int .i64 1] W fun e w' => e = .returned (.int .i64 0) ∧ Tb w' t q b c n N clk F3 R2 u2 D2 ∧ Mod (fun x => x = q) W w') :
    Calls Tryz.prog 54 #[.pointer (some ⟨k, 0, none⟩), .agg #[.int .i64 d, .string ⟨l.toArray⟩, .int .i64 0, .bool false], .int .i64 m] w fun e w' => e = .returned (.int .i64 r) ∧ Tb w' t q b c n N clk F3 R2 u2 D2 ∧ Mod (fun x => x = b ∨ x = c ∨ x = q ∨ x = k) w w' ∧ w'.cell? ⟨k, 0, none⟩ = some (.pointer (some ⟨t, 0, none⟩)) := by
  have HK := hid6 h
  have HWr : Hid (∀ W, Mod (fun _ => False) w W → _) := fun W hM => tWritable (h.new hM) d 0 l false fp (hS.new hM) hl hacc
  have HMk : Hid (∀ W, TkAt W k t uid gid ga gc um cw → _) := fun W hW => tMasked hW m
  rw [hmm] at HMk
  have HC := hid6 hC
  have HD := hid6 hD
  have HL := hid6 hL
  have HQ := hid6 hk
  have HLt := hid6 hlt
  have hkw := h.lt
  have hB : ¬ w.heap.size = q ∧ ¬ w.heap.size = k ∧ ¬ w.heap.size = b ∧ ¬ w.heap.size = c := by obtain ⟨a1, a2, a3⟩ := hlt; exact ⟨by omega, by omega, by omega, by omega⟩
  have HB := hid6 hB
  have HM0 : Hid (∀ o, Mod (fun _ => False) w (w.alloc o)) := fun o => (Mod.refl _ w).alloc o
  clear h hC hD hL hS hl hacc hk hlt hB hmm
  go_enter Tryz.func54, Tryz.ntmps54
  go_wp2_with (first | (go_at_call 48; refine (refuse_no _ _).mono ?_; rintro e w3 ⟨rfl, hw3⟩; rw [hw3]; clear hw3 w3))
  refine Calls.mono (HWr.out _ (HM0.out _)) ?_
  rintro e w1 ⟨rfl, M1⟩
  have HM1 := hid6 ((HM0.out _).trans M1)
  have e0 : w1.cell? ⟨w.heap.size, 0, none⟩ = some (.int .i64 d) := by rw [M1.cell (p := ⟨w.heap.size, 0, none⟩) (by simp) (fun e => e)]; simp [go_sem]
  have e1 : w1.cell? ⟨w.heap.size, 1, none⟩ = some (.string ⟨l.toArray⟩) := by rw [M1.cell (p := ⟨w.heap.size, 1, none⟩) (by simp) (fun e => e)]; simp [go_sem]
  have hw1 : w.heap.size < w1.heap.size := by have := M1.size; simp at this; omega
  clear M1
  go_upto_region 3 with fail
  go_cut [7] (fun v7 wc => v7 = .int .i64 r ∧ wc.cell? ⟨w.heap.size, 0, none⟩ = some (.int .i64 d) ∧ wc.cell? ⟨w.heap.size, 1, none⟩ = some (.string ⟨l.toArray⟩) ∧ wc.cell? ⟨k, 0, none⟩ = some (.pointer (some ⟨t, 0, none⟩)) ∧ Hid (Tb wc t q b c n N clk F1 R1 u D) ∧ Hid (Mod (fun x => x = q ∨ x = k) w1 wc))
  case first =>
    go_region_held (fun W' => W'.cell? ⟨w.heap.size, 0, none⟩ = some (.int .i64 d)) (first | with_reducible exact hS1 | go_keep)
      (first | (go_at_call 79; refine (HMk.out _ ((HK.out.new HM1.out).new ((Mod.refl _ _).drewN 1))).mono ?_; rintro e w2 ⟨rfl, hw2⟩; rw [hw2]; clear hw2 w2) | (go_at_call 78; refine (HC.out _ (HM1.out.drewN 1)).mono ?_; rintro e w2 ⟨rfl, T2, M2, k2⟩; have hS1 : w2.cell? ⟨w.heap.size, 0, none⟩ = some (.int .i64 d) := ((M2.cell (p := ⟨w.heap.size, 0, none⟩) hw1 (fun e => by rcases e with e | e; exact HB.out.1 e; exact HB.out.2.1 e)).trans e0); have hS2 : w2.cell? ⟨w.heap.size, 1, none⟩ = some (.string ⟨l.toArray⟩) := ((M2.cell (p := ⟨w.heap.size, 1, none⟩) hw1 (fun e => by rcases e with e | e; exact HB.out.1 e; exact HB.out.2.1 e)).trans e1); have HT2 := hid6 T2; have HM2 := hid6 M2; clear T2 M2))
    all_goals
      go_wp2_with fail
      go_meet
      exact ⟨rfl, hS1, hS2, k2, HT2, ((Mod.refl _ _).drewN 1).trans HM2.out⟩
  case rest =>
    obtain ⟨rfl, g0, g1, gk, HT2, HM2⟩ := hcut
    have hwc : w.heap.size < wc.heap.size := Nat.lt_of_lt_of_le hw1 HM2.out.size
    have hkc : k < wc.heap.size := by omega
    go_upto_region 4 with fail
    obtain ⟨wA, hwA⟩ : ∃ x, x = wc := ⟨wc, rfl⟩
    subst hwA
    go_cut [] (fun wc => wc.cell? ⟨k, 0, none⟩ = some (.pointer (some ⟨t, 0, none⟩)) ∧ Hid (Tb wc t q b c n N clk F2 R2 u2 D2) ∧ Hid (Mod (fun x => x = b ∨ x = c ∨ x = q) wA wc))
    case first =>
      go_region_held (fun W' => W'.cell? ⟨w.heap.size, 0, none⟩ = some (.int .i64 d) ∧ W'.cell? ⟨w.heap.size, 1, none⟩ = some (.string ⟨l.toArray⟩) ∧ W'.cell? ⟨k, 0, none⟩ = some (.pointer (some ⟨t, 0, none⟩))) (first | with_reducible exact hS1 | go_keep)
        (first | (go_at_call 80; refine (HD.out _ (HT2.out.new ((Mod.refl _ _).drewN 1))).mono ?_; rintro e w2 ⟨rfl, M3, T3⟩; have hkk : w2.cell? ⟨k, 0, none⟩ = some (.pointer (some ⟨t, 0, none⟩)) := ((M3.cell (p := ⟨k, 0, none⟩) hkc (fun e => by rcases e with e | e | e; exact HQ.out.2.1 e; exact HQ.out.2.2 e; exact HQ.out.1 e)).trans gk); have hS1 := And.intro ((M3.cell (p := ⟨w.heap.size, 0, none⟩) hwc (fun e => by rcases e with e | e | e; exact HB.out.2.2.1 e; exact HB.out.2.2.2 e; exact HB.out.1 e)).trans g0) (And.intro ((M3.cell (p := ⟨w.heap.size, 1, none⟩) hwc (fun e => by rcases e with e | e | e; exact HB.out.2.2.1 e; exact HB.out.2.2.2 e; exact HB.out.1 e)).trans g1) hkk); have HT3 := hid6 T3; have HM3 := hid6 M3; clear T3 M3) | (go_at_call 57; refine (must_no _).mono ?_; rintro e w3 ⟨rfl, hw3⟩; rw [hw3]; clear hw3 w3))
      all_goals
        go_wp2_with fail
        go_meet
        exact ⟨hkk, HT3, ((Mod.refl _ _).drewN 1).trans HM3.out⟩
    case rest =>
      obtain ⟨gk2, HT3, HM3⟩ := hcut
      have HFin : Hid (∀ w', Mod (fun x => x = q) wc w' → Mod (fun x => x = b ∨ x = c ∨ x = q ∨ x = k) w w') := fun w' hM => (((HM1.out.mono (fun _ _ e => e.elim)).trans (HM2.out.mono (fun _ _ e => by rcases e with e | e; exact .inr (.inr (.inl e)); exact .inr (.inr (.inr e))))).trans (HM3.out.mono (fun _ _ e => by rcases e with e | e | e; exact .inl e; exact .inr (.inl e); exact .inr (.inr (.inl e))))).trans (hM.mono (fun _ _ e => .inr (.inr (.inl e))))
      go_wp2_with fail
      refine Calls.mono (tLinks gk2 r 1 (fun w' => Tb w' t q b c n N clk F3 R2 u2 D2 ∧ Mod (fun x => x = q) wc w') (HL.out _ HT3.out)) ?_
      rintro e w4 ⟨rfl, T4, M4⟩
      have HT4 := hid6 T4
      have HM4 := hid6 M4
      clear T4 M4
      go_wp2
      go_ret
      exact ⟨rfl, HT4.out, HFin.out _ HM4.out, (HM4.out.cell (p := ⟨k, 0, none⟩) (Nat.lt_of_lt_of_le hkc HM3.out.size) HQ.out.1).trans gk2⟩
end
end Go.Proofs.YtpcbpikhiooafaaGreatDoor
/- The work of Open where a new file is made. Conditions: the task lies in memory as 'TkAt' says (no groups); what follow, newFile and Hold do. -/
namespace Go.Proofs.YtpcbpikhiooafaaGreatDoor
open Go.RowKit
section
variable {w : World} {t q b c n N : Nat} {clk : Int} {F3 F4 : Nat → Nat → Int} {R2 : Nat → Nat → Nat} {u2 : Nat → Bool} {D2 : Nat → Nat}
set_option maxRecDepth 100000 in
set_option maxHeartbeats 4000000 in
theorem tOpenNew {k b1 b2 b3 : Nat} (l l' : List UInt8) (d m r : Int) (c1 : w.cell? ⟨b1, 0, none⟩ = some (.int .i64 10)) (c2 : w.cell? ⟨b2, 0, none⟩ = some (.string ⟨l.toArray⟩)) (c3 : w.cell? ⟨b3, 0, none⟩ = some (.int .i64 m))
    (hF : ∀ W, Mod (fun _ => False) w W → Calls Tryz.prog 50 #[.pointer (some ⟨k, 0, none⟩), .string ⟨l.toArray⟩, .int .i64 0] W fun e w' => e = .returned (.agg #[.int .i64 d, .string ⟨l'.toArray⟩, .int .i64 0, .bool false]) ∧ Mod (fun _ => False) W w')
    (hN : ∀ W, Mod (fun _ => False) w W → Calls Tryz.prog 54 #[.pointer (some ⟨k, 0, none⟩), .agg #[.int .i64 d, .string ⟨l'.toArray⟩, .int .i64 0, .bool false], .int .i64 m] W fun e w' => e = .returned (.int .i64 r) ∧ Tb w' t q b c n N clk F3 R2 u2 D2 ∧ Mod (fun x => x = b ∨ x = c ∨ x = q ∨ x = k) W w' ∧ w'.cell? ⟨k, 0, none⟩ = some (.pointer (some ⟨t, 0, none⟩)))
    (hH : ∀ W, Tb W t q b c n N clk F3 R2 u2 D2 → Calls Tryz.prog 43 #[.pointer (some ⟨t, 0, none⟩), .int .i64 r] W fun e w' => e = .returned (.int .i64 0) ∧ Tb w' t q b c n N clk F4 R2 u2 D2 ∧ Mod (fun x => x = q) W w') :
    Calls Tryz.prog 47 #[.pointer (some ⟨k, 0, none⟩), .pointer (some ⟨b1, 0, none⟩), .pointer (some ⟨b2, 0, none⟩), .pointer (some ⟨b3, 0, none⟩)] w fun e w' => e = .returned (.int .i64 r) ∧ Tb w' t q b c n N clk F4 R2 u2 D2 ∧ Mod (fun x => x = b ∨ x = c ∨ x = q ∨ x = k) w w' := by
  have HF := hid6 hF
  have HN := hid6 hN
  have HH := hid6 hH
  have hb2 := block_lt_of_cell c2
  have hb3 := block_lt_of_cell c3
  clear hF hN hH
  go_enter Tryz.func47, Tryz.ntmps47
  go_upto_region 3 with (first | (go_at_call 49; refine (fFit10 _).mono ?_; rintro e w3 ⟨rfl, hw3⟩; rw [hw3]; clear hw3 w3) | (go_at_call 48; refine (refuse_no _ _).mono ?_; rintro e w3 ⟨rfl, hw3⟩; rw [hw3]; clear hw3 w3))
  go_cut [7] (fun v7 wc => ∃ B7 : Nat, v7 = .pointer (some ⟨B7, 0, none⟩) ∧ wc.cell? ⟨B7, 0, none⟩ = some (.int .i64 d) ∧ wc.cell? ⟨B7, 1, none⟩ = some (.string ⟨l'.toArray⟩) ∧ wc.cell? ⟨B7, 2, none⟩ = some (.int .i64 0) ∧ wc.cell? ⟨B7, 3, none⟩ = some (.bool false) ∧ Hid (Mod (fun _ => False) w wc))
  case first =>
    go_region_held (fun W' => W'.cell? ⟨b2, 0, none⟩ = some (.string ⟨l.toArray⟩)) (first | with_reducible exact hS1 | go_keep | (simp only [hco, hsz, Nat.le_refl]; with_reducible exact hS1))
      (first | (go_at_call 51; refine (fEnd10 _).mono ?_; rintro e w3 ⟨rfl, hw3⟩; rw [hw3]; clear hw3 w3) | (go_at_call 50; refine (HF.out _ (by first | exact (Mod.refl _ _).drewN 1 | exact ((Mod.refl _ _).drewN 1).alloc _)).mono ?_; rintro e w1 ⟨rfl, M1⟩; have hcl := (fun (p : Addr) (hp : p.block < _) => M1.cell (p := p) hp (fun e => e)); have hfz := (fun (p : Addr) (hp : p.block < _) => M1.frozen (p := p) hp (fun e => e)); have HM1 := hid6 M1; have hsz : w.heap.size ≤ w1.heap.size := (by have := M1.size; simp at this; omega); have hS1 : w1.cell? ⟨b2, 0, none⟩ = some (.string ⟨l.toArray⟩) := ((M1.cell (p := ⟨b2, 0, none⟩) (by first | exact hb2 | (simp; omega)) (fun e => e)).trans (by first | assumption | go_keep)); have hco := (fun (W : World) (B o : Nat) (v : Value) (hB : w.heap.size ≤ B) => setCell_out W B o v ⟨b2, 0, none⟩ (fun e => by have h1 : b2 = B := e; omega)); clear M1))
    all_goals
      go_wp2_with fail
      go_meet
      first
        | exact ⟨w1.heap.size, rfl, by rw [World.cell?_alloc_at _ _ _ _ rfl]; rfl, by rw [World.cell?_alloc_at _ _ _ _ rfl]; rfl, by rw [World.cell?_alloc_at _ _ _ _ rfl]; rfl, by rw [World.cell?_alloc_at _ _ _ _ rfl]; rfl, (((Mod.refl _ _).drewN 1).trans HM1.out).alloc _⟩
        | exact ⟨w.heap.size, rfl, by simp [go_sem, hcl], by simp [go_sem, hcl], by simp [go_sem, hcl], by simp [go_sem, hcl], Mod.new6 ((((Mod.refl _ _).drewN 1).alloc _).trans HM1.out) (w4_mod w1 w.heap.size _ _ _ _) (fun x e => by rw [e]; exact Nat.le_refl _)⟩
  case rest =>
    obtain ⟨B7, rfl, g0, g1, g2, g3, HM⟩ := hcut
    have h3 : wc.cell? ⟨b3, 0, none⟩ = some (.int .i64 m) := (HM.out.cell (p := ⟨b3, 0, none⟩) hb3 (fun e => e)).trans c3
    go_wp2_with (first | (go_at_call 52; refine (fHas10 _).mono ?_; rintro e w3 ⟨rfl, hw3⟩; rw [hw3]; clear hw3 w3))
    refine Calls.mono (HN.out _ HM.out) ?_
    rintro e w5 ⟨rfl, T5, M5, k5⟩
    have HT5 := hid6 T5
    have HM5 := hid6 ((HM.out.mono (t := fun x => x = b ∨ x = c ∨ x = q ∨ x = k) (fun _ _ e => e.elim)).trans M5)
    clear T5 M5
    go_wp2_with fail
    refine Calls.mono (tHold k5 r (fun w' => Tb w' t q b c n N clk F4 R2 u2 D2 ∧ Mod (fun x => x = q) w5 w') (HH.out _ HT5.out)) ?_
    rintro e w6 ⟨rfl, T6, M6⟩
    have HT6 := hid6 T6
    have HM6 := hid6 (HM5.out.trans (M6.mono (fun _ _ e => .inr (.inr (.inl e)))))
    clear T6 M6
    go_wp2
    go_ret
    exact ⟨rfl, HT6.out, HM6.out⟩
end
end Go.Proofs.YtpcbpikhiooafaaGreatDoor
