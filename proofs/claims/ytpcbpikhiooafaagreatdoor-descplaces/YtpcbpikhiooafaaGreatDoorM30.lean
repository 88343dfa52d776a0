/- Several texts of this claim, one behind the other, in their order. -/
import Derived.Test.YtpcbpikhiooafaaGreatDoorM21
import Derived.Test.YtpcbpikhiooafaaGreatDoorM24
import Derived.Test.YtpcbpikhiooafaaGreatDoorM25
/- A new file opened to be read and written: Open's flags, its work, the process' Open, and a write through it. Conditions: as of Tu1, Tu3, Tv4, Tv5, of which these are the like for other flags. -/
namespace Go.Proofs.YtpcbpikhiooafaaGreatDoor
open Go.RowKit
theorem b11_a : bits .and .i64 11 (-256) = 0 := by decide +kernel
theorem b11_b : bits .and .i64 11 3 = 3 := by decide +kernel
theorem b11_c : bits .and .i64 11 36 = 0 := by decide +kernel
theorem b11_d : bits .and .i64 11 72 = 8 := by decide +kernel
theorem b11_e : bits .and .i64 11 128 = 0 := by decide +kernel
theorem b11_f : bits .and .i64 11 24 = 8 := by decide +kernel
theorem b11_g : bits .and .i64 11 8 = 8 := by decide +kernel
theorem fFit11 (w : World) : Calls Tryz.prog 49 #[.int .i64 11] w fun e w' => e = .returned (.bool true) ∧ w' = w := by
  have h1 := b11_a; have h2 := b11_b; have h3 := b11_c; have h4 := b11_d
  go_enter Tryz.func49, Tryz.ntmps49
  go_wp2
  go_ret
  exact ⟨rfl, rfl⟩
theorem fEnd11 (w : World) : Calls Tryz.prog 51 #[.int .i64 11] w fun e w' => e = .returned (.int .i64 0) ∧ w' = w := by
  have h1 := b11_e; have h2 := b11_f
  go_enter Tryz.func51, Tryz.ntmps51
  go_wp2
  go_ret
  exact ⟨rfl, rfl⟩
theorem fHas11 (w : World) : Calls Tryz.prog 52 #[.int .i64 11, .int .i64 8] w fun e w' => e = .returned (.bool true) ∧ w' = w := by
  have h1 := b11_g
  go_enter Tryz.func52, Tryz.ntmps52
  go_wp2
  go_ret
  exact ⟨rfl, rfl⟩
theorem b11_i : bits .andNot .i64 11 255 = 0 := by decide +kernel
theorem b11_2 : (bits .and .i64 11 2 != 0) = true := by decide +kernel
theorem b11_4 : (bits .and .i64 11 4 != 0) = false := by decide +kernel
section
variable {w : World} {t q b c n N : Nat} {clk : Int} {F3 F4 : Nat → Nat → Int} {R2 : Nat → Nat → Nat} {u2 : Nat → Bool} {D2 : Nat → Nat}
set_option maxRecDepth 100000 in
set_option maxHeartbeats 4000000 in
theorem tOpenNew11 {k b1 b2 b3 : Nat} (l l' : List UInt8) (d m r : Int) (c1 : w.cell? ⟨b1, 0, none⟩ = some (.int .i64 11)) (c2 : w.cell? ⟨b2, 0, none⟩ = some (.string ⟨l.toArray⟩)) (c3 : w.cell? ⟨b3, 0, none⟩ = some (.int .i64 m))
    (hF : ∀ W, Mod (fun _ => False) w W → Calls Tryz.prog 50 #[.pointer (some ⟨k, 0, none⟩), .string ⟨l.toArray⟩, .int .i64 0] W fun e w' => e = .returned (.agg #[.int .i64 d, .string ⟨l'.toArray⟩, .int .i64 0, .bool false]) ∧ Mod (fun _ => False) W w')
    (hN : ∀ W, Mod (fun _ => False) w W → Calls Tryz.prog 54 #[.pointer (some ⟨k, 0, none⟩), .agg #[.int .i64 d, .string ⟨l'.toArray⟩, .int .i64 0, .bool false], .int .i64 m] W fun e w' => e = .returned (.int .i64 r) ∧ Tb w' t q b c n N clk F3 R2 u2 D2 ∧ Mod (fun x => x = b ∨ x = c ∨ x = q ∨ x = k) W w' ∧ w'.cell? ⟨k, 0, none⟩ = some (.pointer (some ⟨t, 0, none⟩)))
    (hH : ∀ W, Tb W t q b c n N clk F3 R2 u2 D2 → Calls Tryz.prog 43 #[.pointer (some ⟨t, 0, none⟩), .int .i64 r] W fun e w' => e = .returned (.int .i64 0) ∧ Tb w' t q b c n N clk F4 R2 u2 D2 ∧ Mod (fun x => x = q) W w') :
    Calls Tryz.prog 47 #[.pointer (some ⟨k, 0, none⟩), .pointer (some ⟨b1, 0, none⟩), .pointer (some ⟨b2, 0, none⟩), .pointer (some ⟨b3, 0, none⟩)] w fun e w' => e = .returned (.int .i64 r) ∧ Tb w' t q b c n N clk F4 R2 u2 D2 ∧ Mod (fun x => x = b ∨ x = c ∨ x = q ∨ x = k) w w' := by
  have HF := hid6 hF
  have HN := hid6 hN
  have HH := hid6 hH
  have hb2 := block_lt_of_cell c2
  have hb3 := block_lt_of_cell c3
  clear hF hN hH
  go_enter Tryz.func47, Tryz.ntmps47
  go_upto_region 3 with (first | (go_at_call 49; refine (fFit11 _).mono ?_; rintro e w3 ⟨rfl, hw3⟩; rw [hw3]; clear hw3 w3) | (go_at_call 48; refine (refuse_no _ _).mono ?_; rintro e w3 ⟨rfl, hw3⟩; rw [hw3]; clear hw3 w3))
  go_cut [7] (fun v7 wc => ∃ B7 : Nat, v7 = .pointer (some ⟨B7, 0, none⟩) ∧ wc.cell? ⟨B7, 0, none⟩ = some (.int .i64 d) ∧ wc.cell? ⟨B7, 1, none⟩ = some (.string ⟨l'.toArray⟩) ∧ wc.cell? ⟨B7, 2, none⟩ = some (.int .i64 0) ∧ wc.cell? ⟨B7, 3, none⟩ = some (.bool false) ∧ Hid (Mod (fun _ => False) w wc))
  case first =>
    go_region_held (fun W' => W'.cell? ⟨b2, 0, none⟩ = some (.string ⟨l.toArray⟩)) (first | with_reducible exact hS1 | go_keep | (simp only [hco, hsz, Nat.le_refl]; with_reducible exact hS1))
      (first | (go_at_call 51; refine (fEnd11 _).mono ?_; rintro e w3 ⟨rfl, hw3⟩; rw [hw3]; clear hw3 w3) | (go_at_call 50; refine (HF.out _ (by first | exact (Mod.refl _ _).drewN 1 | exact ((Mod.refl _ _).drewN 1).alloc _)).mono ?_; rintro e w1 ⟨rfl, M1⟩; have hcl := (fun (p : Addr) (hp : p.block < _) => M1.cell (p := p) hp (fun e => e)); have hfz := (fun (p : Addr) (hp : p.block < _) => M1.frozen (p := p) hp (fun e => e)); have HM1 := hid6 M1; have hsz : w.heap.size ≤ w1.heap.size := (by have := M1.size; simp at this; omega); have hS1 : w1.cell? ⟨b2, 0, none⟩ = some (.string ⟨l.toArray⟩) := ((M1.cell (p := ⟨b2, 0, none⟩) (by first | exact hb2 | (simp; omega)) (fun e => e)).trans (by first | assumption | go_keep)); have hco := (fun (W : World) (B o : Nat) (v : Value) (hB : w.heap.size ≤ B) => setCell_out W B o v ⟨b2, 0, none⟩ (fun e => by have h1 : b2 = B := e; omega)); clear M1))
    all_goals
      go_wp2_with fail
      go_meet
      first
        | exact ⟨w1.heap.size, rfl, by rw [World.cell?_alloc_at _ _ _ _ rfl]; rfl, by rw [World.cell?_alloc_at _ _ _ _ rfl]; rfl, by rw [World.cell?_alloc_at _ _ _ _ rfl]; rfl, by rw [World.cell?_alloc_at _ _ _ _ rfl]; rfl, (((Mod.refl _ _).drewN 1).trans HM1.out).alloc _⟩
        | exact ⟨w.heap.size, rfl, by simp [go_sem, hcl], by simp [go_sem, hcl], by simp [go_sem, hcl], by simp [go_sem, hcl], Mod.new6 ((((Mod.refl _ _).drewN 1).alloc _).trans HM1.out) (w4_mod w1 w.heap.size _ _ _ _) (fun x e => by rw [e]; exact Nat.le_refl _)⟩
  case rest =>
    obtain ⟨B7, rfl, g0, g1, g2, g3, HM⟩ := hcut
    have h3 : wc.cell? ⟨b3, 0, none⟩ = some (.int .i64 m) := (HM.out.cell (p := ⟨b3, 0, none⟩) hb3 (fun e => e)).trans c3
    go_wp2_with (first | (go_at_call 52; refine (fHas11 _).mono ?_; rintro e w3 ⟨rfl, hw3⟩; rw [hw3]; clear hw3 w3))
    refine Calls.mono (HN.out _ HM.out) ?_
    rintro e w5 ⟨rfl, T5, M5, k5⟩
    have HT5 := hid6 T5
    have HM5 := hid6 ((HM.out.mono (t := fun x => x = b ∨ x = c ∨ x = q ∨ x = k) (fun _ _ e => e.elim)).trans M5)
    clear T5 M5
    go_wp2_with fail
    refine Calls.mono (tHold k5 r (fun w' => Tb w' t q b c n N clk F4 R2 u2 D2 ∧ Mod (fun x => x = q) w5 w') (HH.out _ HT5.out)) ?_
    rintro e w6 ⟨rfl, T6, M6⟩
    have HT6 := hid6 T6
    have HM6 := hid6 (HM5.out.trans (M6.mono (fun _ _ e => .inr (.inr (.inl e)))))
    clear T6 M6
    go_wp2
    go_ret
    exact ⟨rfl, HT6.out, HM6.out⟩
end
set_option maxRecDepth 100000 in
set_option maxHeartbeats 2000000 in
theorem fWrite11 {w : World} {B fb : Nat} {ino pl : Int} (h : FlAt w B fb ino 11 pl) (r : Int) (hr : -9223372036854775808 ≤ pl + r ∧ pl + r ≤ 9223372036854775807) (a : Option Addr) (n c : Nat) (S : Nat → Prop) (hB : ¬ S B) (Q : World → Prop)
    (hW : ∀ W, Mod (fun _ => False) w W → Calls Tryz.prog 187 #[.pointer (some ⟨fb, 0, none⟩), .int .i64 ino, .int .i64 pl, .slice a n c] W fun e w' => e = .returned (.tuple #[.int .i64 r, .int .i64 0]) ∧ Mod S W w' ∧ Q w') :
    Calls Tryz.prog 184 #[.pointer (some ⟨B, 0, none⟩), .slice a n c] w fun e w' => e = .returned (.tuple #[.int .i64 r, .int .i64 0]) ∧ ∃ w5, Mod S w w5 ∧ Q w5 ∧ w' = w5.setCell ⟨B, 3, none⟩ (.int .i64 (pl + r)) := by
  have HW := hid6 hW
  have H2 := hid6 (fHas h 2 true b11_2)
  have H4 := hid6 (fHas h 4 false b11_4)
  have hBl := h.lt
  have hw : IntKind.i64.wrap (pl + r) = pl + r := by rw [IntKind.wrap_i64]; omega
  have HSt : Hid (∀ w', Mod S (w.drewN 1) w' → (w'.cell? ⟨B, 0, none⟩ = some (.pointer (some ⟨fb, 0, none⟩)) ∧ w'.cell? ⟨B, 1, none⟩ = some (.int .i64 ino)) ∧ w'.cell? ⟨B, 3, none⟩ = some (.int .i64 pl) ∧ ∀ o, w'.frozen? ⟨B, o, none⟩ = false) := fun w' hM => ⟨⟨(hM.cell (p := ⟨B, 0, none⟩) hBl hB).trans h.c0, (hM.cell (p := ⟨B, 1, none⟩) hBl hB).trans h.c1⟩, (hM.cell (p := ⟨B, 3, none⟩) hBl hB).trans h.c3, fun o => (hM.frozen (p := ⟨B, o, none⟩) hBl hB).trans (h.fr o)⟩
  obtain ⟨c0, c1, -, c3, -, -, -⟩ := h
  clear hW
  go_enter Tryz.func184, Tryz.ntmps184
  go_wp2_with fail
  refine Calls.mono H2.out ?_
  rintro e w3 ⟨rfl, hw3⟩
  rw [hw3]
  clear hw3 w3
  go_wp2_with fail
  refine Calls.mono H4.out ?_
  rintro e w3 ⟨rfl, hw3⟩
  rw [hw3]
  clear hw3 w3
  go_upto_region 7 with fail
  go_cut [9, 10] (fun v9 v10 wc => v9 = .int .i64 r ∧ v10 = .int .i64 0 ∧ wc.cell? ⟨B, 3, none⟩ = some (.int .i64 pl) ∧ (∀ o, wc.frozen? ⟨B, o, none⟩ = false) ∧ Hid (Mod S w wc ∧ Q wc))
  case first =>
    go_region_held (fun W' => W'.cell? ⟨B, 0, none⟩ = some (.pointer (some ⟨fb, 0, none⟩)) ∧ W'.cell? ⟨B, 1, none⟩ = some (.int .i64 ino)) (first | with_reducible exact hS1.1 | go_keep)
      (first | (go_at_call 187; refine (HW.out _ ((Mod.refl _ _).drewN 1)).mono ?_; rintro e w3 ⟨rfl, M3, q3⟩; have hS1 := HSt.out _ M3; have HR := hid6 (And.intro (((Mod.refl S w).drewN 1).trans M3) q3); clear M3 q3))
    all_goals
      go_wp2_with fail
      go_meet
      exact ⟨rfl, rfl, hS1.2.1, hS1.2.2, HR⟩
  case rest =>
    obtain ⟨rfl, rfl, g3, gf, HR⟩ := hcut
    go_wp2
    go_ret2
    exact ⟨rfl, wc, HR.out.1, HR.out.2, rfl⟩
section
variable {w : World} {P fb : Nat} {u g : Int} {ga : Option Addr} {gc : Nat} {um cw : Int} {d : Nat → Option Addr}
set_option maxRecDepth 100000 in
set_option maxHeartbeats 2000000 in
theorem pOpenX (h : PAt w P fb u g ga gc um cw d) (j : Nat) (hj : j < 16) (h0 : d j = none) (h1 : ∀ i, i < j → ∃ B : Nat, d i = some ⟨B, 0, none⟩) (hr : fdN d + 1 ≤ 16) (l : List UInt8) (m r : Int) (S : Nat → Prop) (hSP : ¬ S P) (Q : World → Prop)
    (hO : ∀ W, Mod (fun _ => False) w W → Calls Tryz.prog 23 #[.pointer (some ⟨fb, 0, none⟩), .agg #[.int .i64 u, .int .i64 g, .slice ga 0 gc, .int .i64 um, .int .i64 cw], .string ⟨l.toArray⟩, .int .i64 11, .int .i64 m] W fun e w' => e = .returned (.tuple #[.int .i64 r, .int .i64 0]) ∧ Mod S W w' ∧ Q w') :
    Calls Tryz.prog 6 #[.pointer (some ⟨P, 0, none⟩), .string ⟨l.toArray⟩, .int .i64 11, .int .i64 m] w fun e w' => e = .returned (.tuple #[.int .i64 j, .int .i64 0]) ∧ ∃ w5 B D, Mod S w w5 ∧ Q w5 ∧ Mod (fun x => x = P) w5 w' ∧ w5.heap.size ≤ B ∧ w5.heap.size ≤ D ∧ B ≠ D ∧ PAt w' P fb u g ga gc um cw (fun i => if i = j then some ⟨D, 0, none⟩ else d i) ∧ DAt w' D (.iface 66 (.pointer (some ⟨B, 0, none⟩))) 1 ∧ FlAt w' B fb r 11 0 := by
  have HF := hid6 (pMade h)
  have HR := hid6 (pRoom h 1 (by omega) (by omega))
  have HH := hid6 h
  have HO := hid6 hO
  have H1 := hid6 h1
  have hb1 := b11_b
  have hb2 := b11_i
  have hPl := h.lt
  clear h hO h1
  go_enter Tryz.func6, Tryz.ntmps6
  go_wp2_with (first | (go_at_call 21; refine Calls.mono HF.out ?_; rintro e w3 ⟨rfl, hw3⟩; rw [hw3]; clear hw3 w3))
  refine Calls.mono HR.out ?_
  rintro e w1 ⟨rfl, M1⟩
  have HM1 := hid6 M1
  have HH1 := hid6 (HH.out.new M1)
  have hPl1 := HH1.out.lt
  obtain ⟨c0, c1, c2, c3, c4, c5, -, -⟩ := HH1.out
  clear M1
  have HSt : Hid (∀ w', Mod S (w1.drewN 1) w' → w'.cell? ⟨P, 0, none⟩ = some (.pointer (some ⟨fb, 0, none⟩)) ∧ w'.cell? ⟨P, 1, none⟩ = some (.int .i64 u) ∧ w'.cell? ⟨P, 2, none⟩ = some (.int .i64 g) ∧ w'.cell? ⟨P, 3, none⟩ = some (.slice ga 0 gc) ∧ w'.cell? ⟨P, 4, none⟩ = some (.int .i64 um) ∧ w'.cell? ⟨P, 5, none⟩ = some (.int .i64 cw)) := fun w' hM => ⟨(hM.cell (p := ⟨P, 0, none⟩) hPl1 hSP).trans c0, (hM.cell (p := ⟨P, 1, none⟩) hPl1 hSP).trans c1, (hM.cell (p := ⟨P, 2, none⟩) hPl1 hSP).trans c2, (hM.cell (p := ⟨P, 3, none⟩) hPl1 hSP).trans c3, (hM.cell (p := ⟨P, 4, none⟩) hPl1 hSP).trans c4, (hM.cell (p := ⟨P, 5, none⟩) hPl1 hSP).trans c5⟩
  go_upto_region 9 with fail
  go_cut [11, 12] (fun v11 v12 wc => v11 = .int .i64 r ∧ v12 = .int .i64 0 ∧ Hid (Mod S w wc ∧ Q wc) ∧ Hid (PAt wc P fb u g ga gc um cw d))
  case first =>
    go_region_held (fun W' => W'.cell? ⟨P, 0, none⟩ = some (.pointer (some ⟨fb, 0, none⟩)) ∧ W'.cell? ⟨P, 1, none⟩ = some (.int .i64 u) ∧ W'.cell? ⟨P, 2, none⟩ = some (.int .i64 g) ∧ W'.cell? ⟨P, 3, none⟩ = some (.slice ga 0 gc) ∧ W'.cell? ⟨P, 4, none⟩ = some (.int .i64 um) ∧ W'.cell? ⟨P, 5, none⟩ = some (.int .i64 cw)) (first | with_reducible exact hS1 | go_keep)
      (first | (go_at_call 23; refine (HO.out _ (HM1.out.drewN 1)).mono ?_; rintro e w3 ⟨rfl, M3, q3⟩; have hS1 := HSt.out _ M3; have HRq := hid6 (And.intro (((HM1.out.mono (t := S) (fun _ _ e => e.elim)).drewN 1).trans M3) q3); have HP3 := hid6 ((HH1.out.new ((Mod.refl (fun _ => False) _).drewN 1)).mod M3 hSP); clear M3 q3))
    all_goals
      go_wp2_with fail
      go_meet
      exact ⟨rfl, rfl, HRq, HP3⟩
  case rest =>
    obtain ⟨rfl, rfl, HRq, HP3⟩ := hcut
    have d0 := HP3.out.c0
    have hPc := HP3.out.lt
    clear c0 c1 c2 c3 c4 c5
    go_wp2_with fail
    have M5 : Mod (fun _ => False) wc ((wc.alloc (.cells #[.pointer (some ⟨fb, 0, none⟩), .int .i64 r, .int .i64 11, .int .i64 0, .bool false, .slice none 0 0] 69)).alloc (.cells #[.iface 66 (.pointer (some ⟨wc.heap.size, 0, none⟩)), .int .i64 0] 73)) := ((Mod.refl _ _).alloc _).alloc _
    have k0 : ((wc.alloc (.cells #[.pointer (some ⟨fb, 0, none⟩), .int .i64 r, .int .i64 11, .int .i64 0, .bool false, .slice none 0 0] 69)).alloc (.cells #[.iface 66 (.pointer (some ⟨wc.heap.size, 0, none⟩)), .int .i64 0] 73)).cell? ⟨wc.heap.size + 1, 0, none⟩ = some (.iface 66 (.pointer (some ⟨wc.heap.size, 0, none⟩))) := by simp [go_sem]
    have k1 : ((wc.alloc (.cells #[.pointer (some ⟨fb, 0, none⟩), .int .i64 r, .int .i64 11, .int .i64 0, .bool false, .slice none 0 0] 69)).alloc (.cells #[.iface 66 (.pointer (some ⟨wc.heap.size, 0, none⟩)), .int .i64 0] 73)).cell? ⟨wc.heap.size + 1, 1, none⟩ = some (.int .i64 0) := by simp [go_sem]
    have kf : ∀ o, ((wc.alloc (.cells #[.pointer (some ⟨fb, 0, none⟩), .int .i64 r, .int .i64 11, .int .i64 0, .bool false, .slice none 0 0] 69)).alloc (.cells #[.iface 66 (.pointer (some ⟨wc.heap.size, 0, none⟩)), .int .i64 0] 73)).frozen? ⟨wc.heap.size + 1, o, none⟩ = false := fun o => by simp [go_sem]
    have kF : FlAt ((wc.alloc (.cells #[.pointer (some ⟨fb, 0, none⟩), .int .i64 r, .int .i64 11, .int .i64 0, .bool false, .slice none 0 0] 69)).alloc (.cells #[.iface 66 (.pointer (some ⟨wc.heap.size, 0, none⟩)), .int .i64 0] 73)) wc.heap.size fb r 11 0 := ⟨by simp [go_sem], by simp [go_sem], by simp [go_sem], by simp [go_sem], by simp [go_sem], by simp [go_sem], fun o => by simp [go_sem]⟩
    have HE := hid6 (low_end HP3.out j hj M5 k0 k1 kf (by omega))
    have HLo := hid6 (pLowest (HP3.out.new M5) j (wc.heap.size + 1) hj h0 H1.out (by omega) k1 kf)
    have HKF := hid6 kF
    clear k0 k1 kf kF M5
    refine Calls.mono HLo.out ?_
    rintro e w7 ⟨rfl, hw7⟩
    have HFin := hid6 (show Mod (fun x => x = P) wc w7 ∧ PAt w7 P fb u g ga gc um cw (fun i => if i = j then some ⟨wc.heap.size + 1, 0, none⟩ else d i) ∧ DAt w7 (wc.heap.size + 1) (.iface 66 (.pointer (some ⟨wc.heap.size, 0, none⟩))) 1 ∧ FlAt w7 wc.heap.size fb r 11 0 from by
      rw [hw7]
      exact ⟨HE.out.2.2.1, HE.out.1, HE.out.2.1, HKF.out.mod HE.out.2.2.2 (fun e => by rcases e with e | e <;> omega)⟩)
    clear hw7 HE HLo HKF
    go_wp2
    go_ret2
    exact ⟨rfl, wc, wc.heap.size, wc.heap.size + 1, HRq.out.1, HRq.out.2, HFin.out.1, Nat.le_refl _, by omega, by omega, HFin.out.2.1, HFin.out.2.2.1, HFin.out.2.2.2⟩
end
end Go.Proofs.YtpcbpikhiooafaaGreatDoor
/- Open of a new file in a new file system of 300 blocks and 8 inodes: the numbers, and the file system's Open. Condition: the file system lies in memory as New leaves it, its root held. -/
namespace Go.Proofs.YtpcbpikhiooafaaGreatDoor
open Go.RowKit
def lF2z : Nat → Nat → Int := setN lF1 1 (freshF 33188 0 0 0)
def lR2z : Nat → Nat → Nat := setN rR 1 (fun _ => 0)
def lBz : List Nat := sBytes [nslot [102] 2]
def lDz : Nat → Nat := over rD 64 lBz
def lF3z : Nat → Nat → Int := upd2 (upd2 (upd2 lF2z 0 5 96) 0 7 0) 0 8 0
def lR3z : Nat → Nat → Nat := setN lR2z 0 (upd (lR2z 0) 1 2)
def lF4z : Nat → Nat → Int := upd2 (upd2 lF3z 1 3 1) 1 8 0
def lF5z : Nat → Nat → Int := upd2 lF4z 1 4 1
theorem l_none2z : (tks (rd (uK 1) rD (lR2z 0)) 64).find? (has (rd (uK 1) rD (lR2z 0)) [102]) = none := by decide +kernel
theorem l_roomz : 2 = roomR (rd (uK 1) rD (lR2z 0)) 64 := by decide +kernel
theorem lB_lenz : lBz.length = 32 := by decide +kernel
theorem l_stz : (⟨32, uK 2, lDz, upd (lR2z 0) 1 2⟩ : WS) = wrun 300 (2 * 32) (sBytes [nslot [102] (1 + 1)]) 32 ⟨0, uK 1, rD, lR2z 0⟩ := by
  have h := wrun_new 300 (2 * 32) lBz 31 1 rD (lR2z 0) (by decide) (by rw [lB_lenz]; decide) (by rw [lB_lenz]; decide) (by decide) (by omega)
  rw [lB_lenz] at h
  exact h.symm
set_option maxRecDepth 8000 in
set_option maxHeartbeats 2000000 in
theorem liveOpenz {w : World} {fb t q b c : Nat} (T : Tb w t q b c 300 8 0 lF1 rR (uK 1) rD) (hf : FsAt w fb t) :
    Calls Tryz.prog 23 #[.pointer (some ⟨fb, 0, none⟩), .agg #[.int .i64 0, .int .i64 0, .slice none 0 0, .int .i64 0, .int .i64 1], .string ⟨#[102]⟩, .int .i64 11, .int .i64 420] w fun e w' => e = .returned (.tuple #[.int .i64 2, .int .i64 0]) ∧ Mod (fun x => x = b ∨ x = c ∨ x = q) w w' ∧ Tb w' t q b c 300 8 0 lF5z lR3z (uK 2) lDz := by
  have l1 := T.lt_t; have l2 := T.lt_q; have l3 := T.S.lt_b; have l4 := T.S.lt_c; have l5 := T.S.tab.lt
  refine fsOpen (l := [102]) hf 0 0 none 0 0 1 11 420 2 (fun x => x = b ∨ x = c ∨ x = q) (fun x hx => by rcases hx with e | e | e <;> omega) (fun w' => Tb w' t q b c 300 8 0 lF5z lR3z (uK 2) lDz) (fun a' b' hT hM => hT.mod hM (by omega) (by omega) (by omega) (by omega) (by omega)) (fun W K b1 b2 b3 hN c1 c2 c3 => ?_)
  have TW := T.new hN.M
  have hk := hN.le
  have hkK : TkAt W K t 0 0 none 0 0 1 := hN.k
  have hsta : StA W K 1 (lF1 0) := staOf TW hkK.c0 0 (by omega) (by decide)
  have hfd : FdA W t 1 [102] 0 2 := fdaNone TW 0 64 [102] (by omega) (by decide) (by decide) (by omega) (by decide +kernel) (by decide) (by decide) (by decide +kernel) l_none
  have htf : TfA W K 1 [102] 0 := fun W' hM' => tFind (hkK.new hM') 1 (lF1 0) (hsta.new hM') (by decide +kernel) (by decide +kernel) [102] (by decide) 0 2 (fun W'' h'' => hfd W'' (hM'.trans h''))
  refine (tOpenNew11 (k := K) (l := [102]) (l' := [102]) (d := 1) (m := 420) (r := 2) c1 c2 c3 (F3 := lF4z) (F4 := lF5z) (R2 := lR3z) (u2 := uK 2) (D2 := lDz) (t := t) (q := q) (b := b) (c := c) (n := 300) (N := 8) (clk := 0)
    (fun W' hM' => tFollow (hkK.new hM') [102] false [[102]] spl_f 1 (.inr ⟨rfl, rfl, rfl⟩) 0 1 [102] 0 ⟨0, htf.new hM', .inl ⟨rfl, rfl, rfl, rfl, rfl⟩⟩ (by decide))
    (fun W' hM' => ?_)
    (fun W' T' => ?_)).mono ?_
  · refine tNewFile (F1 := lF2z) (F2 := lF3z) (F3 := lF4z) (R1 := lR2z) (R2 := lR3z) (u := uK 1) (u2 := uK 2) (D := rD) (D2 := lDz) (hkK.new hM') ⟨by omega, by omega, by omega⟩ ⟨Nat.lt_of_lt_of_le l2 (Nat.le_trans hN.M.size hM'.size), Nat.lt_of_lt_of_le l3 (Nat.le_trans hN.M.size hM'.size), Nat.lt_of_lt_of_le l4 (Nat.le_trans hN.M.size hM'.size)⟩ 1 [102] 420 420 (by decide +kernel) (lF1 0) (hsta.new hM') (by decide) (by decide +kernel) 2 (fun W'' h'' => ?_) (fun W'' T'' => ?_) (fun W'' T'' => ?_)
    · have hM2 := hM'.trans h''
      exact tCreate (TW.new hM2) (hkK.new hM2) ((hM2.cell (p := ⟨K, 6, none⟩) (block_lt_of_cell hN.b6) (fun e => e)).trans hN.b6) (fun o => (hM2.frozen (p := ⟨K, o, none⟩) hN.k.lt (fun e => e)).trans (hN.fr o)) ⟨by omega, by omega, by omega, by omega, by omega⟩ 1 32768 420 33188 (lF1 0) (hsta.new hM2) (by decide +kernel) (by decide +kernel) 1 (by decide +kernel) (by omega) (by omega) (by omega) (by decide) (fun j hj => by have e : j = 0 := (by omega); rw [e]; decide)
    · exact dAdd T'' 0 1 64 [102] (by omega) (by omega) (by decide) (by decide) (by decide) (by omega) (fun W3 hM3 => tstat (T''.new hM3) 0 (by omega) (by decide)) (by decide +kernel) (by omega) (by decide) (by decide) (by decide +kernel) l_none2z 2 l_roomz (by decide) ⟨32, uK 2, lDz, upd (lR2z 0) 1 2⟩ l_stz 0 rfl lF3z rfl
    · exact tlinks_keep T'' 1 1 (by omega) (by decide) (by decide) (by decide) (by decide) (.inl (by decide))
  · exact thold T' 1 (by omega) (by decide) (by decide)
  · rintro e w' ⟨rfl, hT', hM'⟩
    exact ⟨rfl, hM'.mono (fun _ _ e => by rcases e with e | e | e | e; exact .inl (.inl e); exact .inl (.inr (.inl e)); exact .inl (.inr (.inr e)); exact .inr e), hT'⟩
end Go.Proofs.YtpcbpikhiooafaaGreatDoor
