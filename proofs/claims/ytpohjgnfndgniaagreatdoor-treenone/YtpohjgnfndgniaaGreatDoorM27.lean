/- Several texts of this claim, one behind the other, in their order. -/
import Derived.Test.YtpohjgnfndgniaaGreatDoorM25
import Derived.Test.YtpohjgnfndgniaaGreatDoorM23
import Derived.Test.YtpohjgnfndgniaaGreatDoorTu6
import Derived.Test.YtpohjgnfndgniaaGreatDoorPb9
import Derived.Test.YtpohjgnfndgniaaGreatDoorM26
/- Layer 6's example, its numbers: what the table holds behind each call, where names lead. Conditions: the table lies in memory as 'Tb' says. -/
namespace Go.Proofs.YtpohjgnfndgniaaGreatDoor
open Go.RowKit
section
variable {w : World} {t q b c n N : Nat} {clk : Int} {F : Nat → Nat → Int} {R : Nat → Nat → Nat} {u : Nat → Bool} {D : Nat → Nat}
theorem sta6 (T : Tb w t q b c n N clk F R u D) {k : Nat} (hc : w.cell? ⟨k, 0, none⟩ = some (.pointer (some ⟨t, 0, none⟩))) (i : Nat) (hi : i < N) (hz : F i 0 ≠ 0) : StA w k ((i : Int) + 1) (F i) := fun W hM => by
  refine (tStat F k t i W ((hM.cell (p := ⟨k, 0, none⟩) (block_lt_of_cell hc) (fun e => e)).trans hc) (fun W' hM' => tstat (T.new (hM.trans hM')) i hi hz)).mono ?_
  rintro e w' ⟨⟨bl, rfl⟩, h⟩
  exact ⟨⟨bl, rfl⟩, h⟩
theorem fdn6 (T : Tb w t q b c n N clk F R u D) (i sz : Nat) (l : List UInt8) (hi : i < N) (hz : F i 0 ≠ 0) (hs : F i 5 = (sz : Int)) (hsz : 0 < sz) (hd : (bits .and .i64 (F i 0) 61440 == 16384) = true) (hl : l.length < 4294967281) (ha : ∀ x ∈ l, x.toNat < 128) (hc : chk l = 0) (hf : (tks (rd u D (R i)) sz).find? (has (rd u D (R i)) l) = none) : FdA w t ((i : Int) + 1) l 0 2 := fun _ hM =>
  dFind0 (T.new hM) i sz l hi hz hs hsz (fun _ hM' => tstat (T.new (hM.trans hM')) i hi hz) hd hl ha hc hf
theorem fds6 (T : Tb w t q b c n N clk F R u D) (i sz k : Nat) (l : List UInt8) (r : Nat) (hi : i < N) (hz : F i 0 ≠ 0) (hs : F i 5 = (sz : Int)) (hsz : 0 < sz) (hd : (bits .and .i64 (F i 0) 61440 == 16384) = true) (hl : l.length < 4294967281) (ha : ∀ x ∈ l, x.toNat < 128) (hc : chk l = 0) (hf : (tks (rd u D (R i)) sz).find? (has (rd u D (R i)) l) = some k) (hv : le4 (slotD (rd u D (R i)) k) 0 = r) : FdA w t ((i : Int) + 1) l (r : Nat) 0 := fun _ hM => by
  have h := dFind (T.new hM) i sz k l hi hz hs hsz (fun _ hM' => tstat (T.new (hM.trans hM')) i hi hz) hd hl ha hc hf
  rw [hv] at h
  exact h
theorem tfa6 (T : Tb w t q b c n N clk F R u D) {k : Nat} (hk : TkAt w k t 0 0 none 0 0 0) (i : Nat) (hi : i < N) (hz : F i 0 ≠ 0) (hd : (bits .and .i64 (F i 0) 61440 == 16384) = true) (hacc : accB (F i 0) (F i 1) 0 (memB 0 [] (F i 2)) 1 = true) (l : List UInt8) (hl : ¬ l = [46]) (r er : Int) (hF : FdA w t ((i : Int) + 1) l r er) : TfA w k ((i : Int) + 1) l r := fun _ hM' =>
  tFind (hk.new hM') _ (F i) ((sta6 T hk.c0 i hi hz).new hM') hd hacc l hl r er (fun _ h'' => hF _ (hM'.trans h''))
end
theorem spl6 (l : List UInt8) (ab : Bool) (xs : List (List UInt8)) (hl : l.length ≤ 2 ^ 40) (hc : Pa.splC l = 0) (h1 : Pa.splA l = ab) (h2 : Pa.splN l = xs) (h3 : Pa.splS l = false) : SplOf l ab xs false := fun W => by
  refine (pSplit l W hl).mono ?_
  rintro e w' ⟨v, rfl, hv, hB⟩
  obtain ⟨-, a, c, rfl, hc', -, -⟩ := own_strs hv
  subst h1 h2
  exact ⟨a, c, by rw [hc, h3], hc', hv, hB⟩
theorem ySplA : SplOf [47, 97] true [[97]] false := spl6 _ _ _ (by decide) (by decide +kernel) (by decide +kernel) (by decide +kernel) (by decide +kernel)
theorem ySplLa : SplOf [97] false [[97]] false := spl6 _ _ _ (by decide) (by decide +kernel) (by decide +kernel) (by decide +kernel) (by decide +kernel)
theorem ySplL : SplOf [47, 108] true [[108]] false := spl6 _ _ _ (by decide) (by decide +kernel) (by decide +kernel) (by decide +kernel) (by decide +kernel)
theorem ySplLB : SplOf [47, 108, 47, 98] true [[108], [98]] false := spl6 _ _ _ (by decide) (by decide +kernel) (by decide +kernel) (by decide +kernel) (by decide +kernel)
theorem ySplABC : SplOf [47, 97, 47, 98, 47, 99] true [[97], [98], [99]] false := spl6 _ _ _ (by decide) (by decide +kernel) (by decide +kernel) (by decide +kernel) (by decide +kernel)
theorem ySplAB : SplOf [47, 97, 47, 98] true [[97], [98]] false := spl6 _ _ _ (by decide) (by decide +kernel) (by decide +kernel) (by decide +kernel) (by decide +kernel)
/- Behind Mkdir of /a. -/
def yA1 : Nat → Nat → Int := setN rF 1 (freshF 16877 0 0 0)
def yAR1 : Nat → Nat → Nat := setN rR 1 (fun _ => 0)
def yAB2 : List Nat := sBytes [nslot [46] 2, nslot [46, 46] 1]
def yAD2 : Nat → Nat := over rD 64 yAB2
def yA2 : Nat → Nat → Int := upd2 (upd2 (upd2 yA1 1 5 64) 1 7 0) 1 8 0
def yAR2 : Nat → Nat → Nat := setN yAR1 1 (upd (yAR1 1) 0 2)
def yAB3 : List Nat := sBytes [nslot [97] 2]
def yAD3 : Nat → Nat := over yAD2 128 yAB3
def yA3 : Nat → Nat → Int := upd2 (upd2 (upd2 yA2 0 5 96) 0 7 0) 0 8 0
def yAR3 : Nat → Nat → Nat := setN yAR2 0 (upd (yAR2 0) 1 3)
def yA4 : Nat → Nat → Int := upd2 (upd2 yA3 1 3 2) 1 8 0
def yA5 : Nat → Nat → Int := upd2 (upd2 yA4 0 3 3) 0 8 0
/- Behind Symlink of a at /l. -/
def yB1 : Nat → Nat → Int := setN yA5 2 (freshF 41471 0 0 0)
def yBR1 : Nat → Nat → Nat := setN yAR3 2 (fun _ => 0)
def yBD2 : Nat → Nat := over yAD3 192 [97]
def yB2 : Nat → Nat → Int := upd2 (upd2 (upd2 yB1 2 5 1) 2 7 0) 2 8 0
def yBR2 : Nat → Nat → Nat := setN yBR1 2 (upd (yBR1 2) 0 4)
def yBB3 : List Nat := sBytes [nslot [108] 3]
def yBD3 : Nat → Nat := over yBD2 160 yBB3
def yB3 : Nat → Nat → Int := upd2 (upd2 (upd2 yB2 0 5 128) 0 7 0) 0 8 0
def yBR3 : Nat → Nat → Nat := setN yBR2 0 (yBR2 0)
def yB4 : Nat → Nat → Int := upd2 (upd2 yB3 2 3 1) 2 8 0
/- Behind Mkdir of /l/b. -/
def yC1 : Nat → Nat → Int := setN yB4 3 (freshF 16877 0 0 0)
def yCR1 : Nat → Nat → Nat := setN yBR3 3 (fun _ => 0)
def yCB2 : List Nat := sBytes [nslot [46] 4, nslot [46, 46] 2]
def yCD2 : Nat → Nat := over yBD3 256 yCB2
def yC2 : Nat → Nat → Int := upd2 (upd2 (upd2 yC1 3 5 64) 3 7 0) 3 8 0
def yCR2 : Nat → Nat → Nat := setN yCR1 3 (upd (yCR1 3) 0 5)
def yCB3 : List Nat := sBytes [nslot [98] 4]
def yCD3 : Nat → Nat := over yCD2 320 yCB3
def yC3 : Nat → Nat → Int := upd2 (upd2 (upd2 yC2 1 5 96) 1 7 0) 1 8 0
def yCR3 : Nat → Nat → Nat := setN yCR2 1 (upd (yCR2 1) 1 6)
def yC4 : Nat → Nat → Int := upd2 (upd2 yC3 3 3 2) 3 8 0
def yC5 : Nat → Nat → Int := upd2 (upd2 yC4 1 3 3) 1 8 0
theorem yAB2_len : yAB2.length = 64 := by decide +kernel
theorem yAB3_len : yAB3.length = 32 := by decide +kernel
theorem yBB3_len : yBB3.length = 32 := by decide +kernel
theorem yCB2_len : yCB2.length = 64 := by decide +kernel
theorem yCB3_len : yCB3.length = 32 := by decide +kernel
theorem yA_st2 : (⟨64, uK 2, yAD2, upd (yAR1 1) 0 2⟩ : WS) = wrun 64 (0) (sBytes [nslot [46] (1 + 1), nslot [46, 46] (0 + 1)]) 64 ⟨0, uK 1, rD, yAR1 1⟩ := by
  have h := wrun_new 64 (0) yAB2 63 1 rD (yAR1 1) (by decide) (by rw [yAB2_len]; decide) (by rw [yAB2_len]; decide) (by decide) (by omega)
  rw [yAB2_len] at h
  exact h.symm
theorem yA_st3 : (⟨32, uK 3, yAD3, upd (yAR2 0) 1 3⟩ : WS) = wrun 64 (2 * 32) (sBytes [nslot [97] (1 + 1)]) 32 ⟨0, uK 2, yAD2, yAR2 0⟩ := by
  have h := wrun_new 64 (2 * 32) yAB3 31 2 yAD2 (yAR2 0) (by decide) (by rw [yAB3_len]; decide) (by rw [yAB3_len]; decide) (by decide) (by omega)
  rw [yAB3_len] at h
  exact h.symm
theorem yB_st3 : (⟨32, uK 4, yBD3, yBR2 0⟩ : WS) = wrun 64 (3 * 32) (sBytes [nslot [108] (2 + 1)]) 32 ⟨0, uK 4, yBD2, yBR2 0⟩ := by
  have h := wrun_old 64 (3 * 32) yBB3 31 4 yBD2 (yBR2 0) (by decide) (by rw [yBB3_len]; decide) (by rw [yBB3_len]; decide) (by decide) (by decide)
  rw [yBB3_len] at h
  exact h.symm
theorem yC_st2 : (⟨64, uK 5, yCD2, upd (yCR1 3) 0 5⟩ : WS) = wrun 64 (0) (sBytes [nslot [46] (3 + 1), nslot [46, 46] (1 + 1)]) 64 ⟨0, uK 4, yBD3, yCR1 3⟩ := by
  have h := wrun_new 64 (0) yCB2 63 4 yBD3 (yCR1 3) (by decide) (by rw [yCB2_len]; decide) (by rw [yCB2_len]; decide) (by decide) (by omega)
  rw [yCB2_len] at h
  exact h.symm
theorem yC_st3 : (⟨32, uK 6, yCD3, upd (yCR2 1) 1 6⟩ : WS) = wrun 64 (2 * 32) (sBytes [nslot [98] (3 + 1)]) 32 ⟨0, uK 5, yCD2, yCR2 1⟩ := by
  have h := wrun_new 64 (2 * 32) yCB3 31 5 yCD2 (yCR2 1) (by decide) (by rw [yCB3_len]; decide) (by rw [yCB3_len]; decide) (by decide) (by omega)
  rw [yCB3_len] at h
  exact h.symm
theorem yB_st2 : wrun 64 0 (([97] : List Nat).take 1) (([97] : List Nat).take 1).length ⟨0, uK 3, yAD3, yBR1 2⟩ = ⟨1, uK 4, yBD2, upd (yBR1 2) 0 4⟩ := wrun_new 64 0 [97] 0 3 yAD3 (yBR1 2) (by decide) (by decide) (by decide) (by decide) (by omega)
theorem yA_none : (tks (rd (uK 1) rD (rR 0)) 64).find? (has (rd (uK 1) rD (rR 0)) [97]) = none := by decide +kernel
theorem yA_none2 : (tks (rd (uK 2) yAD2 (yAR2 0)) 64).find? (has (rd (uK 2) yAD2 (yAR2 0)) [97]) = none := by decide +kernel
theorem yA_room : 2 = roomR (rd (uK 2) yAD2 (yAR2 0)) 64 := by decide +kernel
theorem yB_none : (tks (rd (uK 3) yAD3 (yAR3 0)) 96).find? (has (rd (uK 3) yAD3 (yAR3 0)) [108]) = none := by decide +kernel
theorem yB_none2 : (tks (rd (uK 4) yBD2 (yBR2 0)) 96).find? (has (rd (uK 4) yBD2 (yBR2 0)) [108]) = none := by decide +kernel
theorem yB_room : 3 = roomR (rd (uK 4) yBD2 (yBR2 0)) 96 := by decide +kernel
theorem yC_l : (tks (rd (uK 4) yBD3 (yBR3 0)) 128).find? (has (rd (uK 4) yBD3 (yBR3 0)) [108]) = some 3 := by decide +kernel
theorem yC_lv : le4 (slotD (rd (uK 4) yBD3 (yBR3 0)) 3) 0 = 3 := by decide +kernel
theorem yC_a : (tks (rd (uK 4) yBD3 (yBR3 0)) 128).find? (has (rd (uK 4) yBD3 (yBR3 0)) [97]) = some 2 := by decide +kernel
theorem yC_av : le4 (slotD (rd (uK 4) yBD3 (yBR3 0)) 2) 0 = 2 := by decide +kernel
theorem yC_none : (tks (rd (uK 4) yBD3 (yBR3 1)) 64).find? (has (rd (uK 4) yBD3 (yBR3 1)) [98]) = none := by decide +kernel
theorem yC_none2 : (tks (rd (uK 5) yCD2 (yCR2 1)) 64).find? (has (rd (uK 5) yCD2 (yCR2 1)) [98]) = none := by decide +kernel
theorem yC_room : 2 = roomR (rd (uK 5) yCD2 (yCR2 1)) 64 := by decide +kernel
theorem yC_rd : rd (uK 4) yBD3 (yBR3 2) 0 = 97 := by decide +kernel
theorem yD_a : (tks (rd (uK 6) yCD3 (yCR3 0)) 128).find? (has (rd (uK 6) yCD3 (yCR3 0)) [97]) = some 2 := by decide +kernel
theorem yD_av : le4 (slotD (rd (uK 6) yCD3 (yCR3 0)) 2) 0 = 2 := by decide +kernel
theorem yD_b : (tks (rd (uK 6) yCD3 (yCR3 1)) 96).find? (has (rd (uK 6) yCD3 (yCR3 1)) [98]) = some 2 := by decide +kernel
theorem yD_bv : le4 (slotD (rd (uK 6) yCD3 (yCR3 1)) 2) 0 = 4 := by decide +kernel
theorem yD_none : (tks (rd (uK 6) yCD3 (yCR3 3)) 64).find? (has (rd (uK 6) yCD3 (yCR3 3)) [99]) = none := by decide +kernel
theorem yD_up : (tks (rd (uK 6) yCD3 (yCR3 3)) 64).find? (has (rd (uK 6) yCD3 (yCR3 3)) [46, 46]) = some 1 := by decide +kernel
theorem yD_upv : le4 (slotD (rd (uK 6) yCD3 (yCR3 3)) 1) 0 = 2 := by decide +kernel
end Go.Proofs.YtpohjgnfndgniaaGreatDoor
/- Layer 6's example: Mkdir of /a, Symlink of a at /l, Mkdir of /l/b, in a new file system of 64 blocks and 16 inodes. Condition: the file system lies in memory as the call ahead leaves it. -/
namespace Go.Proofs.YtpohjgnfndgniaaGreatDoor
open Go.RowKit
section
variable {w : World} {fb t q b c : Nat}
theorem yFo1 {K : Nat} (T : Tb w t q b c 64 16 0 rF rR (uK 1) rD) (hk : TkAt w K t 0 0 none 0 0 0) : Calls Tryz.prog 50 #[.pointer (some ⟨K, 0, none⟩), .string ⟨#[47, 97]⟩, .int .i64 2] w fun e w' => e = .returned (.agg #[.int .i64 1, .string ⟨#[97]⟩, .int .i64 0, .bool false]) ∧ Mod (fun _ => False) w w' :=
  tFollow hk [47, 97] true [[97]] ySplA 1 (.inl ⟨.inl rfl, rfl⟩) 2 1 [97] 0 ⟨0, tfa6 T hk 0 (by omega) (by decide) (by decide +kernel) (by decide +kernel) [97] (by decide) 0 2 (fdn6 T 0 64 [97] (by omega) (by decide) (by decide) (by omega) (by decide +kernel) (by decide) (by decide) (by decide +kernel) yA_none), .inl ⟨rfl, rfl, rfl, rfl, rfl⟩⟩ (by decide)
set_option maxRecDepth 8000 in
set_option maxHeartbeats 2000000 in
theorem yMkdir1 (T : Tb w t q b c 64 16 0 rF rR (uK 1) rD) (hf : FsAt w fb t) :
    Calls Tryz.prog 11 #[.pointer (some ⟨fb, 0, none⟩), .agg #[.int .i64 0, .int .i64 0, .slice none 0 0, .int .i64 0, .int .i64 0], .string ⟨#[47, 97]⟩, .int .i64 493] w fun e w' => e = .returned (.int .i64 0) ∧ Mod (fun x => x = b ∨ x = c ∨ x = q) w w' ∧ Tb w' t q b c 64 16 0 yA5 yAR3 (uK 3) yAD3 := by
  have l1 := T.lt_t; have l2 := T.lt_q; have l3 := T.S.lt_b; have l4 := T.S.lt_c; have l5 := T.S.tab.lt
  refine fsMkdir hf 0 0 none 0 0 0 [47, 97] 493 (fun x => x = b ∨ x = c ∨ x = q) (fun x hx => by rcases hx with e | e | e <;> omega) (fun w' => Tb w' t q b c 64 16 0 yA5 yAR3 (uK 3) yAD3) (fun a' b' hT hM => hT.mod hM (by omega) (by omega) (by omega) (by omega) (by omega)) (fun W K b1 b2 hN hbs c1 c2 => ?_)
  have TW := T.new hN.M
  have hk := hN.le
  have hkK : TkAt W K t 0 0 none 0 0 0 := hN.k
  have hsz := hN.M.size
  have hsta : StA W K 1 (rF 0) := sta6 TW hkK.c0 0 (by omega) (by decide)
  refine (tMkdirWork (F1 := yA1) (F2 := yA2) (F3 := yA3) (F4 := yA4) (F5 := yA5) (R1 := yAR1) (R2 := yAR2) (R3 := yAR3) (u := uK 1) (u2 := uK 2) (u3 := uK 3) (D := rD) (D2 := yAD2) (D3 := yAD3) (t := t) (q := q) (b := b) (c := c) (n := 64) (N := 16) (clk := 0)
    hkK ⟨by omega, by omega, by omega⟩ ⟨by omega, by omega, by omega⟩ [47, 97] [97] 493 493 c1 c2 ⟨by omega, by omega⟩ (by decide) (by decide) (by decide) 1 (by decide +kernel) (rF 0) hsta (by decide) (by decide) (by decide +kernel) 2
    (fun W' hM' => yFo1 (TW.new hM') (hkK.new hM')) (fun W' hM' => ?_) (fun W' T' => ?_) (fun W' T' => ?_) (fun W' T' => ?_) (fun W' T' => ?_)).mono ?_
  · exact tCreate (TW.new hM') (hkK.new hM') ((hM'.cell (p := ⟨K, 6, none⟩) (block_lt_of_cell hN.b6) (fun e => e)).trans hN.b6) (fun o => (hM'.frozen (p := ⟨K, o, none⟩) hN.k.lt (fun e => e)).trans (hN.fr o)) ⟨by omega, by omega, by omega, by omega, by omega⟩ 1 16384 493 16877 (rF 0) (hsta.new hM') (by decide +kernel) (by decide +kernel) 1 (by decide +kernel) (by omega) (by omega) (by omega) (by decide) (fun j hj => by have e : j = 0 := (by omega); rw [e]; decide)
  · exact dInit T' 1 0 (by omega) (by omega) (by decide) (by decide) (by decide) (fun W3 hM3 => tstat (T'.new hM3) 1 (by omega) (by decide)) (by decide +kernel) (by omega) ⟨64, uK 2, yAD2, upd (yAR1 1) 0 2⟩ yA_st2 0 rfl yA2 rfl
  · exact dAdd T' 0 1 64 [97] (by omega) (by omega) (by decide) (by decide) (by decide) (by omega) (fun W3 hM3 => tstat (T'.new hM3) 0 (by omega) (by decide)) (by decide +kernel) (by omega) (by decide) (by decide) (by decide +kernel) yA_none2 2 yA_room (by decide) ⟨32, uK 3, yAD3, upd (yAR2 0) 1 3⟩ yA_st3 0 rfl yA3 rfl
  · exact tlinks_keep T' 1 2 (by omega) (by decide) (by decide) (by decide) (by decide) (.inl (by decide))
  · exact tlinks_keep T' 0 1 (by omega) (by decide) (by decide) (by decide) (by decide) (.inl (by decide))
  · rintro e w' ⟨rfl, hT', hM'⟩
    exact ⟨rfl, hM'.mono (fun _ _ e => by rcases e with e | e | e | e; exact .inl (.inl e); exact .inl (.inr (.inl e)); exact .inl (.inr (.inr e)); exact .inr e), hT'⟩
theorem yFo2 {K : Nat} (T : Tb w t q b c 64 16 0 yA5 yAR3 (uK 3) yAD3) (hk : TkAt w K t 0 0 none 0 0 0) : Calls Tryz.prog 50 #[.pointer (some ⟨K, 0, none⟩), .string ⟨#[47, 108]⟩, .int .i64 2] w fun e w' => e = .returned (.agg #[.int .i64 1, .string ⟨#[108]⟩, .int .i64 0, .bool false]) ∧ Mod (fun _ => False) w w' :=
  tFollow hk [47, 108] true [[108]] ySplL 1 (.inl ⟨.inl rfl, rfl⟩) 2 1 [108] 0 ⟨0, tfa6 T hk 0 (by omega) (by decide) (by decide +kernel) (by decide +kernel) [108] (by decide) 0 2 (fdn6 T 0 96 [108] (by omega) (by decide) (by decide) (by omega) (by decide +kernel) (by decide) (by decide) (by decide +kernel) yB_none), .inl ⟨rfl, rfl, rfl, rfl, rfl⟩⟩ (by decide)
set_option maxRecDepth 8000 in
set_option maxHeartbeats 2000000 in
theorem ySym (T : Tb w t q b c 64 16 0 yA5 yAR3 (uK 3) yAD3) (hf : FsAt w fb t) :
    Calls Tryz.prog 13 #[.pointer (some ⟨fb, 0, none⟩), .agg #[.int .i64 0, .int .i64 0, .slice none 0 0, .int .i64 0, .int .i64 0], .string ⟨#[97]⟩, .string ⟨#[47, 108]⟩] w fun e w' => e = .returned (.int .i64 0) ∧ Mod (fun x => x = b ∨ x = c ∨ x = q) w w' ∧ Tb w' t q b c 64 16 0 yB4 yBR3 (uK 4) yBD3 := by
  have l1 := T.lt_t; have l2 := T.lt_q; have l3 := T.S.lt_b; have l4 := T.S.lt_c; have l5 := T.S.tab.lt
  refine fsSymlink hf 0 0 none 0 0 0 [97] [47, 108] (fun x => x = b ∨ x = c ∨ x = q) (fun x hx => by rcases hx with e | e | e <;> omega) (fun w' => Tb w' t q b c 64 16 0 yB4 yBR3 (uK 4) yBD3) (fun a' b' hT hM => hT.mod hM (by omega) (by omega) (by omega) (by omega) (by omega)) (fun W K b1 b2 hN hbs c1 c2 => ?_)
  have TW := T.new hN.M
  have hk := hN.le
  have hkK : TkAt W K t 0 0 none 0 0 0 := hN.k
  have hsz := hN.M.size
  have hsta : StA W K 1 (yA5 0) := sta6 TW hkK.c0 0 (by omega) (by decide)
  refine (tSymlinkWork (F1 := yB1) (F2 := yB2) (F3 := yB3) (F4 := yB4) (R1 := yBR1) (R2 := yBR2) (R3 := yBR3) (u := uK 3) (u2 := uK 4) (u3 := uK 4) (D := yAD3) (D2 := yBD2) (D3 := yBD3) (t := t) (q := q) (b := b) (c := c) (n := 64) (N := 16) (clk := 0)
    hkK ⟨by omega, by omega, by omega⟩ ⟨by omega, by omega, by omega⟩ [97] [47, 108] [108] false false [[97]] ySplLa (by decide) c1 c2 ⟨by omega, by omega, by omega, by omega⟩ (by decide) (by decide) (by decide) 1 (yA5 0) hsta (by decide) (by decide +kernel) 3
    (fun W' hM' => yFo2 (TW.new hM') (hkK.new hM')) (fun W' hM' => ?_) (fun W' g cp T' hg hs hcp hcm => ?_) (fun W' T' => ?_) (fun W' T' => ?_)).mono ?_
  · exact tCreate (TW.new hM') (hkK.new hM') ((hM'.cell (p := ⟨K, 6, none⟩) (block_lt_of_cell hN.b6) (fun e => e)).trans hN.b6) (fun o => (hM'.frozen (p := ⟨K, o, none⟩) hN.k.lt (fun e => e)).trans (hN.fr o)) ⟨by omega, by omega, by omega, by omega, by omega⟩ 1 40960 511 41471 (yA5 0) (hsta.new hM') (by decide +kernel) (by decide +kernel) 2 (by decide +kernel) (by omega) (by omega) (by omega) (by decide) (fun j hj => by have e : j = 0 ∨ j = 1 := (by omega); rcases e with e | e <;> (rw [e]; decide))
  · have h := twrite T' 2 0 g 0 cp [97] (by omega) (by decide) (by decide) (by omega) hcp hcm ⟨fun j x hj => by
      have hj0 : j < 1 := (List.getElem?_eq_some_iff.mp hj).1
      have e0 : j = 0 := by omega
      subst e0
      have ex : x = 97 := by simpa using hj.symm
      subst ex
      exact hs 0 97 rfl, by decide⟩ (by omega) (by omega) (by omega) 1 (by decide)
    refine Calls.mono h ?_
    intro e w' hp
    unfold WPost at hp
    rw [yB_st2] at hp
    rw [if_neg (by decide)] at hp
    exact ⟨hp.1, hp.2.2, hp.2.1⟩
  · exact dAdd T' 0 2 96 [108] (by omega) (by omega) (by decide) (by decide) (by decide) (by omega) (fun W3 hM3 => tstat (T'.new hM3) 0 (by omega) (by decide)) (by decide +kernel) (by omega) (by decide) (by decide) (by decide +kernel) yB_none2 3 yB_room (by decide) ⟨32, uK 4, yBD3, yBR2 0⟩ yB_st3 0 rfl yB3 rfl
  · exact tlinks_keep T' 2 1 (by omega) (by decide) (by decide) (by decide) (by decide) (.inl (by decide))
  · rintro e w' ⟨rfl, hT', hM'⟩
    exact ⟨rfl, hM'.mono (fun _ _ e => by rcases e with e | e | e | e; exact .inl (.inl e); exact .inl (.inr (.inl e)); exact .inl (.inr (.inr e)); exact .inr e), hT'⟩
theorem yEn {K : Nat} (T : Tb w t q b c 64 16 0 yB4 yBR3 (uK 4) yBD3) (hk : TkAt w K t 0 0 none 0 0 0) : EnA w K 1 [108] 3 (yB4 2) [[97]] := fun W hM bl bk o c' m xs hS hm hm0 hn => by
  have TW := T.new hM
  have hkW := hk.new hM
  exact tEnter (w := W) (k := K) 3 (yB4 2 3) (yB4 2 1) (yB4 2 2) 1 bl (yB4 2 0) (yB4 2 6) (yB4 2 7) (yB4 2 8) [97] [[97]] false ySplLa
    (fun W' hM' => tContent ((hM'.cell (p := ⟨K, 0, none⟩) hkW.lt (fun e => e)).trans hkW.c0) 3 (yB4 2 3) (yB4 2 1) (yB4 2 2) bl (yB4 2 0) (yB4 2 6) (yB4 2 7) (yB4 2 8) [97] (fun W2 hM2 => by
      refine (tread (TW.new (hM'.trans hM2)) 2 0 1 1 (by omega) (by decide) (by decide) (by omega) (by omega) 1 (by decide)).mono ?_
      rintro e w' ⟨rfl, r⟩
      refine ⟨W2.heap.size, 1, rfl, fun j hj => ?_, r.mod⟩
      have e0 : j = 0 := by simp at hj; omega
      subst e0
      have h := r.at_ 0 (by omega)
      rw [if_pos (by omega), Nat.zero_add, yC_rd] at h
      exact h))
    1 3 [108] false bk o c' m xs hS hm hm0 hn
theorem yFo3 {K : Nat} (T : Tb w t q b c 64 16 0 yB4 yBR3 (uK 4) yBD3) (hk : TkAt w K t 0 0 none 0 0 0) : Calls Tryz.prog 50 #[.pointer (some ⟨K, 0, none⟩), .string ⟨#[47, 108, 47, 98]⟩, .int .i64 2] w fun e w' => e = .returned (.agg #[.int .i64 2, .string ⟨#[98]⟩, .int .i64 0, .bool false]) ∧ Mod (fun _ => False) w w' := by
  have f1 : TfA w K 1 [108] 3 := tfa6 T hk 0 (by omega) (by decide) (by decide +kernel) (by decide +kernel) [108] (by decide) 3 0 (fds6 T 0 128 3 [108] 3 (by omega) (by decide) (by decide) (by omega) (by decide +kernel) (by decide) (by decide) (by decide +kernel) yC_l yC_lv)
  have f2 : TfA w K 1 [97] 2 := tfa6 T hk 0 (by omega) (by decide) (by decide +kernel) (by decide +kernel) [97] (by decide) 2 0 (fds6 T 0 128 2 [97] 2 (by omega) (by decide) (by decide) (by omega) (by decide +kernel) (by decide) (by decide) (by decide +kernel) yC_a yC_av)
  have f3 : TfA w K 2 [98] 0 := tfa6 T hk 1 (by omega) (by decide) (by decide +kernel) (by decide +kernel) [98] (by decide) 0 2 (fdn6 T 1 64 [98] (by omega) (by decide) (by decide) (by omega) (by decide +kernel) (by decide) (by decide) (by decide +kernel) yC_none)
  have s3 : StA w K 3 (yB4 2) := sta6 T hk.c0 2 (by omega) (by decide)
  have s2 : StA w K 2 (yB4 1) := sta6 T hk.c0 1 (by omega) (by decide)
  exact tFollowL hk [47, 108, 47, 98] true [[108], [98]] ySplLB 1 (.inl ⟨.inl rfl, rfl⟩) 2 2 [98] 0 3
    ⟨[108], [[98]], 3, rfl, f1, .inr (.inr ⟨rfl, by decide, by omega, yB4 2, [[97]], s3, by decide +kernel, yEn T hk, by decide, ⟨[97], [[98]], 2, rfl, f2, .inr (.inl ⟨rfl, ⟨yB4 1, s2, by decide +kernel⟩, ⟨[98], [], 0, rfl, f3, .inl ⟨rfl, rfl, rfl, rfl, rfl⟩⟩⟩)⟩⟩)⟩ (by decide)
set_option maxRecDepth 8000 in
set_option maxHeartbeats 2000000 in
theorem yMkdir2 (T : Tb w t q b c 64 16 0 yB4 yBR3 (uK 4) yBD3) (hf : FsAt w fb t) :
    Calls Tryz.prog 11 #[.pointer (some ⟨fb, 0, none⟩), .agg #[.int .i64 0, .int .i64 0, .slice none 0 0, .int .i64 0, .int .i64 0], .string ⟨#[47, 108, 47, 98]⟩, .int .i64 493] w fun e w' => e = .returned (.int .i64 0) ∧ Mod (fun x => x = b ∨ x = c ∨ x = q) w w' ∧ Tb w' t q b c 64 16 0 yC5 yCR3 (uK 6) yCD3 := by
  have l1 := T.lt_t; have l2 := T.lt_q; have l3 := T.S.lt_b; have l4 := T.S.lt_c; have l5 := T.S.tab.lt
  refine fsMkdir hf 0 0 none 0 0 0 [47, 108, 47, 98] 493 (fun x => x = b ∨ x = c ∨ x = q) (fun x hx => by rcases hx with e | e | e <;> omega) (fun w' => Tb w' t q b c 64 16 0 yC5 yCR3 (uK 6) yCD3) (fun a' b' hT hM => hT.mod hM (by omega) (by omega) (by omega) (by omega) (by omega)) (fun W K b1 b2 hN hbs c1 c2 => ?_)
  have TW := T.new hN.M
  have hk := hN.le
  have hkK : TkAt W K t 0 0 none 0 0 0 := hN.k
  have hsz := hN.M.size
  have hsta : StA W K 2 (yB4 1) := sta6 TW hkK.c0 1 (by omega) (by decide)
  refine (tMkdirWork (F1 := yC1) (F2 := yC2) (F3 := yC3) (F4 := yC4) (F5 := yC5) (R1 := yCR1) (R2 := yCR2) (R3 := yCR3) (u := uK 4) (u2 := uK 5) (u3 := uK 6) (D := yBD3) (D2 := yCD2) (D3 := yCD3) (t := t) (q := q) (b := b) (c := c) (n := 64) (N := 16) (clk := 0)
    hkK ⟨by omega, by omega, by omega⟩ ⟨by omega, by omega, by omega⟩ [47, 108, 47, 98] [98] 493 493 c1 c2 ⟨by omega, by omega⟩ (by decide) (by decide) (by decide) 2 (by decide +kernel) (yB4 1) hsta (by decide) (by decide) (by decide +kernel) 4
    (fun W' hM' => yFo3 (TW.new hM') (hkK.new hM')) (fun W' hM' => ?_) (fun W' T' => ?_) (fun W' T' => ?_) (fun W' T' => ?_) (fun W' T' => ?_)).mono ?_
  · exact tCreate (TW.new hM') (hkK.new hM') ((hM'.cell (p := ⟨K, 6, none⟩) (block_lt_of_cell hN.b6) (fun e => e)).trans hN.b6) (fun o => (hM'.frozen (p := ⟨K, o, none⟩) hN.k.lt (fun e => e)).trans (hN.fr o)) ⟨by omega, by omega, by omega, by omega, by omega⟩ 2 16384 493 16877 (yB4 1) (hsta.new hM') (by decide +kernel) (by decide +kernel) 3 (by decide +kernel) (by omega) (by omega) (by omega) (by decide) (fun j hj => by have e : j = 0 ∨ j = 1 ∨ j = 2 := (by omega); rcases e with e | e | e <;> (rw [e]; decide))
  · exact dInit T' 3 1 (by omega) (by omega) (by decide) (by decide) (by decide) (fun W3 hM3 => tstat (T'.new hM3) 3 (by omega) (by decide)) (by decide +kernel) (by omega) ⟨64, uK 5, yCD2, upd (yCR1 3) 0 5⟩ yC_st2 0 rfl yC2 rfl
  · exact dAdd T' 1 3 64 [98] (by omega) (by omega) (by decide) (by decide) (by decide) (by omega) (fun W3 hM3 => tstat (T'.new hM3) 1 (by omega) (by decide)) (by decide +kernel) (by omega) (by decide) (by decide) (by decide +kernel) yC_none2 2 yC_room (by decide) ⟨32, uK 6, yCD3, upd (yCR2 1) 1 6⟩ yC_st3 0 rfl yC3 rfl
  · exact tlinks_keep T' 3 2 (by omega) (by decide) (by decide) (by decide) (by decide) (.inl (by decide))
  · exact tlinks_keep T' 1 1 (by omega) (by decide) (by decide) (by decide) (by decide) (.inl (by decide))
  · rintro e w' ⟨rfl, hT', hM'⟩
    exact ⟨rfl, hM'.mono (fun _ _ e => by rcases e with e | e | e | e; exact .inl (.inl e); exact .inl (.inr (.inl e)); exact .inl (.inr (.inr e)); exact .inr e), hT'⟩
end
end Go.Proofs.YtpohjgnfndgniaaGreatDoor
