/- Several texts of this claim, one behind the other, in their order. -/
import Derived.Test.YtpcbpikhiooafaaGreatDoorM24
import Derived.Test.YtpcbpikhiooafaaGreatDoorTv3
import Derived.Test.YtpcbpikhiooafaaGreatDoorM22
import Derived.Test.YtpcbpikhiooafaaGreatDoorM19
import Derived.Test.YtpcbpikhiooafaaGreatDoorPb9
import Derived.Lib.SlBytesConst
/- Open of a new file in a new file system of 16 blocks and 8 inodes: the numbers, and the file system's Open. Condition: the file system lies in memory as New leaves it, its root held. -/
namespace Go.Proofs.YtpcbpikhiooafaaGreatDoor
open Go.RowKit
section
variable {w : World} {t q b c n N : Nat} {clk : Int} {F : Nat → Nat → Int} {R : Nat → Nat → Nat} {u : Nat → Bool} {D : Nat → Nat}
theorem staOf (T : Tb w t q b c n N clk F R u D) {k : Nat} (hc : w.cell? ⟨k, 0, none⟩ = some (.pointer (some ⟨t, 0, none⟩))) (i : Nat) (hi : i < N) (hz : F i 0 ≠ 0) : StA w k ((i : Int) + 1) (F i) := fun W hM => by
  refine (tStat F k t i W ((hM.cell (p := ⟨k, 0, none⟩) (block_lt_of_cell hc) (fun e => e)).trans hc) (fun W' hM' => tstat (T.new (hM.trans hM')) i hi hz)).mono ?_
  rintro e w' ⟨⟨bl, rfl⟩, h⟩
  exact ⟨⟨bl, rfl⟩, h⟩
theorem fdaNone (T : Tb w t q b c n N clk F R u D) (i sz : Nat) (l : List UInt8) (hi : i < N) (hz : F i 0 ≠ 0) (hs : F i 5 = (sz : Int)) (hsz : 0 < sz) (hd : (bits .and .i64 (F i 0) 61440 == 16384) = true) (hl : l.length < 4294967281) (ha : ∀ x ∈ l, x.toNat < 128) (hc : chk l = 0) (hf : (tks (rd u D (R i)) sz).find? (has (rd u D (R i)) l) = none) : FdA w t ((i : Int) + 1) l 0 2 := fun _ hM =>
  dFind0 (T.new hM) i sz l hi hz hs hsz (fun _ hM' => tstat (T.new (hM.trans hM')) i hi hz) hd hl ha hc hf
end
theorem splOf (l : List UInt8) (hl : l.length ≤ 2 ^ 40) (hc : Pa.splC l = 0) : SplOf l (Pa.splA l) (Pa.splN l) (Pa.splS l) := fun W => by
  refine (pSplit l W hl).mono ?_
  rintro e w' ⟨v, rfl, hv, hB⟩
  obtain ⟨-, a, c, rfl, hc', -, -⟩ := own_strs hv
  exact ⟨a, c, by rw [hc], hc', hv, hB⟩
theorem spl_f : SplOf [102] false [[102]] false := by
  have h := splOf [102] (by decide) (by decide +kernel)
  rw [show Pa.splA [102] = false by decide +kernel, show Pa.splN [102] = [[102]] by decide +kernel, show Pa.splS [102] = false by decide +kernel] at h
  exact h
def lF1 : Nat → Nat → Int := upd2 rF 0 4 1
def lF2 : Nat → Nat → Int := setN lF1 1 (freshF 33206 0 0 0)
def lR2 : Nat → Nat → Nat := setN rR 1 (fun _ => 0)
def lB : List Nat := sBytes [nslot [102] 2]
def lD : Nat → Nat := over rD 64 lB
def lF3 : Nat → Nat → Int := upd2 (upd2 (upd2 lF2 0 5 96) 0 7 0) 0 8 0
def lR3 : Nat → Nat → Nat := setN lR2 0 (upd (lR2 0) 1 2)
def lF4 : Nat → Nat → Int := upd2 (upd2 lF3 1 3 1) 1 8 0
def lF5 : Nat → Nat → Int := upd2 lF4 1 4 1
theorem l_none : (tks (rd (uK 1) rD (rR 0)) 64).find? (has (rd (uK 1) rD (rR 0)) [102]) = none := by decide +kernel
theorem l_none2 : (tks (rd (uK 1) rD (lR2 0)) 64).find? (has (rd (uK 1) rD (lR2 0)) [102]) = none := by decide +kernel
theorem l_room : 2 = roomR (rd (uK 1) rD (lR2 0)) 64 := by decide +kernel
theorem lB_len : lB.length = 32 := by decide +kernel
theorem l_st : (⟨32, uK 2, lD, upd (lR2 0) 1 2⟩ : WS) = wrun 16 (2 * 32) (sBytes [nslot [102] (1 + 1)]) 32 ⟨0, uK 1, rD, lR2 0⟩ := by
  have h := wrun_new 16 (2 * 32) lB 31 1 rD (lR2 0) (by decide) (by rw [lB_len]; decide) (by rw [lB_len]; decide) (by decide) (by omega)
  rw [lB_len] at h
  exact h.symm
/-- The file system lies apart from what else there is. -/
structure Apt (w : World) (t q b c : Nat) : Prop where
  lt : t < w.heap.size ∧ q < w.heap.size ∧ b < w.heap.size ∧ c < w.heap.size ∧ 1 < w.heap.size
set_option maxRecDepth 8000 in
set_option maxHeartbeats 2000000 in
theorem liveOpen {w : World} {fb t q b c : Nat} (T : Tb w t q b c 16 8 0 lF1 rR (uK 1) rD) (hf : FsAt w fb t) :
    Calls Tryz.prog 23 #[.pointer (some ⟨fb, 0, none⟩), .agg #[.int .i64 0, .int .i64 0, .slice none 0 0, .int .i64 0, .int .i64 1], .string ⟨#[102]⟩, .int .i64 10, .int .i64 438] w fun e w' => e = .returned (.tuple #[.int .i64 2, .int .i64 0]) ∧ Mod (fun x => x = b ∨ x = c ∨ x = q) w w' ∧ Tb w' t q b c 16 8 0 lF5 lR3 (uK 2) lD := by
  have l1 := T.lt_t; have l2 := T.lt_q; have l3 := T.S.lt_b; have l4 := T.S.lt_c; have l5 := T.S.tab.lt
  refine fsOpen (l := [102]) hf 0 0 none 0 0 1 10 438 2 (fun x => x = b ∨ x = c ∨ x = q) (fun x hx => by rcases hx with e | e | e <;> omega) (fun w' => Tb w' t q b c 16 8 0 lF5 lR3 (uK 2) lD) (fun a' b' hT hM => hT.mod hM (by omega) (by omega) (by omega) (by omega) (by omega)) (fun W K b1 b2 b3 hN c1 c2 c3 => ?_)
  have TW := T.new hN.M
  have hk := hN.le
  have hkK : TkAt W K t 0 0 none 0 0 1 := hN.k
  have hsta : StA W K 1 (lF1 0) := staOf TW hkK.c0 0 (by omega) (by decide)
  have hfd : FdA W t 1 [102] 0 2 := fdaNone TW 0 64 [102] (by omega) (by decide) (by decide) (by omega) (by decide +kernel) (by decide) (by decide) (by decide +kernel) l_none
  have htf : TfA W K 1 [102] 0 := fun W' hM' => tFind (hkK.new hM') 1 (lF1 0) (hsta.new hM') (by decide +kernel) (by decide +kernel) [102] (by decide) 0 2 (fun W'' h'' => hfd W'' (hM'.trans h''))
  refine (tOpenNew (k := K) (l := [102]) (l' := [102]) (d := 1) (m := 438) (r := 2) c1 c2 c3 (F3 := lF4) (F4 := lF5) (R2 := lR3) (u2 := uK 2) (D2 := lD) (t := t) (q := q) (b := b) (c := c) (n := 16) (N := 8) (clk := 0)
    (fun W' hM' => tFollow (hkK.new hM') [102] false [[102]] spl_f 1 (.inr ⟨rfl, rfl, rfl⟩) 0 1 [102] 0 ⟨0, htf.new hM', .inl ⟨rfl, rfl, rfl, rfl, rfl⟩⟩ (by decide))
    (fun W' hM' => ?_)
    (fun W' T' => ?_)).mono ?_
  · refine tNewFile (F1 := lF2) (F2 := lF3) (F3 := lF4) (R1 := lR2) (R2 := lR3) (u := uK 1) (u2 := uK 2) (D := rD) (D2 := lD) (hkK.new hM') ⟨by omega, by omega, by omega⟩ ⟨Nat.lt_of_lt_of_le l2 (Nat.le_trans hN.M.size hM'.size), Nat.lt_of_lt_of_le l3 (Nat.le_trans hN.M.size hM'.size), Nat.lt_of_lt_of_le l4 (Nat.le_trans hN.M.size hM'.size)⟩ 1 [102] 438 438 (by decide +kernel) (lF1 0) (hsta.new hM') (by decide) (by decide +kernel) 2 (fun W'' h'' => ?_) (fun W'' T'' => ?_) (fun W'' T'' => ?_)
    · have hM2 := hM'.trans h''
      exact tCreate (TW.new hM2) (hkK.new hM2) ((hM2.cell (p := ⟨K, 6, none⟩) (block_lt_of_cell hN.b6) (fun e => e)).trans hN.b6) (fun o => (hM2.frozen (p := ⟨K, o, none⟩) hN.k.lt (fun e => e)).trans (hN.fr o)) ⟨by omega, by omega, by omega, by omega, by omega⟩ 1 32768 438 33206 (lF1 0) (hsta.new hM2) (by decide +kernel) (by decide +kernel) 1 (by decide +kernel) (by omega) (by omega) (by omega) (by decide) (fun j hj => by have e : j = 0 := (by omega); rw [e]; decide)
    · exact dAdd T'' 0 1 64 [102] (by omega) (by omega) (by decide) (by decide) (by decide) (by omega) (fun W3 hM3 => tstat (T''.new hM3) 0 (by omega) (by decide)) (by decide +kernel) (by omega) (by decide) (by decide) (by decide +kernel) l_none2 2 l_room (by decide) ⟨32, uK 2, lD, upd (lR2 0) 1 2⟩ l_st 0 rfl lF3 rfl
    · exact tlinks_keep T'' 1 1 (by omega) (by decide) (by decide) (by decide) (by decide) (.inl (by decide))
  · exact thold T' 1 (by omega) (by decide) (by decide)
  · rintro e w' ⟨rfl, hT', hM'⟩
    exact ⟨rfl, hM'.mono (fun _ _ e => by rcases e with e | e | e | e; exact .inl (.inl e); exact .inl (.inr (.inl e)); exact .inl (.inr (.inr e)); exact .inr e), hT'⟩
end Go.Proofs.YtpcbpikhiooafaaGreatDoor
/- Layer 7's example, as the statements ask it: 'lives' answers true in whatever memory. Condition: the library's table is as its initialiser lays it. -/
namespace Go.Proofs.YtpcbpikhiooafaaGreatDoor
open Go.RowKit
theorem l_done : (wrun 16 0 (([97, 98, 99] : List Nat).take 3) 3 ⟨0, uK 2, lD, lR3 1⟩).done = 3 := by decide +kernel
theorem fdN0 : fdN (fun _ => none) = 0 := by kernel_rfl
theorem fdN1 (D : Nat) : fdN (fun i => if i = 0 then some ⟨D, 0, none⟩ else none) = 1 := by kernel_rfl
set_option maxRecDepth 8000 in
theorem liveWrite {w : World} {fb t q b c g : Nat} (T : Tb w t q b c 16 8 0 lF5 lR3 (uK 2) lD) (hf : FsAt w fb t) (hs : Src w g 0 [97, 98, 99]) (hg : g ≠ b ∧ g ≠ c ∧ g ≠ q) (hgl : g < w.heap.size) :
    Calls Tryz.prog 187 #[.pointer (some ⟨fb, 0, none⟩), .int .i64 2, .int .i64 0, .slice (some ⟨g, 0, none⟩) 3 3] w fun e w' => e = .returned (.tuple #[.int .i64 3, .int .i64 0]) ∧ Mod (fun x => x = b ∨ x = c ∨ x = q) w w' ∧ True := by
  have l2 := T.lt_q; have l3 := T.S.lt_b; have l4 := T.S.lt_c
  refine fsWriteAt hf 2 0 3 (some ⟨g, 0, none⟩) 3 3 (fun x => x = b ∨ x = c ∨ x = q) (fun x hx => by rcases hx with e | e | e <;> omega) (fun _ => True) (fun _ _ _ _ => trivial) (fun W K b1 b2 b3 hN hle c1 c2 c3 => ?_)
  have TW := T.new hN.M
  have hk := hN.le
  refine (tWriteWork (k := K) hN.k.c0 2 0 3 (some ⟨g, 0, none⟩) 3 3 c1 c2 c3 (lF5 1) (staOf TW hN.k.c0 1 (by omega) (by decide)) (by decide +kernel) (fun x => x = b ∨ x = c ∨ x = q) ⟨fun e => by rcases e with e | e | e <;> omega, fun e => by rcases e with e | e | e <;> omega, fun e => by rcases e with e | e | e <;> omega, fun e => by rcases e with e | e | e <;> omega⟩ (fun _ => True) (fun W' hM' => ?_)).mono (fun e w' ⟨h1, h2, h3⟩ => ⟨h1, h2.mono (fun _ _ e => .inl e), h3⟩)
  have hM2 := hN.M.trans hM'
  have h := twrite (T.new hM2) 1 0 g 0 3 [97, 98, 99] (by omega) (by decide) (by decide) (by omega) (by decide) (by decide) ⟨fun j x hj => (hM2.cell (p := ⟨g, 0 + j, none⟩) hgl (fun e => e)).trans (hs.at_ j x hj), hs.lt⟩ hg.1 hg.2.1 hg.2.2 3 (by decide)
  refine Calls.mono h ?_
  intro e w' hp
  unfold WPost at hp
  have hd : (wrun 16 0 (List.take 3 [97, 98, 99]) (List.take 3 [97, 98, 99]).length ⟨0, uK 2, lD, lR3 1⟩).done = 3 := l_done
  rw [hd] at hp
  rw [if_neg (by decide)] at hp
  exact ⟨hp.1, hp.2.2, trivial⟩
set_option maxRecDepth 100000 in
set_option maxHeartbeats 4000000 in
theorem lives7 (w : World) (hT : TabIs w) : Calls Tryz.prog 12 #[] w fun e w' => e = .returned (.bool true) ∧ Mod (fun _ => False) w w' := by
  have HT := hid6 hT
  clear hT
  go_enter Tryz.func12, Tryz.ntmps12
  go_wp2_with fail
  refine (treeNew 16 8 w (by omega) (by omega) (by omega) (by omega) HT.out).mono ?_
  rintro e w1 ⟨fb, t, q, b, c, rfl, I1, T1⟩
  have HI := hid6 I1
  have HT1 := hid6 T1
  clear I1 T1
  go_wp2_with fail
  refine (pNew HT1.out HI.out.f (by have := HI.out.lt; omega) (by decide) (by decide +kernel) (by decide) (by omega)).mono ?_
  rintro e w2 ⟨P, rfl, hP1, A2, f2, T2, M2⟩
  have HT2 : Hid (Tb w2 t q b c 16 8 0 lF1 rR (uK 1) rD) := T2
  have HA2 := hid6 A2
  have HF2 := hid6 (show FsAt w2 fb t from f2)
  have HM2 := hid6 (HI.out.M.new6 M2 (fun x e => by have := HI.out.le; omega))
  have hfb1 : fb < w1.heap.size := block_lt_of_cell HI.out.f
  have HLe := hid6 (show q < fb ∧ b < fb ∧ c < fb ∧ t < fb ∧ fb < P ∧ w.heap.size ≤ t ∧ w.heap.size ≤ q ∧ w.heap.size ≤ b ∧ w.heap.size ≤ c ∧ w.heap.size ≤ P from by have a1 := HI.out.lt; have a2 := HI.out.le; omega)
  have HG : Hid (1 < P) := by have := HT1.out.S.tab.lt; show _ < _; omega
  clear T2 A2 f2 M2 hP1 hfb1 HT1
  go_wp2_with fail
  refine (pOpen (l := [102]) HA2.out 0 (by omega) rfl (fun i hi => by omega) (by rw [fdN0]; decide) 438 2 (fun x => x = b ∨ x = c ∨ x = q) (fun e => by have := HLe.out; omega) (fun w' => Tb w' t q b c 16 8 0 lF5 lR3 (uK 2) lD) (fun W hM => liveOpen (HT2.out.new hM) ((hM.cell (p := ⟨fb, 0, none⟩) (block_lt_of_cell HF2.out) (fun e => e)).trans HF2.out))).mono ?_
  rintro e w3 ⟨rfl, w5, B, D, M25, T5, M53, hB, hD, hBD, A3, D3, F3⟩
  have hP5 : P < w5.heap.size := Nat.lt_of_lt_of_le HA2.out.lt M25.size
  have HL3 := hid6 (show P < B ∧ P < D ∧ B ≠ D from ⟨by omega, by omega, hBD⟩)
  have HT3 := hid6 (T5.mod M53 (by have := HG.out; omega) (by have := HLe.out; omega) (by have := HLe.out; omega) (by have := HLe.out; omega) (by have := HLe.out; omega))
  have HF3 := hid6 (show FsAt w3 fb t from (M53.cell (p := ⟨fb, 0, none⟩) (Nat.lt_of_lt_of_le (block_lt_of_cell HF2.out) M25.size) (by have := HLe.out; show ¬ fb = P; omega)).trans ((M25.cell (p := ⟨fb, 0, none⟩) (block_lt_of_cell HF2.out) (by have := HLe.out; show ¬ (fb = b ∨ fb = c ∨ fb = q); omega)).trans HF2.out))
  have HA3 := hid6 A3
  have HD3 := hid6 D3
  have HFl3 := hid6 F3
  have HM3 := hid6 ((HM2.out.new6 M25 (fun x e => by have := HLe.out; omega)).new6 M53 (fun x e => by have := HLe.out; omega))
  clear M25 T5 M53 hB hD hBD A3 D3 F3 hP5 HT2 HA2 HF2
  have H4 := hid6 (show ∀ o, PAt (w3.alloc o) P fb 0 0 none 0 0 1 (fun i => if i = 0 then some ⟨D, 0, none⟩ else none) ∧ DAt (w3.alloc o) D (.iface 66 (.pointer (some ⟨B, 0, none⟩))) 1 ∧ FlAt (w3.alloc o) B fb 2 10 0 ∧ FsAt (w3.alloc o) fb t ∧ Tb (w3.alloc o) t q b c 16 8 0 lF5 lR3 (uK 2) lD ∧ Mod (fun _ => False) w (w3.alloc o) from fun o => by
    have m : Mod (fun _ => False) w3 (w3.alloc o) := (Mod.refl _ _).alloc o
    exact ⟨HA3.out.new m, HD3.out.mod m (fun e => e), HFl3.out.mod m (fun e => e), (m.cell (p := ⟨fb, 0, none⟩) (block_lt_of_cell HF3.out) (fun e => e)).trans HF3.out, HT3.out.new m, HM3.out.alloc o⟩)
  have hg := HT3.out.lt_q; have hg2 := HT3.out.S.lt_b; have hg3 := HT3.out.S.lt_c
  have HSr : Hid (Src (w3.alloc (.cells #[.int .u8 97, .int .u8 98, .int .u8 99] 5 (3, 4))) w3.heap.size 0 [97, 98, 99]) := by
    refine ⟨fun j x hj => ?_, by decide⟩
    have e : ∀ k, (w3.alloc (.cells #[.int .u8 97, .int .u8 98, .int .u8 99] 5 (3, 4))).cell? ⟨w3.heap.size, k, none⟩ = #[Value.int .u8 97, .int .u8 98, .int .u8 99][k]? := fun k => by
      have hh : (w3.alloc (.cells #[.int .u8 97, .int .u8 98, .int .u8 99] 5 (3, 4))).heap[w3.heap.size]? = some (.cells #[.int .u8 97, .int .u8 98, .int .u8 99] 5 (3, 4)) := by
        show (w3.heap.push _)[w3.heap.size]? = _
        simp
      unfold World.cell?
      rw [hh]
      rfl
    rw [e]
    match j, hj with
    | 0, hj => simp at hj; subst hj; rfl
    | 1, hj => simp at hj; subst hj; rfl
    | 2, hj => simp at hj; subst hj; rfl
  have HGn := hid6 (show w3.heap.size ≠ b ∧ w3.heap.size ≠ c ∧ w3.heap.size ≠ q from ⟨by omega, by omega, by omega⟩)
  clear hg hg2 hg3 HA3 HD3 HFl3 HF3 HT3 HM3
  have hcv := Lib.run_convert_bytes_const (P := Tryz.prog) w3 22 5 #[.int .u8 97, .int .u8 98, .int .u8 99] 3 3 Tryz.underlying22 Tryz.underlying5
  go_wp2_with fail
  obtain ⟨W4, hW4⟩ : ∃ W4, W4 = w3.alloc (.cells #[.int .u8 97, .int .u8 98, .int .u8 99] 5 (3, 4)) := ⟨_, rfl⟩
  have H4' := hid6 (H4.out (.cells #[.int .u8 97, .int .u8 98, .int .u8 99] 5 (3, 4)))
  have hgl : w3.heap.size < (w3.alloc (.cells #[.int .u8 97, .int .u8 98, .int .u8 99] 5 (3, 4))).heap.size := by simp
  rw [← hW4] at H4' HSr hgl ⊢
  obtain ⟨G4, hG4⟩ : ∃ G4, G4 = w3.heap.size := ⟨_, rfl⟩
  rw [← hG4] at HSr HGn hgl ⊢
  clear hW4 H4 hcv hG4
  obtain ⟨A4, D4, F4, f4, T4, M4⟩ := H4'.out
  have HW4 := hid6 (pWrite A4 0 D B (by omega) rfl 1 D4 (some ⟨G4, 0, none⟩) 3 3 3 (fun w' => ∃ w5, Mod (fun x => x = b ∨ x = c ∨ x = q) W4 w5 ∧ True ∧ w' = w5.setCell ⟨B, 3, none⟩ (.int .i64 (0 + 3))) (fWrite F4 3 (by decide) (some ⟨G4, 0, none⟩) 3 3 (fun x => x = b ∨ x = c ∨ x = q) (fun e => by have := HLe.out; have := HL3.out; omega) (fun _ => True) (fun W hM => liveWrite (T4.new hM) ((hM.cell (p := ⟨fb, 0, none⟩) (block_lt_of_cell f4) (fun e => e)).trans f4) ⟨fun j x hj => (hM.cell (p := ⟨G4, 0 + j, none⟩) hgl (fun e => e)).trans (HSr.out.at_ j x hj), HSr.out.lt⟩ HGn.out (Nat.lt_of_lt_of_le hgl hM.size))))
  clear A4 D4 F4 f4 T4 M4 HSr HGn hgl
  refine Calls.mono HW4.out ?_
  rintro e w6 ⟨rfl, w5, M5, -, hw6⟩
  have HS6 := hid6 (show PAt w6 P fb 0 0 none 0 0 1 (fun i => if i = 0 then some ⟨D, 0, none⟩ else none) ∧ DAt w6 D (.iface 66 (.pointer (some ⟨B, 0, none⟩))) 1 ∧ FlAt w6 B fb 2 10 3 ∧ Mod (fun _ => False) w w6 from by
    obtain ⟨A4, D4, F4, f4, T4, M4⟩ := H4'.out
    have q1 := HLe.out
    have q2 := HL3.out
    have m6 : Mod (fun x => x = B) w5 (w5.setCell ⟨B, 3, none⟩ (.int .i64 (0 + 3))) := (Mod.refl _ _).setCell _ _ rfl
    rw [hw6]
    exact ⟨(A4.mod M5 (by show ¬ (P = b ∨ P = c ∨ P = q); omega)).mod m6 (by show ¬ P = B; omega), (D4.mod M5 (by show ¬ (D = b ∨ D = c ∨ D = q); omega)).mod m6 (fun e => q2.2.2 e.symm), (F4.mod M5 (by show ¬ (B = b ∨ B = c ∨ B = q); omega)).place 3, (M4.new6 M5 (fun x e => by omega)).new6 m6 (fun x e => by omega)⟩)
  clear hw6 M5 HW4 H4' w5
  go_wp2_with fail
  have HSk := hid6 (pSeekCur HS6.out.1 0 D B (by omega) rfl 1 2 10 3 (-1) HS6.out.2.1 HS6.out.2.2.1 (by decide) (by decide))
  refine Calls.mono HSk.out ?_
  rintro e w7 ⟨rfl, M7, F7⟩
  have HS7 := hid6 (show PAt w7 P fb 0 0 none 0 0 1 (fun i => if i = 0 then some ⟨D, 0, none⟩ else none) ∧ DAt w7 D (.iface 66 (.pointer (some ⟨B, 0, none⟩))) 1 ∧ FlAt w7 B fb 2 10 (3 + (-1)) ∧ Mod (fun _ => False) w w7 from by
    have q1 := HLe.out
    have q2 := HL3.out
    exact ⟨HS6.out.1.mod M7 (by show ¬ P = B; omega), HS6.out.2.1.mod M7 (fun e => q2.2.2 e.symm), F7, HS6.out.2.2.2.new6 M7 (fun x e => by omega)⟩)
  clear M7 F7 HSk HS6
  go_wp2_with fail
  have HRd := hid6 (pReadNo HS7.out.1 0 D B (by omega) rfl 1 2 (3 + (-1)) HS7.out.2.1 HS7.out.2.2.1 1)
  refine Calls.mono HRd.out ?_
  rintro e w8 ⟨rfl, hw8⟩
  rw [hw8]
  clear hw8 w8 HRd
  go_wp2_with fail
  have HPp := hid6 (pPipe HS7.out.1 1 2 (by omega) (by omega) rfl (fun i hi => ⟨D, by rw [if_pos (by omega)]⟩) rfl (fun i h1 h2 => ⟨D, by rw [if_pos (by omega)]⟩) (by rw [fdN1]; decide))
  refine Calls.mono HPp.out ?_
  rintro e w9 ⟨rfl, M9⟩
  have HF := hid6 (HS7.out.2.2.2.new6 M9 (fun x e => by have := HLe.out; omega))
  clear M9 HPp HS7
  go_wp2
  go_ret
  exact ⟨rfl, HF.out⟩
end Go.Proofs.YtpcbpikhiooafaaGreatDoor
