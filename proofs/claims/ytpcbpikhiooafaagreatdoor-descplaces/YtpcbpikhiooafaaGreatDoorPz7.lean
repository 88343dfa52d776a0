/- The walk of DescPlaces. Conditions: the library's table is as its initialiser lays it; the bytes can be read; what a write and a read of the new file do. -/
import Derived.Test.YtpcbpikhiooafaaGreatDoorPz6
import Derived.Test.YtpcbpikhiooafaaGreatDoorM31
import Derived.Test.YtpcbpikhiooafaaGreatDoorM27
import Derived.Test.YtpcbpikhiooafaaGreatDoorSame
import Derived.Deep.CutRange
import Derived.Deep.DeepCutAuto
namespace Go.Proofs.YtpcbpikhiooafaaGreatDoor
open Go.RowKit
theorem sSame9 {w : World} {a b : Option Addr} {n c m e : Nat} {l : List Nat} (h1 : BytesAt w (.slice a n c) l) (h2 : BytesAt w (.slice b m e) l) : Calls Tryz.prog 11 #[.slice a n c, .slice b m e] w fun e w' => e = .returned (.bool true) ∧ w' = w := by
  have k1 := conv_bytes h1
  have k2 := conv_bytes h2
  clear h1 h2
  go_enter Tryz.func11, Tryz.ntmps11
  go_wp2
  go_ret
  exact ⟨by simp, rfl⟩
def dP (D : Nat) : Nat → Option Addr := fun i => if i = 1 then some ⟨D, 0, none⟩ else if i = 0 then some ⟨D, 0, none⟩ else none
theorem fdN1z (D : Nat) : fdN (fun i => if i = 0 then some ⟨D, 0, none⟩ else none) = 1 := by kernel_rfl
/-- A process whose numbers 0 and 1 lead to one file. -/
structure PcS (w W : World) (P fb t D B b c q : Nat) (pl : Int) : Prop where
  a : PAt W P fb 0 0 none 0 0 1 (dP D)
  d : DAt W D (.iface 66 (.pointer (some ⟨B, 0, none⟩))) 2
  f : FlAt W B fb 2 11 pl
  fs : FsAt W fb t
  lt : q < fb ∧ b < fb ∧ c < fb ∧ t < fb ∧ fb < P ∧ P < B ∧ P < D ∧ B ≠ D ∧ w.heap.size ≤ q ∧ w.heap.size ≤ b ∧ w.heap.size ≤ c ∧ w.heap.size ≤ P ∧ 1 < P
  M : Mod (fun _ => False) w W
section
variable {w W W' : World} {P fb t D B b c q : Nat} {pl : Int}
theorem PcS.new (h : PcS w W P fb t D B b c q pl) (hM : Mod (fun _ => False) W W') : PcS w W' P fb t D B b c q pl where
  a := h.a.new hM
  d := h.d.mod hM (fun e => e)
  f := h.f.mod hM (fun e => e)
  fs := (hM.cell (p := ⟨fb, 0, none⟩) (block_lt_of_cell h.fs) (fun e => e)).trans h.fs
  lt := h.lt
  M := h.M.trans hM
theorem PcS.tab (h : PcS w W P fb t D B b c q pl) (hM : Mod (fun x => x = b ∨ x = c ∨ x = q) W W') : PcS w W' P fb t D B b c q pl := by
  have hl := h.lt
  exact {
    a := h.a.mod hM (fun e => by rcases e with e | e | e <;> omega)
    d := h.d.mod hM (fun e => by rcases e with e | e | e <;> omega)
    f := h.f.mod hM (fun e => by rcases e with e | e | e <;> omega)
    fs := (hM.cell (p := ⟨fb, 0, none⟩) (block_lt_of_cell h.fs) (fun e => by have e1 : fb = b ∨ fb = c ∨ fb = q := e; omega)).trans h.fs
    lt := h.lt
    M := h.M.new6 hM (fun x e => by have e1 : x = b ∨ x = c ∨ x = q := e; omega) }
theorem PcS.fl (h : PcS w W P fb t D B b c q pl) {pl' : Int} (hM : Mod (fun x => x = B) W W') (hf : FlAt W' B fb 2 11 pl') : PcS w W' P fb t D B b c q pl' := by
  have hl := h.lt
  exact {
    a := h.a.mod hM (fun e => by have e1 : P = B := e; omega)
    d := h.d.mod hM (fun e => by have e1 : D = B := e; omega)
    f := hf
    fs := (hM.cell (p := ⟨fb, 0, none⟩) (block_lt_of_cell h.fs) (fun e => by have e1 : fb = B := e; omega)).trans h.fs
    lt := h.lt
    M := h.M.new6 hM (fun x e => by have e1 : x = B := e; omega) }
theorem PcS.tb (h : PcS w W P fb t D B b c q pl) {n N : Nat} {clk : Int} {F : Nat → Nat → Int} {R : Nat → Nat → Nat} {u : Nat → Bool} {DD : Nat → Nat} (T : Tb W t q b c n N clk F R u DD) (hM : Mod (fun x => x = B) W W') : Tb W' t q b c n N clk F R u DD := by
  have hl := h.lt
  exact T.mod hM (by omega) (by omega) (by omega) (by omega) (by omega)
end
set_option maxRecDepth 100000 in
set_option maxHeartbeats 1600000 in
theorem places_walk (a : Option Addr) (n0 n cap g0 go s m0 pl k sz : Nat) (l : List Nat) (w : World) (hT : TabIs w) (hn : n = min n0 2000) (hl : l.length = n) (hl8 : ∀ x ∈ l, x < 256) (hcap : n0 ≤ cap) (hcm : cap ≤ 9223372036854775807) (ha : 0 < n0 → a = some ⟨g0, go, none⟩ ∧ g0 < w.heap.size ∧ ∀ j x, l[j]? = some x → w.cell? ⟨g0, go + j, none⟩ = some (byteV x)) (hpl : pl = s % 3000) (hsz : sz = if 0 < n then pl + n else 0) (hk : k = sz + m0 % 9)
    (R : Nat → World → Prop) (f : Nat → Nat) (hf0 : ∀ j, j < pl → f j = 0) (hfl : ∀ j, j < n → f (pl + j) = l.getD j 0)
    (F1 : Nat → Nat → Int) (R1 : Nat → Nat → Nat) (u1 : Nat → Bool) (D1 : Nat → Nat) (hF5 : F1 1 5 = (sz : Nat)) (hF0 : F1 1 0 ≠ 0) (Z : Prop)
    (hTN : Calls Tryz.prog 4 #[.int .i64 300, .int .i64 8] w fun e w1 => ∃ fb : Nat, e = .returned (.tuple #[.pointer (some ⟨fb, 0, none⟩), .int .i64 0]) ∧ R fb w1)
    (hDN : ∀ fb w1, R fb w1 → Calls Tryz.prog 5 #[.pointer (some ⟨fb, 0, none⟩), .agg #[.int .i64 0, .int .i64 0, .slice none 0 0, .int .i64 0, .int .i64 0]] w1 fun e w2 => ∃ P t q b c : Nat, e = .returned (.tuple #[.pointer (some ⟨P, 0, none⟩), .int .i64 0]) ∧ PAt w2 P fb 0 0 none 0 0 1 (fun _ => none) ∧ FsAt w2 fb t ∧ Tb w2 t q b c 300 8 0 lF1 rR (uK 1) rD ∧ (q < fb ∧ b < fb ∧ c < fb ∧ t < fb ∧ fb < P ∧ w.heap.size ≤ q ∧ w.heap.size ≤ b ∧ w.heap.size ≤ c ∧ w.heap.size ≤ P ∧ 1 < P) ∧ Mod (fun _ => False) w w2)
    (hWr : ∀ W fb t q b c, Mod (fun _ => False) w W → (w.heap.size ≤ b ∧ w.heap.size ≤ c ∧ w.heap.size ≤ q) → Tb W t q b c 300 8 0 lF5z lR3z (uK 2) lDz → FsAt W fb t → Calls Tryz.prog 187 #[.pointer (some ⟨fb, 0, none⟩), .int .i64 2, .int .i64 pl, .slice a n cap] W fun e w' => e = .returned (.tuple #[.int .i64 n, .int .i64 0]) ∧ Mod (fun x => x = b ∨ x = c ∨ x = q) W w' ∧ (Tb w' t q b c 300 8 0 F1 R1 u1 D1 ∧ Z))
    (hRd : ∀ W fb t q b c, Z → Tb W t q b c 300 8 0 F1 R1 u1 D1 → FsAt W fb t → Calls Tryz.prog 186 #[.pointer (some ⟨fb, 0, none⟩), .int .i64 2, .int .i64 0, .int .i64 k] W fun e w' => ∃ ra rl rc s, e = .returned (.tuple #[.slice ra rl rc, .int .i64 0]) ∧ Mod (fun _ => False) W w' ∧ (W.heap.size ≤ s ∧ RdQ sz f ra rl rc s w'))
    (hLv : ∀ W, TabIs W → Calls Tryz.prog 12 #[] W fun e w' => e = .returned (.bool true) ∧ Mod (fun _ => False) W w') :
    Calls Tryz.prog 3 #[.slice a n0 cap, .int .u64 s, .int .u64 m0] w fun e w' => e = .returned (.bool true) ∧ Mod (fun _ => False) w w' := by
  have HT := hid6 hT
  have HA := hid6 ha
  have HTN := hid6 hTN
  have HDN := hid6 hDN
  have HLv := hid6 hLv
  have HWr := hid6 hWr
  have HRd := hid6 hRd
  have HN := hid6 hn
  have HK := hid6 hk
  have HSz := hid6 hsz
  have HF5 := hid6 hF5
  have HF0 := hid6 hF0
  have HL := hid6 (And.intro hl hl8)
  have Hf := hid6 (And.intro hf0 hfl)
  have hpl' : (s : Int) % 3000 = pl := by omega
  have hplb : pl < 3000 := by omega
  clear hTN hDN hLv hT ha hWr hRd hn hk hsz hF5 hF0 hl hl8 hf0 hfl hpl
  go_enter Tryz.func3, Tryz.ntmps3
  go_wp2_with fail
  refine Calls.mono HTN.out ?_
  rintro e w1 ⟨fb, rfl, r1⟩
  have HDN1 := hid6 (HDN.out fb w1 r1)
  clear r1
  go_wp2_with fail
  refine Calls.mono HDN1.out ?_
  rintro e w2 ⟨P, t, q, b, c, rfl, A2, f2, T2, L2, M2⟩
  have HA2 := hid6 A2
  have Hf2 := hid6 f2
  have HT2 := hid6 T2
  have HL2 := hid6 L2
  have HM2 := hid6 M2
  clear A2 f2 T2 L2 M2 HDN1 HTN HDN
  go_upto_if 48 with fail
  go_cut [0] (fun v0 wc => v0 = .slice a n cap ∧ wc = w2)
  case first =>
    by_cases h2000 : 2000 < n0
    · obtain ⟨rfl, -⟩ := HA.out (by omega)
      have hn2 : n = 2000 := by have := HN.out; omega
      have hc2 : (2000 : Int) ≤ cap := by omega
      have hc2n : 2000 ≤ cap := by omega
      have h2i : (2000 : Int) < n0 := by omega
      go_wp2_with fail
      go_meet
      exact ⟨by rw [hn2], rfl⟩
    · have h2i : ¬ (2000 : Int) < n0 := by omega
      have hn2 : n = n0 := by have := HN.out; omega
      go_wp2_with fail
      go_meet
      exact ⟨by rw [hn2], rfl⟩
  case rest =>
    obtain ⟨rfl, rfl⟩ := hcut
    have hnn : n ≤ 2000 := by have := HN.out; omega
    have hnc : n ≤ cap := by have := HN.out; omega
    have HA' : Hid (0 < n → a = some ⟨g0, go, none⟩ ∧ g0 < w.heap.size ∧ ∀ j x, l[j]? = some x → w.cell? ⟨g0, go + j, none⟩ = some (byteV x)) := fun h => HA.out (by have := HN.out; omega)
    clear HA HN hcap
    have HO := hid6 (pOpenX (l := [102]) HA2.out 0 (by omega) rfl (fun i hi => by omega) (by decide +kernel) 420 2 (fun x => x = b ∨ x = c ∨ x = q) (fun e => by have := HL2.out; omega) (fun w' => Tb w' t q b c 300 8 0 lF5z lR3z (uK 2) lDz) (fun W hM => liveOpenz (HT2.out.new hM) ((hM.cell (p := ⟨fb, 0, none⟩) (block_lt_of_cell Hf2.out) (fun e => e)).trans Hf2.out)))
    go_wp2_with fail
    refine Calls.mono HO.out ?_
    rintro e w3 ⟨rfl, w5, B, D, M25, T5, M53, hB, hD, hBD, A3, D3, F3⟩
    have hP5 : P < w5.heap.size := Nat.lt_of_lt_of_le HA2.out.lt M25.size
    have HL3 := hid6 (show P < B ∧ P < D ∧ B ≠ D from ⟨by omega, by omega, hBD⟩)
    have HT3 := hid6 (T5.mod M53 (by have := HL2.out; omega) (by have := HL2.out; omega) (by have := HL2.out; omega) (by have := HL2.out; omega) (by have := HL2.out; omega))
    have Hf3 := hid6 (show FsAt w3 fb t from (M53.cell (p := ⟨fb, 0, none⟩) (Nat.lt_of_lt_of_le (block_lt_of_cell Hf2.out) M25.size) (by have := HL2.out; show ¬ fb = P; omega)).trans ((M25.cell (p := ⟨fb, 0, none⟩) (block_lt_of_cell Hf2.out) (by have := HL2.out; show ¬ (fb = b ∨ fb = c ∨ fb = q); omega)).trans Hf2.out))
    have HA3 := hid6 A3
    have HD3 := hid6 D3
    have HFl3 := hid6 F3
    have HM3 := hid6 ((HM2.out.new6 M25 (fun x e => by have := HL2.out; omega)).new6 M53 (fun x e => by have := HL2.out; omega))
    clear M25 T5 M53 hB hD hBD A3 D3 F3 hP5 HT2 HA2 Hf2 HO HM2
    have HDu := hid6 (pDup HA3.out 0 D (by omega) rfl _ 1 (by omega) HD3.out (by have := HL3.out; omega) 1 (by omega) rfl (fun i hi => ⟨D, by rw [if_pos (by omega)]⟩) (by rw [fdN1z]; decide))
    go_wp2_with fail
    refine Calls.mono HDu.out ?_
    rintro e w4 ⟨rfl, A4, D4, M4⟩
    have HS4 := hid6 (show PcS w w4 P fb t D B b c q 0 from
      { a := A4, d := D4, f := HFl3.out.mod M4 (fun e => by have e1 : B = P ∨ B = D := e; have := HL3.out; omega), fs := (M4.cell (p := ⟨fb, 0, none⟩) (block_lt_of_cell Hf3.out) (fun e => by have e1 : fb = P ∨ fb = D := e; have := HL3.out; have := HL2.out; omega)).trans Hf3.out, lt := (by have := HL3.out; have := HL2.out; omega), M := HM3.out.new6 M4 (fun x e => by have e1 : x = P ∨ x = D := e; have := HL3.out; have := HL2.out; omega) })
    have HT4 := hid6 (HT3.out.mod M4 (by have := HL2.out; have := HL3.out; omega) (by have := HL2.out; have := HL3.out; omega) (by have := HL2.out; have := HL3.out; omega) (by have := HL2.out; have := HL3.out; omega) (by have := HL2.out; have := HL3.out; omega))
    clear A4 D4 M4 HDu HA3 HD3 HFl3 Hf3 HM3 HT3
    have HSk := hid6 (pSeekF HS4.out.a 1 D B (by omega) rfl 2 2 11 0 pl 0 0 HS4.out.d HS4.out.f ((fFromSet (B := B) w4).mono (fun e w' h => ⟨h.1, by rw [h.2]; exact Mod.refl _ _⟩)) (by omega) (by omega))
    go_wp2_with fail
    refine Calls.mono HSk.out ?_
    rintro e w6 ⟨rfl, M6, F6'⟩
    have HS6 := hid6 (show PcS w w6 P fb t D B b c q (0 + (pl : Int)) from HS4.out.fl M6 F6')
    have HT6 := hid6 (HS4.out.tb HT4.out M6)
    clear M6 F6' HSk HS4 HT4
    rw [show (0 : Int) + (pl : Int) = pl by omega] at HS6 ⊢
    have HW6 := hid6 (pWrite HS6.out.a 0 D B (by omega) rfl 2 HS6.out.d a n cap n (fun w' => ∃ w5, Mod (fun x => x = b ∨ x = c ∨ x = q) w6 w5 ∧ (Tb w5 t q b c 300 8 0 F1 R1 u1 D1 ∧ Z) ∧ w' = w5.setCell ⟨B, 3, none⟩ (.int .i64 ((pl : Int) + (n : Int)))) (fWrite11 HS6.out.f n (by omega) a n cap (fun x => x = b ∨ x = c ∨ x = q) (fun e => by have e1 : B = b ∨ B = c ∨ B = q := e; have := HS6.out.lt; omega) (fun w' => Tb w' t q b c 300 8 0 F1 R1 u1 D1 ∧ Z) (fun W hM => HWr.out W fb t q b c (HS6.out.M.trans hM) (by have := HS6.out.lt; omega) (HT6.out.new hM) ((HS6.out.new hM).fs))))
    go_wp2_with fail
    refine Calls.mono HW6.out ?_
    rintro e w7 ⟨rfl, w5, M5, ⟨T5, z5⟩, hw7⟩
    have HZ := hid6 z5
    clear z5
    have HS7 := hid6 (show PcS w w7 P fb t D B b c q ((pl : Int) + (n : Int)) ∧ Tb w7 t q b c 300 8 0 F1 R1 u1 D1 from by
      have hS5 := HS6.out.tab M5
      have m6 : Mod (fun x => x = B) w5 (w5.setCell ⟨B, 3, none⟩ (.int .i64 ((pl : Int) + (n : Int)))) := (Mod.refl _ _).setCell _ _ rfl
      rw [hw7]
      exact ⟨hS5.fl m6 (hS5.f.place _), hS5.tb T5 m6⟩)
    clear hw7 M5 T5 HW6 HS6 HT6 w5
    have HSc := hid6 (pSeekCur HS7.out.1.a 1 D B (by omega) rfl 2 2 11 ((pl : Int) + (n : Int)) 0 HS7.out.1.d HS7.out.1.f (by omega) (by omega))
    go_wp2_with fail
    refine Calls.mono HSc.out ?_
    rintro e w8 ⟨rfl, M8, F8⟩
    rw [show (pl : Int) + (n : Int) + 0 = (pl : Int) + (n : Int) by omega] at F8 ⊢
    have HS8 := hid6 (And.intro (HS7.out.1.fl M8 F8) (HS7.out.1.tb HS7.out.2 M8))
    clear M8 F8 HSc HS7
    have hwa : IntKind.i64.wrap ((pl : Int) + (n : Int)) = (pl : Int) + (n : Int) := by rw [IntKind.wrap_i64]; omega
    go_upto_if 122 with fail
    go_cut [17] (fun v17 wc => v17 = .int .i64 sz ∧ wc = w8)
    case first =>
      by_cases hn0 : 0 < n
      · have hn1 : (0 : Int) < n := by omega
        have hs1 : (sz : Int) = (pl : Int) + n := by have := HSz.out; rw [if_pos hn0] at this; omega
        go_wp2_with fail
        go_meet
        exact ⟨by rw [hs1], rfl⟩
      · have hn1 : ¬ (0 : Int) < n := by omega
        have hs1 : sz = 0 := by have := HSz.out; rw [if_neg hn0] at this; exact this
        go_wp2_with fail
        go_meet
        exact ⟨by rw [hs1]; rfl, rfl⟩
    case rest =>
      obtain ⟨rfl, rfl⟩ := hcut
      have hszb : sz ≤ 5000 := by have := HSz.out; split at this <;> omega
      have hI := fStat (fb := fb) F1 1 HS8.out.1.f (fun W hM => fsInfo ((HS8.out.1.new hM).fs) F1 1 (fun W' hM' => tstat ((HS8.out.2.new hM).new hM') 1 (by omega) HF0.out))
      rw [HF5.out] at hI
      have HSe := hid6 (pSeekF HS8.out.1.a 0 D B (by omega) rfl 2 2 11 ((pl : Int) + (n : Int)) (-(sz : Int)) 2 sz HS8.out.1.d HS8.out.1.f (fFromEnd hI) (by omega) (by omega))
      clear hI
      have hneg : IntKind.i64.wrap (-(sz : Int)) = -(sz : Int) := by rw [IntKind.wrap_i64]; omega
      go_wp2_with fail
      refine Calls.mono HSe.out ?_
      rintro e w9 ⟨rfl, M9, F9⟩
      rw [show (sz : Int) + -(sz : Int) = 0 by omega] at F9 ⊢
      have HS9 := hid6 (And.intro (HS8.out.1.fl M9 F9) (HS8.out.1.tb HS8.out.2 M9))
      clear M9 F9 HSe HS8
      have hka : (sz : Int) + (m0 : Int) % 9 = k := by have := HK.out; omega
      have hkb : k ≤ 6000 := by have := HK.out; omega
      have hkw : IntKind.i64.wrap (k : Int) = k := by rw [IntKind.wrap_i64]; omega
      have HRe := hid6 (pReadF HS9.out.1.a 1 D B (by omega) rfl 2 k HS9.out.1.d (fun ra rl rc w' => ∃ w5 s5, Mod (fun _ => False) w9 w5 ∧ (w9.heap.size ≤ s5 ∧ RdQ sz f ra rl rc s5 w5) ∧ w' = w5.setCell ⟨B, 3, none⟩ (.int .i64 (0 + (rl : Int)))) ((fRead11 HS9.out.1.f k (fun ra rl rc w' => ∃ s5, w9.heap.size ≤ s5 ∧ RdQ sz f ra rl rc s5 w') (fun ra rl rc w' h => by obtain ⟨s5, _, h1, _⟩ := h; omega) (fun W hM => (HRd.out W fb t q b c HZ.out (HS9.out.2.new hM) ((HS9.out.1.new hM).fs)).mono (fun e w' ⟨ra, rl, rc, s5, h1, h2, h3⟩ => ⟨ra, rl, rc, h1, h2, s5, Nat.le_trans hM.size h3.1, h3.2⟩))).mono (fun e w' ⟨ra, rl, rc, h1, w5, h2, ⟨s5, h3⟩, h4⟩ => ⟨ra, rl, rc, h1, w5, s5, h2, h3, h4⟩)))
      go_wp2_with fail
      refine Calls.mono HRe.out ?_
      rintro e w10 ⟨ra, rl, rc, rfl, w5, s5, M5, ⟨hs5, hQ5⟩, hw10⟩
      have hBs : B < s5 := Nat.lt_of_lt_of_le HS9.out.1.f.lt hs5
      have HM10 := hid6 (show Mod (fun _ => False) w w10 from by
        rw [hw10]
        exact (HS9.out.1.M.trans M5).new6 ((Mod.refl (fun x => x = B) w5).setCell _ _ rfl) (fun x e => by have e1 : x = B := e; have := HS9.out.1.lt; omega))
      have hQ10 : RdQ sz f ra rl rc s5 w10 := by
        rw [hw10]
        exact hQ5.new (S := fun x => x = B) (fun x e => by have e1 : x = B := e; omega) ((Mod.refl (fun x => x = B) w5).setCell _ _ rfl)
      obtain ⟨hrl, hrc, hdat⟩ := hQ10
      have hrl' := hrl.symm
      subst hrl'
      have HTb : Hid (TabIs w10) := fun j hj => (HM10.out.cell (p := ⟨1, j, none⟩) HT.out.lt (fun e => e)).trans (HT.out j hj)
      clear hw10 M5 hQ5 HRe HS9 hs5 hBs hrl
      by_cases hn0 : 0 < n
      · have hs1 : sz = pl + n := by have := HSz.out; rw [if_pos hn0] at this; exact this
        obtain ⟨g1, rfl, -, hg1l, hc⟩ := hdat.resolve_left (by omega)
        have hBb : BytesAt w10 (.slice (some ⟨g1, pl, none⟩) (sz - pl) (rc - pl)) l := by
          refine ⟨HL.out.2, some ⟨g1, pl, none⟩, rc - pl, by rw [HL.out.1]; congr 1; omega, fun e => by (cases e), fun ad e j x hj => ?_⟩
          cases e
          have hjn : j < n := by have := (List.getElem?_eq_some_iff.1 hj).1; rw [HL.out.1] at this; exact this
          rw [Addr.add_lit, hc (pl + j) (by omega), Hf.out.2 j hjn, List.getD_eq_getElem?_getD, hj]
          rfl
        have hBd : BytesAt w10 (.slice a n cap) l := by
          refine ⟨HL.out.2, a, cap, by rw [HL.out.1], fun e => ?_, fun ad e j x hj => ?_⟩
          · rw [(HA'.out hn0).1] at e; cases e
          · obtain ⟨q1, q2, q3⟩ := HA'.out hn0
            rw [q1] at e
            cases e
            rw [Addr.add_lit]
            exact (HM10.out.cell (p := ⟨g0, go + j, none⟩) q2 (fun e => e)).trans (q3 j x hj)
        have HSm := hid6 (sSame9 hBb hBd)
        have Hc := hid6 (show ∀ j, j < pl → w10.cell? ⟨g1, j, none⟩ = some (.int .u8 0) from fun j hj => by rw [hc j (by omega), Hf.out.1 j hj]; rfl)
        have j1 : (0 : Int) < sz := by omega
        have j2 : (pl : Int) ≤ sz := by omega
        have j3 : pl ≤ sz := by omega
        have j4 : ¬ rc = pl := by omega
        have j5 : (pl : Int) ≤ rc := by omega
        clear hBb hBd hc hdat hs1
        go_wp2_with fail
        refine Calls.mono HSm.out ?_
        rintro e W5 ⟨rfl, hw5⟩
        rw [hw5]
        clear hw5 W5 HSm
        go_wp2_with fail
        go_loopg [20] pl (fun gh i W => ∃ j : Nat, pl - j = gh ∧ j ≤ pl ∧ i = .int .i64 j ∧ W = w10)
        case atStart => exact ⟨0, rfl, by omega, rfl, rfl⟩
        case round =>
          obtain ⟨j, rfl, hj, rfl, rfl⟩ := hrel
          by_cases hlt : j < pl
          · have k1 : (j : Int) < pl := by omega
            have k2 : (j : Int) < sz := by omega
            have cj := Hc.out j hlt
            go_wp2_with fail
            go_roundg (pl - (j + 1))
            case measure => omega
            case rel => exact ⟨j + 1, rfl, by omega, by go_num, rfl⟩
          · obtain rfl : pl = j := by omega
            go_wp2_with fail
            refine Calls.mono (HLv.out _ HTb.out) ?_
            rintro e W6 ⟨rfl, M6⟩
            have HF := hid6 (HM10.out.trans M6)
            clear M6
            go_wp2
            go_ret
            exact ⟨rfl, HF.out⟩
      · obtain rfl : n = 0 := by omega
        obtain rfl : sz = 0 := by have := HSz.out; simpa using this
        clear hdat
        go_wp2_with fail
        go_loopg [20] 0 (fun gh i W => gh = 0 ∧ i = .int .i64 0 ∧ W = w10)
        case atStart => exact ⟨rfl, rfl, rfl⟩
        case round =>
          obtain ⟨rfl, rfl, rfl⟩ := hrel
          go_wp2_with fail
          all_goals
            refine Calls.mono (HLv.out _ HTb.out) ?_
            rintro e W6 ⟨rfl, M6⟩
            have HF := hid6 (HM10.out.trans M6)
            clear M6
            go_wp2
            go_ret
            exact ⟨rfl, HF.out⟩
end Go.Proofs.YtpcbpikhiooafaaGreatDoor
