/- The walk of DescCounts. Conditions: the library's table is as its initialiser lays it; the numbers can be read. -/
import Derived.Test.YtkokejgaclabdaaGreatDoorPy3
namespace Go.Proofs.YtkokejgaclabdaaGreatDoor
open Go.RowKit
set_option maxRecDepth 100000 in
set_option maxHeartbeats 1600000 in
theorem counts_walk (a : Option Addr) (n cap g0 go : Nat) (ks : List Nat) (w : World) (hT : TabIs w) (hl : ks.length = n) (hcap : n ≤ cap) (hcm : cap ≤ 9223372036854775807) (ha : 0 < n → a = some ⟨g0, go, none⟩ ∧ g0 < w.heap.size ∧ ∀ (j x : Nat), ks[j]? = some x → w.cell? ⟨g0, go + j, none⟩ = some (.int .u64 x)) (R : Nat → World → Prop)
    (hTN : Calls Tryz.prog 4 #[.int .i64 8, .int .i64 8] w fun e w1 => ∃ fb : Nat, e = .returned (.tuple #[.pointer (some ⟨fb, 0, none⟩), .int .i64 0]) ∧ R fb w1)
    (hDN : ∀ fb w1, R fb w1 → Calls Tryz.prog 5 #[.pointer (some ⟨fb, 0, none⟩), .agg #[.int .i64 0, .int .i64 0, .slice none 0 0, .int .i64 0, .int .i64 0]] w1 fun e w2 => ∃ P t q b c : Nat, e = .returned (.tuple #[.pointer (some ⟨P, 0, none⟩), .int .i64 0]) ∧ CS w w2 P fb t q b c (fun _ => none))
    (hLv : ∀ W, TabIs W → Calls Tryz.prog 11 #[] W fun e w' => e = .returned (.bool true) ∧ Mod (fun _ => False) W w') :
    Calls Tryz.prog 3 #[.slice a n cap] w fun e w' => e = .returned (.bool true) ∧ Mod (fun _ => False) w w' := by
  have HT := hid6 hT
  have HA := hid6 ha
  have HTN := hid6 hTN
  have HDN := hid6 hDN
  have HLv := hid6 hLv
  have HKl := hid6 hl
  clear hTN hDN hLv hT ha hl
  go_enter Tryz.func3, Tryz.ntmps3
  go_wp2_with fail
  refine Calls.mono HTN.out ?_
  rintro e w1 ⟨fb, rfl, r1⟩
  have HDN1 := hid6 (HDN.out fb w1 r1)
  clear r1
  go_wp2_with fail
  refine Calls.mono HDN1.out ?_
  rintro e w2 ⟨P, t, q, b, c, rfl, S2⟩
  have HS0 := hid6 S2
  clear S2 HDN1 HTN HDN
  go_wp2_with fail
  go_loopg [6] 16 (fun gh i W => ∃ (k : Nat) (d : Nat → Option Addr), 16 - k = gh ∧ k ≤ 16 ∧ i = .int .i64 k ∧ Hid (∀ x, x < k → d x ≠ none) ∧ Hid (∀ x, k ≤ x → d x = none) ∧ Hid (CS w W P fb t q b c d))
  case atStart => exact ⟨0, _, rfl, by omega, rfl, fun x hx => absurd hx (by omega), fun _ _ => rfl, HS0⟩
  case round =>
    obtain ⟨k, d, rfl, hk, rfl, Hs, Hn, HS⟩ := hrel
    by_cases hlt : k < 16
    · have hlt' : (k : Int) < 16 := by omega
      have HO := hid6 (csOpen HS.out k hlt (Hn.out k (Nat.le_refl _)) (fun i hi => Hs.out i hi) 0)
      go_wp2_with fail
      refine Calls.mono HO.out ?_
      rintro e W1 ⟨rfl, D, S1, -⟩
      have HS1 := hid6 S1
      clear S1 HO
      go_wp2_with fail
      go_roundg (16 - (k + 1))
      case measure => omega
      case rel => exact ⟨k + 1, _, rfl, by omega, by go_num, fun x hx => (by
          show (if x = k then some (⟨D, 0, none⟩ : Addr) else d x) ≠ none
          by_cases e : x = k
          · rw [if_pos e]; intro h; cases h
          · rw [if_neg e]; exact Hs.out x (by omega)), fun x hx => (by
          show (if x = k then some (⟨D, 0, none⟩ : Addr) else d x) = none
          rw [if_neg (by omega)]; exact Hn.out x (by omega)), HS1⟩
    · obtain rfl : k = 16 := by omega
      have hfull : fdN d = 16 := fd_full d Hs.out
      have HFull := hid6 hfull
      have HO := hid6 (pOpenNo HS.out.a (by rw [hfull]; omega) ⟨#[47]⟩ 0)
      clear hfull hlt hk HS0
      go_wp2_with fail
      refine Calls.mono HO.out ?_
      rintro e W1 ⟨rfl, M1⟩
      have HS1 := hid6 (HS.out.new M1)
      clear M1 HO HS
      obtain ⟨D0, hd0⟩ : ∃ D0 : Nat, d 0 = some ⟨D0, 0, none⟩ := by
        cases e : d 0 with
        | none => exact absurd e (Hs.out 0 (by omega))
        | some A =>
          obtain ⟨D, B, e1, _⟩ := HS1.out.o 0 (by omega) A e
          exact ⟨D, by rw [e1]⟩
      have HDu := hid6 (pDupNo HS1.out.a 0 D0 (by omega) hd0 (by rw [HFull.out]; omega))
      clear hd0
      go_wp2_with fail
      refine Calls.mono HDu.out ?_
      rintro e W2 ⟨rfl, M2⟩
      have HS2 := hid6 (HS1.out.new M2)
      clear M2 HDu HS1
      have HPi := hid6 (pPipeNo HS2.out.a (by rw [HFull.out]; omega))
      go_wp2_with fail
      refine Calls.mono HPi.out ?_
      rintro e W3 ⟨rfl, M3⟩
      have HS3 := hid6 (HS2.out.new M3)
      clear M3 HPi HS2
      have HBx := hid6 (GAt.box W3 39)
      have HS4 := hid6 (HS3.out.new ((Mod.refl _ W3).alloc (.cells #[.bool false, .bool false, .bool false, .bool false, .bool false, .bool false, .bool false, .bool false, .bool false, .bool false, .bool false, .bool false, .bool false, .bool false, .bool false, .bool false] 39)))
      have hPB : P < W3.heap.size := HS3.out.a.lt
      have Hdg : Hid (∀ x, x < 16 → (d x = none ↔ (false = true))) := fun x hx => ⟨fun h => absurd h (Hs.out x hx), fun h => by cases h⟩
      clear HS3 Hs Hn HFull
      go_wp2_with fail
      obtain ⟨Bg, hBg⟩ : ∃ Bg, Bg = W3.heap.size := ⟨_, rfl⟩
      rw [← hBg] at HBx hPB ⊢
      clear hBg
      go_loopg [87] n (fun gh i W => ∃ (k : Nat) (d : Nat → Option Addr) (gn : Nat → Bool), n - k = gh ∧ k ≤ n ∧ i = .int .i64 k ∧ Hid (∀ x, x < 16 → (d x = none ↔ gn x = true)) ∧ Hid (CS w W P fb t q b c d) ∧ Hid (GAt W Bg gn))
      case atStart => exact ⟨0, d, fun _ => false, by omega, by omega, rfl, Hdg, HS4, HBx⟩
      case round =>
        clear Hdg HS4 HBx
        obtain ⟨k, d, gn, rfl, hk, rfl, Hdg, HS, HG⟩ := hrel
        by_cases hlt : k < n
        · have hlt' : (k : Int) < n := by omega
          obtain ⟨rfl, hg0, hcell⟩ := HA.out (by omega)
          obtain ⟨x, hx⟩ : ∃ x, ks[k]? = some x := ⟨_, List.getElem?_eq_getElem (by rw [HKl.out]; exact hlt)⟩
          have ck : wr.cell? ⟨g0, go + k, none⟩ = some (.int .u64 x) := (HS.out.M.cell (p := ⟨g0, go + k, none⟩) hg0 (fun e => e)).trans (hcell k x hx)
          obtain ⟨i, hi⟩ : ∃ i, x % 16 = i := ⟨_, rfl⟩
          have hi16 : i < 16 := by omega
          have hxi : (x : Int) % 16 = i := by omega
          have hi' : (i : Int) < 16 := by omega
          have cg := HG.out.c i hi16
          have cf := HG.out.fr
          clear hcell hx hi
          cases hgi : gn i with
          | true =>
            rw [hgi] at cg
            have HC := hid6 (pCloseNo HS.out.a i hi16 ((Hdg.out i hi16).2 hgi))
            have HG' := hid6 (HG.out.set i hi16 true)
            have HS' := hid6 (HS.out.set HG.out hPB i (.bool true))
            have Hd' : Hid (∀ y, y < 16 → (d y = none ↔ upd gn i true y = true)) := fun y hy => by
              by_cases e : y = i
              · subst e
                rw [show upd gn y true y = true by simp [upd]]
                exact ⟨fun _ => rfl, fun _ => (Hdg.out y hy).2 hgi⟩
              · rw [show upd gn i true y = gn y by simp [upd, e]]
                exact Hdg.out y hy
            clear hgi
            go_wp2_with fail
            refine Calls.mono HC.out ?_
            rintro e W1 ⟨rfl, hw1⟩
            rw [hw1]
            clear hw1 W1 HC
            go_wp2_with fail
            go_roundg (n - (k + 1))
            case measure => omega
            case rel => exact ⟨k + 1, d, upd gn i true, rfl, by omega, by go_num, Hd', HS', HG'⟩
          | false =>
            rw [hgi] at cg
            obtain ⟨A, hA⟩ : ∃ A, d i = some A := by
              cases e : d i with
              | none => have := (Hdg.out i hi16).1 e; rw [hgi] at this; cases this
              | some A => exact ⟨A, rfl⟩
            have HC := hid6 (csClose HS.out i hi16 A hA)
            have Hd' : Hid (∀ y, y < 16 → ((if y = i then none else d y) = none ↔ upd gn i true y = true)) := fun y hy => by
              by_cases e : y = i
              · rw [if_pos e]
                subst e
                rw [show upd gn y true y = true by simp [upd]]
                exact ⟨fun _ => rfl, fun _ => rfl⟩
              · rw [if_neg e, show upd gn i true y = gn y by simp [upd, e]]
                exact Hdg.out y hy
            clear hgi hA
            go_wp2_with fail
            refine Calls.mono HC.out ?_
            rintro e W1 ⟨rfl, S1, D1, ⟨v1, hD1⟩, M1⟩
            have hq := HS.out.lt
            have HG1 := hid6 (HG.out.mod M1 (fun e => by
              have e1 : Bg = P ∨ Bg = D1 ∨ Bg = q := e
              rcases e1 with e1 | e1 | e1
              · omega
              · subst e1
                have := (HG.out.c 0 (by omega)).symm.trans hD1
                cases this
              · omega))
            have cg1 := (HG1.out.c i hi16).trans ((HG.out.c i hi16).symm.trans cg)
            have cf1 := HG1.out.fr
            have HG' := hid6 (HG1.out.set i hi16 true)
            have HS' := hid6 (S1.set HG1.out hPB i (.bool true))
            clear S1 hD1 M1 HC hq cg cf
            go_wp2_with fail
            go_roundg (n - (k + 1))
            case measure => omega
            case rel => exact ⟨k + 1, _, upd gn i true, rfl, by omega, by go_num, Hd', HS', HG'⟩
        · obtain rfl : k = n := by omega
          have Hl0 : Hid (∀ x, x < 0 → d x ≠ none) := fun x hx => absurd hx (by omega)
          have Hl1 : Hid (∀ x, 0 ≤ x → x < 16 → (d x = none ↔ gn x = true)) := fun x _ hx => Hdg.out x hx
          clear hlt hk
          go_wp2_with fail
          go_loopg [117] 16 (fun gh i W => ∃ (k : Nat) (d : Nat → Option Addr) (gn : Nat → Bool), 16 - k = gh ∧ k ≤ 16 ∧ i = .int .i64 k ∧ Hid (∀ x, x < k → d x ≠ none) ∧ Hid (∀ x, k ≤ x → x < 16 → (d x = none ↔ gn x = true)) ∧ Hid (CS w W P fb t q b c d) ∧ Hid (GAt W Bg gn))
          case atStart => exact ⟨0, d, gn, rfl, by omega, rfl, Hl0, Hl1, HS, HG⟩
          case round =>
            clear Hl0 Hl1 HS HG Hdg
            obtain ⟨j, d, gn, rfl, hj, rfl, Hs, Hn, HS, HG⟩ := hrel
            by_cases hlt : j < 16
            · have hlt' : (j : Int) < 16 := by omega
              have cg := HG.out.c j hlt
              cases hgi : gn j with
              | true =>
                rw [hgi] at cg
                have HO := hid6 (csOpen HS.out j hlt ((Hn.out j (Nat.le_refl _) hlt).2 hgi) (fun i hi => Hs.out i hi) 0)
                clear hgi
                go_wp2_with fail
                refine Calls.mono HO.out ?_
                rintro e W1 ⟨rfl, D, S1, M1⟩
                have HS1 := hid6 S1
                have HG1 := hid6 (HG.out.mod M1 (fun e => by have e1 : Bg = q ∨ Bg = P := e; have := HS.out.lt; omega))
                clear S1 HO M1 cg
                go_wp2_with fail
                go_roundg (16 - (j + 1))
                case measure => omega
                case rel => exact ⟨j + 1, _, gn, rfl, by omega, by go_num, fun x hx => (by
                    show (if x = j then some (⟨D, 0, none⟩ : Addr) else d x) ≠ none
                    by_cases e : x = j
                    · rw [if_pos e]; intro h; cases h
                    · rw [if_neg e]; exact Hs.out x (by omega)), fun x hx hx2 => (by
                    show ((if x = j then some (⟨D, 0, none⟩ : Addr) else d x) = none ↔ gn x = true)
                    rw [if_neg (by omega)]; exact Hn.out x (by omega) hx2), HS1, HG1⟩
              | false =>
                rw [hgi] at cg
                have hdj : d j ≠ none := fun e => by have := (Hn.out j (Nat.le_refl _) hlt).1 e; rw [hgi] at this; cases this
                have Hs' : Hid (∀ x, x < j + 1 → d x ≠ none) := fun x hx => by
                  by_cases e : x = j
                  · rw [e]; exact hdj
                  · exact Hs.out x (by omega)
                clear hgi hdj
                go_wp2_with fail
                go_roundg (16 - (j + 1))
                case measure => omega
                case rel => exact ⟨j + 1, d, gn, rfl, by omega, by go_num, Hs', fun x hx hx2 => Hn.out x (by omega) hx2, HS, HG⟩
            · obtain rfl : j = 16 := by omega
              have hFd := pFds HS.out.a
              rw [fd_full d Hs.out] at hFd
              have HFd := hid6 hFd
              clear hFd hlt hj
              go_wp2_with fail
              refine Calls.mono HFd.out ?_
              rintro e W1 ⟨fa, fc, rfl, M1⟩
              have HM1 := hid6 (HS.out.M.trans M1)
              have HTb : Hid (TabIs W1) := fun j hj => (HM1.out.cell (p := ⟨1, j, none⟩) HT.out.lt (fun e => e)).trans (HT.out j hj)
              clear M1 HFd
              go_wp2_with fail
              refine Calls.mono (HLv.out _ HTb.out) ?_
              rintro e W2 ⟨rfl, M2⟩
              have HF := hid6 (HM1.out.trans M2)
              clear M2
              go_wp2
              go_ret
              exact ⟨rfl, HF.out⟩
end Go.Proofs.YtkokejgaclabdaaGreatDoor
