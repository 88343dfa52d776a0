/- The walk of DescPipes. Conditions: the library's table is as its initialiser lays it; the bytes can be read. -/
import Derived.Test.YthcbkceimbkldaaGreatDoorM27
import Derived.Test.YthcbkceimbkldaaGreatDoorSame
import Derived.Deep.CutRange
import Derived.Deep.DeepCutAuto
namespace Go.Proofs.YthcbkceimbkldaaGreatDoor
open Go.RowKit
theorem bytes_of_own {w : World} {base : Nat} {a : Option Addr} {l c : Nat} {xs : List UInt8} (h : w.ownsRow base 5 1 (.slice a l c) xs.length (xs.map bV)) : BytesAt w (.slice a l c) (xs.map UInt8.toNat) := by
  refine ⟨fun x hx => ?_, a, c, ?_, fun e => ?_, fun ad e j x hj => ?_⟩
  · obtain ⟨y, _, rfl⟩ := List.mem_map.1 hx
    exact y.toNat_lt
  · obtain ⟨a', c', h1⟩ := row_sl8 h
    cases h1
    simp
  · rcases h.2 with ⟨h1, h2⟩ | ⟨g, cap, cur, h1, _⟩
    · rw [List.length_eq_zero_iff.1 h2]; rfl
    · cases h1; cases e
  · rcases h.2 with ⟨h1, h2⟩ | ⟨g, cap, cur, h1, _⟩
    · cases h1; cases e
    · cases h1; cases e
      rw [List.getElem?_map, Option.map_eq_some_iff] at hj
      obtain ⟨y, hy, rfl⟩ := hj
      have := h.cells (g := g) rfl j (bV y) (by rw [List.getElem?_map, hy]; rfl)
      exact this
theorem sSame {w : World} {a b : Option Addr} {n c m e : Nat} {l : List Nat} (h1 : BytesAt w (.slice a n c) l) (h2 : BytesAt w (.slice b m e) l) : Calls Tryz.prog 12 #[.slice a n c, .slice b m e] w fun e w' => e = .returned (.bool true) ∧ w' = w := by
  have k1 := conv_bytes h1
  have k2 := conv_bytes h2
  clear h1 h2
  go_enter Tryz.func12, Tryz.ntmps12
  go_wp2
  go_ret
  exact ⟨by simp, rfl⟩
theorem src_own {w : World} {base m c : Nat} {a : Option Addr} {xs : List UInt8} (h : w.ownsRow base 5 1 (.slice a m c) m (xs.map bV)) (hm : 0 < m) : ∃ g1, a = some ⟨g1, 0, none⟩ ∧ ∀ j u, (xs.map bV)[j]? = some u → w.cell? ((⟨g1, 0, none⟩ : Addr).add j) = some u := by
  rcases h.2 with ⟨h1, h2⟩ | ⟨g, cap, cur, h1, _⟩
  · omega
  · cases h1
    exact ⟨g, rfl, h.cells (g := g) rfl⟩
theorem fdN00 : fdN (fun _ => none) + 2 ≤ 16 := by decide +kernel
theorem fdN2 (D0 D1 : Nat) : fdN (fun i => if i = 1 then some ⟨D1, 0, none⟩ else if i = 0 then some ⟨D0, 0, none⟩ else none) = 2 := by kernel_rfl
def dA (D0 D1 : Nat) : Nat → Option Addr := fun i => if i = 1 then some ⟨D1, 0, none⟩ else if i = 0 then some ⟨D0, 0, none⟩ else none
def dB (D0 D1 : Nat) : Nat → Option Addr := fun i => if i = 2 then some ⟨D1, 0, none⟩ else dA D0 D1 i
def dC (D0 D1 : Nat) : Nat → Option Addr := fun i => if i = 1 then none else dB D0 D1 i
def dE (D0 D1 : Nat) : Nat → Option Addr := fun i => if i = 2 then none else dC D0 D1 i
theorem fdNA (D0 D1 : Nat) : fdN (dA D0 D1) = 2 := by kernel_rfl
theorem fdNC (D0 D1 : Nat) : fdN (dC D0 D1) = 2 := by kernel_rfl
theorem usedC (D0 D1 : Nat) : usedL (fun j => (dC D0 D1 j).isSome) 16 = [0, 2] := by kernel_rfl
set_option maxRecDepth 100000 in
set_option maxHeartbeats 1600000 in
theorem pipes_walk (a : Option Addr) (n0 cap g0 go s kk : Nat) (xs0 : List UInt8) (w : World) (hT : TabIs w) (hl : xs0.length = n0) (hcap : n0 ≤ cap) (hcm : cap ≤ 9223372036854775807) (ha : 0 < n0 → a = some ⟨g0, go, none⟩ ∧ g0 < w.heap.size ∧ ∀ j x, xs0[j]? = some x → w.cell? ⟨g0, go + j, none⟩ = some (bV x)) (hs : s < 18446744073709551616) (hkk : kk = s % 300 + 1) (R : Nat → World → Prop)
    (hTN : Calls Tryz.prog 4 #[.int .i64 8, .int .i64 8] w fun e w1 => ∃ fb : Nat, e = .returned (.tuple #[.pointer (some ⟨fb, 0, none⟩), .int .i64 0]) ∧ R fb w1)
    (hDN : ∀ fb w1, R fb w1 → Calls Tryz.prog 5 #[.pointer (some ⟨fb, 0, none⟩), .agg #[.int .i64 0, .int .i64 0, .slice none 0 0, .int .i64 0, .int .i64 0]] w1 fun e w2 => ∃ P : Nat, e = .returned (.tuple #[.pointer (some ⟨P, 0, none⟩), .int .i64 0]) ∧ w.heap.size ≤ P ∧ PAt w2 P fb 0 0 none 0 0 1 (fun _ => none) ∧ Mod (fun _ => False) w w2)
    (hLv : ∀ W, TabIs W → Calls Tryz.prog 13 #[] W fun e w' => e = .returned (.bool true) ∧ Mod (fun _ => False) W w') :
    Calls Tryz.prog 3 #[.slice a n0 cap, .int .u64 s] w fun e w' => e = .returned (.bool true) ∧ Mod (fun _ => False) w w' := by
  have HT := hid6 hT
  have HA := hid6 ha
  have HTN := hid6 hTN
  have HDN := hid6 hDN
  have HLv := hid6 hLv
  clear hTN hDN hLv
  obtain ⟨n, hn⟩ : ∃ n, n = min n0 2000 := ⟨_, rfl⟩
  obtain ⟨xs, hxs⟩ : ∃ xs, xs = xs0.take n := ⟨_, rfl⟩
  have HXl : Hid (xs.length = n) := by show _ = _; rw [hxs, List.length_take]; omega
  have HXs : Hid (∀ j x, xs[j]? = some x → xs0[j]? = some x) := fun j x hj => by
    rw [hxs, List.getElem?_take] at hj
    split at hj
    · exact hj
    · cases hj
  have HN := hid6 hn
  have HKK := hid6 hkk
  clear hT ha hxs hn hkk hl
  go_enter Tryz.func3, Tryz.ntmps3
  go_wp2_with fail
  refine Calls.mono HTN.out ?_
  rintro e w1 ⟨fb, rfl, r1⟩
  have HDN1 := hid6 (HDN.out fb w1 r1)
  clear r1
  go_wp2_with fail
  refine Calls.mono HDN1.out ?_
  rintro e w2 ⟨P, rfl, hP1, A2, M2⟩
  have HA2 := hid6 A2
  have HM2 := hid6 M2
  have HP1 := hid6 hP1
  clear A2 M2 hP1 HDN1 HTN HDN
  go_wp2_with fail
  refine (pPipe2 HA2.out 0 1 (by omega) (by omega) rfl (fun i hi => by omega) rfl (fun i h1 h2 => by omega) fdN00).mono ?_
  rintro e w3 ⟨rfl, M3, q, D0, D1, h1, h2, h3, h4, P3, R3, W3, A3⟩
  have HS0 := hid6 (show LS w w3 P fb q D0 D1 w3.heap.size (dA D0 D1) 1 true (.slice none 0 0) [] (.slice none 0 0) [] from
    { a := A3, d0 := R3, d1 := fun _ => W3, p := P3, vo := World.ownsRow_nil _ _ _ _, oo := World.ownsRow_nil _ _ _ _, ne := fun y hy => (by cases hy), lt := (by have := HP1.out; have := HA2.out.lt; omega), hB := Nat.le_refl _, M := HM2.out.new6 M3 (fun x e => by have := HP1.out; omega) })
  clear M3 h1 h2 h3 h4 P3 R3 W3 A3 HA2 HM2 HP1
  generalize hB : w3.heap.size = B at *
  clear hB
  go_upto_if 53 with fail
  go_cut [0] (fun v0 wc => v0 = .slice a n cap ∧ wc = w3)
  case first =>
    by_cases h2000 : 2000 < n0
    · obtain ⟨rfl, -⟩ := HA.out (by omega)
      have hn2 : n = 2000 := by have := HN.out; omega
      have hc2 : (2000 : Int) ≤ cap := by omega
      have hc2n : 2000 ≤ cap := by omega
      have h2i : (2000 : Int) < n0 := by omega
      go_wp2_with fail
      go_meet
      exact ⟨by rw [hn2], rfl⟩
    · have h2i : ¬ (2000 : Int) < n0 := by omega
      have hn2 : n = n0 := by have := HN.out; omega
      go_wp2_with fail
      go_meet
      exact ⟨by rw [hn2], rfl⟩
  case rest =>
    obtain ⟨rfl, rfl⟩ := hcut
    have hnn : n ≤ 2000 := by have := HN.out; omega
    have hnc : n ≤ cap := by have := HN.out; omega
    have HA' : Hid (0 < n → a = some ⟨g0, go, none⟩ ∧ g0 < w.heap.size ∧ ∀ j x, xs[j]? = some x → w.cell? ⟨g0, go + j, none⟩ = some (bV x)) := fun h => by
      obtain ⟨e1, e2, e3⟩ := HA.out (by have := HN.out; omega)
      exact ⟨e1, e2, fun j x hj => e3 j x (HXs.out j x hj)⟩
    clear HA HXs HN hcap
    go_wp2_with fail
    go_loopg [10, 11] n (fun gh o r W => ∃ (k L C : Nat) (v : Value) (os ps : List UInt8) (oa : Option Addr) (oc : Nat) (ra : Option Addr), k + L = n ∧ k + C = cap ∧ L = gh ∧ o = .slice oa os.length oc ∧ r = .slice ra L C ∧ (0 < L → ra = some ⟨g0, go + k, none⟩) ∧ ps.length < 256 ∧ os.length ≤ 2000 ∧ Hid (LS w W P fb q D0 D1 B (dA D0 D1) 1 true v ps (.slice oa os.length oc) os) ∧ Hid (os ++ ps = xs.take k))
    case atStart => exact ⟨0, n, cap, _, [], [], none, 0, a, by omega, by omega, rfl, rfl, rfl, fun h => (HA'.out h).1, by decide, by decide, HS0, (by show [] ++ [] = _; simp)⟩
    case round =>
      obtain ⟨k, L, C, v, os, ps, oa, oc, ra, hkL, hkC, rfl, rfl, rfl, hra, hps, hos, HS, HX⟩ := hrel
      by_cases hL : 0 < L
      · obtain rfl := hra hL
        obtain ⟨-, hg0, hcell⟩ := HA'.out (by omega)
        obtain ⟨nw, hnw⟩ : ∃ nw, nw = min L (256 - ps.length) := ⟨_, rfl⟩
        have HW := hid6 (lsWrite HS.out rfl hps g0 (go + k) L C nw (xs.drop k) (by rw [List.length_drop, HXl.out]; omega) (by omega) (fun j x hj => by
          rw [List.getElem?_drop] at hj
          rw [Nat.add_assoc]
          exact (HS.out.M.cell (p := ⟨g0, go + (k + j), none⟩) hg0 (fun e => e)).trans (hcell _ x hj)) hnw)
        have hL0 : (0 : Int) < L := by omega
        have HNw := hid6 hnw
        have i0 : 0 < nw ∧ nw ≤ L ∧ nw ≤ 256 := by omega
        clear hnw hcell
        go_wp2_with fail
        refine Calls.mono HW.out ?_
        rintro e W1 ⟨rfl, v1, S1⟩
        have HS1 := hid6 S1
        clear S1 HW
        have i1 : ¬ (nw : Int) < 1 := by omega
        have i2 : ¬ (L : Int) < nw := by omega
        have i3 : ¬ (256 : Int) < nw := by omega
        have i4 : (nw : Int) ≤ C := by omega
        have i5 : (nw : Int) ≤ L := by omega
        have i6 : nw ≤ C := by omega
        have i7 : nw ≤ L := by omega
        go_upto_region 18 with fail
        go_cut [11] from 57 to 105 (fun v11 wc => ∃ ra, v11 = .slice ra (L - nw) (C - nw) ∧ (0 < L - nw → ra = some ⟨g0, go + (k + nw), none⟩) ∧ wc = W1)
        case first =>
          by_cases hCn : C = nw
          · have hLn : L - nw = 0 := by omega
            have hCz : C - nw = 0 := by omega
            go_wp2_with fail
            go_meet
            exact ⟨some ⟨g0, go + k, none⟩, by rw [hCz, hLn], fun h => by omega, rfl⟩
          · go_wp2_with fail
            go_meet
            exact ⟨_, rfl, fun _ => by rw [Nat.add_assoc], rfl⟩
        case rest =>
          obtain ⟨ra, rfl, hra', rfl⟩ := hcut
          have HRa := hid6 hra'
          clear hra'
          obtain ⟨ps1, hps1⟩ : ∃ ps1, ps1 = ps ++ (xs.drop k).take nw := ⟨_, rfl⟩
          have hlen1 : ps1.length = ps.length + nw := by
            rw [hps1, List.length_append, List.length_take, List.length_drop, HXl.out]; omega
          have hX1 : os ++ ps1 = xs.take (k + nw) := by
            rw [hps1, ← List.append_assoc, HX.out, List.take_add]
          rw [← hps1] at HS1
          obtain ⟨m, hm⟩ : ∃ m, m = min kk ps1.length := ⟨_, rfl⟩
          have hq256 : ps.length + nw ≤ 256 := by have := HNw.out; omega
          have hkk0 : 0 < kk ∧ kk ≤ 300 := by have := HKK.out; omega
          have hm0 : 0 < m := by omega
          have HR := hid6 (lsRead HS1.out rfl (by omega) kk m hkk0 hm (.inl (by omega)))
          have hka : (s : Int) % 300 + 1 = kk := by have := HKK.out; omega
          have HMm := hid6 (show m ≤ ps1.length ∧ ps1.length ≤ 256 ∧ os.length + ps1.length = k + nw from ⟨by omega, by omega, by have := congrArg List.length hX1; rw [List.length_append, List.length_take, HXl.out] at this; omega⟩)
          have HX1 := hid6 hX1
          have hk2 : k + nw ≤ n := by omega
          have hdl : Hid ((ps1.drop m).length < 256) := by show _ < _; rw [List.length_drop]; omega
          clear hps1 hlen1 hX1 hm hq256 hkk0 hps HX
          go_wp2_with fail
          refine Calls.mono HR.out ?_
          rintro e W2 ⟨ba, bl, bc, rfl, hbl, O2, v2, S2⟩
          have hbl' := hbl.symm
          clear hbl
          subst hbl'
          have HS2 := hid6 S2
          have HO2 := hid6 O2
          obtain ⟨g1, rfl, hsrc⟩ := src_own O2 hm0
          have HSrc := hid6 hsrc
          clear O2 S2 hsrc HR
          have hm0' : ¬ (m : Int) = 0 := by omega
          have hmo : os.length + m ≤ 2000 := by have := HMm.out; omega
          have hB2 := HS2.out.hB
          have HOo := hid6 HS2.out.oo
          obtain ⟨i0, hi, hz0, hz1, hz2⟩ := infB
          have HIn := hid6 (show Tryz.prog.info? 5 = some i0 ∧ i0.zero = some (.int .u8 0) ∧ i0.size = 1 ∧ i0.bytes = 1 from ⟨hi, hz0, hz1, hz2⟩)
          have hlt9 : Hid (((ps1.take m).map bV).length = m * 1) := by show _ = _; rw [List.length_map, List.length_take]; have := HMm.out; omega
          have h1c : Hid (∀ u ∈ (ps1.take m).map bV, u.oneCell' = true) := bV_one _
          clear hi hz0 hz1 hz2
          go_wp2_with (at_builtin; refine wpList_append_own_at _ rfl _ _ 22 rfl B 5 i0 (.int .u8 0) 1 1 undB HIn.out.1 HIn.out.2.1 HIn.out.2.2.1 HIn.out.2.2.2 rfl (by decide) _ _ _ rfl HOo.out ⟨g1, 0, none⟩ m bc ((ps1.take m).map bV) rfl hlt9.out HSrc.out h1c.out ?qc4 ?qc5 hB2 ?_)
          case qc4 => unfold maxLen; omega
          case qc5 => omega
          intro v3 W3 hown hg _ hat
          obtain ⟨va, vc, hv⟩ := row_sl8 hown
          subst hv
          have hol : (os ++ ps1.take m).length = os.length + m := by rw [List.length_append, List.length_take]; have := HMm.out; omega
          have HS3 := hid6 (HS2.out.app (o' := .slice va (os ++ ps1.take m).length vc) (os' := os ++ ps1.take m) hg (by rw [hol, List.map_append, List.map_take]; first | exact hown | (rw [← List.map_take]; exact hown)) (by rw [hol]; exact hat))
          have HX3 := hid6 (show (os ++ ps1.take m) ++ ps1.drop m = xs.take (k + nw) from by rw [List.append_assoc, List.take_append_drop]; exact HX1.out)
          clear hown hg hat
          rw [← hol]
          clear HSrc HOo
          go_wp2_with fail
          go_roundg (L - nw)
          case measure => omega
          case rel => exact ⟨k + nw, L - nw, C - nw, v2, os ++ ps1.take m, ps1.drop m, va, vc, ra, by omega, by omega, rfl, rfl, rfl, HRa.out, hdl.out, by rw [hol]; omega, HS3, HX3⟩
      · obtain rfl : L = 0 := by omega
        obtain rfl : n = k := by omega
        have HXn := hid6 (show os ++ ps = xs from by rw [HX.out, List.take_of_length_le (by rw [HXl.out]; exact Nat.le_refl _)])
        have hDP : D1 ≠ P := by have := HS.out.lt; omega
        have HDu := hid6 (pDup HS.out.a 1 D1 (by omega) rfl _ 1 (by omega) (HS.out.d1 rfl) hDP 2 (by omega) rfl (fun i hi => by
          have h2 : i = 0 ∨ i = 1 := by omega
          rcases h2 with rfl | rfl
          · exact ⟨D0, rfl⟩
          · exact ⟨D1, rfl⟩) (by rw [fdNA]; decide))
        clear hra HX
        go_wp2_with fail
        refine Calls.mono HDu.out ?_
        rintro e W1 ⟨rfl, A1, E1, M1⟩
        have HS1 := hid6 (show LS w W1 P fb q D0 D1 B (dB D0 D1) (1 + 1) true v ps (.slice oa os.length oc) os from HS.out.desc M1 A1 E1)
        clear A1 E1 M1 HDu HS
        have HCl := hid6 (pClose HS1.out.a 1 D1 (by omega) rfl _ (pDetachN HS1.out.a 1 D1 (by omega) rfl _ (1 + 1) (by decide) (HS1.out.d1 rfl) hDP))
        go_wp2_with fail
        refine Calls.mono HCl.out ?_
        rintro e W2 ⟨rfl, A2, E2, M2⟩
        have HS2 := hid6 (show LS w W2 P fb q D0 D1 B (dC D0 D1) (1 + 1 - 1) true v ps (.slice oa os.length oc) os from HS1.out.desc M2 A2 E2)
        clear A2 E2 M2 HCl HS1
        have hFd := pFdsV HS2.out.a
        rw [fdNC, usedC] at hFd
        have HFd := hid6 hFd
        clear hFd
        go_wp2_with fail
        refine Calls.mono HFd.out ?_
        rintro e W3 ⟨fa, fc, rfl, O3, M3⟩
        have HS3 := hid6 (HS2.out.new M3)
        obtain ⟨gF, rfl, f0, f1⟩ : ∃ gF : Nat, fa = some ⟨gF, 0, none⟩ ∧ W3.cell? ⟨gF, 0, none⟩ = some (.int .i64 0) ∧ W3.cell? ⟨gF, 1, none⟩ = some (.int .i64 2) := by
          rcases O3.2 with ⟨h1, h2⟩ | ⟨g9, cap9, cur9, h1, _⟩
          · cases h2
          · cases h1
            exact ⟨g9, rfl, O3.cells (g := g9) rfl 0 _ rfl, O3.cells (g := g9) rfl 1 _ rfl⟩
        have HCl2 := hid6 (pClose HS3.out.a 2 D1 (by omega) rfl _ (pDetach1 HS3.out.a 2 D1 q (by omega) rfl v true true (HS3.out.d1 rfl) HS3.out.p hDP (by have := HS3.out.lt; omega) (by have := HS3.out.lt; omega)))
        clear O3 M3 HFd HS2
        go_wp2_with fail
        go_loopg [123] 2 (fun gh i W => ∃ j : Nat, 2 - j = gh ∧ i = .int .i64 j ∧ ((j ≤ 1 ∧ W = W3) ∨ (j = 2 ∧ Hid (LS w W P fb q D0 D1 B (dE D0 D1) (1 + 1 - 1) false v ps (.slice oa os.length oc) os))))
        case atStart => exact ⟨0, rfl, rfl, .inl ⟨by omega, rfl⟩⟩
        case round =>
          obtain ⟨j, rfl, rfl, hj | hj⟩ := hrel
          · obtain ⟨hj1, rfl⟩ := hj
            have hj2 : j = 0 ∨ j = 1 := by omega
            rcases hj2 with rfl | rfl
            · go_wp2_with fail
              go_roundg 1
              case measure => omega
              case rel => exact ⟨1, rfl, rfl, .inl ⟨by omega, rfl⟩⟩
            · go_wp2_with fail
              refine Calls.mono HCl2.out ?_
              rintro e W4 ⟨rfl, A4, P4, M4⟩
              have HS4 := hid6 (show LS w W4 P fb q D0 D1 B (dE D0 D1) (1 + 1 - 1) false v ps (.slice oa os.length oc) os from HS3.out.shut M4 A4 P4)
              clear A4 P4 M4
              go_wp2_with fail
              go_roundg 0
              case measure => omega
              case rel => exact ⟨2, rfl, rfl, .inr ⟨rfl, HS4⟩⟩
          · obtain ⟨rfl, HS4⟩ := hj
            clear HCl2 f0 f1 HS3
            go_wp2_with fail
            go_loopg [10, 18] 2 (fun gh o i W => ∃ (j : Nat) (v : Value) (os ps : List UInt8) (oa : Option Addr) (oc : Nat), 2 - j = gh ∧ j ≤ 1 ∧ (j = 1 → ps = [] ∧ 0 < n) ∧ o = .slice oa os.length oc ∧ i = .int .i64 j ∧ ps.length < 256 ∧ Hid (LS w W P fb q D0 D1 B (dE D0 D1) (1 + 1 - 1) false v ps (.slice oa os.length oc) os) ∧ Hid (os ++ ps = xs))
            case atStart => exact ⟨0, v, os, ps, oa, oc, rfl, by omega, fun h => (by cases h), rfl, rfl, hps, HS4, HXn⟩
            case round =>
              clear HS4 HXn hps
              obtain ⟨j, v, os, ps, oa, oc, rfl, hj, hj1, rfl, rfl, hps, HS5, HX5⟩ := hrel
              have hjn : (j : Int) ≤ n := by
                have h2 : j = 0 ∨ j = 1 := by omega
                rcases h2 with rfl | rfl
                · omega
                · have := (hj1 rfl).2; omega
              by_cases hp : ps = []
              · subst hp
                have HR := hid6 (lsRead HS5.out rfl (by simp) 300 0 (by omega) (by simp) (.inr rfl))
                have HX6 := hid6 (show os = xs from by rw [← HX5.out]; simp)
                clear hj1
                go_wp2_with fail
                refine Calls.mono HR.out ?_
                rintro e W4 ⟨ba, bl, bc, rfl, rfl, -, v4, S4⟩
                have HS6 := hid6 S4
                clear S4 HR HS5
                have hBo : BytesAt W4 (.slice oa os.length oc) (xs.map UInt8.toNat) := by
                  have h9 := bytes_of_own HS6.out.oo
                  rw [HX6.out] at h9 ⊢
                  exact h9
                have hBd : BytesAt W4 (.slice a n cap) (xs.map UInt8.toNat) := by
                  refine ⟨fun x hx => ?_, a, cap, by rw [List.length_map, HXl.out], fun e => ?_, fun ad e j x hj => ?_⟩
                  · obtain ⟨y, _, rfl⟩ := List.mem_map.1 hx
                    exact y.toNat_lt
                  · by_cases h0 : 0 < n
                    · rw [(HA'.out h0).1] at e; cases e
                    · have h9 : xs.length = 0 := by rw [HXl.out]; omega
                      rw [List.length_eq_zero_iff.1 h9]; rfl
                  · rw [List.getElem?_map, Option.map_eq_some_iff] at hj
                    obtain ⟨y, hy, rfl⟩ := hj
                    have h0 : 0 < n := by rw [← HXl.out]; have := (List.getElem?_eq_some_iff.1 hy).1; omega
                    obtain ⟨q1, q2, q3⟩ := HA'.out h0
                    rw [q1] at e
                    cases e
                    rw [Addr.add_lit]
                    exact (HS6.out.M.cell (p := ⟨g0, go + j, none⟩) q2 (fun e => e)).trans (q3 j y hy)
                have HSm := hid6 (sSame hBo hBd)
                have HTb : Hid (TabIs W4) := fun j hj => (HS6.out.M.cell (p := ⟨0, j, none⟩) HT.out.lt (fun e => e)).trans (HT.out j hj)
                clear hBo hBd
                go_wp2_with fail
                refine Calls.mono HSm.out ?_
                rintro e W5 ⟨rfl, hw5⟩
                rw [hw5]
                clear hw5 W5 HSm
                go_wp2_with fail
                refine Calls.mono (HLv.out _ HTb.out) ?_
                rintro e W6 ⟨rfl, M6⟩
                have HF := hid6 (HS6.out.M.trans M6)
                clear M6
                go_wp2
                go_ret
                exact ⟨rfl, HF.out⟩
              · have hpl : 0 < ps.length := by
                  rcases ps with _ | ⟨x, l⟩
                  · exact absurd rfl hp
                  · simp
                obtain rfl : j = 0 := by
                  rcases (show j = 0 ∨ j = 1 by omega) with h | h
                  · exact h
                  · exact absurd (hj1 h).1 hp
                obtain ⟨m, hm⟩ : ∃ m, m = ps.length := ⟨_, rfl⟩
                have hLn := congrArg List.length HX5.out
                rw [List.length_append, HXl.out] at hLn
                have hm0 : 0 < m := by omega
                have HR := hid6 (lsRead HS5.out rfl (by omega) 300 m (by omega) (by omega) (.inl hpl))
                have HMm := hid6 hm
                have hmo : os.length + m ≤ 2000 := by omega
                have hm3 : m < 256 := by omega
                have hn0 : 0 < n := by omega
                clear hj1 hm hLn hp
                go_wp2_with fail
                refine Calls.mono HR.out ?_
                rintro e W2 ⟨ba, bl, bc, rfl, hbl, O2, v2, S2⟩
                have hbl' := hbl.symm
                clear hbl
                subst hbl'
                have HS6 := hid6 S2
                obtain ⟨g1, rfl, hsrc⟩ := src_own O2 hm0
                have HSrc := hid6 hsrc
                clear O2 S2 hsrc HR
                have hm0' : ¬ (m : Int) = 0 := by omega
                have hB2 := HS6.out.hB
                have HOo := hid6 HS6.out.oo
                obtain ⟨i0, hi, hz0, hz1, hz2⟩ := infB
                have HIn := hid6 (show Tryz.prog.info? 5 = some i0 ∧ i0.zero = some (.int .u8 0) ∧ i0.size = 1 ∧ i0.bytes = 1 from ⟨hi, hz0, hz1, hz2⟩)
                have hlt9 : Hid (((ps.take m).map bV).length = m * 1) := by show _ = _; rw [List.length_map, List.length_take]; have := HMm.out; omega
                have h1c : Hid (∀ u ∈ (ps.take m).map bV, u.oneCell' = true) := bV_one _
                clear hi hz0 hz1 hz2
                go_wp2_with (at_builtin; refine wpList_append_own_at _ rfl _ _ 22 rfl B 5 i0 (.int .u8 0) 1 1 undB HIn.out.1 HIn.out.2.1 HIn.out.2.2.1 HIn.out.2.2.2 rfl (by decide) _ _ _ rfl HOo.out ⟨g1, 0, none⟩ m bc ((ps.take m).map bV) rfl hlt9.out HSrc.out h1c.out ?qd4 ?qd5 hB2 ?_)
                case qd4 => unfold maxLen; omega
                case qd5 => omega
                intro v3 W3 hown hg _ hat
                obtain ⟨va, vc, hv⟩ := row_sl8 hown
                subst hv
                have hol : (os ++ ps.take m).length = os.length + m := by rw [List.length_append, List.length_take]; have := HMm.out; omega
                have HS7 := hid6 (HS6.out.app (o' := .slice va (os ++ ps.take m).length vc) (os' := os ++ ps.take m) hg (by rw [hol, List.map_append, List.map_take]; first | exact hown | (rw [← List.map_take]; exact hown)) (by rw [hol]; exact hat))
                have hd0 : ps.drop m = [] := by rw [HMm.out]; exact List.drop_length
                have HX7 := hid6 (show (os ++ ps.take m) ++ ps.drop m = xs from by rw [List.append_assoc, List.take_append_drop]; exact HX5.out)
                clear hown hg hat
                rw [← hol]
                clear HSrc HOo
                go_wp2_with fail
                go_roundg 1
                case measure => omega
                case rel => exact ⟨1, v2, os ++ ps.take m, ps.drop m, va, vc, rfl, by omega, fun _ => ⟨hd0, hn0⟩, rfl, rfl, by rw [hd0]; decide, HS7, HX7⟩
end Go.Proofs.YthcbkceimbkldaaGreatDoor
