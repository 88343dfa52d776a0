/- The walk of BlocksBack: for whatever numbers and bytes it answers true and writes nothing that was there. Conditions: the library's table is as its initialiser lays it; the bytes can be read. -/
import Derived.Test.YtipdpifpblaldaaDoorBackP
import Derived.Test.YtipdpifpblaldaaDoorBase
namespace Go.Proofs.YtipdpifpblaldaaDoor
open Go.RowKit
set_option maxRecDepth 100000 in
set_option maxHeartbeats 2000000 in
theorem back_walk (n take : Nat) (hn : n < 18446744073709551616) (ht : take < 18446744073709551616) (a : Option Addr) (cap : Nat) (l : List Nat) (w : World) (hT : TabIs w) (hl : l.length ≤ maxLen) (hlc : l.length ≤ cap) (hcap : cap ≤ maxLen) (hb : BytesAt w (.slice a l.length cap) l) :
    Calls Tryd.prog 6 #[.int .u64 n, .int .u64 take, .slice a l.length cap] w fun e w' => e = .returned (.bool true) ∧ Below w.heap.size w w' := by
  have hmk := mk64
  have HT : Hid (TabIs w) := hT
  have HB : Hid (BytesAt w (.slice a l.length cap) l) := hb
  unfold maxLen at hl hcap
  clear hT hb
  go_enter Tryd.func6, Tryd.ntmps6
  go_wp2_with fail
  obtain ⟨N, hN⟩ : ∃ N : Nat, (N : Int) = (n : Int) % 60 + 1 := ⟨n % 60 + 1, by omega⟩
  have hN1 : 1 ≤ N := by omega
  have hN2 : N ≤ 60 := by omega
  rw [← hN]
  clear hN
  refine (St.new N w hN1 (by omega) HT.out).mono ?_
  rintro e w1 ⟨rfl, S1, M1, hs1⟩
  have HS : Hid (St w1 (w.heap.size + 1) w.heap.size N (fun _ => false) (fun _ => 0)) := S1
  have HM : Hid (Mod (fun _ => False) w w1) := M1
  clear S1 M1 hs1
  go_wp2_with fail
  obtain ⟨K, hK, hKN⟩ : ∃ K : Nat, (K : Int) = wrap64 ((take : Int) % (N : Int)) ∧ K < N := by
    have h1 := Int.emod_nonneg (take : Int) (show (N : Int) ≠ 0 by omega)
    have h2 := Int.emod_lt_of_pos (take : Int) (show (0 : Int) < N by omega)
    refine ⟨((take : Int) % (N : Int)).toNat, ?_, by omega⟩
    rw [Int.toNat_of_nonneg h1, wrap_small _ (by omega)]
  rw [← hK]
  clear hK
  go_loopw [11] (fun i wr => ∃ k : Nat, k ≤ K + 1 ∧ i = .int .i64 k ∧ Hid (St wr (w.heap.size + 1) w.heap.size N (firstN k) (fun _ => 0)) ∧ Hid (Mod (fun _ => False) w wr)) (fun i _ => K + 1 - (intOf i).toNat)
  case atStart => exact ⟨0, by omega, rfl, HS.out, HM.out⟩
  case round =>
    clear HS HM
    obtain ⟨k, hk, rfl, HS, HM⟩ := hrel
    by_cases hlt : k < K + 1
    · have hle : (k : Int) ≤ (K : Int) := by omega
      go_wp2_with (go_at_call 20; refine (HS.out.alloc_some k (by omega) (by simp [firstN]) (fun j hj => by simp [firstN]; omega)).mono ?_; rintro e w' ⟨rfl, hS', hM', -⟩; rw [firstN_upd] at hS'; have HS' : Hid (St w' (w.heap.size + 1) w.heap.size N (firstN (k + 1)) (fun _ => 0)) := hS'; have HM' : Hid (Mod (fun _ => False) w w') := HM.out.further hM' (fun i hi => by omega); clear hS' hM')
      exact ⟨⟨k + 1, by omega, by go_num, HS', HM'⟩, by simp [intOf]; omega⟩
    · obtain rfl : k = K + 1 := by omega
      have hgt : ¬ ((K + 1 : Nat) : Int) ≤ (K : Int) := by omega
      by_cases h64 : 64 < l.length
      · obtain ⟨bs, hbs, hlen⟩ : ∃ bs, BytesAt w (.slice a 64 cap) bs ∧ bs.length = 64 := by
          obtain ⟨g1, a', cap', g2, g3, g4⟩ := HB.out
          cases g2
          refine ⟨l.take 64, ⟨fun x hx => g1 x (List.mem_of_mem_take hx), a, cap, by rw [List.length_take, Nat.min_eq_left (by omega)], fun h => by rw [g3 h]; rfl, fun ad ha j x hj => g4 ad ha j x ?_⟩, by rw [List.length_take, Nat.min_eq_left (by omega)]⟩
          rw [List.getElem?_take] at hj; split at hj; exact hj; cases hj
        have HL : Hid (bs.length = 64) := hlen
        have HB' : Hid (BytesAt w (.slice a 64 cap) bs) := hbs
        clear hlen hbs HB
        have h64' : (64 : Int) < (l.length : Int) := by omega
        have hcap64 : (64 : Int) ≤ (cap : Int) := by omega
        go_wp2_with fail
        obtain ⟨h, hh, hhK⟩ : ∃ h : Nat, (h : Int) = (K : Int) / 2 ∧ h ≤ K := ⟨K / 2, by omega, by omega⟩
        rw [← hh]
        clear hh
        refine (HS.out.write0 h a 64 cap bs (by omega) (by simp [firstN]; omega) (by omega) HL.out (HB'.out.keep HM.out)).mono ?_
        rintro e w2 ⟨rfl, S2, M2, -⟩
        have HS2 : Hid (St w2 (w.heap.size + 1) w.heap.size N (firstN (K + 1)) (over (fun _ => 0) (h * 64) bs)) := S2
        have HM2 : Hid (Mod (fun _ => False) w w2) := HM.out.further M2 (fun i hi => by omega)
        clear S2 M2 HS HM
        go_wp2_with fail
        refine (HS2.out.left_first (by omega)).mono ?_
        rintro e w3 ⟨rfl, hw3⟩
        rw [hw3]
        clear hw3 w3
        go_wp2_with fail
        refine (used_first HS2.out (by omega)).mono ?_
        rintro e w3 ⟨a3, c3, rfl, M3⟩
        have HS3 : Hid (St w3 (w.heap.size + 1) w.heap.size N (firstN (K + 1)) (over (fun _ => 0) (h * 64) bs)) := HS2.out.mod M3 (fun h => h) (fun h => h) (fun h => h)
        have HM3 : Hid (Mod (fun _ => False) w w3) := HM2.out.further M3 (fun _ _ h => h)
        clear M3 HS2 HM2
        go_wp2_with fail
        refine (HS3.out.read_ok h (by omega) (by simp [firstN]; omega)).mono ?_
        rintro e w4 ⟨rfl, m4, hw4⟩
        have HB4 : Hid (BytesAt w4 (.slice (some ⟨w3.heap.size, 0, none⟩) 64 64) bs) := by rw [hw4]; exact read_bytes _ h _ m4 bs HS3.out.dl HL.out (by omega)
        have M4 : Mod (fun _ => False) w3 w4 := by rw [hw4]; exact ((Mod.refl _ w3).alloc _).drewN m4
        have HS4 : Hid (St w4 (w.heap.size + 1) w.heap.size N (firstN (K + 1)) (over (fun _ => 0) (h * 64) bs)) := HS3.out.mod M4 (fun h => h) (fun h => h) (fun h => h)
        have HM4 : Hid (Mod (fun _ => False) w w4) := HM3.out.further M4 (fun _ _ h => h)
        clear hw4 M4
        go_wp2_with fail
        refine (same_true HB4.out (HB'.out.keep HM4.out)).mono ?_
        rintro e w5 ⟨rfl, hw5⟩
        rw [hw5]
        clear hw5 w5
        go_wp2_with fail
        refine (HS4.out.free_ok h (by omega) (by simp [firstN]; omega)).mono ?_
        rintro e w5 ⟨rfl, S5, M5, -⟩
        have HS5 : Hid (St w5 (w.heap.size + 1) w.heap.size N (upd (firstN (K + 1)) h false) (over (over (fun _ => 0) (h * 64) bs) (h * 64) zeros)) := S5
        have HM5 : Hid (Mod (fun _ => False) w w5) := HM4.out.further M5 (fun i hi => by omega)
        clear S5 M5
        go_wp2_with fail
        refine (HS5.out.alloc_some h (by omega) (by simp [upd]) (freed_low K h hhK)).mono ?_
        rintro e w6 ⟨rfl, S6, M6, -⟩
        have HS6 : Hid (St w6 (w.heap.size + 1) w.heap.size N (upd (upd (firstN (K + 1)) h false) h true) (over (over (fun _ => 0) (h * 64) bs) (h * 64) zeros)) := S6
        have HM6 : Hid (Mod (fun _ => False) w w6) := HM5.out.further M6 (fun i hi => by omega)
        clear S6 M6
        go_wp2_with fail
        refine (HS6.out.read_ok h (by omega) (by simp [upd])).mono ?_
        rintro e w7 ⟨rfl, m7, hw7⟩
        have HB7 : Hid (BytesAt w7 (.slice (some ⟨w6.heap.size, 0, none⟩) 64 64) zeros) := by rw [hw7]; exact read_zeros _ h m7
        have HM7 : Hid (Mod (fun _ => False) w w7) := by rw [hw7]; exact (HM6.out.alloc _).drewN m7
        clear hw7
        go_wp2_with fail
        refine (same_true (w := w7.alloc (.cells zero73 5)) (HB7.out.keep ((Mod.refl _ w7).alloc _)) (made_zeros 0)).mono ?_
        rintro e w8 ⟨rfl, hw8⟩
        rw [hw8]
        clear hw8 w8
        go_wp2_with fail
        refine (lives_true (w7.alloc (.cells zero73 5)) (HT.out.keep ((HM7.out.alloc _).block 0 HT.out.lt (fun h => h)))).mono ?_
        rintro e w9 ⟨rfl, M9⟩
        go_wp2_with fail
        go_ret
        exact ⟨rfl, ((HM7.out.alloc (.cells zero73 5)).further M9 (fun _ _ h => h)).below0⟩
      · have HB' : Hid (BytesAt w (.slice a l.length cap) l) := HB.out
        clear HB
        have h64' : ¬ (64 : Int) < (l.length : Int) := by omega
        go_wp2_with fail
        obtain ⟨h, hh, hhK⟩ : ∃ h : Nat, (h : Int) = (K : Int) / 2 ∧ h ≤ K := ⟨K / 2, by omega, by omega⟩
        rw [← hh]
        clear hh
        refine (HS.out.write0 h a l.length cap l (by omega) (by simp [firstN]; omega) (by omega) rfl (HB'.out.keep HM.out)).mono ?_
        rintro e w2 ⟨rfl, S2, M2, -⟩
        have HS2 : Hid (St w2 (w.heap.size + 1) w.heap.size N (firstN (K + 1)) (over (fun _ => 0) (h * 64) l)) := S2
        have HM2 : Hid (Mod (fun _ => False) w w2) := HM.out.further M2 (fun i hi => by omega)
        clear S2 M2 HS HM
        go_wp2_with fail
        refine (HS2.out.left_first (by omega)).mono ?_
        rintro e w3 ⟨rfl, hw3⟩
        rw [hw3]
        clear hw3 w3
        go_wp2_with fail
        refine (used_first HS2.out (by omega)).mono ?_
        rintro e w3 ⟨a3, c3, rfl, M3⟩
        have HS3 : Hid (St w3 (w.heap.size + 1) w.heap.size N (firstN (K + 1)) (over (fun _ => 0) (h * 64) l)) := HS2.out.mod M3 (fun h => h) (fun h => h) (fun h => h)
        have HM3 : Hid (Mod (fun _ => False) w w3) := HM2.out.further M3 (fun _ _ h => h)
        clear M3 HS2 HM2
        go_wp2_with fail
        refine (HS3.out.read_ok h (by omega) (by simp [firstN]; omega)).mono ?_
        rintro e w4 ⟨rfl, m4, hw4⟩
        have HB4 : Hid (BytesAt w4 (.slice (some ⟨w3.heap.size, 0, none⟩) l.length 64) l) := by rw [hw4]; exact read_bytes _ h _ m4 l HS3.out.dl rfl (by omega)
        have M4 : Mod (fun _ => False) w3 w4 := by rw [hw4]; exact ((Mod.refl _ w3).alloc _).drewN m4
        have HS4 : Hid (St w4 (w.heap.size + 1) w.heap.size N (firstN (K + 1)) (over (fun _ => 0) (h * 64) l)) := HS3.out.mod M4 (fun h => h) (fun h => h) (fun h => h)
        have HM4 : Hid (Mod (fun _ => False) w w4) := HM3.out.further M4 (fun _ _ h => h)
        clear hw4 M4
        go_wp2_with fail
        refine (same_true HB4.out (HB'.out.keep HM4.out)).mono ?_
        rintro e w5 ⟨rfl, hw5⟩
        rw [hw5]
        clear hw5 w5
        go_wp2_with fail
        refine (HS4.out.free_ok h (by omega) (by simp [firstN]; omega)).mono ?_
        rintro e w5 ⟨rfl, S5, M5, -⟩
        have HS5 : Hid (St w5 (w.heap.size + 1) w.heap.size N (upd (firstN (K + 1)) h false) (over (over (fun _ => 0) (h * 64) l) (h * 64) zeros)) := S5
        have HM5 : Hid (Mod (fun _ => False) w w5) := HM4.out.further M5 (fun i hi => by omega)
        clear S5 M5
        go_wp2_with fail
        refine (HS5.out.alloc_some h (by omega) (by simp [upd]) (freed_low K h hhK)).mono ?_
        rintro e w6 ⟨rfl, S6, M6, -⟩
        have HS6 : Hid (St w6 (w.heap.size + 1) w.heap.size N (upd (upd (firstN (K + 1)) h false) h true) (over (over (fun _ => 0) (h * 64) l) (h * 64) zeros)) := S6
        have HM6 : Hid (Mod (fun _ => False) w w6) := HM5.out.further M6 (fun i hi => by omega)
        clear S6 M6
        go_wp2_with fail
        refine (HS6.out.read_ok h (by omega) (by simp [upd])).mono ?_
        rintro e w7 ⟨rfl, m7, hw7⟩
        have HB7 : Hid (BytesAt w7 (.slice (some ⟨w6.heap.size, 0, none⟩) 64 64) zeros) := by rw [hw7]; exact read_zeros _ h m7
        have HM7 : Hid (Mod (fun _ => False) w w7) := by rw [hw7]; exact (HM6.out.alloc _).drewN m7
        clear hw7
        go_wp2_with fail
        refine (same_true (w := w7.alloc (.cells zero73 5)) (HB7.out.keep ((Mod.refl _ w7).alloc _)) (made_zeros 0)).mono ?_
        rintro e w8 ⟨rfl, hw8⟩
        rw [hw8]
        clear hw8 w8
        go_wp2_with fail
        refine (lives_true (w7.alloc (.cells zero73 5)) (HT.out.keep ((HM7.out.alloc _).block 0 HT.out.lt (fun h => h)))).mono ?_
        rintro e w9 ⟨rfl, M9⟩
        go_wp2_with fail
        go_ret
        exact ⟨rfl, ((HM7.out.alloc (.cells zero73 5)).further M9 (fun _ _ h => h)).below0⟩
end Go.Proofs.YtipdpifpblaldaaDoor
