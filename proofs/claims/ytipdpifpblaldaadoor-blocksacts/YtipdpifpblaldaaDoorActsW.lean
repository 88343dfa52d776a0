/- The walk of BlocksActs: for whatever number and calls it answers true and writes nothing that was there. Conditions: the library's table is as its initialiser lays it; the calls can be read. -/
import Derived.Test.YtipdpifpblaldaaDoorJoint
import Derived.Test.YtipdpifpblaldaaDoorBase
namespace Go.Proofs.YtipdpifpblaldaaDoor
open Go.RowKit
/-- Call number k of the list at aa, as it lies in memory below B0. -/
def ActAt (w : World) (B0 : Nat) (aa : Option Addr) (k : Nat) : Prop := ∃ g o kd i t a bs cap, aa = some ⟨g, o, none⟩ ∧ g < B0 ∧ w.cell? ⟨g, o + k * 4, none⟩ = some (.int .i64 kd) ∧ w.cell? ⟨g, o + k * 4 + 1, none⟩ = some (.int .i64 i) ∧ w.cell? ⟨g, o + k * 4 + 2, none⟩ = some (.int .i64 t) ∧
  w.cell? ⟨g, o + k * 4 + 3, none⟩ = some (.slice a (bs : List Nat).length cap) ∧ bs.length ≤ 140737488351232 ∧ Src w B0 a bs
set_option maxHeartbeats 1000000 in
theorem acts_bad (n : Int) (hn : n < 1 ∨ 4096 < n) (v : Value) (w : World) (hT : TabIs w) : Calls Tryd.prog 4 #[.int .i64 n, v] w fun e w' => e = .returned (.bool true) ∧ Below w.heap.size w w' := by
  have HT : Hid (TabIs w) := hT
  have HN : Hid (n < 1 ∨ 4096 < n) := hn
  clear hT
  rcases hn with hn | hn
  · go_enter Tryd.func4, Tryd.ntmps4
    go_wp2_with (first | (go_at_call 8; refine (new_bad n _ HN.out).mono ?_; rintro e w' ⟨rfl, hw'⟩; rw [hw']; clear hw' w') | (go_at_call 7; refine (lives_true _ HT.out).mono ?_; rintro e w' ⟨rfl, hm⟩))
    go_ret
    exact ⟨rfl, hm.below0⟩
  · have hn' : ¬ n < 1 := by omega
    go_enter Tryd.func4, Tryd.ntmps4
    go_wp2_with (first | (go_at_call 8; refine (new_bad n _ HN.out).mono ?_; rintro e w' ⟨rfl, hw'⟩; rw [hw']; clear hw' w') | (go_at_call 7; refine (lives_true _ HT.out).mono ?_; rintro e w' ⟨rfl, hm⟩))
    go_ret
    exact ⟨rfl, hm.below0⟩
set_option maxHeartbeats 4000000 in
theorem acts_walk (n : Nat) (hn1 : 1 ≤ n) (hn2 : n ≤ 4096) (aa : Option Addr) (len cap : Nat) (w : World) (hT : TabIs w) (hacts : ∀ k, k < len → ActAt w w.heap.size aa k) (hlen : len ≤ maxLen) :
    Calls Tryd.prog 4 #[.int .i64 n, .slice aa len cap] w fun e w' => e = .returned (.bool true) ∧ Below w.heap.size w w' := by
  have HT : Hid (TabIs w) := hT
  have HA : Hid (∀ k, k < len → ActAt w w.heap.size aa k) := hacts
  unfold maxLen at hlen
  have h1 : ¬ (n : Int) < 1 := by omega
  have h2 : ¬ (4096 : Int) < n := by omega
  clear hT hacts
  go_enter Tryd.func4, Tryd.ntmps4
  go_wp2_with fail
  refine (St.new n w hn1 hn2 HT.out).mono ?_
  rintro e w1 ⟨rfl, S1, M1, hs1⟩
  have HS1 : Hid (St w1 (w.heap.size + 1) w.heap.size n (fun _ => false) (fun _ => 0)) := S1
  have HM1 : Hid (Mod (fun _ => False) w w1) := M1
  have Hs1 : Hid (w1.heap.size = w.heap.size + 2) := hs1
  clear S1 M1 hs1
  go_wp2_with fail
  refine (rnew_any n w1 hn2).mono ?_
  rintro e w2 ⟨ob, yb, rfl, q1, q2, q3, q4, q5, M2⟩
  have HQ : Hid (w1.heap.size ≤ ob ∧ w1.heap.size ≤ yb ∧ ob ≠ yb ∧ w2.heap[ob]? = some (.cells (madeCells #[.bool false] n) 4 (0, 0)) ∧ w2.heap[yb]? = some (.cells (madeCells #[.slice none 0 0] n) 33 (0, 0))) := ⟨q1, q2, q3, q4, q5⟩
  have HM2 : Hid (Mod (fun _ => False) w1 w2) := M2
  clear q1 q2 q3 q4 q5 M2
  have HJ0 : Hid (J (w2.alloc (.cells #[.slice (some ⟨ob, 0, none⟩) n n, .slice (some ⟨yb, 0, none⟩) n n] 31)) w.heap.size (w.heap.size + 1) w.heap.size w2.heap.size n (fun _ => false) (fun _ => 0) (fun k => k = w2.heap.size ∨ k = ob ∨ k = yb)) := by
    obtain ⟨q1, q2, q3, q4, q5⟩ := HQ.out
    have r1 := (Array.getElem?_eq_some_iff.1 q4).1
    have r2 := (Array.getElem?_eq_some_iff.1 q5).1
    have r3 := Hs1.out
    have r4 := HM2.out.size
    refine ⟨HS1.out.mod (HM2.out.alloc _) (fun h => h) (fun h => h) (fun h => h), ⟨ob, n, yb, n, fun _ => 0, ?_⟩, by omega, by omega, fun k hk => by omega, by omega, Nat.le_refl _, by simp; omega⟩
    refine Rf.new (by omega) (by omega) (by omega) (by omega) (by omega) q3 ?_ ?_ (fun o => World.frozen?_alloc_at _ _ _ _ rfl) (by rw [Below.heap_alloc _ _ _ r1]; exact q4) (by rw [Below.heap_alloc _ _ _ r2]; exact q5)
    · rw [World.cell?_alloc_at _ _ _ _ rfl]; rfl
    · rw [World.cell?_alloc_at _ _ _ _ rfl]; rfl
  have HM0 : Hid (Mod (fun q => w.heap.size ≤ q) w (w2.alloc (.cells #[.slice (some ⟨ob, 0, none⟩) n n, .slice (some ⟨yb, 0, none⟩) n n] 31))) := ((HM1.out.mono (fun _ _ h => h.elim)).trans (HM2.out.mono (fun _ _ h => h.elim))).alloc _
  clear HS1 HM1 Hs1 HQ HM2
  go_wp2_with fail
  generalize w2.heap.size = tb at *
  go_loopw [5, 42] (fun sv x wr => ∃ (k b c : Nat) (u : Nat → Bool) (D : Nat → Nat) (F : Nat → Prop), k ≤ len ∧ x = .int .i64 k ∧ sv = .pointer (some ⟨b, 0, none⟩) ∧ Hid (J wr w.heap.size b c tb n u D F) ∧ Hid (Mod (fun q => w.heap.size ≤ q) w wr)) (fun _ x _ => len - (intOf x).toNat)
  case atStart => exact ⟨0, _, _, _, _, _, Nat.zero_le _, rfl, rfl, HJ0.out, HM0.out⟩
  case round =>
    clear HJ0 HM0
    obtain ⟨k, b, c, u, D, F, hk, rfl, rfl, HJ, HM⟩ := hrel
    by_cases hlt : k < len
    · obtain ⟨g, o, kd, i, t, a, bs, ccap, rfl, hg, c0, c1, c2, c3, hbl, hsrc⟩ := HA.out k hlt
      have e0 : ∀ q, wr.cell? ⟨g, q, none⟩ = w.cell? ⟨g, q, none⟩ := fun q => HM.out.cell (p := ⟨g, q, none⟩) hg (by show ¬ w.heap.size ≤ g; omega)
      rw [← e0] at c0 c1 c2 c3
      have HSr : Hid (Src wr w.heap.size a bs) := hsrc.keep HM.out
      have hlt' : (k : Int) < len := by omega
      have HJ1 : Hid (J (wr.alloc (.cells #[.int .i64 kd, .int .i64 i, .int .i64 t, .slice a bs.length ccap] 35)) w.heap.size b c tb n u D F) := HJ.out.mod ((Mod.refl _ wr).alloc _)
      have hnb : ¬ (wr.heap.size = b ∨ wr.heap.size = c ∨ F wr.heap.size) := by
        have h1 := HJ.out.S.lt_b; have h2 := HJ.out.S.lt_c; have h3 := HJ.out.nF
        rintro (h | h | h)
        · omega
        · omega
        · exact h3 h
      have HNB : Hid (¬ (wr.heap.size = b ∨ wr.heap.size = c ∨ F wr.heap.size)) := hnb
      have hck : (wr.alloc (.cells #[.int .i64 kd, .int .i64 i, .int .i64 t, .slice a bs.length ccap] 35)).cell? ⟨wr.heap.size, 0, none⟩ = some (.int .i64 kd) := by rw [World.cell?_alloc_at _ _ _ _ rfl]; rfl
      have HCK : Hid ((wr.alloc (.cells #[.int .i64 kd, .int .i64 i, .int .i64 t, .slice a bs.length ccap] 35)).cell? ⟨wr.heap.size, 0, none⟩ = some (.int .i64 kd)) := hck
      clear hsrc hnb hck e0
      go_wp2_with fail
      refine (act_any HJ1.out kd i t a ccap bs hbl (HSr.out.keep ((Mod.refl _ wr).alloc _))).mono ?_
      rintro e w4 ⟨rfl, u4, D4, F4, J4, M4⟩
      have HJ4 : Hid (J w4 w.heap.size b c tb n u4 D4 F4) := J4
      have hck4 : w4.cell? ⟨wr.heap.size, 0, none⟩ = some (.int .i64 kd) := by rw [M4.cell (p := ⟨wr.heap.size, 0, none⟩) (block_lt_of_cell HCK.out) HNB.out]; exact HCK.out
      have HM4 : Hid (Mod (fun q => w.heap.size ≤ q) w w4) := (HM.out.alloc _).trans (M4.mono (fun q _ h => HJ.out.sB q h))
      clear J4 M4 HJ1 HJ HNB HCK HSr HM c0 c1 c2 c3
      by_cases hk4 : (kd == 4) = true
      · go_wp2_with fail
        refine HJ4.out.S.copy.mono ?_
        rintro e w5 ⟨b', c', rfl, S5, M5, hb', hc'⟩
        have HS5 : Hid (St w5 b' c' n u4 D4) := S5
        have HM5 : Hid (Mod (fun _ => False) w4 w5) := M5
        have HBC : Hid (w4.heap.size ≤ b' ∧ w4.heap.size ≤ c') := ⟨hb', hc'⟩
        obtain ⟨ob, co, yb, cy, R, hR⟩ := HJ4.out.R
        have HR5 : Hid (Rf w5 tb n u4 D4 F4 ob co yb cy R) := hR.mod M5 (fun _ _ h => h)
        obtain ⟨sv, src, hsv⟩ := (hR.mod M5 (fun _ _ h => h)).sources
        have HSV : Hid (∀ i, i < n → (w5.cell? ⟨yb, i, none⟩ = some (sv i) ∧ SrcAt w5 (sv i) (src i) ∧ (src i).length ≤ 64) ∧ (∀ x ∈ src i, x < 256) ∧ (u4 i = true → src i = blk D4 i)) := hsv
        clear S5 M5 hb' hc' hR hsv
        go_wp2_with fail
        refine (rcopy_any w5 tb n ob co yb cy u4 sv src hn1 hn2 HR5.out.on HR5.out.yn HR5.out.oc (fun i hi => (HSV.out i hi).1)).mono ?_
        rintro e w6 ⟨wr6, o0, g0, cg, v6, hCI, rfl, hM6⟩
        obtain ⟨gv, cgv, rfl⟩ : ∃ g cap, v6 = .slice (some ⟨g, 0, none⟩) n cap := by
          obtain ⟨vals, R, hCR⟩ := hCI.rows
          obtain ⟨g, cap, h, _⟩ := hCR.own.form hn1
          exact ⟨g, cap, h⟩
        have HCI : Hid (CI (w5.alloc (.cells #[.slice none 0 0, .slice none 0 0] 31)) wr6 n u4 src o0 g0 cg n (.slice (some ⟨gv, 0, none⟩) n cgv)) := hCI
        have HM6 : Hid (Mod (fun k => k = w5.heap.size) wr6 w6) := hM6
        clear hCI hM6
        have HM56 : Hid (Mod (fun _ => False) w5 (w6.alloc (.cells #[.slice (some ⟨g0, 0, none⟩) n cg, .slice (some ⟨gv, 0, none⟩) n cgv] 31))) := ((((Mod.refl (fun _ => False) w5).alloc _).trans HCI.out.mod).further2 HM6.out (fun i hi e => by have : i = w5.heap.size := e; omega)).alloc _
        go_wp2_with fail
        refine (turned_true (HJ4.out.S.mod (HM5.out.trans HM56.out) (fun h => h) (fun h => h) (fun h => h)) (HR5.out.mod HM56.out (fun _ _ h => h))).mono ?_
        rintro e w8 ⟨rfl, hM8⟩
        have HM8 : Hid (Mod (fun k => k = b ∨ k = c) (w6.alloc (.cells #[.slice (some ⟨g0, 0, none⟩) n cg, .slice (some ⟨gv, 0, none⟩) n cgv] 31)) w8) := hM8
        obtain ⟨F9, hJ9, hM9⟩ := HJ4.out.copied HS5.out HM5.out HBC.out.1 HBC.out.2 HCI.out (fun i hi => ⟨(HSV.out i hi).1.2.2, (HSV.out i hi).2.1, (HSV.out i hi).2.2⟩) HM6.out hM8
        have HJ9 : Hid (J ((w8.setCell ⟨tb, 0, none⟩ (.slice (some ⟨g0, 0, none⟩) n cg)).setCell ⟨tb, 1, none⟩ (.slice (some ⟨gv, 0, none⟩) n cgv)) w.heap.size b' c' tb n u4 D4 F9) := hJ9
        have HM9 : Hid (Mod (fun q => w.heap.size ≤ q) w ((w8.setCell ⟨tb, 0, none⟩ (.slice (some ⟨g0, 0, none⟩) n cg)).setCell ⟨tb, 1, none⟩ (.slice (some ⟨gv, 0, none⟩) n cgv))) := HM4.out.trans hM9
        have hR8 : Rf w8 tb n u4 D4 F4 ob co yb cy R := (HR5.out.mod HM56.out (fun _ _ h => h)).mod hM8 (fun q hq h => by
          rcases h with h | h
          · exact HJ4.out.nb (h ▸ hq)
          · exact HJ4.out.nc (h ▸ hq))
        have t0 := hR8.on
        have t1 := hR8.yn
        have tf : ∀ o, w8.frozen? ⟨tb, o, none⟩ = false := fun o => hR8.fz _ _ hR8.tF
        have hb6 : ¬ (w6.heap.size = b ∨ w6.heap.size = c) := by
          have h1 := HJ4.out.S.lt_b; have h2 := HJ4.out.S.lt_c; have h3 := HM5.out.size; have h4 := HM56.out.size
          simp at h4
          rintro (h | h)
          · have := HCI.out.mod.size; have := HM6.out.size; simp at *; omega
          · have := HCI.out.mod.size; have := HM6.out.size; simp at *; omega
        have l0 : w8.cell? ⟨w6.heap.size, 0, none⟩ = some (.slice (some ⟨g0, 0, none⟩) n cg) := by
          rw [hM8.cell (p := ⟨w6.heap.size, 0, none⟩) (by simp) hb6, World.cell?_alloc_at _ _ _ _ rfl]; rfl
        have l1 : w8.cell? ⟨w6.heap.size, 1, none⟩ = some (.slice (some ⟨gv, 0, none⟩) n cgv) := by
          rw [hM8.cell (p := ⟨w6.heap.size, 1, none⟩) (by simp) hb6, World.cell?_alloc_at _ _ _ _ rfl]; rfl
        clear hM8 hJ9 hM9 hR8 hb6 hck4
        go_wp2_with fail
        generalize (w8.setCell ⟨tb, 0, none⟩ (.slice (some ⟨g0, 0, none⟩) n cg)).setCell ⟨tb, 1, none⟩ (.slice (some ⟨gv, 0, none⟩) n cgv) = W9 at *
        clear HJ4 HM4 HM5 HS5 HBC HR5 HSV HCI HM6 HM56 HM8 t0 t1 tf l0 l1
        obtain ⟨ob', co', yb', cy', R', hR'⟩ := HJ9.out.R
        have HRR : Hid (Rf W9 tb n u4 D4 F9 ob' co' yb' cy' R') := hR'
        clear hR'
        refine HJ9.out.S.total.mono ?_
        rintro e w9 ⟨rfl, hw9⟩
        rw [hw9]
        clear hw9 w9
        go_wp2_with fail
        refine HJ9.out.S.left.mono ?_
        rintro e w9 ⟨rfl, hw9⟩
        rw [hw9]
        clear hw9 w9
        go_wp2_with fail
        refine (rleft_any _ tb n ob' co' u4 HRR.out.on hn2 HRR.out.oc).mono ?_
        rintro e w9 ⟨rfl, hw9⟩
        rw [hw9]
        clear hw9 w9
        go_wp2_with fail
        refine (used_any HJ9.out.S).mono ?_
        rintro e wu ⟨vu, rfl, hou, hmu⟩
        have HIu : Hid (IntsAt wu vu (usedL u4 n)) := ints_owned hou
        have HMu : Hid (Mod (fun _ => False) W9 wu) := hmu
        have HRu : Hid (Rf wu tb n u4 D4 F9 ob' co' yb' cy' R') := HRR.out.mod hmu (fun _ _ h => h)
        clear hou hmu
        go_wp2_with fail
        refine (rused_any wu tb n ob' co' u4 HRu.out.on hn2 HRu.out.oc (HRu.out.lt _ HRu.out.oF)).mono ?_
        rintro e wv ⟨vv, rfl, hov, hmv⟩
        have HIv : Hid (IntsAt wv vv (usedL u4 n)) := ints_owned hov
        have HMv : Hid (Mod (fun _ => False) wu wv) := hmv
        clear hov hmv
        go_wp2_with fail
        refine (ints_true wv vu vv (usedL u4 n) (Nat.le_trans (usedL_le u4 n) hn2) (HIu.out.keep HMv.out) HIv.out).mono ?_
        rintro e wz ⟨rfl, mz, hwz⟩
        have HMz : Hid (Mod (fun _ => False) W9 wz) := by show Mod _ _ _; rw [hwz]; exact ((HMu.out.trans HMv.out).drewN mz)
        clear hwz
        go_wp2_with fail
        exact ⟨⟨k + 1, b', c', u4, D4, F9, hlt, by go_num, rfl, HJ9.out.mod HMz.out, HM9.out.trans (HMz.out.mono (fun _ _ h => h.elim))⟩, by simp [intOf]; omega⟩
      · have hk4' : (kd == 4) = false := by simpa using hk4
        clear hk4
        go_wp2_with fail
        obtain ⟨ob', co', yb', cy', R', hR'⟩ := HJ4.out.R
        have HRR : Hid (Rf w4 tb n u4 D4 F4 ob' co' yb' cy' R') := hR'
        clear hR'
        refine HJ4.out.S.total.mono ?_
        rintro e w9 ⟨rfl, hw9⟩
        rw [hw9]
        clear hw9 w9
        go_wp2_with fail
        refine HJ4.out.S.left.mono ?_
        rintro e w9 ⟨rfl, hw9⟩
        rw [hw9]
        clear hw9 w9
        go_wp2_with fail
        refine (rleft_any _ tb n ob' co' u4 HRR.out.on hn2 HRR.out.oc).mono ?_
        rintro e w9 ⟨rfl, hw9⟩
        rw [hw9]
        clear hw9 w9
        go_wp2_with fail
        refine (used_any HJ4.out.S).mono ?_
        rintro e wu ⟨vu, rfl, hou, hmu⟩
        have HIu : Hid (IntsAt wu vu (usedL u4 n)) := ints_owned hou
        have HMu : Hid (Mod (fun _ => False) w4 wu) := hmu
        have HRu : Hid (Rf wu tb n u4 D4 F4 ob' co' yb' cy' R') := HRR.out.mod hmu (fun _ _ h => h)
        clear hou hmu
        go_wp2_with fail
        refine (rused_any wu tb n ob' co' u4 HRu.out.on hn2 HRu.out.oc (HRu.out.lt _ HRu.out.oF)).mono ?_
        rintro e wv ⟨vv, rfl, hov, hmv⟩
        have HIv : Hid (IntsAt wv vv (usedL u4 n)) := ints_owned hov
        have HMv : Hid (Mod (fun _ => False) wu wv) := hmv
        clear hov hmv
        go_wp2_with fail
        refine (ints_true wv vu vv (usedL u4 n) (Nat.le_trans (usedL_le u4 n) hn2) (HIu.out.keep HMv.out) HIv.out).mono ?_
        rintro e wz ⟨rfl, mz, hwz⟩
        have HMz : Hid (Mod (fun _ => False) w4 wz) := by show Mod _ _ _; rw [hwz]; exact ((HMu.out.trans HMv.out).drewN mz)
        clear hwz
        go_wp2_with fail
        exact ⟨⟨k + 1, b, c, u4, D4, F4, hlt, by go_num, rfl, HJ4.out.mod HMz.out, HM4.out.trans (HMz.out.mono (fun _ _ h => h.elim))⟩, by simp [intOf]; omega⟩
    · obtain rfl : k = len := by omega
      have HTr : Hid (TabIs wr) := HJ.out.S.tab
      go_wp2_with fail
      refine (lives_true wr HTr.out).mono ?_
      rintro e w5 ⟨rfl, hm⟩
      go_wp2_with fail
      go_ret
      have hB : Below w.heap.size w wr := HM.out.below (Nat.le_refl _) (fun q hq h => by omega)
      exact ⟨rfl, hB.trans (hm.below0.mono HM.out.size)⟩
end Go.Proofs.YtipdpifpblaldaaDoor
