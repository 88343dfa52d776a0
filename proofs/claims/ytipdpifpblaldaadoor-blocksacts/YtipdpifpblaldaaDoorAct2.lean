/- The walk of act at Read: both answer the same bytes, whatever is done with an answer. -/
import Derived.Test.YtipdpifpblaldaaDoorAct1
namespace Go.Proofs.YtipdpifpblaldaaDoor
open Go.RowKit
theorem bytes_nil (w : World) : BytesAt w (.slice none 0 0) [] := ⟨fun x hx => (by cases hx), none, 0, rfl, fun _ => rfl, fun ad h => (by cases h)⟩
section
variable {w : World} {B0 b c tb n : Nat} {u : Nat → Bool} {D : Nat → Nat} {F : Nat → Prop}
set_option maxHeartbeats 1000000 in
theorem act_read_not (j : J w B0 b c tb n u D F) (i t : Int) (v : Value) (hu : Unfit n u i) : Calls Tryd.prog 10 #[.pointer (some ⟨b, 0, none⟩), .pointer (some ⟨tb, 0, none⟩), .agg #[.int .i64 2, .int .i64 i, .int .i64 t, v]] w (ActOk B0 b c tb n F w) := by
  have HJ : Hid (J (w.alloc (.cells #[.int .i64 2, .int .i64 i, .int .i64 t, v] 35)) B0 b c tb n u D F) := j.mod ((Mod.refl _ w).alloc _)
  have HU : Hid (Unfit n u i) := hu
  clear j hu
  obtain ⟨ob, co, yb, cy, R, hR⟩ := HJ.out.R
  have HR : Hid (Rf (w.alloc (.cells #[.int .i64 2, .int .i64 i, .int .i64 t, v] 35)) tb n u D F ob co yb cy R) := hR
  clear hR
  go_enter Tryd.func10, Tryd.ntmps10
  go_wp2_with fail
  refine (HJ.out.S.read_not i HU.out).mono ?_
  rintro e w1 ⟨rfl, m, rfl⟩
  go_wp2_with fail
  refine (rread_out _ tb i ((HR.out.same (by rfl)).is_not i HU.out)).mono ?_
  rintro e w1 ⟨rfl, rfl⟩
  go_wp2_with fail
  go_loop [71] (fun x => x = .int .i64 0) (fun _ => 0)
  case atStart => rfl
  case round =>
    obtain rfl := hrel
    go_wp2_with fail
    refine ((HJ.out.S.same (by rfl)).read_not i HU.out).mono ?_
    rintro e w1 ⟨rfl, m', rfl⟩
    go_wp2_with fail
    refine (same_true (bytes_nil _) (bytes_nil _)).mono ?_
    rintro e w1 ⟨rfl, rfl⟩
    go_wp2_with fail
    go_ret
    exact ⟨by simp, u, D, F, HJ.out.mod ((Mod.refl _ _).drewN _), ((Mod.refl _ w).alloc _).drewN _⟩
theorem read_own {w : World} {ob co yb cy : Nat} {R : Nat → Nat} (S : Rf w tb n u D F ob co yb cy R) (i : Nat) (hi : i < n) (hu : u i = true) (hd : ∀ x ∈ blk D i, x < 256) : Calls Tryd.prog 28 #[.pointer (some ⟨tb, 0, none⟩), .int .i64 i] w fun e w' => ∃ g cap, e = .returned (.tuple #[.slice (some ⟨g, 0, none⟩) 64 cap, .int .i64 0]) ∧ BytesAt w' (.slice (some ⟨g, 0, none⟩) 64 cap) (blk D i) ∧ w.heap.size ≤ g ∧ Mod (fun _ => False) w w' := by
  obtain ⟨_, _, _, _, ⟨C, r5⟩, r6, _⟩ := S.used_row i hi hu
  refine (rread_in w tb n ob co yb cy i (R i) C (blk D i) S.on S.yn hi (by rw [S.oc i hi, hu]) (by rw [len_blk]; exact r5) (by rw [len_blk]; exact Nat.le_refl _) r6).mono fun e w' ⟨v, he, ho, hm⟩ => ?_
  obtain ⟨g, cap, rfl, hg, _⟩ := ho.form (by rw [len_blk]; omega)
  have hr := rowIs_owned ho
  rw [len_blk] at he
  refine ⟨g, cap, he, ⟨hd, some ⟨g, 0, none⟩, cap, by rw [len_blk], fun h => (by cases h), fun ad ha j x hx => ?_⟩, hg, hm⟩
  cases ha
  rw [show (⟨g, 0, none⟩ : Addr).add j = ⟨g, j, none⟩ by unfold Addr.add; split <;> simp_all]
  exact hr.cell j _ (by rw [List.getElem?_map, hx]; rfl)
theorem BytesAt.far {w w' : World} {s : Nat → Prop} {g k cap : Nat} {l : List Nat} (h : BytesAt w (.slice (some ⟨g, 0, none⟩) k cap) l) (m : Mod s w w') (hg : ¬ s g) : BytesAt w' (.slice (some ⟨g, 0, none⟩) k cap) l := by
  obtain ⟨h1, a, cap', h2, h3, h4⟩ := h
  cases h2
  refine ⟨h1, _, _, rfl, h3, fun ad ha j x hj => ?_⟩
  have := h4 ad ha j x hj
  cases ha
  rw [m.cell (block_lt_of_cell this) (by rw [add_block]; exact hg)]; exact this
set_option maxHeartbeats 1000000 in
theorem act_read_ok (j : J w B0 b c tb n u D F) (i : Nat) (t : Int) (v : Value) (hi : i < n) (hu : u i = true) : Calls Tryd.prog 10 #[.pointer (some ⟨b, 0, none⟩), .pointer (some ⟨tb, 0, none⟩), .agg #[.int .i64 2, .int .i64 i, .int .i64 t, v]] w (ActOk B0 b c tb n F w) := by
  have hc1 : (w.alloc (.cells #[.int .i64 2, .int .i64 i, .int .i64 t, v] 35)).cell? ⟨w.heap.size, 1, none⟩ = some (.int .i64 i) := by rw [World.cell?_alloc_at _ _ _ _ rfl]; rfl
  have hJ : J (w.alloc (.cells #[.int .i64 2, .int .i64 i, .int .i64 t, v] 35)) B0 b c tb n u D F := j.mod ((Mod.refl _ w).alloc _)
  have HU : Hid (u i = true) := hu
  have HM0 : Hid (Mod (fun k => k = b ∨ k = c ∨ F k) w (w.alloc (.cells #[.int .i64 2, .int .i64 i, .int .i64 t, v] 35))) := (Mod.refl _ w).alloc _
  have HD : Hid (∀ x ∈ blk D i, x < 256) := blk_lt j.S.dl i
  clear hu j
  go_enter Tryd.func10, Tryd.ntmps10
  go_wp2_with fail
  generalize w.alloc (.cells #[.int .i64 2, .int .i64 i, .int .i64 t, v] 35) = w0 at *
  have HJ : Hid (J w0 B0 b c tb n u D F) := hJ
  have HC : Hid (w0.cell? ⟨w.heap.size, 1, none⟩ = some (.int .i64 i)) := hc1
  have hnF := hJ.nF
  clear hJ hc1
  refine (HJ.out.S.read_ok i hi HU.out).mono ?_
  rintro e w1 ⟨rfl, m, hw1⟩
  have HM1 : Hid (Mod (fun _ => False) w0 w1) := by show Mod _ _ _; rw [hw1]; exact ((Mod.refl _ w0).alloc _).drewN m
  have HX1 : Hid (∀ q, q < 64 → ∃ x : Int, w1.cell? ⟨w0.heap.size, q, none⟩ = some (.int .u8 x)) := fun q hq => by
    refine ⟨(D (i * 64 + q) : Nat), ?_⟩
    rw [hw1]
    show (w0.alloc (.cells ((blk D i).map byteV).toArray 73)).cell? _ = _
    rw [World.cell?_alloc_at _ _ _ _ rfl]
    simp [blk, List.getElem?_map, List.getElem?_range hq, byteV]
  have HF1 : Hid (∀ q, w1.frozen? ⟨w0.heap.size, q, none⟩ = false) := fun q => by
    rw [hw1]; exact World.frozen?_alloc_at _ _ _ _ rfl
  have hs1 : w0.heap.size < w1.heap.size := by rw [hw1]; simp
  clear hw1
  obtain ⟨ob, co, yb, cy, R, hR⟩ := (HJ.out.mod HM1.out).R
  have HR1 : Hid (Rf w1 tb n u D F ob co yb cy R) := hR
  clear hR
  have hc2 : w1.cell? ⟨w.heap.size, 1, none⟩ = some (.int .i64 i) := by rw [HM1.out.cell (p := ⟨w.heap.size, 1, none⟩) (block_lt_of_cell HC.out) (fun h => h)]; exact HC.out
  go_wp2_with fail
  refine (read_own HR1.out i hi HU.out HD.out).mono ?_
  rintro e w2 ⟨g, cap, rfl, hB, hg, hM⟩
  have HB2 : Hid (BytesAt w2 (.slice (some ⟨g, 0, none⟩) 64 cap) (blk D i)) := hB
  have HG : Hid (w1.heap.size ≤ g) := hg
  have HM2 : Hid (Mod (fun _ => False) w1 w2) := hM
  have hc3 : w2.cell? ⟨w.heap.size, 1, none⟩ = some (.int .i64 i) := by rw [hM.cell (p := ⟨w.heap.size, 1, none⟩) (block_lt_of_cell hc2) (fun h => h)]; exact hc2
  clear hB hg hM hc2
  have HX2 : Hid (∀ q, q < 64 → ∃ x : Int, w2.cell? ⟨w0.heap.size, q, none⟩ = some (.int .u8 x)) := fun q hq => by
    obtain ⟨x, hx⟩ := HX1.out q hq
    exact ⟨x, by rw [HM2.out.cell (p := ⟨w0.heap.size, q, none⟩) hs1 (fun h => h)]; exact hx⟩
  have HF2 : Hid (∀ q, w2.frozen? ⟨w0.heap.size, q, none⟩ = false) := fun q => by rw [HM2.out.frozen (p := ⟨w0.heap.size, q, none⟩) hs1 (fun h => h)]; exact HF1.out q
  have hlt0 : w.heap.size < w0.heap.size := block_lt_of_cell HC.out
  have HJ2 : Hid (J w2 B0 b c tb n u D F) := (HJ.out.mod HM1.out).mod HM2.out
  have HM02 : Hid (Mod (fun k => k = b ∨ k = c ∨ F k) w w2) := (HM0.out.trans (HM1.out.mono (fun _ _ h => h.elim))).trans (HM2.out.mono (fun _ _ h => h.elim))
  have hlb := HJ.out.S.lt_b
  have hlc := HJ.out.S.lt_c
  generalize w0.heap.size = hb at *
  clear HX1 HF1 HM1 HM2 HM0 HJ HC HR1
  go_wp2_with fail
  go_loopw [71] (fun x wr => ∃ k : Nat, k ≤ 64 ∧ x = .int .i64 k ∧ Hid (∀ q, q < 64 → ∃ x : Int, wr.cell? ⟨hb, q, none⟩ = some (.int .u8 x)) ∧ Hid (∀ q, wr.frozen? ⟨hb, q, none⟩ = false) ∧ Hid (Mod (fun q => q = hb) w2 wr)) (fun x _ => 64 - (intOf x).toNat)
  case atStart => exact ⟨0, by omega, rfl, HX2, HF2, Mod.refl _ _⟩
  case round =>
    clear HX2 HF2
    obtain ⟨k, hk, rfl, HX, HF, HM⟩ := hrel
    by_cases hlt : k < 64
    · obtain ⟨x, hx⟩ := HX.out k hlt
      have hf := HF.out k
      have hlt' : (k : Int) < 64 := by omega
      go_wp2
      refine ⟨⟨k + 1, hlt, by go_num, fun q hq => ?_, fun q => by rw [setCell_frozen]; exact HF.out q, HM.out.setCell _ _ rfl⟩, by simp [intOf]; omega⟩
      by_cases e : q = k
      · subst e; exact ⟨_, setCell_in _ _ _ _ _ hx⟩
      · obtain ⟨y, hy⟩ := HX.out q hq
        exact ⟨y, by rw [setCell_out _ _ _ _ _ (fun _ => e)]; exact hy⟩
    · obtain rfl : k = 64 := by omega
      have hc4 : wr.cell? ⟨w.heap.size, 1, none⟩ = some (.int .i64 i) := by rw [HM.out.cell (p := ⟨w.heap.size, 1, none⟩) (block_lt_of_cell hc3) (by show ¬ w.heap.size = hb; omega)]; exact hc3
      have HS : Hid (St wr b c n u D) := HJ2.out.S.mod HM.out (by show ¬ 0 = hb; omega) (by show ¬ b = hb; omega) (by show ¬ c = hb; omega)
      obtain ⟨ob', co', yb', cy', R', hR'⟩ := HJ2.out.R
      have HR : Hid (Rf wr tb n u D F ob' co' yb' cy' R') := hR'.mod HM.out (fun q hq e => hnF (e ▸ hq))
      have HBr : Hid (BytesAt wr (.slice (some ⟨g, 0, none⟩) 64 cap) (blk D i)) := HB2.out.far HM.out (by show ¬ g = hb; have := HG.out; omega)
      clear hR'
      go_wp2_with fail
      refine (HS.out.read_ok i hi HU.out).mono ?_
      rintro e w5 ⟨rfl, m5, hw5⟩
      have HM5 : Hid (Mod (fun _ => False) wr w5) := by show Mod _ _ _; rw [hw5]; exact ((Mod.refl _ wr).alloc _).drewN m5
      have HB5 : Hid (BytesAt w5 (.slice (some ⟨wr.heap.size, 0, none⟩) 64 64) (blk D i)) := by
        have := BytesAt.new (w := wr) 73 64 64 m5 HD.out (by rw [len_blk]; exact Nat.le_refl _)
        rw [show (blk D i).take 64 = blk D i from List.take_of_length_le (by rw [len_blk]; exact Nat.le_refl _)] at this
        show BytesAt _ _ _; rw [hw5]; exact this
      clear hw5
      go_wp2_with fail
      refine (same_true HB5.out (HBr.out.keep HM5.out)).mono ?_
      rintro e w6 ⟨rfl, hw6⟩
      rw [hw6]
      clear hw6 w6
      go_wp2_with fail
      go_ret
      have hJr : J wr B0 b c tb n u D F := ⟨HS.out, ⟨_, _, _, _, _, HR.out⟩, HJ2.out.nb, HJ2.out.nc, HJ2.out.fB, HJ2.out.bB, HJ2.out.cB, Nat.le_trans HJ2.out.BB HM.out.size⟩
      exact ⟨by simp, u, D, F, hJr.mod HM5.out, (HM02.out.further2 HM.out (fun q hq e => by have : q = hb := e; omega)).trans (HM5.out.mono (fun _ _ h => h.elim))⟩
end
end Go.Proofs.YtipdpifpblaldaaDoor
