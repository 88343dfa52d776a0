/- The walk of Read. Conditions: the table lies in memory as 'Tb' says. -/
import Derived.Test.YtpcbpikhiooafaaGreatDoorRd
import Derived.Test.YtpcbpikhiooafaaGreatDoorWr
namespace Go.Proofs.YtpcbpikhiooafaaGreatDoor
open Go.RowKit
theorem inf5i : ∃ i, Tryz.prog.info? 5 = some i ∧ i.zero = some (.int .u8 0) ∧ i.size = 1 ∧ i.bytes = 1 := info_of (by kernel_rfl)
theorem mk_bytes (n : Nat) (hn : n ≤ 140737488355328) (w : World) : (Instr.makeSlice 22 (.int .i64 n) (.int .i64 n)).run Tryz.prog w = .ok (.slice (some ⟨w.heap.size, 0, none⟩) n n) (w.alloc (.cells (madeCells #[.int .u8 0] n) 5)) := by
  obtain ⟨i, h1, h2, h3, h4⟩ := inf5i
  have := run_make (P := Tryz.prog) w 22 5 i _ und33 h1 h2 .i64 .i64 n n (by omega) (by omega) (by rw [h4]; omega) (by omega)
  rw [h3] at this
  simpa [Value.cells] using this
/-- While Read goes on: the first d bytes stand in the answer, the others are 0. -/
structure RdAt (u : Nat → Bool) (D : Nat → Nat) (R : Nat → Nat) (off m : Nat) (w w' : World) (d : Nat) : Prop where
  mod : Mod (fun _ => False) w w'
  lt : w.heap.size < w'.heap.size
  at_ : ∀ j, j < m → w'.cell? ⟨w.heap.size, j, none⟩ = some (.int .u8 ((if j < d then rd u D R (off + j) else 0 : Nat) : Nat))
  fr : ∀ o, w'.frozen? ⟨w.heap.size, o, none⟩ = false
section
variable {w w' w2 : World} {t q b c n N : Nat} {clk : Int} {F : Nat → Nat → Int} {R : Nat → Nat → Nat} {u : Nat → Bool} {D : Nat → Nat}
theorem RdAt.start (u : Nat → Bool) (D : Nat → Nat) (R : Nat → Nat) (off m : Nat) (w : World) : RdAt u D R off m w (w.alloc (.cells (madeCells #[.int .u8 0] m) 5)) 0 where
  mod := (Mod.refl _ w).alloc _
  lt := by simp
  at_ j hj := by
    rw [World.cell?_alloc_at _ _ _ _ rfl]
    simp only [madeCells, Array.getElem?_map]
    rw [Array.getElem?_eq_getElem (by simpa using hj)]
    simp [Nat.mod_one]
  fr o := World.frozen?_alloc_at _ _ _ _ rfl
theorem RdAt.there_ {R : Nat → Nat} {off m d : Nat} (h : RdAt u D R off m w w' d) (k p : Nat) (hk : k + p ≤ m) : w'.there w.heap.size k p := fun j hj => ⟨by rw [h.at_ (k + j) (by omega)]; rfl, h.fr _⟩
theorem RdAt.next {R : Nat → Nat} {off m d p : Nat} (h : RdAt u D R off m w w' d) (k : RP u D R (off + d) w.heap.size d p w' w2) (hp : d + p ≤ m) : RdAt u D R off m w w2 (d + p) where
  mod := ⟨k.mod.os.trans h.mod.os, k.mod.tape.trans h.mod.tape, k.mod.output.trans h.mod.output, Nat.le_trans h.mod.size k.mod.size, fun x hx _ => (k.mod.block x (Nat.lt_of_lt_of_le hx h.mod.size) (by show ¬ x = w.heap.size; omega)).trans (h.mod.block x hx (fun h => h))⟩
  lt := Nat.lt_of_lt_of_le h.lt k.mod.size
  at_ j hj := by
    by_cases h1 : j < d ∨ d + p ≤ j
    · rw [k.out j h1, h.at_ j hj]
      by_cases h2 : j < d
      · rw [if_pos h2, if_pos (by omega)]
      · rw [if_neg h2, if_neg (by omega)]
    · have := k.at_ (fun x hx => by rw [h.at_ (d + x) (by omega), if_neg (by omega)]; rfl) (j - d) (by omega)
      rw [show d + (j - d) = j by omega, show off + d + (j - d) = off + j by omega] at this
      rw [if_pos (by omega)]; exact this
  fr o := (k.fr o).trans (h.fr o)
set_option maxRecDepth 8000 in
set_option maxHeartbeats 4000000 in
theorem tread (T : Tb w t q b c n N clk F R u D) (i off k sz : Nat) (hi : i < N) (hz : F i 0 ≠ 0) (hs : F i 5 = (sz : Int)) (ho : off < sz) (hk : k < 9223372036854775808) (m : Nat) (hm : m = min k (sz - off)) :
    Calls Tryz.prog 114 #[.pointer (some ⟨t, 0, none⟩), .int .i64 ((i : Int) + 1), .int .i64 off, .int .i64 k] w fun e w' => e = .returned (.tuple #[.slice (some ⟨w.heap.size, 0, none⟩) m m, .int .i64 0]) ∧ RdAt u D (R i) off m w w' m := by
  have HT : Hid (Tb w t q b c n N clk F R u D) := T
  have HZ : Hid (F i 0 ≠ 0) := hz
  have h5 := T.cf i 5 hi (by omega)
  rw [hs] at h5
  have hszl := (T.sz i).2
  rw [hs] at hszl
  have HSZ : Hid (sz ≤ 17792 ∧ off + m ≤ sz) := ⟨by omega, by omega⟩
  have hml : m ≤ 17792 := by omega
  have hmk := mk_bytes m (by omega)
  have hol : off < 17792 := by omega
  have hszb : sz ≤ 17792 := by omega
  have hso : ¬ sz ≤ off := by omega
  clear T hz hs hszl
  by_cases hA : (k : Int) < (sz : Int) - off
  · obtain rfl : m = k := by omega
    clear hm
    have hmin1 : min (m : Int) ((sz : Int) - off) = m := by omega
    go_enter Tryz.func114, Tryz.ntmps114
    go_wp2_with (first | (go_at_call 37; refine (find_ok HT.out i hi HZ.out).mono ?_; rintro e w1 ⟨rfl, hw1⟩; rw [hw1]; clear hw1 w1))
    all_goals try (exfalso; omega)
    go_loopw [13] (fun x wx => ∃ d : Nat, d ≤ m ∧ x = .int .i64 d ∧ Hid (RdAt u D (R i) off m w wx d)) (fun x _ => m - (intOf x).toNat)
    case atStart => exact ⟨0, Nat.zero_le _, rfl, RdAt.start u D (R i) off m w⟩
    case round =>
      obtain ⟨d, hd, rfl, HI⟩ := hrel
      by_cases hlt : d < m
      · have HA : Hid ((off : Int) + d = ((off + d : Nat) : Int)) := rfl
        have HTr : Hid (Tb wr t q b c n N clk F R u D) := HT.out.new HI.out.mod
        go_wp2_with (first | (go_at_call 105; rw [HA.out]; refine (inPlace_any2 (off + d) (m - d) _ (by omega)).mono ?_; rintro e w3 ⟨p, rfl, HM, hm1, hm2, HM64, HMp, hw3⟩; rw [hw3]; clear hw3 w3) | (go_at_call 134; rw [HA.out]; refine (rplace HTr.out i (off + d) w.heap.size d p _ hi (by have := HSZ.out; omega) HM64.out (HI.out.there_ d p (by omega)) HI.out.lt).mono ?_; rintro e w4 ⟨rfl, H4⟩; have HI4 : Hid (RdAt u D (R i) off m w w4 (d + p)) := HI.out.next H4 (by omega); clear H4))
        have hmp : 0 < p := HMp.out (by omega)
        first | exact ⟨⟨d + p, by omega, by go_num, HI4⟩, by simp [intOf]; omega⟩ | (refine ⟨?_, by simp [intOf]; omega⟩; (repeat apply Exists.intro); refine ⟨?rel, ?act⟩; case act => rfl; case rel => exact ⟨d + p, by omega, by go_num, HI4⟩)
      · obtain rfl : d = m := by omega
        go_wp2
        go_ret2
        exact ⟨by simp, HI.out⟩
  · have hv : (sz : Int) - off = (m : Int) := by omega
    have hv2 : wrap64 ((sz : Int) - off) = (m : Int) := by rw [hv]; unfold wrap64; omega
    have hB : m ≤ k := by omega
    clear hA hm
    by_cases hC : m < k
    · clear hB
      have hmin2 : min (k : Int) (m : Int) = m := by omega
      go_enter Tryz.func114, Tryz.ntmps114
      go_wp2_with (first | (go_at_call 37; refine (find_ok HT.out i hi HZ.out).mono ?_; rintro e w1 ⟨rfl, hw1⟩; rw [hw1]; clear hw1 w1))
      all_goals try (exfalso; omega)
      go_loopw [13] (fun x wx => ∃ d : Nat, d ≤ m ∧ x = .int .i64 d ∧ Hid (RdAt u D (R i) off m w wx d)) (fun x _ => m - (intOf x).toNat)
      case atStart => exact ⟨0, Nat.zero_le _, rfl, RdAt.start u D (R i) off m w⟩
      case round =>
        obtain ⟨d, hd, rfl, HI⟩ := hrel
        by_cases hlt : d < m
        · have HA : Hid ((off : Int) + d = ((off + d : Nat) : Int)) := rfl
          have HTr : Hid (Tb wr t q b c n N clk F R u D) := HT.out.new HI.out.mod
          go_wp2_with (first | (go_at_call 105; rw [HA.out]; refine (inPlace_any2 (off + d) (m - d) _ (by omega)).mono ?_; rintro e w3 ⟨p, rfl, HM, hm1, hm2, HM64, HMp, hw3⟩; rw [hw3]; clear hw3 w3) | (go_at_call 134; rw [HA.out]; refine (rplace HTr.out i (off + d) w.heap.size d p _ hi (by have := HSZ.out; omega) HM64.out (HI.out.there_ d p (by omega)) HI.out.lt).mono ?_; rintro e w4 ⟨rfl, H4⟩; have HI4 : Hid (RdAt u D (R i) off m w w4 (d + p)) := HI.out.next H4 (by omega); clear H4))
          have hmp : 0 < p := HMp.out (by omega)
          first | exact ⟨⟨d + p, by omega, by go_num, HI4⟩, by simp [intOf]; omega⟩ | (refine ⟨?_, by simp [intOf]; omega⟩; (repeat apply Exists.intro); refine ⟨?rel, ?act⟩; case act => rfl; case rel => exact ⟨d + p, by omega, by go_num, HI4⟩)
        · obtain rfl : d = m := by omega
          go_wp2
          go_ret2
          exact ⟨by simp, HI.out⟩
    · obtain rfl : k = m := by omega
      clear hB hC
      go_enter Tryz.func114, Tryz.ntmps114
      go_wp2_with (first | (go_at_call 37; refine (find_ok HT.out i hi HZ.out).mono ?_; rintro e w1 ⟨rfl, hw1⟩; rw [hw1]; clear hw1 w1))
      all_goals try (exfalso; omega)
      go_loopw [13] (fun x wx => ∃ d : Nat, d ≤ k ∧ x = .int .i64 d ∧ Hid (RdAt u D (R i) off k w wx d)) (fun x _ => k - (intOf x).toNat)
      case atStart => exact ⟨0, Nat.zero_le _, rfl, RdAt.start u D (R i) off k w⟩
      case round =>
        obtain ⟨d, hd, rfl, HI⟩ := hrel
        by_cases hlt : d < k
        · have HA : Hid ((off : Int) + d = ((off + d : Nat) : Int)) := rfl
          have HTr : Hid (Tb wr t q b c n N clk F R u D) := HT.out.new HI.out.mod
          go_wp2_with (first | (go_at_call 105; rw [HA.out]; refine (inPlace_any2 (off + d) (k - d) _ (by omega)).mono ?_; rintro e w3 ⟨p, rfl, HM, hm1, hm2, HM64, HMp, hw3⟩; rw [hw3]; clear hw3 w3) | (go_at_call 134; rw [HA.out]; refine (rplace HTr.out i (off + d) w.heap.size d p _ hi (by have := HSZ.out; omega) HM64.out (HI.out.there_ d p (by omega)) HI.out.lt).mono ?_; rintro e w4 ⟨rfl, H4⟩; have HI4 : Hid (RdAt u D (R i) off k w w4 (d + p)) := HI.out.next H4 (by omega); clear H4))
          have hmp : 0 < p := HMp.out (by omega)
          first | exact ⟨⟨d + p, by omega, by go_num, HI4⟩, by simp [intOf]; omega⟩ | (refine ⟨?_, by simp [intOf]; omega⟩; (repeat apply Exists.intro); refine ⟨?rel, ?act⟩; case act => rfl; case rel => exact ⟨d + p, by omega, by go_num, HI4⟩)
        · obtain rfl : d = k := by omega
          go_wp2
          go_ret2
          exact ⟨by simp, HI.out⟩
end
end Go.Proofs.YtpcbpikhiooafaaGreatDoor
