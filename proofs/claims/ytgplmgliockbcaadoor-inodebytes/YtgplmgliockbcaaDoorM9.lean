/- Several texts of this claim, one behind the other, in their order. -/
import Derived.Test.YtgplmgliockbcaaDoorRd
import Derived.Test.YtgplmgliockbcaaDoorWr
import Derived.Test.YtgplmgliockbcaaDoorSt
import Derived.Laws.BytesString
import Derived.Test.YtgplmgliockbcaaDoorWr2
import Derived.Lib.SlBytesConst
/- The walk of Read. Conditions: the table lies in memory as 'Tb' says. -/
namespace Go.Proofs.YtgplmgliockbcaaDoor
open Go.RowKit
theorem inf5i : ∃ i, Tryd.prog.info? 5 = some i ∧ i.zero = some (.int .u8 0) ∧ i.size = 1 ∧ i.bytes = 1 := info_of (by kernel_rfl)
theorem mk_bytes (n : Nat) (hn : n ≤ 140737488355328) (w : World) : (Instr.makeSlice 37 (.int .i64 n) (.int .i64 n)).run Tryd.prog w = .ok (.slice (some ⟨w.heap.size, 0, none⟩) n n) (w.alloc (.cells (madeCells #[.int .u8 0] n) 5)) := by
  obtain ⟨i, h1, h2, h3, h4⟩ := inf5i
  have := run_make (P := Tryd.prog) w 37 5 i _ und33 h1 h2 .i64 .i64 n n (by omega) (by omega) (by rw [h4]; omega) (by omega)
  rw [h3] at this
  simpa [Value.cells] using this
/-- While Read goes on: the first d bytes stand in the answer, the others are 0. -/
structure RdAt (u : Nat → Bool) (D : Nat → Nat) (R : Nat → Nat) (off m : Nat) (w w' : World) (d : Nat) : Prop where
  mod : Mod (fun _ => False) w w'
  lt : w.heap.size < w'.heap.size
  at_ : ∀ j, j < m → w'.cell? ⟨w.heap.size, j, none⟩ = some (.int .u8 ((if j < d then rd u D R (off + j) else 0 : Nat) : Nat))
  fr : ∀ o, w'.frozen? ⟨w.heap.size, o, none⟩ = false
section
variable {w w' w2 : World} {t q b c n N : Nat} {clk : Int} {F : Nat → Nat → Int} {R : Nat → Nat → Nat} {u : Nat → Bool} {D : Nat → Nat}
theorem RdAt.start (u : Nat → Bool) (D : Nat → Nat) (R : Nat → Nat) (off m : Nat) (w : World) : RdAt u D R off m w (w.alloc (.cells (madeCells #[.int .u8 0] m) 5)) 0 where
  mod := (Mod.refl _ w).alloc _
  lt := by simp
  at_ j hj := by
    rw [World.cell?_alloc_at _ _ _ _ rfl]
    simp only [madeCells, Array.getElem?_map]
    rw [Array.getElem?_eq_getElem (by simpa using hj)]
    simp [Nat.mod_one]
  fr o := World.frozen?_alloc_at _ _ _ _ rfl
theorem RdAt.there_ {R : Nat → Nat} {off m d : Nat} (h : RdAt u D R off m w w' d) (k p : Nat) (hk : k + p ≤ m) : w'.there w.heap.size k p := fun j hj => ⟨by rw [h.at_ (k + j) (by omega)]; rfl, h.fr _⟩
theorem RdAt.next {R : Nat → Nat} {off m d p : Nat} (h : RdAt u D R off m w w' d) (k : RP u D R (off + d) w.heap.size d p w' w2) (hp : d + p ≤ m) : RdAt u D R off m w w2 (d + p) where
  mod := ⟨k.mod.os.trans h.mod.os, k.mod.tape.trans h.mod.tape, k.mod.output.trans h.mod.output, Nat.le_trans h.mod.size k.mod.size, fun x hx _ => (k.mod.block x (Nat.lt_of_lt_of_le hx h.mod.size) (by show ¬ x = w.heap.size; omega)).trans (h.mod.block x hx (fun h => h))⟩
  lt := Nat.lt_of_lt_of_le h.lt k.mod.size
  at_ j hj := by
    by_cases h1 : j < d ∨ d + p ≤ j
    · rw [k.out j h1, h.at_ j hj]
      by_cases h2 : j < d
      · rw [if_pos h2, if_pos (by omega)]
      · rw [if_neg h2, if_neg (by omega)]
    · have := k.at_ (fun x hx => by rw [h.at_ (d + x) (by omega), if_neg (by omega)]; rfl) (j - d) (by omega)
      rw [show d + (j - d) = j by omega, show off + d + (j - d) = off + j by omega] at this
      rw [if_pos (by omega)]; exact this
  fr o := (k.fr o).trans (h.fr o)
set_option maxRecDepth 8000 in
set_option maxHeartbeats 4000000 in
theorem tread (T : Tb w t q b c n N clk F R u D) (i off k sz : Nat) (hi : i < N) (hz : F i 0 ≠ 0) (hs : F i 5 = (sz : Int)) (ho : off < sz) (hk : k < 9223372036854775808) (m : Nat) (hm : m = min k (sz - off)) :
    Calls Tryd.prog 17 #[.pointer (some ⟨t, 0, none⟩), .int .i64 ((i : Int) + 1), .int .i64 off, .int .i64 k] w fun e w' => e = .returned (.tuple #[.slice (some ⟨w.heap.size, 0, none⟩) m m, .int .i64 0]) ∧ RdAt u D (R i) off m w w' m := by
  have HT : Hid (Tb w t q b c n N clk F R u D) := T
  have HZ : Hid (F i 0 ≠ 0) := hz
  have h5 := T.cf i 5 hi (by omega)
  rw [hs] at h5
  have hszl := (T.sz i).2
  rw [hs] at hszl
  have HSZ : Hid (sz ≤ 17792 ∧ off + m ≤ sz) := ⟨by omega, by omega⟩
  have hml : m ≤ 17792 := by omega
  have hmk := mk_bytes m (by omega)
  have hol : off < 17792 := by omega
  have hszb : sz ≤ 17792 := by omega
  have hso : ¬ sz ≤ off := by omega
  clear T hz hs hszl
  by_cases hA : (k : Int) < (sz : Int) - off
  · obtain rfl : m = k := by omega
    clear hm
    go_enter Tryd.func17, Tryd.ntmps17
    go_wp2_with (first | (go_at_call 41; refine (find_ok HT.out i hi HZ.out).mono ?_; rintro e w1 ⟨rfl, hw1⟩; rw [hw1]; clear hw1 w1))
    all_goals try (exfalso; omega)
    go_loopw [13] (fun x wx => ∃ d : Nat, d ≤ m ∧ x = .int .i64 d ∧ Hid (RdAt u D (R i) off m w wx d)) (fun x _ => m - (intOf x).toNat)
    case atStart => exact ⟨0, Nat.zero_le _, rfl, RdAt.start u D (R i) off m w⟩
    case round =>
      obtain ⟨d, hd, rfl, HI⟩ := hrel
      by_cases hlt : d < m
      · have HA : Hid ((off : Int) + d = ((off + d : Nat) : Int)) := rfl
        have HTr : Hid (Tb wr t q b c n N clk F R u D) := HT.out.new HI.out.mod
        go_wp2_with (first | (go_at_call 42; rw [HA.out]; refine (inPlace_any2 (off + d) (m - d) _ (by omega)).mono ?_; rintro e w3 ⟨p, rfl, HM, hm1, hm2, HM64, HMp, hw3⟩; rw [hw3]; clear hw3 w3) | (go_at_call 43; rw [HA.out]; refine (rplace HTr.out i (off + d) w.heap.size d p _ hi (by have := HSZ.out; omega) HM64.out (HI.out.there_ d p (by omega)) HI.out.lt).mono ?_; rintro e w4 ⟨rfl, H4⟩; have HI4 : Hid (RdAt u D (R i) off m w w4 (d + p)) := HI.out.next H4 (by omega); clear H4))
        have hmp : 0 < p := HMp.out (by omega)
        first | exact ⟨⟨d + p, by omega, by go_num, HI4⟩, by simp [intOf]; omega⟩ | (refine ⟨?_, by simp [intOf]; omega⟩; (repeat apply Exists.intro); refine ⟨?rel, ?act⟩; case act => rfl; case rel => exact ⟨d + p, by omega, by go_num, HI4⟩)
      · obtain rfl : d = m := by omega
        go_wp2
        go_ret2
        exact ⟨by simp, HI.out⟩
  · have hv : (sz : Int) - off = (m : Int) := by omega
    have hv2 : wrap64 ((sz : Int) - off) = (m : Int) := by rw [hv]; unfold wrap64; omega
    have hB : m ≤ k := by omega
    clear hA hm
    by_cases hC : m < k
    · clear hB
      go_enter Tryd.func17, Tryd.ntmps17
      go_wp2_with (first | (go_at_call 41; refine (find_ok HT.out i hi HZ.out).mono ?_; rintro e w1 ⟨rfl, hw1⟩; rw [hw1]; clear hw1 w1))
      all_goals try (exfalso; omega)
      go_loopw [13] (fun x wx => ∃ d : Nat, d ≤ m ∧ x = .int .i64 d ∧ Hid (RdAt u D (R i) off m w wx d)) (fun x _ => m - (intOf x).toNat)
      case atStart => exact ⟨0, Nat.zero_le _, rfl, RdAt.start u D (R i) off m w⟩
      case round =>
        obtain ⟨d, hd, rfl, HI⟩ := hrel
        by_cases hlt : d < m
        · have HA : Hid ((off : Int) + d = ((off + d : Nat) : Int)) := rfl
          have HTr : Hid (Tb wr t q b c n N clk F R u D) := HT.out.new HI.out.mod
          go_wp2_with (first | (go_at_call 42; rw [HA.out]; refine (inPlace_any2 (off + d) (m - d) _ (by omega)).mono ?_; rintro e w3 ⟨p, rfl, HM, hm1, hm2, HM64, HMp, hw3⟩; rw [hw3]; clear hw3 w3) | (go_at_call 43; rw [HA.out]; refine (rplace HTr.out i (off + d) w.heap.size d p _ hi (by have := HSZ.out; omega) HM64.out (HI.out.there_ d p (by omega)) HI.out.lt).mono ?_; rintro e w4 ⟨rfl, H4⟩; have HI4 : Hid (RdAt u D (R i) off m w w4 (d + p)) := HI.out.next H4 (by omega); clear H4))
          have hmp : 0 < p := HMp.out (by omega)
          first | exact ⟨⟨d + p, by omega, by go_num, HI4⟩, by simp [intOf]; omega⟩ | (refine ⟨?_, by simp [intOf]; omega⟩; (repeat apply Exists.intro); refine ⟨?rel, ?act⟩; case act => rfl; case rel => exact ⟨d + p, by omega, by go_num, HI4⟩)
        · obtain rfl : d = m := by omega
          go_wp2
          go_ret2
          exact ⟨by simp, HI.out⟩
    · obtain rfl : k = m := by omega
      clear hB hC
      go_enter Tryd.func17, Tryd.ntmps17
      go_wp2_with (first | (go_at_call 41; refine (find_ok HT.out i hi HZ.out).mono ?_; rintro e w1 ⟨rfl, hw1⟩; rw [hw1]; clear hw1 w1))
      all_goals try (exfalso; omega)
      go_loopw [13] (fun x wx => ∃ d : Nat, d ≤ k ∧ x = .int .i64 d ∧ Hid (RdAt u D (R i) off k w wx d)) (fun x _ => k - (intOf x).toNat)
      case atStart => exact ⟨0, Nat.zero_le _, rfl, RdAt.start u D (R i) off k w⟩
      case round =>
        obtain ⟨d, hd, rfl, HI⟩ := hrel
        by_cases hlt : d < k
        · have HA : Hid ((off : Int) + d = ((off + d : Nat) : Int)) := rfl
          have HTr : Hid (Tb wr t q b c n N clk F R u D) := HT.out.new HI.out.mod
          go_wp2_with (first | (go_at_call 42; rw [HA.out]; refine (inPlace_any2 (off + d) (k - d) _ (by omega)).mono ?_; rintro e w3 ⟨p, rfl, HM, hm1, hm2, HM64, HMp, hw3⟩; rw [hw3]; clear hw3 w3) | (go_at_call 43; rw [HA.out]; refine (rplace HTr.out i (off + d) w.heap.size d p _ hi (by have := HSZ.out; omega) HM64.out (HI.out.there_ d p (by omega)) HI.out.lt).mono ?_; rintro e w4 ⟨rfl, H4⟩; have HI4 : Hid (RdAt u D (R i) off k w w4 (d + p)) := HI.out.next H4 (by omega); clear H4))
          have hmp : 0 < p := HMp.out (by omega)
          first | exact ⟨⟨d + p, by omega, by go_num, HI4⟩, by simp [intOf]; omega⟩ | (refine ⟨?_, by simp [intOf]; omega⟩; (repeat apply Exists.intro); refine ⟨?rel, ?act⟩; case act => rfl; case rel => exact ⟨d + p, by omega, by go_num, HI4⟩)
        · obtain rfl : d = k := by omega
          go_wp2
          go_ret2
          exact ⟨by simp, HI.out⟩
end
end Go.Proofs.YtgplmgliockbcaaDoor
/- Bytes as a string. Condition: the slice can be read. -/
namespace Go.Proofs.YtgplmgliockbcaaDoor
open Go.RowKit
/-- The slice v can be read, as the bytes l. -/
def BytesAt (w : World) (v : Value) (l : List Nat) : Prop :=
  (∀ x ∈ l, x < 256) ∧ ∃ a cap, v = .slice a l.length cap ∧ (a = none → l = []) ∧ ∀ ad, a = some ad → ∀ j x, l[j]? = some x → w.cell? (ad.add j) = some (byteV x)
def strOf (l : List Nat) : ByteArray := ⟨(l.map UInt8.ofNat).toArray⟩
theorem strOf_foldl (l : List Nat) : ∀ s : ByteArray, (l.map Int.ofNat).foldl (fun r n => r.push (UInt8.ofNat n.toNat)) s = ⟨(s.data.toList ++ l.map UInt8.ofNat).toArray⟩ := by
  induction l with
  | nil => intro s; simp
  | cons x l ih =>
    intro s
    simp only [List.map_cons, List.foldl_cons]
    rw [ih]
    simp
theorem strOf_inj {a b : List Nat} (ha : ∀ x ∈ a, x < 256) (hb : ∀ x ∈ b, x < 256) (h : strOf a = strOf b) : a = b := by
  have h1 : a.map UInt8.ofNat = b.map UInt8.ofNat := by
    have := congrArg (fun s => s.data.toList) h
    simpa [strOf] using this
  have back : ∀ l : List Nat, (∀ x ∈ l, x < 256) → (l.map UInt8.ofNat).map UInt8.toNat = l := by
    intro l hl
    rw [List.map_map]
    conv => rhs; rw [← List.map_id l]
    exact List.map_congr_left fun x hx => by simp [Nat.mod_eq_of_lt (hl x hx)]
  rw [← back a ha, ← back b hb, h1]
theorem conv_bytes {w : World} {v : Value} {l : List Nat} (h : BytesAt w v l) : (convert 37 9 v).run Tryd.prog w = .ok (.string (strOf l)) w := by
  obtain ⟨hl, a, cap, rfl, hn, hs⟩ := h
  rw [run_convert_bytes_string w 37 9 5 a l.length cap (by kernel_rfl) (by kernel_rfl) (by kernel_rfl)]
  cases a with
  | none =>
    obtain rfl := hn rfl
    rfl
  | some ad =>
    have hload := run_loadCells_list (P := Tryd.prog) w ad (l.map byteV) (fun j v hv => by
      rw [List.getElem?_map, Option.map_eq_some_iff] at hv
      obtain ⟨x, hx, rfl⟩ := hv
      exact hs ad rfl j x hx)
    have := run_bytesToString (P := Tryd.prog) w ad l.length cap (l.map Int.ofNat) (by
      have e : (l.map Int.ofNat).map (Value.int .u8) = l.map byteV := by rw [List.map_map]; rfl
      rw [e]; simpa using hload)
    rw [this, strOf_foldl]
    rfl
end Go.Proofs.YtgplmgliockbcaaDoor
/- The document's example, as the statements ask it: 'awake' answers true in whatever memory. Condition: the library's table is as its initialiser lays it. -/
namespace Go.Proofs.YtgplmgliockbcaaDoor
open Go.RowKit
theorem num_any (e : Int) (w : World) : Calls Tryd.prog 8 #[.int .i64 e] w fun x w' => x = .returned (.int .i64 e) ∧ w' = w := by
  go_enter Tryd.func8, Tryd.ntmps8
  go_wp2
  go_ret
  exact ⟨by simp, rfl⟩
theorem awake_run : wrun 4 100 [97, 98] 2 ⟨0, fun _ => false, fun _ => 0, fun _ => 0⟩ = ⟨2, upd (fun _ => false) 0 true, wrt (upd (fun _ => false) 0 true) (fun _ => 0) 1 36 [97, 98], upd (fun _ => 0) 1 1⟩ := rfl
theorem awake_rd : ∀ j, j < 4 → rd (upd (fun _ => false) 0 true) (wrt (upd (fun _ => false) 0 true) (fun _ => 0) 1 36 [97, 98]) (upd (fun _ => 0) 1 1) (98 + j) = [0, 0, 97, 98].getD j 0 := by decide
theorem fit_reg : fitB 33188 = true := by decide +kernel
theorem awake_str : strOf [0, 0, 97, 98] = ⟨#[0, 0, 97, 98]⟩ := rfl
theorem Mod.new_of {s : Nat → Prop} {w0 w w' : World} (h0 : Mod (fun _ => False) w0 w) (h : Mod s w w') (hs : ∀ k, s k → w0.heap.size ≤ k) : Mod (fun _ => False) w0 w' :=
  ⟨h.os.trans h0.os, h.tape.trans h0.tape, h.output.trans h0.output, Nat.le_trans h0.size h.size, fun k hk _ => (h.block k (Nat.lt_of_lt_of_le hk h0.size) (fun e => by have := hs k e; omega)).trans (h0.block k hk (fun h => h))⟩
set_option maxRecDepth 8000 in
set_option maxHeartbeats 2000000 in
theorem awake_true (w : World) (hT : TabIs w) : Calls Tryd.prog 9 #[] w fun e w' => e = .returned (.bool true) ∧ Mod (fun _ => False) w w' := by
  have HT : Hid (TabIs w) := hT
  clear hT
  go_enter Tryd.func9, Tryd.ntmps9
  go_wp2_with fail
  refine (tnew_ok 4 2 w (by omega) (by omega) (by omega) (by omega) HT.out).mono ?_
  rintro e w1 ⟨t, q, b, c, rfl, T1, M1, ht, hq, hb, hc⟩
  have HT1 : Hid (Tb w1 t q b c 4 2 0 (fun _ _ => 0) (fun _ _ => 0) (fun _ => false) (fun _ => 0)) := T1
  have HM1 : Hid (Mod (fun _ => False) w w1) := M1
  have HQ : Hid (w.heap.size ≤ t ∧ w.heap.size ≤ q ∧ w.heap.size ≤ b ∧ w.heap.size ≤ c) := ⟨ht, hq, hb, hc⟩
  clear T1 M1 ht hq hb hc
  go_wp2_with (go_at_call 8; refine (num_any _ _).mono ?_; rintro e w' ⟨rfl, hw'⟩; rw [hw']; clear hw' w')
  refine (talloc_ok HT1.out 33188 0 0 0 fit_reg (by omega) (by omega) (by omega) rfl (fun j hj => by omega)).mono ?_
  rintro e w2 ⟨rfl, T2, M2⟩
  have HT2 : Hid (Tb w2 t q b c 4 2 0 (setN (fun _ _ => 0) 0 (freshF 33188 0 0 0)) (setN (fun _ _ => 0) 0 (fun _ => 0)) (fun _ => false) (fun _ => 0)) := T2
  have HM2 : Hid (Mod (fun _ => False) w w2) := Mod.new_of HM1.out M2 (fun k h => by rw [h]; exact HQ.out.2.1)
  clear T2 M2
  have hcv := Lib.run_convert_bytes_const (P := Tryd.prog) w2 37 5 #[.int .u8 97, .int .u8 98] 2 2 und33 (by kernel_rfl)
  go_wp2_with fail
  have HM3 : Hid (Mod (fun _ => False) w (w2.alloc (.cells #[.int .u8 97, .int .u8 98] 5 (2, 3)))) := HM2.out.alloc _
  have HT3 : Hid (Tb (w2.alloc (.cells #[.int .u8 97, .int .u8 98] 5 (2, 3))) t q b c 4 2 0 (setN (fun _ _ => 0) 0 (freshF 33188 0 0 0)) (setN (fun _ _ => 0) 0 (fun _ => 0)) (fun _ => false) (fun _ => 0)) := HT2.out.new ((Mod.refl _ w2).alloc _)
  have HSr : Hid (Src (w2.alloc (.cells #[.int .u8 97, .int .u8 98] 5 (2, 3))) w2.heap.size 0 [97, 98]) := by
    refine ⟨fun j x hj => ?_, by decide⟩
    have e : ∀ k, (w2.alloc (.cells #[.int .u8 97, .int .u8 98] 5 (2, 3))).cell? ⟨w2.heap.size, k, none⟩ = #[Value.int .u8 97, .int .u8 98][k]? := fun k => by
      have hh : (w2.alloc (.cells #[.int .u8 97, .int .u8 98] 5 (2, 3))).heap[w2.heap.size]? = some (.cells #[.int .u8 97, .int .u8 98] 5 (2, 3)) := by
        show (w2.heap.push _)[w2.heap.size]? = _
        simp
      unfold World.cell?
      rw [hh]
      rfl
    rw [e]
    match j, hj with
    | 0, hj => simp at hj; subst hj; rfl
    | 1, hj => simp at hj; subst hj; rfl
  refine (twrite HT3.out 0 100 w2.heap.size 0 2 [97, 98] (by omega) (by decide) (by decide) (by omega) (by decide) (by omega) HSr.out (by have := HT2.out.S.lt_b; omega) (by have := HT2.out.S.lt_c; omega) (by have := HT2.out.lt_q; omega) 2 rfl).mono ?_
  show ∀ e w', WPost _ _ _ _ _ _ _ _ _ _ _ (wrun 4 100 [97, 98] 2 ⟨0, fun _ => false, fun _ => 0, fun _ => 0⟩) _ e w' → _
  rw [awake_run]
  rintro e w4 ⟨rfl, T4, M4⟩
  obtain ⟨F4, hF4⟩ : ∃ F4 : Nat → Nat → Int, F4 = upd2 (upd2 (upd2 (setN (fun _ _ => 0) 0 (freshF 33188 0 0 0)) 0 5 102) 0 7 0) 0 8 0 := ⟨_, rfl⟩
  have HT4 : Hid (Tb w4 t q b c 4 2 0 F4 (setN (setN (fun _ _ => 0) 0 (fun _ => 0)) 0 (upd (fun _ => 0) 1 1)) (upd (fun _ => false) 0 true) (wrt (upd (fun _ => false) 0 true) (fun _ => 0) 1 36 [97, 98])) := by rw [hF4]; exact T4
  have HM4 : Hid (Mod (fun _ => False) w w4) := Mod.new_of HM3.out M4 (fun k h => by rcases h with h | h | h <;> rw [h]; exact HQ.out.2.2.1; exact HQ.out.2.2.2; exact HQ.out.2.1)
  have hf0 : F4 0 0 ≠ 0 := by rw [hF4]; decide
  have hf5 : F4 0 5 = ((102 : Nat) : Int) := by rw [hF4]; decide
  have HF : Hid (F4 0 0 ≠ 0 ∧ F4 0 5 = ((102 : Nat) : Int)) := ⟨hf0, hf5⟩
  clear T4 M4 hF4 hf0 hf5
  go_wp2_with fail
  refine (tread HT4.out 0 98 10 102 (by omega) HF.out.1 HF.out.2 (by omega) (by omega) 4 rfl).mono ?_
  rintro e w5 ⟨rfl, H5⟩
  have HB : Hid (BytesAt w5 (.slice (some ⟨w4.heap.size, 0, none⟩) 4 4) [0, 0, 97, 98]) := by
    refine ⟨by decide, some ⟨w4.heap.size, 0, none⟩, 4, rfl, fun h => by simp at h, fun ad h j x hj => ?_⟩
    obtain rfl := Option.some.inj h
    have hj4 : j < 4 := (List.getElem?_eq_some_iff.mp hj).1
    rw [Addr.add_mid, Nat.zero_add, H5.at_ j hj4, if_pos hj4, setN_at', awake_rd j hj4]
    rw [List.getD_eq_getElem?_getD, hj]; rfl
  have hcs := conv_bytes HB.out
  rw [awake_str] at hcs
  have HM5 : Hid (Mod (fun _ => False) w w5) := HM4.out.trans H5.mod
  clear H5
  go_wp2_with (go_at_call 8; refine (num_any _ _).mono ?_; rintro e w' ⟨rfl, hw'⟩; rw [hw']; clear hw' w')
  go_ret
  exact ⟨by simp, HM5.out⟩
end Go.Proofs.YtgplmgliockbcaaDoor
