/- Several texts of this claim, one behind the other, in their order. -/
import Derived.Test.YtfmemkninmpfjaaGreatDoorM19
import Derived.Test.YtfmemkninmpfjaaGreatDoorM18
/- Layer 4's 'made' of four blocks: both tables, with two directories and a file. Condition: the library's table is as its initialiser lays it. -/
namespace Go.Proofs.YtfmemkninmpfjaaGreatDoor
open Go.RowKit
def md (k : Nat) : Int := if k < 2 then 16877 else 33188
def Gk (F : Nat → Nat → Int) (k : Nat) : Nat → Nat → Int := setN F k (freshF (md k) 0 0 0)
def Fk : Nat → Nat → Nat → Int
  | 0 => fun _ _ => 0
  | k + 1 => upd2 (upd2 (Gk (Fk k) k) k 3 (Gk (Fk k) k k 3 + 1)) k 8 0
def onk : Nat → Nat → Bool
  | 0 => fun _ => false
  | k + 1 => fun j => if j = k + 1 then true else onk k j
def lkk : Nat → Nat → Int
  | 0 => fun _ => 0
  | k + 1 => fun j => if j = k + 1 then 1 else (fun i => if i = k + 1 then 0 else lkk k i) j
theorem onk_at (k j : Nat) : onk k j = decide (1 ≤ j ∧ j ≤ k) := by
  induction k with
  | zero => simp [onk]; omega
  | succ k ih =>
    show (if j = k + 1 then true else onk k j) = _
    by_cases h : j = k + 1
    · rw [if_pos h]; symm; simp; omega
    · rw [if_neg h, ih, decide_eq_decide]; omega
theorem Fk_at (k j : Nat) : Fk k j 0 = if j < k then md j else 0 := by
  induction k with
  | zero => rfl
  | succ k ih =>
    show upd2 (upd2 (Gk (Fk k) k) k 3 _) k 8 0 j 0 = _
    have h1 : upd2 (upd2 (Gk (Fk k) k) k 3 (Gk (Fk k) k k 3 + 1)) k 8 0 j 0 = Gk (Fk k) k j 0 := by simp [upd2]
    rw [h1]
    unfold Gk setN
    by_cases h : j = k
    · subst h; simp [freshF]
    · rw [if_neg h, ih]
      by_cases h2 : j < k
      · rw [if_pos h2, if_pos (by omega)]
      · rw [if_neg h2, if_neg (by omega)]
theorem md_ne (k : Nat) : md k ≠ 0 := by unfold md; split <;> omega
theorem md_cases (k : Nat) : md k = 16877 ∨ md k = 33188 := by unfold md; split <;> simp
theorem md_fit (k : Nat) : fitB (md k) = true := by rcases md_cases k with h | h <;> rw [h] <;> decide +kernel
theorem md_and (k : Nat) : bits .and .i64 (md k) 65535 = md k := by rcases md_cases k with h | h <;> rw [h] <;> decide +kernel
theorem md_kind (k : Nat) : ∃ x, bits .and .i64 (md k) 61440 = x ∧ (((x != 32768) = true ∧ (x != 16384) = false) ∨ (x != 32768) = false) := by
  refine ⟨_, rfl, ?_⟩
  rcases md_cases k with h | h <;> rw [h] <;> decide +kernel
theorem setN_zero (k : Nat) : setN (fun _ _ => 0) k (fun _ => 0) = (fun _ _ => (0 : Nat)) := by
  funext j o; simp [setN]
theorem num4 (e : Int) (w : World) : Calls Tryz.prog 9 #[.int .i64 e] w fun x w' => x = .returned (.int .i64 e) ∧ w' = w := by
  go_enter Tryz.func9, Tryz.ntmps9
  go_wp2
  go_ret
  exact ⟨by simp, rfl⟩
theorem Mod.new4 {s : Nat → Prop} {w0 w w' : World} (h0 : Mod (fun _ => False) w0 w) (h : Mod s w w') (hs : ∀ k, s k → w0.heap.size ≤ k) : Mod (fun _ => False) w0 w' :=
  ⟨h.os.trans h0.os, h.tape.trans h0.tape, h.output.trans h0.output, Nat.le_trans h0.size h.size, fun k hk _ => (h.block k (Nat.lt_of_lt_of_le hk h0.size) (fun e => by have := hs k e; omega)).trans (h0.block k hk (fun h => h))⟩
theorem ixm0 (W : World) : (Instr.index 72 (.agg #[.int .i64 16877, .int .i64 16877, .int .i64 33188]) (.int .i64 0)).run Tryz.prog W = .ok (.int .i64 16877) W := by kernel_rfl
theorem ixm1 (W : World) : (Instr.index 72 (.agg #[.int .i64 16877, .int .i64 16877, .int .i64 33188]) (.int .i64 1)).run Tryz.prog W = .ok (.int .i64 16877) W := by kernel_rfl
theorem ixm2 (W : World) : (Instr.index 72 (.agg #[.int .i64 16877, .int .i64 16877, .int .i64 33188]) (.int .i64 2)).run Tryz.prog W = .ok (.int .i64 33188) W := by kernel_rfl
/-- Both tables behind k rounds. -/
structure MT (w W : World) (t q b c tb lb k : Nat) : Prop where
  T : Tb W t q b c 4 6 0 (Fk k) (fun _ _ => 0) (fun _ => false) (fun _ => 0)
  A : RA W tb lb 6 (onk k) (lkk k)
  M : Mod (fun _ => False) w W
theorem hidM {p : Prop} (h : p) : Hid p := h
set_option maxRecDepth 8000 in
set_option maxHeartbeats 4000000 in
theorem made4 (w : World) (hT : TabIs w) : Calls Tryz.prog 11 #[.int .i64 4] w fun e w' => ∃ pb t q b c, e = .returned (.pointer (some ⟨pb, 0, none⟩)) ∧ w'.cell? ⟨pb, 0, none⟩ = some (.pointer (some ⟨t, 0, none⟩)) ∧ Tb w' t q b c 4 6 0 (Fk 3) (fun _ _ => 0) (fun _ => false) (fun _ => 0) ∧ Mod (fun _ => False) w w' ∧ (w.heap.size ≤ b ∧ w.heap.size ≤ c ∧ w.heap.size ≤ q) ∧ b < pb ∧ c < pb ∧ q < pb := by
  have h0 : 1 < w.heap.size := block_lt_of_cell (hT 0 (by omega))
  have HT := hidM hT
  clear hT
  go_enter Tryz.func11, Tryz.ntmps11
  go_wp2_with fail
  refine (tnew_ok 4 6 w (by omega) (by omega) (by omega) (by omega) HT.out).mono ?_
  rintro e w1 ⟨t, q, b, c, rfl, T1, M1, ht, hq, hb, hc⟩
  have HT1 := hidM T1
  have HM1 := hidM M1
  have HQ := hidM (show w.heap.size ≤ t ∧ w.heap.size ≤ q ∧ w.heap.size ≤ b ∧ w.heap.size ≤ c from ⟨ht, hq, hb, hc⟩)
  clear T1 M1 ht hq hb hc
  go_wp2_with fail
  refine (r2new_ra 4 6 w1 (by omega) (by omega) (by omega) (by omega)).mono ?_
  rintro e w2 ⟨tb, lb, rfl, A2, ⟨htb, hlb⟩, M2⟩
  have HS := hidM (show MT w w2 t q b c tb lb 0 from ⟨HT1.out.new M2, A2, HM1.out.trans M2⟩)
  have HL := hidM (show lb ≠ t ∧ lb ≠ q ∧ lb ≠ b ∧ lb ≠ c ∧ tb ≠ q ∧ lb ≠ 1 ∧ w.heap.size ≤ lb from by
    have a1 := HT1.out.lt_t; have a2 := HT1.out.lt_q; have a3 := HT1.out.S.lt_b; have a4 := HT1.out.S.lt_c; have a5 := HM1.out.size
    refine ⟨?_, ?_, ?_, ?_, ?_, ?_, ?_⟩ <;> omega)
  clear A2 M2 htb hlb
  go_wp2_with (go_at_call 9; refine (num4 _ _).mono ?_; rintro e w' ⟨rfl, hw'⟩; rw [hw']; clear hw' w')
  go_loopg [31] 3 (fun g x wr => ∃ k : Nat, k ≤ 3 ∧ g = 3 - k ∧ x = .int .i64 k ∧ Hid (MT w wr t q b c tb lb k))
  case atStart => exact ⟨0, by omega, rfl, rfl, HS⟩
  case round =>
    obtain ⟨k, hk, rfl, rfl, HK⟩ := hrel
    clear HS
    by_cases hlt : k < 3
    · have hlt' : (k : Int) < 3 := by omega
      have hix : ∀ W, (Instr.index 72 (.agg #[.int .i64 16877, .int .i64 16877, .int .i64 33188]) (.int .i64 k)).run Tryz.prog W = .ok (.int .i64 (md k)) W := by
        intro W
        have h3 : k = 0 ∨ k = 1 ∨ k = 2 := by omega
        clear HK hlt' hlt hk
        rcases h3 with rfl | rfl | rfl
        · exact ixm0 W
        · exact ixm1 W
        · exact ixm2 W
      obtain ⟨x, hx1, hx2⟩ := md_kind k
      have HX := hidM (show bits .and .i64 (md k) 61440 = x ∧ _ from ⟨hx1, hx2⟩)
      clear hx1 hx2
      have HF := hidM (show fitB (md k) = true ∧ bits .and .i64 (md k) 65535 = md k ∧ ¬ md k < 0 ∧ md k ≠ 0 from ⟨md_fit k, md_and k, by rcases md_cases k with h | h <;> rw [h] <;> decide, md_ne k⟩)
      have HFk : Hid (Fk (k + 1) = upd2 (upd2 (setN (Fk k) k (freshF (md k) 0 0 0)) k 3 (setN (Fk k) k (freshF (md k) 0 0 0) k 3 + 1)) k 8 0) := rfl
      generalize md k = m at *
      go_wp2_with fail
      refine (talloc_ok HK.out.T m 0 0 k HF.out.1 (by omega) (by omega) (by omega) (by rw [Fk_at, if_neg (by omega)]) (fun j hj => by rw [Fk_at, if_pos hj]; exact md_ne j)).mono ?_
      rintro e w3 ⟨rfl, T3, M3⟩
      have HT3 := hidM T3
      have HM3 := hidM M3
      clear T3 M3
      go_wp2_with fail
      refine (rAlloc (HK.out.A.mod HM3.out HL.out.2.2.2.2.1 HL.out.2.1) (by omega) m x HX.out.1 HF.out.2.1 (by have := HF.out.2.2.1; omega) HX.out.2 (k + 1) (by omega) (by omega) (fun j h1 h2 => by rw [onk_at]; simp; omega) (by rw [onk_at]; simp)).mono ?_
      rintro e w4 ⟨rfl, A4, M4⟩
      have hcast : ((k + 1 : Nat) : Int) = (k : Int) + 1 := rfl
      rw [hcast]; clear hcast
      have HT4 := hidM (HT3.out.mod M4 (fun e => HL.out.2.2.2.2.2.1 e.symm) (fun e => HL.out.2.2.1 e.symm) (fun e => HL.out.2.2.2.1 e.symm) (fun e => HL.out.1 e.symm) (fun e => HL.out.2.1 e.symm))
      have HA4 := hidM A4
      have HM4 := hidM M4
      clear A4 M4
      go_wp2_with (first | (go_at_call 9; refine (num4 _ _).mono ?_; rintro e w' ⟨rfl, hw'⟩; rw [hw']; clear hw' w') | (go_at_call 31; refine (tlinks_keep HT4.out k 1 (by omega) (by simp [setN, freshF]; exact HF.out.2.2.2) (by simp [setN, freshF]) (by simp [setN, freshF]) (by simp [setN, freshF]) (.inl (by simp [setN, freshF]))).mono ?_; rintro e w5 ⟨rfl, T5, M5⟩; have HT5 := hidM T5; have HM5 := hidM M5; clear T5 M5))
      refine (rLinks (HA4.out.mod HM5.out HL.out.2.2.2.2.1 HL.out.2.1) (by omega) (k + 1) (by omega) (by omega) (if_pos rfl) (if_pos rfl)).mono ?_
      rintro e w6 ⟨rfl, A6, M6⟩
      have HK6 := hidM (show MT w w6 t q b c tb lb (k + 1) from ⟨by
          have T6 := HT5.out.mod M6 (fun e => HL.out.2.2.2.2.2.1 e.symm) (fun e => HL.out.2.2.1 e.symm) (fun e => HL.out.2.2.2.1 e.symm) (fun e => HL.out.1 e.symm) (fun e => HL.out.2.1 e.symm)
          rw [setN_zero] at T6
          rw [HFk.out]
          exact T6, A6, Mod.new4 (Mod.new4 (Mod.new4 (Mod.new4 HK.out.M HM3.out (fun k h => by rw [h]; exact HQ.out.2.1)) HM4.out (fun k h => by rw [h]; exact HL.out.2.2.2.2.2.2)) HM5.out (fun k h => by rw [h]; exact HQ.out.2.1)) M6 (fun k h => by rw [h]; exact HL.out.2.2.2.2.2.2)⟩)
      clear A6 M6 HK HT3 HT4 HT5 HA4 HM3 HM4 HM5
      go_wp2_with fail
      go_roundg (3 - (k + 1))
      case measure => omega
      case rel => exact ⟨k + 1, by omega, rfl, by go_num, HK6⟩
    · obtain rfl : k = 3 := by omega
      go_wp2_with fail
      go_ret
      have hsz := HK.out.M.size
      have a2 := HK.out.T.lt_q
      have a3 := HK.out.T.S.lt_b
      have a4 := HK.out.T.S.lt_c
      exact ⟨wr.heap.size, t, q, b, c, by simp, by rw [World.cell?_alloc_at _ _ _ _ rfl]; rfl, HK.out.T.new ((Mod.refl _ wr).alloc _), HK.out.M.alloc _, ⟨HQ.out.2.2.1, HQ.out.2.2.2, HQ.out.2.1⟩, a3, a4, a2⟩
end Go.Proofs.YtfmemkninmpfjaaGreatDoor
/- A slice of slots is built: the law. Condition: each slot has 32 cells. -/
namespace Go.Proofs.YtfmemkninmpfjaaGreatDoor
open Go.RowKit
theorem fold_off (off : Nat) : ∀ (ws : List Value) (k : Nat) (A : Array Value) (i : Nat), off + k + ws.length ≤ A.size → ((ws.zipIdx k).foldl (fun cs x => cs.setIfInBounds (off + x.snd) x.fst) A)[i]? = if off + k ≤ i ∧ i < off + k + ws.length then ws[i - (off + k)]? else A[i]?
  | [], k, A, i, _ => by rw [if_neg (by simp only [List.length_nil]; omega)]; rfl
  | v :: ws, k, A, i, h => by
    simp only [List.length_cons] at h
    rw [List.zipIdx_cons, List.foldl_cons, fold_off off ws (k + 1) _ i (by simp; omega)]
    by_cases h1 : off + (k + 1) ≤ i ∧ i < off + (k + 1) + ws.length
    · rw [if_pos h1, if_pos (by simp; omega), show i - (off + k) = (i - (off + (k + 1))) + 1 by omega, List.getElem?_cons_succ]
    · rw [if_neg h1]
      by_cases h2 : i = off + k
      · subst h2
        rw [if_pos (by simp), Array.getElem?_setIfInBounds_self_of_lt (by omega), Nat.sub_self]; rfl
      · rw [if_neg (by simp; omega), Array.getElem?_setIfInBounds_ne (by omega)]
theorem fold_off_size (off : Nat) : ∀ (ws : List Value) (k : Nat) (A : Array Value), ((ws.zipIdx k).foldl (fun cs x => cs.setIfInBounds (off + x.snd) x.fst) A).size = A.size
  | [], _, _ => rfl
  | v :: ws, k, A => by rw [List.zipIdx_cons, List.foldl_cons, fold_off_size off ws]; simp
/-- One slot laid over a row of cells. -/
theorem fill_one (off : Nat) (L : List Value) (A : Array Value) : (L.toArray.zipIdx.foldl (fun cs x => cs.setIfInBounds (off + x.2) x.1) A) = (L.zipIdx.foldl (fun cs x => cs.setIfInBounds (off + x.snd) x.fst) A) := by
  rw [← Array.foldl_toList]; simp
theorem undSl : Tryz.prog.underlying 168 = some (.slice 109) := by kernel_rfl
theorem infSl : ∃ i, Tryz.prog.info? 109 = some i ∧ i.zero = some (.agg zeroSl) ∧ i.size = 32 ∧ i.bytes = 32 := info_of (by kernel_rfl)
/-- The cells of built slots. -/
def Built (C : Array Value) (Ls : List (List Value)) : Prop := C.size = 32 * Ls.length ∧ ∀ (k : Nat) L, Ls[k]? = some L → ∀ j, j < 32 → C[k * 32 + j]? = L[j]?
theorem zrow (m : Nat) : ((Array.range (m * 32)).map (zeroSl[· % zeroSl.size]!)).size = m * 32 := by simp
theorem agg_cells (L : List Value) : (Value.agg L.toArray).cells = L.toArray := by simp [Value.cells]
theorem build_run (m : Nat) (hm : m = 1 ∨ m = 2) (parts : Array (Nat × Value)) (C : Array Value) (w : World)
    (hf : Instr.fill (fun i => some (i * 32, 32)) ((Array.range (m * 32)).map (zeroSl[· % zeroSl.size]!)) parts.toList = some C) :
    (Instr.buildSlice 168 m parts).run Tryz.prog w = .ok (.slice (some ⟨w.heap.size, 0, none⟩) m m) (w.alloc (.cells C 109)) := by
  obtain ⟨i, hi, hz, hsz, hb⟩ := infSl
  have hso : (sizeOf 109).run Tryz.prog w = .ok 32 w := by simp [sizeOf, typeInfo, hi, hsz]
  have hzv := zvSl w
  have h1 : ¬ m * 32 > 2 ^ 24 := by rcases hm with rfl | rfl <;> decide
  have h2 : ¬ m * 32 = 0 := by rcases hm with rfl | rfl <;> decide
  have hnr : (newRow 109 C).run Tryz.prog w = .ok ⟨w.heap.size, 0, none⟩ (w.alloc (.cells C 109)) := by simp [newRow]
  unfold Instr.buildSlice
  simp only [Sem.run_bind, run_underlying undSl, Result.andThen_ok, hso, h1, h2, if_false, hzv, Sem.run_pure, show (Value.agg zeroSl).cells = zeroSl from rfl, hf, hnr]
theorem build1 (L : List Value) (hl : L.length = 32) (w : World) : ∃ C, Built C [L] ∧ (Instr.buildSlice 168 1 #[(0, .agg L.toArray)]).run Tryz.prog w = .ok (.slice (some ⟨w.heap.size, 0, none⟩) 1 1) (w.alloc (.cells C 109)) := by
  obtain ⟨Z, hZ⟩ : ∃ Z, Z = (Array.range (1 * 32)).map (zeroSl[· % zeroSl.size]!) := ⟨_, rfl⟩
  have hzs : Z.size = 32 := by rw [hZ, zrow]
  refine ⟨L.zipIdx.foldl (fun cs x => cs.setIfInBounds (0 + x.snd) x.fst) Z, ⟨?_, ?_⟩, build_run 1 (.inl rfl) _ _ w ?_⟩
  · rw [fold_off_size, hzs]; rfl
  · intro k M hk j hj
    cases k with
    | succ k => simp at hk
    | zero =>
      obtain rfl : L = M := by simpa using hk
      rw [fold_off 0 L 0 _ _ (by rw [hl, hzs]; omega), if_pos (by rw [hl]; omega)]
      congr 1; omega
  · rw [← hZ]
    simp only [Instr.fill, agg_cells, List.size_toArray, hl, hzs, fill_one, Nat.zero_mul]
    simp
theorem build2 (L M : List Value) (hl : L.length = 32) (hm : M.length = 32) (w : World) : ∃ C, Built C [L, M] ∧ (Instr.buildSlice 168 2 #[(0, .agg L.toArray), (1, .agg M.toArray)]).run Tryz.prog w = .ok (.slice (some ⟨w.heap.size, 0, none⟩) 2 2) (w.alloc (.cells C 109)) := by
  obtain ⟨Z, hZ⟩ : ∃ Z, Z = (Array.range (2 * 32)).map (zeroSl[· % zeroSl.size]!) := ⟨_, rfl⟩
  have hzs : Z.size = 64 := by rw [hZ, zrow]
  have hy : (L.zipIdx.foldl (fun cs x => cs.setIfInBounds (0 + x.snd) x.fst) Z).size = 64 := by rw [fold_off_size, hzs]
  refine ⟨M.zipIdx.foldl (fun cs x => cs.setIfInBounds (1 * 32 + x.snd) x.fst) (L.zipIdx.foldl (fun cs x => cs.setIfInBounds (0 + x.snd) x.fst) Z), ⟨?_, ?_⟩, build_run 2 (.inr rfl) _ _ w ?_⟩
  · rw [fold_off_size, hy]; rfl
  · intro k K hk j hj
    match k, hk with
    | 0, hk =>
      obtain rfl : L = K := by simpa using hk
      rw [fold_off (1 * 32) M 0 _ _ (by rw [hm, hy]; omega), if_neg (by rw [hm]; omega), fold_off 0 L 0 _ _ (by rw [hl, hzs]; omega), if_pos (by rw [hl]; omega)]
      congr 1; omega
    | 1, hk =>
      obtain rfl : M = K := by simpa using hk
      rw [fold_off (1 * 32) M 0 _ _ (by rw [hm, hy]; omega), if_pos (by rw [hm]; omega)]
      congr 1; omega
  · rw [← hZ]
    simp only [Instr.fill, agg_cells, List.size_toArray, hl, hm, hzs, fill_one, Nat.zero_mul, hy]
    simp
theorem wpList_buildSlice {P : Program} {ops : Array Oper} {rest : List Oper} {op : Oper} {a : Act} {w w' : World} {Q : Exit → Act → World → Prop} (hgd : op.guard = none) (ty : TypeId) (m : Nat) (parts : Array (Nat × Operand)) (ho : op.op = .buildSlice ty m parts) (ps : Array (Nat × Value)) (hp : (parts.map fun (i, x) => (i, a.eval x)) = ps) (v : Value)
    (hr : (Instr.buildSlice ty m ps).run P w = .ok v w') (h : wpList P ops Q rest (a.put op.dst v) w') : wpList P ops Q (op :: rest) a w :=
  wpList_plain hgd fun K hK => by
    unfold Oper.wp execOp
    simp only [ho, hp, Sem.run_bind, hr, Result.andThen_ok, Sem.run_pure]
    exact hK _ _ h
end Go.Proofs.YtfmemkninmpfjaaGreatDoor
