/- Several texts of this claim, one behind the other, in their order. -/
import Derived.Test.YtpcbpikhiooafaaGreatDoorM1
import Derived.RegionTactic
import Derived.BigRegion
import Derived.Deep.MidRow
import Derived.Deep.WholeRow
import Derived.Laws.CopyOwn
import Derived.KernelRfl
/- The walks of the store's calls that write or make memory: New, Alloc, Free, Read, Write. Conditions: the store's cells are as said. -/
namespace Go.Proofs.YtpcbpikhiooafaaGreatDoor
open Go.RowKit
/-- The zero values of a store and of a block. -/
def zero50 : Array Value := (Array.replicate 64 (.int .u64 0)).push (.slice none 0 0)
def zero73 : Array Value := Array.replicate 64 (.int .u8 0)
theorem size50 : zero50.size = 65 := rfl
theorem size73 : zero73.size = 64 := rfl
theorem zv50 (w : World) : (zeroValue 141).run Tryz.prog w = .ok (.agg zero50) w := by kernel_rfl
theorem zv73 (w : World) : (zeroValue 214).run Tryz.prog w = .ok (.agg zero73) w := by kernel_rfl
theorem info_of {t s b : Nat} {z : Option Value} (h : (Tryz.prog.info? t).map (fun i => (i.zero, i.size, i.bytes)) = some (z, s, b)) : ∃ i, Tryz.prog.info? t = some i ∧ i.zero = z ∧ i.size = s ∧ i.bytes = b := by
  obtain ⟨i, h1, h2⟩ := Option.map_eq_some_iff.mp h
  simp only [Prod.mk.injEq] at h2
  exact ⟨i, h1, h2.1, h2.2.1, h2.2.2⟩
theorem info73 : ∃ i, Tryz.prog.info? 214 = some i ∧ i.zero = some (.agg zero73) ∧ i.size = 64 ∧ i.bytes = 64 := info_of (by kernel_rfl)
theorem und73 : Tryz.prog.underlying 214 = some (.array 64 5) := by kernel_rfl
theorem inf73 : (Tryz.prog.info? 214).map (·.size) = some zero73.size := by kernel_rfl
theorem one73 : zero73.all (·.oneCell') = true := by kernel_rfl
theorem und33 : Tryz.prog.underlying 22 = some (.slice 5) := by kernel_rfl
theorem inf5 : (Tryz.prog.info? 5).map (·.size) = some 1 := by kernel_rfl
theorem und48 : Tryz.prog.underlying 137 = some (.slice 214) := by kernel_rfl
theorem mk_blocks (n : Nat) (hn : n ≤ 4096) (w : World) : (Instr.makeSlice 137 (.int .i64 n) (.int .i64 n)).run Tryz.prog w = .ok (.slice (some ⟨w.heap.size, 0, none⟩) n n) (w.alloc (.cells (madeCells zero73 (n * 64)) 214)) := by
  obtain ⟨i, h1, h2, h3, h4⟩ := info73
  have := run_make (P := Tryz.prog) w 137 214 i _ und48 h1 h2 .i64 .i64 n n (by omega) (by omega) (by rw [h4]; omega) (by omega)
  rw [h3] at this
  simpa [Value.cells] using this
set_option maxHeartbeats 400000 in
theorem new_ok (n : Nat) (w : World) (hn : 1 ≤ n) (hn2 : n ≤ 4096) : Calls Tryz.prog 29 #[.int .i64 n] w fun e w' => e = .returned (.tuple #[.pointer (some ⟨w.heap.size + 1, 0, none⟩), .int .i64 0]) ∧
    w' = (w.alloc (.cells (madeCells zero73 (n * 64)) 214)).alloc (.cells (zero50.setIfInBounds 64 (.slice (some ⟨w.heap.size, 0, none⟩) n n)) 141) := by
  have hm := mk_blocks n hn2
  have hz := zv50
  have hs := size50
  have hn' : ¬ (n : Int) < 1 := by omega
  go_enter Tryz.func29, Tryz.ntmps29
  go_wp2
  go_ret2
  exact ⟨rfl, rfl⟩
set_option maxHeartbeats 400000 in
theorem new_bad (n : Int) (w : World) (hn : n < 1 ∨ 4096 < n) : Calls Tryz.prog 29 #[.int .i64 n] w fun e w' => e = .returned (.tuple #[.pointer none, .int .i64 22]) ∧ w' = w := by
  rcases hn with hn | hn
  · go_enter Tryz.func29, Tryz.ntmps29
    go_wp2
    go_ret2
    exact ⟨rfl, rfl⟩
  · have hn' : ¬ n < 1 := by omega
    go_enter Tryz.func29, Tryz.ntmps29
    go_wp2
    go_ret2
    exact ⟨rfl, rfl⟩
theorem setCells_drewN (b m : Nat) : ∀ (vs : List Value) (o : Nat) (w : World), (w.drewN m).setCells b o vs = (w.setCells b o vs).drewN m
  | [], _, _ => rfl
  | v :: vs, o, w => by
    show ((w.drewN m).setCell ⟨b, o, none⟩ v).setCells b (o + 1) vs = _
    rw [show (w.drewN m).setCell ⟨b, o, none⟩ v = (w.setCell ⟨b, o, none⟩ v).drewN m from rfl, setCells_drewN b m vs]
    rfl
theorem setCells_new (w : World) (t : TypeId) (z : Array Value) (cs : List Value) (h : z.size = cs.length) (h1 : cs.toArray.all (·.oneCell') = true) (hi : (Tryz.prog.info? t).map (·.size) = some cs.length) :
    (w.alloc (.cells z t)).setCells w.heap.size 0 cs = w.alloc (.cells cs.toArray t) := by
  have e1 := run_storeVar_new (P := Tryz.prog) w t z cs.toArray (by simpa using hi) (by simpa using h) h1
  have e2 := run_storeVar_mid (P := Tryz.prog) (w.alloc (.cells z t)) w.heap.size 0 t cs.toArray (fun j hj => by
    have hl : z[j]? = some (z[j]'(by simp at hj; omega)) := by simp
    refine ⟨?_, ?_⟩
    · rw [World.cell?_alloc_at z t _ _ rfl, Nat.zero_add, hl]; rfl
    · exact World.frozen?_alloc_at z t _ _ rfl) (by simpa using hi) h1
  rw [e2] at e1
  exact (Result.ok.inj e1).2
/-- The built-in copy into the middle of a block. -/
theorem wpList_copy_mid {P : Program} {w : World} {ops : Array Oper} {rest : List Oper} {o : Oper} {a : Act} {Q : Exit → Act → World → Prop} (hgd : o.guard = none) (d s : Operand) (dT sT : TypeId)
    (ho : o.op = .call { callee := .builtin .copy, args := #[d, s], argTypes := #[dT, sT] }) (elem : TypeId) (hu : P.underlying dT = some (.slice elem)) (hsz : (P.info? elem).map (·.size) = some 1)
    (b off dLen dCap : Nat) (ad : Addr) (sLen sCap : Nat) (hd : a.eval d = .slice (some ⟨b, off, none⟩) dLen dCap) (hs : a.eval s = .slice (some ad) sLen sCap)
    (cs : List Value) (hn : cs.length = Nat.min sLen dLen)
    (hsrc : ∀ j v, cs[j]? = some v → w.cell? (ad.add j) = some v) (ht : w.there b off cs.length) (h1 : ∀ v ∈ cs, v.oneCell' = true)
    (h : wpList P ops Q rest (a.put o.dst (goInt cs.length)) (w.setCells b off cs)) : wpList P ops Q (o :: rest) a w := by
  refine wpList_plain hgd fun K hK => ?_
  have hrun := run_copy_cells (P := P) w dT sT o.type elem b off dLen dCap ad sLen sCap cs hu hsz hn hsrc (fun j hj => (ht j hj).1) (fun j hj => (ht j hj).2) h1
  unfold Oper.wp
  simp [execOp, ho, resolve, invoke, builtin, hd, hs, hrun, Result.andThen]
  exact hK _ _ h
theorem there_new (w : World) (t : TypeId) (z : Array Value) {n : Nat} (h : z.size = n) : (w.alloc (.cells z t)).there w.heap.size 0 n := fun j hj => by
  have hl : z[j]? = some (z[j]'(by omega)) := by simp
  refine ⟨?_, ?_⟩
  · rw [World.cell?_alloc_at z t _ _ rfl, Nat.zero_add, hl]; rfl
  · exact World.frozen?_alloc_at z t _ _ rfl
theorem there_setCell {w : World} {b' o' n : Nat} (h : w.there b' o' n) (b o : Nat) (v : Value) : (w.setCell ⟨b, o, none⟩ v).there b' o' n := World.there_setCells h b o [v]
set_option maxRecDepth 100000 in
set_option maxHeartbeats 800000 in
theorem free_ok (b c cc n i : Nat) (W : Nat → Nat) (w : World) (h : w.cell? ⟨b, 64, none⟩ = some (.slice (some ⟨c, 0, none⟩) n cc)) (hn2 : n ≤ 4096) (hi : i < n)
    (hw : ∀ k, k < 64 → w.cell? ⟨b, k, none⟩ = some (.int .u64 (W k : Nat))) (hl : ∀ k, W k < 18446744073709551616) (hfz : ∀ o, w.frozen? ⟨b, o, none⟩ = false)
    (hth : w.there c (i * 64) zero73.size)
    (hu : used W i = true) :
    Calls Tryz.prog 129 #[.pointer (some ⟨b, 0, none⟩), .int .i64 i] w fun e w' => e = .returned (.int .i64 0) ∧ ∃ m, w' = ((w.setCell ⟨b, i / 64, none⟩ (.int .u64 ((W (i / 64) &&& (18446744073709551615 - 2 ^ (i % 64)) : Nat) : Int))).setCells c (i * 64) zero73.toList).drewN m := by
  have hc := hw (i / 64) (by omega)
  have hor := Bt.not_bit (W (i / 64)) (i % 64) (hl _) (by omega)
  have h64 : i / 64 < 64 := by omega
  have hli := hl (i / 64)
  have hz := zv73
  have hs := size73
  have HT : Hid (w.there c (i * 64) zero73.size) := hth
  clear hw hl hth
  go_enter Tryz.func129, Tryz.ntmps129
  go_wp2_with (first | (go_at_call 124; refine (fit_used b n cc _ i W _ h hi hn2 hc hli hu).mono ?_; rintro e w' ⟨rfl, m, rfl⟩) | (go_at_call 143; refine (place_any i _ (by omega)).mono ?_; rintro e w' ⟨rfl, m', rfl⟩))
  go_region
  go_wp2_with (refine wpList_store_mid rfl 214 _ _ rfl c (i * 64) zero73 rfl rfl (there_setCell (w := w) HT.out b (i / 64) _) inf73 one73 ?_)
  go_ret
  exact ⟨rfl, _, setCells_drewN c _ zero73.toList (i * 64) (w.setCell ⟨b, i / 64, none⟩ _)⟩
set_option maxRecDepth 100000 in
set_option maxHeartbeats 800000 in
theorem read_ok (b c cc n i : Nat) (W : Nat → Nat) (cs : List Value) (w : World) (h : w.cell? ⟨b, 64, none⟩ = some (.slice (some ⟨c, 0, none⟩) n cc)) (hn2 : n ≤ 4096) (hi : i < n)
    (hw : ∀ k, k < 64 → w.cell? ⟨b, k, none⟩ = some (.int .u64 (W k : Nat))) (hl : ∀ k, W k < 18446744073709551616)
    (hth : w.rangeAt c (i * 64) cs) (hcs : cs.length = 64) (h1 : cs.toArray.all (·.oneCell') = true)
    (hu : used W i = true) :
    Calls Tryz.prog 128 #[.pointer (some ⟨b, 0, none⟩), .int .i64 i] w fun e w' => e = .returned (.tuple #[.slice (some ⟨w.heap.size, 0, none⟩) 64 64, .int .i64 0]) ∧ ∃ m, w' = (w.alloc (.cells cs.toArray 214)).drewN m := by
  have hc := hw (i / 64) (by omega)
  have hli := hl (i / 64)
  have hz := zv73
  have hs := size73
  have HT : Hid (w.rangeAt c (i * 64) cs) := hth
  clear hw hl hth
  go_enter Tryz.func128, Tryz.ntmps128
  go_wp2_with (first | (go_at_call 124; refine (fit_used b n cc _ i W _ h hi hn2 hc hli hu).mono ?_; rintro e w' ⟨rfl, m, rfl⟩) | (refine wpList_load_mid rfl 214 _ rfl c (i * 64) rfl cs _ HT.out und73 rfl (by rw [hcs]; exact inf73) ?_) | (refine wpList_store_mid rfl 214 _ _ rfl w.heap.size 0 cs.toArray rfl rfl (there_new w _ _ (by rw [size73]; simp [hcs])) (by rw [List.size_toArray, hcs]; exact inf73) h1 ?_))
  go_ret2
  refine ⟨rfl, m, (setCells_drewN w.heap.size m cs 0 (w.alloc (.cells zero73 214))).trans ?_⟩
  rw [setCells_new w 214 zero73 cs (by rw [size73, hcs]) h1 (by rw [hcs]; exact inf73)]

set_option maxRecDepth 100000 in
set_option maxHeartbeats 800000 in
theorem write_bad (b c cc n i : Nat) (at_ : Int) (sp : Option Addr) (k cap : Nat) (W : Nat → Nat) (w : World) (h : w.cell? ⟨b, 64, none⟩ = some (.slice (some ⟨c, 0, none⟩) n cc)) (hn2 : n ≤ 4096) (hi : i < n)
    (hw : ∀ k, k < 64 → w.cell? ⟨b, k, none⟩ = some (.int .u64 (W k : Nat))) (hl : ∀ k, W k < 18446744073709551616) (hk : k ≤ maxLen)
    (hu : used W i = true) (ha : at_ < 0 ∨ 64 < at_ + k) :
    Calls Tryz.prog 102 #[.pointer (some ⟨b, 0, none⟩), .int .i64 i, .int .i64 at_, .slice sp k cap] w fun e w' => e = .returned (.int .i64 22) ∧ ∃ m, w' = w.drewN m := by
  have hc := hw (i / 64) (by omega)
  have hli := hl (i / 64)
  clear hw hl
  unfold maxLen at hk
  rcases ha with ha | ha
  · go_enter Tryz.func102, Tryz.ntmps102
    go_wp2_with (go_at_call 124; refine (fit_used b n cc _ i W _ h hi hn2 hc hli hu).mono ?_; rintro e w' ⟨rfl, m, rfl⟩)
    go_ret
    exact ⟨rfl, _, rfl⟩
  · by_cases h0 : at_ < 0
    · go_enter Tryz.func102, Tryz.ntmps102
      go_wp2_with (go_at_call 124; refine (fit_used b n cc _ i W _ h hi hn2 hc hli hu).mono ?_; rintro e w' ⟨rfl, m, rfl⟩)
      go_ret
      exact ⟨rfl, _, rfl⟩
    · have ha' : ¬ at_ ≤ 64 - (k : Int) := by omega
      go_enter Tryz.func102, Tryz.ntmps102
      go_wp2_with (go_at_call 124; refine (fit_used b n cc _ i W _ h hi hn2 hc hli hu).mono ?_; rintro e w' ⟨rfl, m, rfl⟩)
      go_ret
      exact ⟨rfl, _, rfl⟩
set_option maxRecDepth 100000 in
set_option maxHeartbeats 800000 in
theorem write_ok (b c cc n i t : Nat) (sp : Option Addr) (k cap : Nat) (W : Nat → Nat) (cs : List Value) (w : World) (h : w.cell? ⟨b, 64, none⟩ = some (.slice (some ⟨c, 0, none⟩) n cc)) (hn2 : n ≤ 4096) (hi : i < n)
    (hw : ∀ k, k < 64 → w.cell? ⟨b, k, none⟩ = some (.int .u64 (W k : Nat))) (hl : ∀ k, W k < 18446744073709551616)
    (hu : used W i = true) (ha : t + k ≤ 64)
    (hcs : cs.length = k) (hsrc : 0 < k → ∃ ad, sp = some ad ∧ ∀ j v, cs[j]? = some v → w.cell? (ad.add j) = some v) (h1 : ∀ v ∈ cs, v.oneCell' = true) (hth : w.there c (i * 64) 64) :
    Calls Tryz.prog 102 #[.pointer (some ⟨b, 0, none⟩), .int .i64 i, .int .i64 t, .slice sp k cap] w fun e w' => e = .returned (.int .i64 0) ∧ ∃ m, w' = (w.setCells c (i * 64 + t) cs).drewN m := by
  have hc := hw (i / 64) (by omega)
  have hli := hl (i / 64)
  have h0 : ¬ (t : Int) < 0 := by omega
  have ha' : ¬ (64 - (k : Int)) < t := by omega
  clear hw hl
  have HT : Hid (w.there c (i * 64) 64) := hth
  have HS : Hid (0 < k → ∃ ad, sp = some ad ∧ ∀ j v, cs[j]? = some v → w.cell? (ad.add j) = some v) := hsrc
  clear hth hsrc
  have hal : Tryz.prog.arrayLen 214 = 64 := by kernel_rfl
  have ht64 : (t : Int) ≤ 64 := by omega
  by_cases hk0 : k = 0
  · have HK : Hid (k = 0) := hk0
    clear hk0
    go_enter Tryz.func102, Tryz.ntmps102
    go_wp2_with (first | (go_at_call 124; refine (fit_used b n cc _ i W _ h hi hn2 hc hli hu).mono ?_; rintro e w' ⟨rfl, m, rfl⟩) | (refine wpList_copy_nothing rfl _ _ 22 22 rfl 5 und33 inf5 _ _ _ _ _ _ rfl rfl (by rw [HK.out]; exact Nat.zero_min _) ?_))
    all_goals
      go_ret
      refine ⟨rfl, m, ?_⟩
      obtain rfl : cs = [] := List.eq_nil_of_length_eq_zero (hcs.trans HK.out)
      rfl
  · obtain ⟨ad, rfl, hsrc⟩ := HS.out (by omega)
    have HC : Hid (∀ j v, cs[j]? = some v → w.cell? (ad.add j) = some v) := hsrc
    have HL : Hid (cs.length = k) := hcs
    have ht : w.there c (i * 64 + t) cs.length := fun j hj => by
      have := HT.out (t + j) (by omega)
      rw [Nat.add_assoc]; exact this
    have HT2 : Hid (w.there c (i * 64 + t) cs.length) := ht
    have HM : Hid (k = Nat.min k (64 - t)) := (Nat.min_eq_left (by omega)).symm
    have h64t : ¬ 64 = t := by omega
    clear hsrc hcs ht
    go_enter Tryz.func102, Tryz.ntmps102
    go_wp2_with (first | (go_at_call 124; refine (fit_used b n cc _ i W _ h hi hn2 hc hli hu).mono ?_; rintro e w' ⟨rfl, m, rfl⟩) | (refine wpList_copy_mid rfl _ _ 22 22 rfl 5 und33 inf5 c (i * 64 + t) (64 - t) (64 - t) ad k cap rfl rfl cs (by rw [HL.out]; exact HM.out) HC.out HT2.out h1 ?_))
    go_ret
    exact ⟨rfl, m, setCells_drewN c m cs (i * 64 + t) w⟩
set_option maxHeartbeats 800000 in
theorem alloc_some (b c n i0 : Nat) (x : Option Addr) (W : Nat → Nat) (w : World) (h : w.cell? ⟨b, 64, none⟩ = some (.slice x n c)) (hn2 : n ≤ 4096) (hi : i0 < n)
    (hw : ∀ k, k < 64 → w.cell? ⟨b, k, none⟩ = some (.int .u64 (W k : Nat))) (hl : ∀ k, W k < 18446744073709551616) (hfz : ∀ o, w.frozen? ⟨b, o, none⟩ = false)
    (hlow : Calls Tryz.prog 142 #[.pointer (some ⟨b, 0, none⟩)] w fun e w' => e = .returned (.int .i64 i0) ∧ w' = w) :
    Calls Tryz.prog 126 #[.pointer (some ⟨b, 0, none⟩)] w fun e w' => e = .returned (.tuple #[.int .i64 i0, .int .i64 0]) ∧ ∃ m, w' = (w.setCell ⟨b, i0 / 64, none⟩ (.int .u64 ((W (i0 / 64) ||| 2 ^ (i0 % 64) : Nat) : Int))).drewN m := by
  have hc := hw (i0 / 64) (by omega)
  have hor := Bt.or_bit (W (i0 / 64)) (i0 % 64) (hl _) (by omega)
  have h64 : i0 / 64 < 64 := by omega
  have HL : Hid (Calls Tryz.prog 142 #[.pointer (some ⟨b, 0, none⟩)] w fun e w' => e = .returned (.int .i64 i0) ∧ w' = w) := hlow
  clear hw hl hlow
  go_enter Tryz.func126, Tryz.ntmps126
  go_wp2_with (first | (go_at_call 140; refine (made_yes b x n c _ h (by omega)).mono ?_; rintro e w' ⟨rfl, rfl⟩) | (go_at_call 142; refine HL.out.mono ?_; rintro e w' ⟨rfl, rfl⟩) | (go_at_call 143; refine (place_any i0 _ (by omega)).mono ?_; rintro e w' ⟨rfl, m, rfl⟩))
  go_region
  go_wp2
  go_ret2
  exact ⟨rfl, _, rfl⟩
set_option maxHeartbeats 800000 in
theorem alloc_full (b c n : Nat) (x : Option Addr) (w : World) (h : w.cell? ⟨b, 64, none⟩ = some (.slice x n c)) (hn : 0 < n)
    (hlow : Calls Tryz.prog 142 #[.pointer (some ⟨b, 0, none⟩)] w fun e w' => ∃ i0 : Nat, e = .returned (.int .i64 i0) ∧ w' = w ∧ n ≤ i0) :
    Calls Tryz.prog 126 #[.pointer (some ⟨b, 0, none⟩)] w fun e w' => e = .returned (.tuple #[.int .i64 0, .int .i64 28]) ∧ w' = w := by
  have HL : Hid (Calls Tryz.prog 142 #[.pointer (some ⟨b, 0, none⟩)] w fun e w' => ∃ i0 : Nat, e = .returned (.int .i64 i0) ∧ w' = w ∧ n ≤ i0) := hlow
  clear hlow
  go_enter Tryz.func126, Tryz.ntmps126
  go_wp2_with (first | (go_at_call 140; refine (made_yes b x n c _ h hn).mono ?_; rintro e w' ⟨rfl, rfl⟩) | (go_at_call 142; refine HL.out.mono ?_; rintro e w' ⟨i0, rfl, rfl, hi0⟩))
  go_ret2
  exact ⟨rfl, rfl⟩
set_option maxHeartbeats 400000 in
theorem free_bad (b : Nat) (i r : Int) (w : World) (hr : (r != 0) = true)
    (hf : Calls Tryz.prog 124 #[.pointer (some ⟨b, 0, none⟩), .int .i64 i] w fun e w' => e = .returned (.int .i64 r) ∧ ∃ m, w' = w.drewN m) :
    Calls Tryz.prog 129 #[.pointer (some ⟨b, 0, none⟩), .int .i64 i] w fun e w' => e = .returned (.int .i64 r) ∧ ∃ m, w' = w.drewN m := by
  have HL : Hid (Calls Tryz.prog 124 #[.pointer (some ⟨b, 0, none⟩), .int .i64 i] w fun e w' => e = .returned (.int .i64 r) ∧ ∃ m, w' = w.drewN m) := hf
  clear hf
  go_enter Tryz.func129, Tryz.ntmps129
  go_wp2_with (go_at_call 124; refine HL.out.mono ?_; rintro e w' ⟨rfl, m, rfl⟩)
  go_ret
  exact ⟨rfl, _, rfl⟩
set_option maxHeartbeats 400000 in
theorem read_bad (b : Nat) (i r : Int) (w : World) (hr : (r != 0) = true)
    (hf : Calls Tryz.prog 124 #[.pointer (some ⟨b, 0, none⟩), .int .i64 i] w fun e w' => e = .returned (.int .i64 r) ∧ ∃ m, w' = w.drewN m) :
    Calls Tryz.prog 128 #[.pointer (some ⟨b, 0, none⟩), .int .i64 i] w fun e w' => e = .returned (.tuple #[.slice none 0 0, .int .i64 r]) ∧ ∃ m, w' = w.drewN m := by
  have HL : Hid (Calls Tryz.prog 124 #[.pointer (some ⟨b, 0, none⟩), .int .i64 i] w fun e w' => e = .returned (.int .i64 r) ∧ ∃ m, w' = w.drewN m) := hf
  clear hf
  go_enter Tryz.func128, Tryz.ntmps128
  go_wp2_with (go_at_call 124; refine HL.out.mono ?_; rintro e w' ⟨rfl, m, rfl⟩)
  go_ret2
  exact ⟨rfl, _, rfl⟩
set_option maxHeartbeats 400000 in
theorem write_unfit (b : Nat) (i at_ r : Int) (sp : Option Addr) (k cap : Nat) (w : World) (hr : (r != 0) = true)
    (hf : Calls Tryz.prog 124 #[.pointer (some ⟨b, 0, none⟩), .int .i64 i] w fun e w' => e = .returned (.int .i64 r) ∧ ∃ m, w' = w.drewN m) :
    Calls Tryz.prog 102 #[.pointer (some ⟨b, 0, none⟩), .int .i64 i, .int .i64 at_, .slice sp k cap] w fun e w' => e = .returned (.int .i64 r) ∧ ∃ m, w' = w.drewN m := by
  have HL : Hid (Calls Tryz.prog 124 #[.pointer (some ⟨b, 0, none⟩), .int .i64 i] w fun e w' => e = .returned (.int .i64 r) ∧ ∃ m, w' = w.drewN m) := hf
  clear hf
  go_enter Tryz.func102, Tryz.ntmps102
  go_wp2_with (go_at_call 124; refine HL.out.mono ?_; rintro e w' ⟨rfl, m, rfl⟩)
  go_ret
  exact ⟨rfl, _, rfl⟩
end Go.Proofs.YtpcbpikhiooafaaGreatDoor
/- The store as a thing: which blocks are in use and what their bytes are; what each call answers and makes of it. Conditions: the store lies in memory as 'St' says, which New brings about. -/
namespace Go.Proofs.YtpcbpikhiooafaaGreatDoor
open Go.RowKit

/-- Of the blocks of memory that were there only those in s have turned. -/
structure Mod (s : Nat → Prop) (w w' : World) : Prop where
  os : w'.os = w.os
  tape : w'.tape = w.tape
  output : w'.output = w.output
  size : w.heap.size ≤ w'.heap.size
  block : ∀ k, k < w.heap.size → ¬ s k → w'.heap[k]? = w.heap[k]?
theorem Mod.refl (s : Nat → Prop) (w : World) : Mod s w w := ⟨rfl, rfl, rfl, Nat.le_refl _, fun _ _ _ => rfl⟩
theorem Mod.trans {s : Nat → Prop} {a b c : World} (h : Mod s a b) (k : Mod s b c) : Mod s a c :=
  ⟨k.os.trans h.os, k.tape.trans h.tape, k.output.trans h.output, Nat.le_trans h.size k.size, fun i hi hs => (k.block i (Nat.lt_of_lt_of_le hi h.size) hs).trans (h.block i hi hs)⟩
theorem Mod.mono {s t : Nat → Prop} {a b : World} (h : Mod s a b) (hst : ∀ k, k < a.heap.size → s k → t k) : Mod t a b :=
  ⟨h.os, h.tape, h.output, h.size, fun i hi hs => h.block i hi fun hk => hs (hst i hi hk)⟩
theorem Mod.drewN {s : Nat → Prop} {a b : World} (h : Mod s a b) (m : Nat) : Mod s a (b.drewN m) := ⟨h.os, h.tape, h.output, h.size, h.block⟩
theorem Mod.alloc {s : Nat → Prop} {a b : World} (h : Mod s a b) (o : Obj) : Mod s a (b.alloc o) :=
  h.trans ⟨rfl, rfl, rfl, by simp, fun k hk _ => Below.heap_alloc _ _ _ hk⟩
theorem Mod.setCell {s : Nat → Prop} {a b : World} (h : Mod s a b) (p : Addr) (v : Value) (hp : s p.block) : Mod s a (b.setCell p v) :=
  h.trans ⟨rfl, rfl, rfl, by simp [World.setCell], fun k _ hs => Below.heap_setCell _ _ _ _ (fun e => hs (e ▸ hp))⟩
theorem Mod.setCells {s : Nat → Prop} {a : World} (bl : Nat) (hp : s bl) : ∀ (vs : List Value) (o : Nat) {b : World}, Mod s a b → Mod s a (b.setCells bl o vs)
  | [], _, _, h => h
  | v :: vs, o, _, h => Mod.setCells bl hp vs (o + 1) (h.setCell ⟨bl, o, none⟩ v hp)
theorem Mod.cell {s : Nat → Prop} {w w' : World} (h : Mod s w w') {p : Addr} (hp : p.block < w.heap.size) (hs : ¬ s p.block) : w'.cell? p = w.cell? p := World.cell?_of_block (w := w) (h.block _ hp hs)
theorem Mod.frozen {s : Nat → Prop} {w w' : World} (h : Mod s w w') {p : Addr} (hp : p.block < w.heap.size) (hs : ¬ s p.block) : w'.frozen? p = w.frozen? p := World.frozen?_of_block (w := w) (h.block _ hp hs)
theorem Mod.below {s : Nat → Prop} {w w' : World} (h : Mod s w w') {B : Nat} (hB : B ≤ w.heap.size) (hs : ∀ k, k < B → ¬ s k) : Below B w w' :=
  ⟨h.os, h.tape, h.output, h.size, fun k hk => h.block k (by omega) (hs k hk)⟩

def upd {α : Type} (u : Nat → α) (i : Nat) (v : α) : Nat → α := fun j => if j = i then v else u j
/-- What the bytes are when bs were laid over them from o on. -/
def over (D : Nat → Nat) (o : Nat) (bs : List Nat) : Nat → Nat := fun j => if o ≤ j ∧ j < o + bs.length then bs.getD (j - o) 0 else D j
def byteV (x : Nat) : Value := .int .u8 x

structure St (w : World) (b c n : Nat) (u : Nat → Bool) (D : Nat → Nat) : Prop where
  n1 : 1 ≤ n
  n2 : n ≤ 4096
  bc : b ≠ c
  b0 : b ≠ 1
  c0 : c ≠ 1
  tab : TabIs w
  sl : ∃ cc, w.cell? ⟨b, 64, none⟩ = some (.slice (some ⟨c, 0, none⟩) n cc)
  cb : ∀ j, j < n * 64 → w.cell? ⟨c, j, none⟩ = some (byteV (D j))
  dl : ∀ j, D j < 256
  fb : ∀ o, w.frozen? ⟨b, o, none⟩ = false
  fc : ∀ o, w.frozen? ⟨c, o, none⟩ = false
  bm : ∃ W : Nat → Nat, (∀ k, k < 64 → w.cell? ⟨b, k, none⟩ = some (.int .u64 (W k : Nat))) ∧ (∀ k, W k < 18446744073709551616) ∧ ∀ i, i < 4096 → used W i = u i
  out : ∀ i, n ≤ i → u i = false
  free : ∀ i, i < n → u i = false → ∀ j, j < 64 → D (i * 64 + j) = 0

theorem St.lt_b {w : World} {b c n : Nat} {u : Nat → Bool} {D : Nat → Nat} (S : St w b c n u D) : b < w.heap.size := by obtain ⟨_, h⟩ := S.sl; exact block_lt_of_cell h
theorem St.lt_c {w : World} {b c n : Nat} {u : Nat → Bool} {D : Nat → Nat} (S : St w b c n u D) : c < w.heap.size := block_lt_of_cell (S.cb 0 (by have := S.n1; omega))
theorem TabIs.lt {w : World} (h : TabIs w) : 1 < w.heap.size := block_lt_of_cell (h 0 (by omega))
theorem TabIs.keep {w w' : World} (h : TabIs w) (h0 : w'.heap[1]? = w.heap[1]?) : TabIs w' := fun j hj => by
  rw [World.cell?_of_block (w := w) (a := ⟨1, j, none⟩) h0]; exact h j hj
theorem St.keep {w w' : World} {b c n : Nat} {u : Nat → Bool} {D : Nat → Nat} (S : St w b c n u D) (h0 : w'.heap[1]? = w.heap[1]?) (hb : w'.heap[b]? = w.heap[b]?) (hc : w'.heap[c]? = w.heap[c]?) : St w' b c n u D where
  n1 := S.n1
  n2 := S.n2
  bc := S.bc
  b0 := S.b0
  c0 := S.c0
  tab := S.tab.keep h0
  sl := by obtain ⟨cc, h⟩ := S.sl; exact ⟨cc, by rw [World.cell?_of_block (w := w) (a := ⟨b, 64, none⟩) hb]; exact h⟩
  cb j hj := by rw [World.cell?_of_block (w := w) (a := ⟨c, j, none⟩) hc]; exact S.cb j hj
  dl := S.dl
  fb o := by rw [World.frozen?_of_block (w := w) (a := ⟨b, o, none⟩) hb]; exact S.fb o
  fc o := by rw [World.frozen?_of_block (w := w) (a := ⟨c, o, none⟩) hc]; exact S.fc o
  bm := by
    obtain ⟨W, h1, h2, h3⟩ := S.bm
    exact ⟨W, fun k hk => by rw [World.cell?_of_block (w := w) (a := ⟨b, k, none⟩) hb]; exact h1 k hk, h2, h3⟩
  out := S.out
  free := S.free
theorem St.drewN {w : World} {b c n : Nat} {u : Nat → Bool} {D : Nat → Nat} (S : St w b c n u D) (m : Nat) : St (w.drewN m) b c n u D := S.keep rfl rfl rfl
theorem St.mod {s : Nat → Prop} {w w' : World} {b c n : Nat} {u : Nat → Bool} {D : Nat → Nat} (S : St w b c n u D) (h : Mod s w w') (h0 : ¬ s 1) (hb : ¬ s b) (hc : ¬ s c) : St w' b c n u D :=
  S.keep (h.block _ S.tab.lt h0) (h.block _ S.lt_b hb) (h.block _ S.lt_c hc)

theorem made_at (n j : Nat) (hj : j < n * 64) : (madeCells zero73 (n * 64))[j]? = some (byteV 0) := by
  have hz : ∀ k, k < 64 → zero73[k]! = byteV 0 := by
    intro k hk
    rw [getElem!_pos zero73 k (by rw [size73]; exact hk)]
    simp only [zero73, Array.getElem_replicate]; rfl
  simp only [madeCells, Array.getElem?_map, size73]
  rw [Array.getElem?_eq_getElem (by simpa using hj)]
  simp only [Array.getElem_range, Option.map_some]
  rw [hz _ (Nat.mod_lt _ (by omega))]
theorem zero50_at (k : Nat) (hk : k < 64) (v : Value) : (zero50.setIfInBounds 64 v)[k]? = some (.int .u64 0) := by
  rw [Array.getElem?_setIfInBounds_ne (by omega)]
  simp only [zero50]
  rw [Array.getElem?_push, if_neg (by simp; omega), Array.getElem?_replicate, if_pos hk]
theorem zero50_last (v : Value) : (zero50.setIfInBounds 64 v)[64]? = some v := by
  rw [Array.getElem?_setIfInBounds_self_of_lt (by rw [size50]; omega)]

theorem St.new (n : Nat) (w : World) (hn : 1 ≤ n) (hn2 : n ≤ 4096) (hT : TabIs w) : Calls Tryz.prog 29 #[.int .i64 n] w fun e w' => e = .returned (.tuple #[.pointer (some ⟨w.heap.size + 1, 0, none⟩), .int .i64 0]) ∧
    St w' (w.heap.size + 1) w.heap.size n (fun _ => false) (fun _ => 0) ∧ Mod (fun _ => False) w w' ∧ w'.heap.size = w.heap.size + 2 := by
  refine (new_ok n w hn hn2).mono fun e w' ⟨he, hw⟩ => ⟨he, ?_, ?_, ?_⟩
  · subst hw
    have h0 := hT.lt
    have hs : (w.alloc (.cells (madeCells zero73 (n * 64)) 214)).heap.size = w.heap.size + 1 := by simp
    exact {
      n1 := hn, n2 := hn2, bc := by omega, b0 := by omega, c0 := by omega
      tab := fun j hj => by
        rw [World.cell?_alloc_past _ _ _ (by rw [hs]; omega), World.cell?_alloc_past _ _ _ h0]; exact hT j hj
      sl := ⟨n, by rw [World.cell?_alloc_at _ _ _ _ hs.symm, zero50_last]⟩
      cb := fun j hj => by
        rw [World.cell?_alloc_past _ _ _ (by rw [hs]; omega), World.cell?_alloc_at _ _ _ _ rfl]; exact made_at n j hj
      dl := fun _ => by omega
      fb := fun o => World.frozen?_alloc_at _ _ _ _ hs.symm
      fc := fun o => by rw [World.frozen?_alloc_past _ _ _ (by rw [hs]; omega)]; exact World.frozen?_alloc_at _ _ _ _ rfl
      bm := ⟨fun _ => 0, fun k hk => by rw [World.cell?_alloc_at _ _ _ _ hs.symm, zero50_at k hk]; rfl, fun _ => Nat.two_pow_pos 64, fun i _ => by simp [used]⟩
      out := fun _ _ => rfl
      free := fun _ _ _ _ _ => rfl }
  · subst hw; exact ((Mod.refl _ w).alloc _).alloc _
  · subst hw; simp

section
variable {w : World} {b c n : Nat} {u : Nat → Bool} {D : Nat → Nat}
theorem cnt_split (u : Nat → Bool) (n m : Nat) (hnm : n ≤ m) (h : ∀ i, n ≤ i → u i = false) : Bt.cnt u m = Bt.cnt u n := by
  rw [show m = n + (m - n) by omega, Bt.cnt_add]
  have : ∀ k, Bt.cnt (fun j => u (n + j)) k = 0 := by
    intro k
    induction k with
    | zero => rfl
    | succ k ih => simp only [Bt.cnt, ih, h (n + k) (by omega)]; rfl
  rw [this]; omega
theorem St.is_in (S : St w b c n u D) (i : Nat) (hi : i < n) : Calls Tryz.prog 141 #[.pointer (some ⟨b, 0, none⟩), .int .i64 i] w fun e w' => e = .returned (.bool (u i)) ∧ ∃ m, w' = w.drewN m := by
  obtain ⟨W, h1, h2, h3⟩ := S.bm
  have h4 := S.n2
  rw [← h3 i (by omega)]
  obtain ⟨cc, hsl⟩ := S.sl
  exact Go.Proofs.YtpcbpikhiooafaaGreatDoor.is_in b n cc _ i W w hsl hi S.n2 (h1 _ (by omega)) (h2 _)
theorem St.is_out (S : St w b c n u D) (i : Int) (hi : i < 0 ∨ n ≤ i) : Calls Tryz.prog 141 #[.pointer (some ⟨b, 0, none⟩), .int .i64 i] w fun e w' => e = .returned (.bool false) ∧ w' = w := by
  obtain ⟨cc, hsl⟩ := S.sl
  exact Go.Proofs.YtpcbpikhiooafaaGreatDoor.is_out b n cc _ i w hsl S.n1 hi
/-- Not a block in use. -/
def Unfit (n : Nat) (u : Nat → Bool) (i : Int) : Prop := i < 0 ∨ n ≤ i ∨ u i.toNat = false
theorem St.fit_not (S : St w b c n u D) (i : Int) (hi : Unfit n u i) : Calls Tryz.prog 124 #[.pointer (some ⟨b, 0, none⟩), .int .i64 i] w fun e w' => e = .returned (.int .i64 22) ∧ ∃ m, w' = w.drewN m := by
  obtain ⟨cc, hsl⟩ := S.sl
  by_cases ho : i < 0 ∨ n ≤ i
  · exact (fit_out b n cc _ i w hsl S.n1 ho).mono fun e w' ⟨h1, h2⟩ => ⟨h1, 0, h2⟩
  · obtain ⟨W, h1, h2, h3⟩ := S.bm
    have h4 := S.n2
    obtain ⟨k, rfl⟩ := Int.eq_ofNat_of_zero_le (show 0 ≤ i by omega)
    have hu : u k = false := by
      rcases hi with h | h | h
      · omega
      · omega
      · simpa using h
    exact fit_free b n cc _ k W w hsl (by omega) S.n2 (h1 _ (by omega)) (h2 _) (by rw [h3 k (by omega)]; exact hu)
theorem St.free_not (S : St w b c n u D) (i : Int) (hi : Unfit n u i) : Calls Tryz.prog 129 #[.pointer (some ⟨b, 0, none⟩), .int .i64 i] w fun e w' => e = .returned (.int .i64 22) ∧ ∃ m, w' = w.drewN m :=
  free_bad b i 22 w rfl (S.fit_not i hi)
theorem St.read_not (S : St w b c n u D) (i : Int) (hi : Unfit n u i) : Calls Tryz.prog 128 #[.pointer (some ⟨b, 0, none⟩), .int .i64 i] w fun e w' => e = .returned (.tuple #[.slice none 0 0, .int .i64 22]) ∧ ∃ m, w' = w.drewN m :=
  read_bad b i 22 w rfl (S.fit_not i hi)
theorem St.write_not (S : St w b c n u D) (i at_ : Int) (sp : Option Addr) (k cap : Nat) (hk : k ≤ maxLen) (hi : Unfit n u i ∨ at_ < 0 ∨ 64 < at_ + k) :
    Calls Tryz.prog 102 #[.pointer (some ⟨b, 0, none⟩), .int .i64 i, .int .i64 at_, .slice sp k cap] w fun e w' => e = .returned (.int .i64 22) ∧ ∃ m, w' = w.drewN m := by
  by_cases hf : Unfit n u i
  · exact write_unfit b i at_ 22 sp k cap w rfl (S.fit_not i hf)
  · have ha : at_ < 0 ∨ 64 < at_ + k := by rcases hi with h | h; exact absurd h hf; exact h
    obtain ⟨W, h1, h2, h3⟩ := S.bm
    have h4 := S.n2
    unfold Unfit at hf
    obtain ⟨j, rfl⟩ := Int.eq_ofNat_of_zero_le (show 0 ≤ i by omega)
    have hu : u j = true := by
      have : ¬ u (j : Int).toNat = false := fun e => hf (.inr (.inr e))
      simpa using this
    obtain ⟨cc, hsl⟩ := S.sl
    exact write_bad b c cc n j at_ sp k cap W w hsl S.n2 (by omega) h1 h2 hk (by rw [h3 j (by omega)]; exact hu) ha

theorem setCell_in (w : World) (b o : Nat) (v v' : Value) (h : w.cell? ⟨b, o, none⟩ = some v') : (w.setCell ⟨b, o, none⟩ v).cell? ⟨b, o, none⟩ = some v :=
  World.cell?_setCells_in b [v] o w (fun j hj => by simp at hj; subst hj; rw [Nat.add_zero, h]; rfl) 0 (by simp)
theorem setCell_out (w : World) (b o : Nat) (v : Value) (x : Addr) (h : x.block = b → x.off ≠ o) : (w.setCell ⟨b, o, none⟩ v).cell? x = w.cell? x :=
  World.cell?_setCells_out b [v] o w x (fun h1 _ => by have := h h1; simp; omega)
theorem setCell_frozen (w : World) (b o : Nat) (v : Value) (x : Addr) : (w.setCell ⟨b, o, none⟩ v).frozen? x = w.frozen? x := World.frozen?_setCells b [v] o w x

/-- A word of the bitmap is written. -/
theorem St.setWord (S : St w b c n u D) (i : Nat) (hi : i < n) (v : Bool) (x : Nat) (hx : x < 18446744073709551616) (W : Nat → Nat)
    (hW : ∀ k, k < 64 → w.cell? ⟨b, k, none⟩ = some (.int .u64 (W k : Nat))) (hl : ∀ k, W k < 18446744073709551616) (hu : ∀ i, i < 4096 → used W i = u i)
    (hbit : ∀ j, j < 64 → x.testBit j = if j = i % 64 then v else (W (i / 64)).testBit j) (hv : v = false → ∀ j, j < 64 → D (i * 64 + j) = 0) :
    St (w.setCell ⟨b, i / 64, none⟩ (.int .u64 (x : Nat))) b c n (upd u i v) D where
  n1 := S.n1
  n2 := S.n2
  bc := S.bc
  b0 := S.b0
  c0 := S.c0
  tab j hj := by rw [setCell_out _ _ _ _ _ (fun e => absurd e.symm S.b0)]; exact S.tab j hj
  sl := by
    have := S.n2
    obtain ⟨cc, h⟩ := S.sl
    exact ⟨cc, by rw [setCell_out _ _ _ _ _ (fun _ => by show (64 : Nat) ≠ i / 64; omega)]; exact h⟩
  cb j hj := by rw [setCell_out _ _ _ _ _ (fun e => absurd e.symm S.bc)]; exact S.cb j hj
  dl := S.dl
  fb o := by rw [setCell_frozen]; exact S.fb o
  fc o := by rw [setCell_frozen]; exact S.fc o
  bm := by
    have h2 := S.n2
    refine ⟨upd W (i / 64) x, fun k hk => ?_, fun k => ?_, fun j hj => ?_⟩
    · by_cases e : k = i / 64
      · subst e; rw [setCell_in _ _ _ _ _ (hW _ hk)]; simp [upd]
      · rw [setCell_out _ _ _ _ _ (fun _ => e), hW k hk]; simp [upd, e]
    · unfold upd; split; exact hx; exact hl k
    · unfold used upd
      by_cases e : j / 64 = i / 64
      · rw [if_pos e, hbit _ (by omega), ← e]
        by_cases e2 : j = i
        · subst e2; simp
        · rw [if_neg (by omega), if_neg e2]; exact hu j hj
      · rw [if_neg e, if_neg (fun e2 => e (by rw [e2]))]; exact hu j hj
  out j hj := by unfold upd; rw [if_neg (by omega)]; exact S.out j hj
  free j hj hf := by
    unfold upd at hf
    by_cases e : j = i
    · subst e; rw [if_pos rfl] at hf; exact hv hf
    · rw [if_neg e] at hf; exact S.free j hj hf
theorem St.alloc_some (S : St w b c n u D) (i : Nat) (hi : i < n) (h1 : u i = false) (h2 : ∀ j, j < i → u j = true) :
    Calls Tryz.prog 126 #[.pointer (some ⟨b, 0, none⟩)] w fun e w' => e = .returned (.tuple #[.int .i64 i, .int .i64 0]) ∧ St w' b c n (upd u i true) D ∧ Mod (fun k => k = b) w w' ∧ w'.heap.size = w.heap.size := by
  obtain ⟨W, hW, hl, hu⟩ := S.bm
  have hn := S.n2
  have hlow := low_at b i W w hW hl S.tab (by omega) (by rw [hu i (by omega)]; exact h1) (fun j hj => by rw [hu j (by omega)]; exact h2 j hj)
  obtain ⟨cc, hsl⟩ := S.sl
  refine (Go.Proofs.YtpcbpikhiooafaaGreatDoor.alloc_some b cc n i _ W w hsl hn hi hW hl S.fb hlow).mono fun e w' ⟨he, m, hw⟩ => ⟨he, ?_, ?_, ?_⟩
  · subst hw
    refine (S.setWord i hi true _ (Bt.or_lt _ _ (hl _) (by omega)) W hW hl hu (fun j _ => ?_) (fun h => by cases h)).drewN m
    rw [Bt.or_test]
    by_cases e : j = i % 64
    · simp [e]
    · rw [if_neg e, show decide (i % 64 = j) = false by simp; omega, Bool.or_false]
  · subst hw; exact ((Mod.refl (fun k => k = b) w).setCell _ _ rfl).drewN m
  · subst hw; simp [World.setCell]
theorem St.alloc_full (S : St w b c n u D) (h : ∀ i, i < n → u i = true) :
    Calls Tryz.prog 126 #[.pointer (some ⟨b, 0, none⟩)] w fun e w' => e = .returned (.tuple #[.int .i64 0, .int .i64 28]) ∧ w' = w := by
  obtain ⟨W, hW, hl, hu⟩ := S.bm
  have hn := S.n2
  obtain ⟨cc, hsl⟩ := S.sl
  refine Go.Proofs.YtpcbpikhiooafaaGreatDoor.alloc_full b cc n _ w hsl S.n1 ((low_any b W w hW hl S.tab).mono fun e w' ⟨i, he, hw', h4, _, h6⟩ => ⟨i, he, hw', ?_⟩)
  by_cases ha : i < n
  · have := h i ha; rw [← hu i (by omega), h6 (by omega)] at this; cases this
  · omega
def zeros : List Nat := List.replicate 64 0
theorem len_zeros : zeros.length = 64 := rfl
theorem over_zero (D : Nat → Nat) (o : Nat) (j : Nat) (h1 : o ≤ j) (h2 : j < o + 64) : over D o zeros j = 0 := by
  unfold over; rw [if_pos ⟨h1, h2⟩, List.getD_eq_getElem?_getD, zeros, List.getElem?_replicate]; split <;> rfl
theorem over_else (D : Nat → Nat) (o : Nat) (bs : List Nat) (j : Nat) (h : ¬ (o ≤ j ∧ j < o + bs.length)) : over D o bs j = D j := if_neg h
/-- Bytes of a block are written. -/
theorem St.setBytes (S : St w b c n u D) (o : Nat) (bs : List Nat) (ho : o + bs.length ≤ n * 64) (hb : ∀ x ∈ bs, x < 256)
    (hf : ∀ i, i < n → u i = false → ∀ j, j < 64 → over D o bs (i * 64 + j) = 0) : St (w.setCells c o (bs.map byteV)) b c n u (over D o bs) where
  n1 := S.n1
  n2 := S.n2
  bc := S.bc
  b0 := S.b0
  c0 := S.c0
  tab j hj := by rw [World.cell?_setCells_out _ _ _ _ _ (fun e => absurd e.symm S.c0)]; exact S.tab j hj
  sl := by obtain ⟨cc, h⟩ := S.sl; exact ⟨cc, by rw [World.cell?_setCells_out _ _ _ _ _ (fun e => absurd e S.bc)]; exact h⟩
  cb j hj := by
    unfold over
    by_cases e : o ≤ j ∧ j < o + bs.length
    · rw [if_pos e]
      have := World.cell?_setCells_in c (bs.map byteV) o w (fun k hk => by rw [S.cb _ (by simp at hk; omega)]; rfl) (j - o) (by simp; omega)
      rw [show o + (j - o) = j by omega] at this
      rw [this, List.getElem_map, List.getD_eq_getElem?_getD, List.getElem?_eq_getElem (by omega)]; rfl
    · rw [if_neg e, World.cell?_setCells_out _ _ _ _ _ (fun _ _ => by simp; omega)]; exact S.cb j hj
  dl j := by
    unfold over
    split
    · rename_i e
      rw [List.getD_eq_getElem?_getD, List.getElem?_eq_getElem (by omega)]
      exact hb _ (List.getElem_mem _)
    · exact S.dl j
  fb x := by rw [World.frozen?_setCells]; exact S.fb x
  fc x := by rw [World.frozen?_setCells]; exact S.fc x
  bm := by
    obtain ⟨W, h1, h2, h3⟩ := S.bm
    exact ⟨W, fun k hk => by rw [World.cell?_setCells_out _ _ _ _ _ (fun e => absurd e S.bc)]; exact h1 k hk, h2, h3⟩
  out := S.out
  free := hf
theorem St.there (S : St w b c n u D) (i : Nat) (hi : i < n) : w.there c (i * 64) 64 := fun j hj => ⟨by rw [S.cb _ (by omega)]; rfl, S.fc _⟩
theorem setCell_comm (w : World) (p q : Addr) (v v' : Value) (h : p.block ≠ q.block) : (w.setCell p v).setCell q v' = (w.setCell q v').setCell p v := by
  simp only [World.setCell]
  congr 1
  apply Array.ext_getElem?
  intro i
  simp only [Array.getElem?_modify]
  by_cases e1 : p.block = i
  · have e2 : ¬ q.block = i := fun e => h (e1.trans e.symm)
    simp [e1, e2]
  · simp [e1]
theorem setCells_comm (b c k : Nat) (v : Value) (hbc : b ≠ c) : ∀ (vs : List Value) (o : Nat) (w : World), (w.setCell ⟨b, k, none⟩ v).setCells c o vs = (w.setCells c o vs).setCell ⟨b, k, none⟩ v
  | [], _, _ => rfl
  | x :: vs, o, w => by
    rw [World.setCells, setCell_comm _ _ _ _ _ (by simpa using hbc), setCells_comm b c k v hbc vs]; rfl
theorem size_setCells (c : Nat) : ∀ (vs : List Value) (o : Nat) (w : World), (w.setCells c o vs).heap.size = w.heap.size
  | [], _, _ => rfl
  | v :: vs, o, w => by rw [World.setCells, size_setCells c vs]; simp [World.setCell]
theorem zero_list : zero73.toList = zeros.map byteV := by rw [zero73, zeros, List.map_replicate, Array.toList_replicate]; rfl
theorem St.free_ok (S : St w b c n u D) (i : Nat) (hi : i < n) (h1 : u i = true) :
    Calls Tryz.prog 129 #[.pointer (some ⟨b, 0, none⟩), .int .i64 i] w fun e w' => e = .returned (.int .i64 0) ∧ St w' b c n (upd u i false) (over D (i * 64) zeros) ∧ Mod (fun k => k = b ∨ k = c) w w' ∧ w'.heap.size = w.heap.size := by
  obtain ⟨W, hW, hl, hu⟩ := S.bm
  have hn := S.n2
  obtain ⟨cc, hsl⟩ := S.sl
  refine (Go.Proofs.YtpcbpikhiooafaaGreatDoor.free_ok b c cc n i W w hsl hn hi hW hl S.fb (by rw [size73]; exact S.there i hi) (by rw [hu i (by omega)]; exact h1)).mono fun e w' ⟨he, m, hw⟩ => ⟨he, ?_, ?_, ?_⟩
  · subst hw
    rw [zero_list, setCells_comm b c _ _ S.bc]
    have S1 := S.setBytes (i * 64) zeros (by rw [len_zeros]; omega) (fun x hx => by simp [zeros] at hx; omega) (fun k hk hf j hj => by
      by_cases e : k = i
      · subst e; exact over_zero D _ _ (by omega) (by omega)
      · rw [over_else _ _ _ _ (by rw [len_zeros]; omega)]; exact S.free k hk hf j hj)
    refine (S1.setWord i hi false _ (Bt.not_lt _ _ (hl _)) W (fun k hk => by rw [World.cell?_setCells_out _ _ _ _ _ (fun e => absurd e S.bc)]; exact hW k hk) hl hu (fun j hj => ?_) (fun _ j hj => over_zero D _ _ (by omega) (by omega))).drewN m
    rw [Bt.not_test _ _ _ hj (by omega)]
    by_cases e : j = i % 64
    · simp [e]
    · rw [if_neg e, show decide (i % 64 = j) = false by simp; omega]; simp
  · subst hw; exact (Mod.setCells c (.inr rfl) _ _ ((Mod.refl _ w).setCell _ _ (.inl rfl))).drewN m
  · subst hw; simp [size_setCells, World.setCell]
/-- The bytes of block i. -/
def blk (D : Nat → Nat) (i : Nat) : List Nat := (List.range 64).map fun j => D (i * 64 + j)
theorem len_blk (D : Nat → Nat) (i : Nat) : (blk D i).length = 64 := by simp [blk]
theorem St.range (S : St w b c n u D) (i : Nat) (hi : i < n) : w.rangeAt c (i * 64) ((blk D i).map byteV) := fun j v hv => by
  have hj : j < 64 := by
    have := (List.getElem?_eq_some_iff.1 hv).1
    simpa [blk] using this
  simp only [blk, List.map_map, List.getElem?_map, List.getElem?_range hj, Option.map_some, Option.some.injEq] at hv
  rw [S.cb _ (by omega), ← hv]; rfl
theorem one_bytes (bs : List Nat) : ∀ v ∈ bs.map byteV, v.oneCell' = true := fun v hv => by
  obtain ⟨x, _, rfl⟩ := List.mem_map.1 hv; rfl
theorem St.read_ok (S : St w b c n u D) (i : Nat) (hi : i < n) (h1 : u i = true) :
    Calls Tryz.prog 128 #[.pointer (some ⟨b, 0, none⟩), .int .i64 i] w fun e w' => e = .returned (.tuple #[.slice (some ⟨w.heap.size, 0, none⟩) 64 64, .int .i64 0]) ∧ ∃ m, w' = (w.alloc (.cells ((blk D i).map byteV).toArray 214)).drewN m := by
  obtain ⟨W, hW, hl, hu⟩ := S.bm
  have hn := S.n2
  obtain ⟨cc, hsl⟩ := S.sl
  exact Go.Proofs.YtpcbpikhiooafaaGreatDoor.read_ok b c cc n i W _ w hsl hn hi hW hl (S.range i hi) (by rw [List.length_map, len_blk]) (all_oneCell_toArray (one_bytes _)) (by rw [hu i (by omega)]; exact h1)
theorem St.write_ok (S : St w b c n u D) (i t : Nat) (sp : Option Addr) (k cap : Nat) (bs : List Nat) (hi : i < n) (h1 : u i = true) (ht : t + k ≤ 64) (hk : bs.length = k) (hb : ∀ x ∈ bs, x < 256)
    (hsrc : 0 < k → ∃ ad, sp = some ad ∧ ∀ j v, (bs.map byteV)[j]? = some v → w.cell? (ad.add j) = some v) :
    Calls Tryz.prog 102 #[.pointer (some ⟨b, 0, none⟩), .int .i64 i, .int .i64 t, .slice sp k cap] w fun e w' => e = .returned (.int .i64 0) ∧ St w' b c n u (over D (i * 64 + t) bs) ∧ Mod (fun k => k = c) w w' ∧ w'.heap.size = w.heap.size := by
  obtain ⟨W, hW, hl, hu⟩ := S.bm
  have hn := S.n2
  obtain ⟨cc, hsl⟩ := S.sl
  refine (Go.Proofs.YtpcbpikhiooafaaGreatDoor.write_ok b c cc n i t sp k cap W (bs.map byteV) w hsl hn hi hW hl (by rw [hu i (by omega)]; exact h1) ht (by rw [List.length_map]; exact hk) hsrc (one_bytes bs) (S.there i hi)).mono fun e w' ⟨he, m, hw⟩ => ⟨he, ?_, ?_, ?_⟩
  · subst hw
    refine (S.setBytes (i * 64 + t) bs (by omega) hb (fun x hx hf j hj => ?_)).drewN m
    rw [over_else _ _ _ _ (fun e => ?_)]
    · exact S.free x hx hf j hj
    · have : x = i := by omega
      subst this; rw [h1] at hf; cases hf
  · subst hw; exact (Mod.setCells (s := fun k => k = c) c rfl _ _ (Mod.refl _ w)).drewN m
  · subst hw; simp [size_setCells]
end
end Go.Proofs.YtpcbpikhiooafaaGreatDoor
/- The walk of Used: the blocks in use, rising, in new memory. Condition: the store lies in memory as 'St' says. -/
namespace Go.Proofs.YtpcbpikhiooafaaGreatDoor
open Go.RowKit
theorem Mod.grown {s : Nat → Prop} {a w w' : World} {row : Option Nat} (h : Mod s a w) (hg : w.grownBy w' row) (hr : ∀ k, row = some k → a.heap.size ≤ k) : Mod s a w' :=
  ⟨hg.os.trans h.os, hg.tape.trans h.tape, hg.output.trans h.output, Nat.le_trans h.size hg.size, fun k hk hs =>
    (hg.block k (Nat.lt_of_lt_of_le hk h.size) (fun e => by have := hr k e.symm; omega)).trans (h.block k hk hs)⟩
def usedL (u : Nat → Bool) (k : Nat) : List Nat := (List.range k).filter u
def intV (x : Nat) : Value := .int .i64 x
theorem usedL_yes (u : Nat → Bool) (k : Nat) (h : u k = true) : usedL u (k + 1) = usedL u k ++ [k] := by
  simp [usedL, List.range_succ, List.filter_append, h]
theorem usedL_no (u : Nat → Bool) (k : Nat) (h : u k = false) : usedL u (k + 1) = usedL u k := by
  simp [usedL, List.range_succ, List.filter_append, h]
theorem usedL_le (u : Nat → Bool) (k : Nat) : (usedL u k).length ≤ k := by
  have := List.length_filter_le u (List.range k)
  simpa [usedL] using this
theorem usedL_cnt (u : Nat → Bool) : ∀ k, (usedL u k).length = Bt.cnt u k
  | 0 => rfl
  | k + 1 => by
    have ih := usedL_cnt u k
    cases h : u k with
    | false => rw [usedL_no u k h, ih]; simp [Bt.cnt, h]
    | true => rw [usedL_yes u k h, List.length_append, ih]; simp [Bt.cnt, h]
theorem info3 : ∃ i, Tryz.prog.info? 3 = some i ∧ i.zero = some (.int .i64 0) ∧ i.size = 1 ∧ i.bytes = 8 := info_of (by kernel_rfl)
theorem und43 : Tryz.prog.underlying 31 = some (.slice 3) := by kernel_rfl
end Go.Proofs.YtpcbpikhiooafaaGreatDoor
