/- The walks of the store's calls that write or make memory: New, Alloc, Free, Read, Write. Conditions: the store's cells are as said. -/
import Derived.Test.YtfmemkninmpfjaaGreatDoorM1
import Derived.RegionTactic
import Derived.BigRegion
import Derived.Deep.MidRow
import Derived.Deep.WholeRow
import Derived.Laws.CopyOwn
import Derived.KernelRfl
namespace Go.Proofs.YtfmemkninmpfjaaGreatDoor
open Go.RowKit
/-- The zero values of a store and of a block. -/
def zero50 : Array Value := (Array.replicate 64 (.int .u64 0)).push (.slice none 0 0)
def zero73 : Array Value := Array.replicate 64 (.int .u8 0)
theorem size50 : zero50.size = 65 := rfl
theorem size73 : zero73.size = 64 := rfl
theorem zv50 (w : World) : (zeroValue 173).run Tryz.prog w = .ok (.agg zero50) w := by kernel_rfl
theorem zv73 (w : World) : (zeroValue 203).run Tryz.prog w = .ok (.agg zero73) w := by kernel_rfl
theorem info_of {t s b : Nat} {z : Option Value} (h : (Tryz.prog.info? t).map (fun i => (i.zero, i.size, i.bytes)) = some (z, s, b)) : ∃ i, Tryz.prog.info? t = some i ∧ i.zero = z ∧ i.size = s ∧ i.bytes = b := by
  obtain ⟨i, h1, h2⟩ := Option.map_eq_some_iff.mp h
  simp only [Prod.mk.injEq] at h2
  exact ⟨i, h1, h2.1, h2.2.1, h2.2.2⟩
theorem info73 : ∃ i, Tryz.prog.info? 203 = some i ∧ i.zero = some (.agg zero73) ∧ i.size = 64 ∧ i.bytes = 64 := info_of (by kernel_rfl)
theorem und73 : Tryz.prog.underlying 203 = some (.array 64 5) := by kernel_rfl
theorem inf73 : (Tryz.prog.info? 203).map (·.size) = some zero73.size := by kernel_rfl
theorem one73 : zero73.all (·.oneCell') = true := by kernel_rfl
theorem und33 : Tryz.prog.underlying 28 = some (.slice 5) := by kernel_rfl
theorem inf5 : (Tryz.prog.info? 5).map (·.size) = some 1 := by kernel_rfl
theorem und48 : Tryz.prog.underlying 169 = some (.slice 203) := by kernel_rfl
theorem mk_blocks (n : Nat) (hn : n ≤ 4096) (w : World) : (Instr.makeSlice 169 (.int .i64 n) (.int .i64 n)).run Tryz.prog w = .ok (.slice (some ⟨w.heap.size, 0, none⟩) n n) (w.alloc (.cells (madeCells zero73 (n * 64)) 203)) := by
  obtain ⟨i, h1, h2, h3, h4⟩ := info73
  have := run_make (P := Tryz.prog) w 169 203 i _ und48 h1 h2 .i64 .i64 n n (by omega) (by omega) (by rw [h4]; omega) (by omega)
  rw [h3] at this
  simpa [Value.cells] using this
set_option maxHeartbeats 400000 in
theorem new_ok (n : Nat) (w : World) (hn : 1 ≤ n) (hn2 : n ≤ 4096) : Calls Tryz.prog 70 #[.int .i64 n] w fun e w' => e = .returned (.tuple #[.pointer (some ⟨w.heap.size + 1, 0, none⟩), .int .i64 0]) ∧
    w' = (w.alloc (.cells (madeCells zero73 (n * 64)) 203)).alloc (.cells (zero50.setIfInBounds 64 (.slice (some ⟨w.heap.size, 0, none⟩) n n)) 173) := by
  have hm := mk_blocks n hn2
  have hz := zv50
  have hs := size50
  have hn' : ¬ (n : Int) < 1 := by omega
  go_enter Tryz.func70, Tryz.ntmps70
  go_wp2
  go_ret2
  exact ⟨rfl, rfl⟩
set_option maxHeartbeats 400000 in
theorem new_bad (n : Int) (w : World) (hn : n < 1 ∨ 4096 < n) : Calls Tryz.prog 70 #[.int .i64 n] w fun e w' => e = .returned (.tuple #[.pointer none, .int .i64 22]) ∧ w' = w := by
  rcases hn with hn | hn
  · go_enter Tryz.func70, Tryz.ntmps70
    go_wp2
    go_ret2
    exact ⟨rfl, rfl⟩
  · have hn' : ¬ n < 1 := by omega
    go_enter Tryz.func70, Tryz.ntmps70
    go_wp2
    go_ret2
    exact ⟨rfl, rfl⟩
theorem setCells_drewN (b m : Nat) : ∀ (vs : List Value) (o : Nat) (w : World), (w.drewN m).setCells b o vs = (w.setCells b o vs).drewN m
  | [], _, _ => rfl
  | v :: vs, o, w => by
    show ((w.drewN m).setCell ⟨b, o, none⟩ v).setCells b (o + 1) vs = _
    rw [show (w.drewN m).setCell ⟨b, o, none⟩ v = (w.setCell ⟨b, o, none⟩ v).drewN m from rfl, setCells_drewN b m vs]
    rfl
theorem setCells_new (w : World) (t : TypeId) (z : Array Value) (cs : List Value) (h : z.size = cs.length) (h1 : cs.toArray.all (·.oneCell') = true) (hi : (Tryz.prog.info? t).map (·.size) = some cs.length) :
    (w.alloc (.cells z t)).setCells w.heap.size 0 cs = w.alloc (.cells cs.toArray t) := by
  have e1 := run_storeVar_new (P := Tryz.prog) w t z cs.toArray (by simpa using hi) (by simpa using h) h1
  have e2 := run_storeVar_mid (P := Tryz.prog) (w.alloc (.cells z t)) w.heap.size 0 t cs.toArray (fun j hj => by
    have hl : z[j]? = some (z[j]'(by simp at hj; omega)) := by simp
    refine ⟨?_, ?_⟩
    · rw [World.cell?_alloc_at z t _ _ rfl, Nat.zero_add, hl]; rfl
    · exact World.frozen?_alloc_at z t _ _ rfl) (by simpa using hi) h1
  rw [e2] at e1
  exact (Result.ok.inj e1).2
/-- The built-in copy into the middle of a block. -/
theorem wpList_copy_mid {P : Program} {w : World} {ops : Array Oper} {rest : List Oper} {o : Oper} {a : Act} {Q : Exit → Act → World → Prop} (hgd : o.guard = none) (d s : Operand) (dT sT : TypeId)
    (ho : o.op = .call { callee := .builtin .copy, args := #[d, s], argTypes := #[dT, sT] }) (elem : TypeId) (hu : P.underlying dT = some (.slice elem)) (hsz : (P.info? elem).map (·.size) = some 1)
    (b off dLen dCap : Nat) (ad : Addr) (sLen sCap : Nat) (hd : a.eval d = .slice (some ⟨b, off, none⟩) dLen dCap) (hs : a.eval s = .slice (some ad) sLen sCap)
    (cs : List Value) (hn : cs.length = Nat.min sLen dLen)
    (hsrc : ∀ j v, cs[j]? = some v → w.cell? (ad.add j) = some v) (ht : w.there b off cs.length) (h1 : ∀ v ∈ cs, v.oneCell' = true)
    (h : wpList P ops Q rest (a.put o.dst (goInt cs.length)) (w.setCells b off cs)) : wpList P ops Q (o :: rest) a w := by
  refine wpList_plain hgd fun K hK => ?_
  have hrun := run_copy_cells (P := P) w dT sT o.type elem b off dLen dCap ad sLen sCap cs hu hsz hn hsrc (fun j hj => (ht j hj).1) (fun j hj => (ht j hj).2) h1
  unfold Oper.wp
  simp [execOp, ho, resolve, invoke, builtin, hd, hs, hrun, Result.andThen]
  exact hK _ _ h
theorem there_new (w : World) (t : TypeId) (z : Array Value) {n : Nat} (h : z.size = n) : (w.alloc (.cells z t)).there w.heap.size 0 n := fun j hj => by
  have hl : z[j]? = some (z[j]'(by omega)) := by simp
  refine ⟨?_, ?_⟩
  · rw [World.cell?_alloc_at z t _ _ rfl, Nat.zero_add, hl]; rfl
  · exact World.frozen?_alloc_at z t _ _ rfl
theorem there_setCell {w : World} {b' o' n : Nat} (h : w.there b' o' n) (b o : Nat) (v : Value) : (w.setCell ⟨b, o, none⟩ v).there b' o' n := World.there_setCells h b o [v]
set_option maxRecDepth 100000 in
set_option maxHeartbeats 800000 in
theorem free_ok (b c cc n i : Nat) (W : Nat → Nat) (w : World) (h : w.cell? ⟨b, 64, none⟩ = some (.slice (some ⟨c, 0, none⟩) n cc)) (hn2 : n ≤ 4096) (hi : i < n)
    (hw : ∀ k, k < 64 → w.cell? ⟨b, k, none⟩ = some (.int .u64 (W k : Nat))) (hl : ∀ k, W k < 18446744073709551616) (hfz : ∀ o, w.frozen? ⟨b, o, none⟩ = false)
    (hth : w.there c (i * 64) zero73.size)
    (hu : used W i = true) :
    Calls Tryz.prog 141 #[.pointer (some ⟨b, 0, none⟩), .int .i64 i] w fun e w' => e = .returned (.int .i64 0) ∧ ∃ m, w' = ((w.setCell ⟨b, i / 64, none⟩ (.int .u64 ((W (i / 64) &&& (18446744073709551615 - 2 ^ (i % 64)) : Nat) : Int))).setCells c (i * 64) zero73.toList).drewN m := by
  have hc := hw (i / 64) (by omega)
  have hor := Bt.not_bit (W (i / 64)) (i % 64) (hl _) (by omega)
  have h64 : i / 64 < 64 := by omega
  have hli := hl (i / 64)
  have hz := zv73
  have hs := size73
  have HT : Hid (w.there c (i * 64) zero73.size) := hth
  clear hw hl hth
  go_enter Tryz.func141, Tryz.ntmps141
  go_wp2_with (first | (go_at_call 129; refine (fit_used b n cc _ i W _ h hi hn2 hc hli hu).mono ?_; rintro e w' ⟨rfl, m, rfl⟩) | (go_at_call 130; refine (place_any i _ (by omega)).mono ?_; rintro e w' ⟨rfl, m', rfl⟩))
  go_region
  go_wp2_with (refine wpList_store_mid rfl 203 _ _ rfl c (i * 64) zero73 rfl rfl (there_setCell (w := w) HT.out b (i / 64) _) inf73 one73 ?_)
  go_ret
  exact ⟨rfl, _, setCells_drewN c _ zero73.toList (i * 64) (w.setCell ⟨b, i / 64, none⟩ _)⟩
set_option maxRecDepth 100000 in
set_option maxHeartbeats 800000 in
theorem read_ok (b c cc n i : Nat) (W : Nat → Nat) (cs : List Value) (w : World) (h : w.cell? ⟨b, 64, none⟩ = some (.slice (some ⟨c, 0, none⟩) n cc)) (hn2 : n ≤ 4096) (hi : i < n)
    (hw : ∀ k, k < 64 → w.cell? ⟨b, k, none⟩ = some (.int .u64 (W k : Nat))) (hl : ∀ k, W k < 18446744073709551616)
    (hth : w.rangeAt c (i * 64) cs) (hcs : cs.length = 64) (h1 : cs.toArray.all (·.oneCell') = true)
    (hu : used W i = true) :
    Calls Tryz.prog 132 #[.pointer (some ⟨b, 0, none⟩), .int .i64 i] w fun e w' => e = .returned (.tuple #[.slice (some ⟨w.heap.size, 0, none⟩) 64 64, .int .i64 0]) ∧ ∃ m, w' = (w.alloc (.cells cs.toArray 203)).drewN m := by
  have hc := hw (i / 64) (by omega)
  have hli := hl (i / 64)
  have hz := zv73
  have hs := size73
  have HT : Hid (w.rangeAt c (i * 64) cs) := hth
  clear hw hl hth
  go_enter Tryz.func132, Tryz.ntmps132
  go_wp2_with (first | (go_at_call 129; refine (fit_used b n cc _ i W _ h hi hn2 hc hli hu).mono ?_; rintro e w' ⟨rfl, m, rfl⟩) | (refine wpList_load_mid rfl 203 _ rfl c (i * 64) rfl cs _ HT.out und73 rfl (by rw [hcs]; exact inf73) ?_) | (refine wpList_store_mid rfl 203 _ _ rfl w.heap.size 0 cs.toArray rfl rfl (there_new w _ _ (by rw [size73]; simp [hcs])) (by rw [List.size_toArray, hcs]; exact inf73) h1 ?_))
  go_ret2
  refine ⟨rfl, m, (setCells_drewN w.heap.size m cs 0 (w.alloc (.cells zero73 203))).trans ?_⟩
  rw [setCells_new w 203 zero73 cs (by rw [size73, hcs]) h1 (by rw [hcs]; exact inf73)]

set_option maxRecDepth 100000 in
set_option maxHeartbeats 800000 in
theorem write_bad (b c cc n i : Nat) (at_ : Int) (sp : Option Addr) (k cap : Nat) (W : Nat → Nat) (w : World) (h : w.cell? ⟨b, 64, none⟩ = some (.slice (some ⟨c, 0, none⟩) n cc)) (hn2 : n ≤ 4096) (hi : i < n)
    (hw : ∀ k, k < 64 → w.cell? ⟨b, k, none⟩ = some (.int .u64 (W k : Nat))) (hl : ∀ k, W k < 18446744073709551616) (hk : k ≤ maxLen)
    (hu : used W i = true) (ha : at_ < 0 ∨ 64 < at_ + k) :
    Calls Tryz.prog 106 #[.pointer (some ⟨b, 0, none⟩), .int .i64 i, .int .i64 at_, .slice sp k cap] w fun e w' => e = .returned (.int .i64 22) ∧ ∃ m, w' = w.drewN m := by
  have hc := hw (i / 64) (by omega)
  have hli := hl (i / 64)
  clear hw hl
  unfold maxLen at hk
  rcases ha with ha | ha
  · go_enter Tryz.func106, Tryz.ntmps106
    go_wp2_with (go_at_call 129; refine (fit_used b n cc _ i W _ h hi hn2 hc hli hu).mono ?_; rintro e w' ⟨rfl, m, rfl⟩)
    go_ret
    exact ⟨rfl, _, rfl⟩
  · by_cases h0 : at_ < 0
    · go_enter Tryz.func106, Tryz.ntmps106
      go_wp2_with (go_at_call 129; refine (fit_used b n cc _ i W _ h hi hn2 hc hli hu).mono ?_; rintro e w' ⟨rfl, m, rfl⟩)
      go_ret
      exact ⟨rfl, _, rfl⟩
    · have ha' : ¬ at_ ≤ 64 - (k : Int) := by omega
      go_enter Tryz.func106, Tryz.ntmps106
      go_wp2_with (go_at_call 129; refine (fit_used b n cc _ i W _ h hi hn2 hc hli hu).mono ?_; rintro e w' ⟨rfl, m, rfl⟩)
      go_ret
      exact ⟨rfl, _, rfl⟩
set_option maxRecDepth 100000 in
set_option maxHeartbeats 800000 in
theorem write_ok (b c cc n i t : Nat) (sp : Option Addr) (k cap : Nat) (W : Nat → Nat) (cs : List Value) (w : World) (h : w.cell? ⟨b, 64, none⟩ = some (.slice (some ⟨c, 0, none⟩) n cc)) (hn2 : n ≤ 4096) (hi : i < n)
    (hw : ∀ k, k < 64 → w.cell? ⟨b, k, none⟩ = some (.int .u64 (W k : Nat))) (hl : ∀ k, W k < 18446744073709551616)
    (hu : used W i = true) (ha : t + k ≤ 64)
    (hcs : cs.length = k) (hsrc : 0 < k → ∃ ad, sp = some ad ∧ ∀ j v, cs[j]? = some v → w.cell? (ad.add j) = some v) (h1 : ∀ v ∈ cs, v.oneCell' = true) (hth : w.there c (i * 64) 64) :
    Calls Tryz.prog 106 #[.pointer (some ⟨b, 0, none⟩), .int .i64 i, .int .i64 t, .slice sp k cap] w fun e w' => e = .returned (.int .i64 0) ∧ ∃ m, w' = (w.setCells c (i * 64 + t) cs).drewN m := by
  have hc := hw (i / 64) (by omega)
  have hli := hl (i / 64)
  have h0 : ¬ (t : Int) < 0 := by omega
  have ha' : ¬ (64 - (k : Int)) < t := by omega
  clear hw hl
  have HT : Hid (w.there c (i * 64) 64) := hth
  have HS : Hid (0 < k → ∃ ad, sp = some ad ∧ ∀ j v, cs[j]? = some v → w.cell? (ad.add j) = some v) := hsrc
  clear hth hsrc
  have hal : Tryz.prog.arrayLen 203 = 64 := by kernel_rfl
  have ht64 : (t : Int) ≤ 64 := by omega
  by_cases hk0 : k = 0
  · have HK : Hid (k = 0) := hk0
    clear hk0
    go_enter Tryz.func106, Tryz.ntmps106
    go_wp2_with (first | (go_at_call 129; refine (fit_used b n cc _ i W _ h hi hn2 hc hli hu).mono ?_; rintro e w' ⟨rfl, m, rfl⟩) | (refine wpList_copy_nothing rfl _ _ 28 28 rfl 5 und33 inf5 _ _ _ _ _ _ rfl rfl (by rw [HK.out]; exact Nat.zero_min _) ?_))
    all_goals
      go_ret
      refine ⟨rfl, m, ?_⟩
      obtain rfl : cs = [] := List.eq_nil_of_length_eq_zero (hcs.trans HK.out)
      rfl
  · obtain ⟨ad, rfl, hsrc⟩ := HS.out (by omega)
    have HC : Hid (∀ j v, cs[j]? = some v → w.cell? (ad.add j) = some v) := hsrc
    have HL : Hid (cs.length = k) := hcs
    have ht : w.there c (i * 64 + t) cs.length := fun j hj => by
      have := HT.out (t + j) (by omega)
      rw [Nat.add_assoc]; exact this
    have HT2 : Hid (w.there c (i * 64 + t) cs.length) := ht
    have HM : Hid (k = Nat.min k (64 - t)) := (Nat.min_eq_left (by omega)).symm
    have h64t : ¬ 64 = t := by omega
    clear hsrc hcs ht
    go_enter Tryz.func106, Tryz.ntmps106
    go_wp2_with (first | (go_at_call 129; refine (fit_used b n cc _ i W _ h hi hn2 hc hli hu).mono ?_; rintro e w' ⟨rfl, m, rfl⟩) | (refine wpList_copy_mid rfl _ _ 28 28 rfl 5 und33 inf5 c (i * 64 + t) (64 - t) (64 - t) ad k cap rfl rfl cs (by rw [HL.out]; exact HM.out) HC.out HT2.out h1 ?_))
    go_ret
    exact ⟨rfl, m, setCells_drewN c m cs (i * 64 + t) w⟩
set_option maxHeartbeats 800000 in
theorem alloc_some (b c n i0 : Nat) (x : Option Addr) (W : Nat → Nat) (w : World) (h : w.cell? ⟨b, 64, none⟩ = some (.slice x n c)) (hn2 : n ≤ 4096) (hi : i0 < n)
    (hw : ∀ k, k < 64 → w.cell? ⟨b, k, none⟩ = some (.int .u64 (W k : Nat))) (hl : ∀ k, W k < 18446744073709551616) (hfz : ∀ o, w.frozen? ⟨b, o, none⟩ = false)
    (hlow : Calls Tryz.prog 140 #[.pointer (some ⟨b, 0, none⟩)] w fun e w' => e = .returned (.int .i64 i0) ∧ w' = w) :
    Calls Tryz.prog 124 #[.pointer (some ⟨b, 0, none⟩)] w fun e w' => e = .returned (.tuple #[.int .i64 i0, .int .i64 0]) ∧ ∃ m, w' = (w.setCell ⟨b, i0 / 64, none⟩ (.int .u64 ((W (i0 / 64) ||| 2 ^ (i0 % 64) : Nat) : Int))).drewN m := by
  have hc := hw (i0 / 64) (by omega)
  have hor := Bt.or_bit (W (i0 / 64)) (i0 % 64) (hl _) (by omega)
  have h64 : i0 / 64 < 64 := by omega
  have HL : Hid (Calls Tryz.prog 140 #[.pointer (some ⟨b, 0, none⟩)] w fun e w' => e = .returned (.int .i64 i0) ∧ w' = w) := hlow
  clear hw hl hlow
  go_enter Tryz.func124, Tryz.ntmps124
  go_wp2_with (first | (go_at_call 115; refine (made_yes b x n c _ h (by omega)).mono ?_; rintro e w' ⟨rfl, rfl⟩) | (go_at_call 140; refine HL.out.mono ?_; rintro e w' ⟨rfl, rfl⟩) | (go_at_call 130; refine (place_any i0 _ (by omega)).mono ?_; rintro e w' ⟨rfl, m, rfl⟩))
  go_region
  go_wp2
  go_ret2
  exact ⟨rfl, _, rfl⟩
set_option maxHeartbeats 800000 in
theorem alloc_full (b c n : Nat) (x : Option Addr) (w : World) (h : w.cell? ⟨b, 64, none⟩ = some (.slice x n c)) (hn : 0 < n)
    (hlow : Calls Tryz.prog 140 #[.pointer (some ⟨b, 0, none⟩)] w fun e w' => ∃ i0 : Nat, e = .returned (.int .i64 i0) ∧ w' = w ∧ n ≤ i0) :
    Calls Tryz.prog 124 #[.pointer (some ⟨b, 0, none⟩)] w fun e w' => e = .returned (.tuple #[.int .i64 0, .int .i64 28]) ∧ w' = w := by
  have HL : Hid (Calls Tryz.prog 140 #[.pointer (some ⟨b, 0, none⟩)] w fun e w' => ∃ i0 : Nat, e = .returned (.int .i64 i0) ∧ w' = w ∧ n ≤ i0) := hlow
  clear hlow
  go_enter Tryz.func124, Tryz.ntmps124
  go_wp2_with (first | (go_at_call 115; refine (made_yes b x n c _ h hn).mono ?_; rintro e w' ⟨rfl, rfl⟩) | (go_at_call 140; refine HL.out.mono ?_; rintro e w' ⟨i0, rfl, rfl, hi0⟩))
  go_ret2
  exact ⟨rfl, rfl⟩
set_option maxHeartbeats 400000 in
theorem free_bad (b : Nat) (i r : Int) (w : World) (hr : (r != 0) = true)
    (hf : Calls Tryz.prog 129 #[.pointer (some ⟨b, 0, none⟩), .int .i64 i] w fun e w' => e = .returned (.int .i64 r) ∧ ∃ m, w' = w.drewN m) :
    Calls Tryz.prog 141 #[.pointer (some ⟨b, 0, none⟩), .int .i64 i] w fun e w' => e = .returned (.int .i64 r) ∧ ∃ m, w' = w.drewN m := by
  have HL : Hid (Calls Tryz.prog 129 #[.pointer (some ⟨b, 0, none⟩), .int .i64 i] w fun e w' => e = .returned (.int .i64 r) ∧ ∃ m, w' = w.drewN m) := hf
  clear hf
  go_enter Tryz.func141, Tryz.ntmps141
  go_wp2_with (go_at_call 129; refine HL.out.mono ?_; rintro e w' ⟨rfl, m, rfl⟩)
  go_ret
  exact ⟨rfl, _, rfl⟩
set_option maxHeartbeats 400000 in
theorem read_bad (b : Nat) (i r : Int) (w : World) (hr : (r != 0) = true)
    (hf : Calls Tryz.prog 129 #[.pointer (some ⟨b, 0, none⟩), .int .i64 i] w fun e w' => e = .returned (.int .i64 r) ∧ ∃ m, w' = w.drewN m) :
    Calls Tryz.prog 132 #[.pointer (some ⟨b, 0, none⟩), .int .i64 i] w fun e w' => e = .returned (.tuple #[.slice none 0 0, .int .i64 r]) ∧ ∃ m, w' = w.drewN m := by
  have HL : Hid (Calls Tryz.prog 129 #[.pointer (some ⟨b, 0, none⟩), .int .i64 i] w fun e w' => e = .returned (.int .i64 r) ∧ ∃ m, w' = w.drewN m) := hf
  clear hf
  go_enter Tryz.func132, Tryz.ntmps132
  go_wp2_with (go_at_call 129; refine HL.out.mono ?_; rintro e w' ⟨rfl, m, rfl⟩)
  go_ret2
  exact ⟨rfl, _, rfl⟩
set_option maxHeartbeats 400000 in
theorem write_unfit (b : Nat) (i at_ r : Int) (sp : Option Addr) (k cap : Nat) (w : World) (hr : (r != 0) = true)
    (hf : Calls Tryz.prog 129 #[.pointer (some ⟨b, 0, none⟩), .int .i64 i] w fun e w' => e = .returned (.int .i64 r) ∧ ∃ m, w' = w.drewN m) :
    Calls Tryz.prog 106 #[.pointer (some ⟨b, 0, none⟩), .int .i64 i, .int .i64 at_, .slice sp k cap] w fun e w' => e = .returned (.int .i64 r) ∧ ∃ m, w' = w.drewN m := by
  have HL : Hid (Calls Tryz.prog 129 #[.pointer (some ⟨b, 0, none⟩), .int .i64 i] w fun e w' => e = .returned (.int .i64 r) ∧ ∃ m, w' = w.drewN m) := hf
  clear hf
  go_enter Tryz.func106, Tryz.ntmps106
  go_wp2_with (go_at_call 129; refine HL.out.mono ?_; rintro e w' ⟨rfl, m, rfl⟩)
  go_ret
  exact ⟨rfl, _, rfl⟩
end Go.Proofs.YtfmemkninmpfjaaGreatDoor
