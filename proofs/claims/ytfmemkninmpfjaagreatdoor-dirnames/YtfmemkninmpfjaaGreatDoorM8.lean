/- Several texts of this claim, one behind the other, in their order. -/
import Derived.Test.YtfmemkninmpfjaaGreatDoorM7
import Derived.RangeFuncNested
import Derived.RangeFuncBound
import Derived.RangeFuncCalls
import Derived.RangeFuncLeaves
import Derived.RangeFuncFrom
import Derived.Shelf.Abstract
import Derived.Shelf.RegionOpen
import Derived.WalkKit
import Derived.OwnWalkIn
import Derived.TacticsInMore
import Derived.LoopNIn
import Derived.LoopIn
import Derived.Laws.ResultCell
import Derived.Test.YtfmemkninmpfjaaGreatDoorM6
/- The iterator over the inodes in use, for every loop that keeps what it reads. Condition: the table's cells are as said. -/
namespace Go.Proofs.YtfmemkninmpfjaaGreatDoor
open Go.RowKit Go.Shelf
attribute [local go_sem] Oper.semAt_some
/-- The numbers in use among the first k inodes, rising. -/
def inL (F : Nat → Nat → Int) : Nat → List Int
  | 0 => []
  | k + 1 => if F k 0 = 0 then inL F k else inL F k ++ [(k : Int) + 1]
theorem inL_pre (F : Nat → Nat → Int) : ∀ (d k : Nat), inL F k <+: inL F (k + d)
  | 0, k => List.prefix_refl _
  | d + 1, k => by
    have ih := inL_pre F d k
    show _ <+: inL F (k + d + 1)
    rw [inL]
    split
    · exact ih
    · exact ih.trans (List.prefix_append _ _)
theorem inL_le (F : Nat → Nat → Int) : ∀ k, (inL F k).length ≤ k
  | 0 => Nat.le_refl _
  | k + 1 => by
    have := inL_le F k
    rw [inL]; split
    · omega
    · rw [List.length_append]; simp; omega
/-- What the iterator reads. -/
structure SeqAt (W : World) (Bn t q N cp : Nat) (F : Nat → Nat → Int) : Prop where
  bn : W.cell? ⟨Bn, 0, none⟩ = some (.pointer (some ⟨t, 0, none⟩))
  c1 : W.cell? ⟨t, 1, none⟩ = some (.slice (some ⟨q, 0, none⟩) N cp)
  cf : ∀ i, i < N → W.cell? ⟨q, i * 17, none⟩ = some (.int .i64 (F i 0))
set_option maxRecDepth 100000 in
set_option maxHeartbeats 4000000 in
theorem inUse1 (n : Nat) (hn : 1 ≤ n) (l Bn t q N cp : Nat) (F : Nat → Nat → Int) (hN : N ≤ 4096) (Kp : World → World → Prop) (hKp : ∀ W W', Kp W W' → SeqAt W Bn t q N cp F → SeqAt W' Bn t q N cp F) (J Jx : List Int → World → Prop)
    (hY : ∀ pre x W, J pre W → pre.length < (inL F N).length → YieldAt Fence.wide (n - 1) Tryz.prog l #[.int .i64 x] W fun e W' =>
      (e = .returned (.bool true) ∧ J (pre ++ [x]) W' ∧ Kp W W') ∨ (e = .returned (.bool false) ∧ Jx (pre ++ [x]) W'))
    (W : World) (hS : SeqAt W Bn t q N cp F) (h0 : J [] W) :
    CallsIn Fence.wide n Tryz.prog 114 #[.func (.yield l) #[] #[], .pointer (some ⟨Bn, 0, none⟩)] W fun e W' => (∃ v, e = .returned v) ∧
      ((∃ ys, ys = inL F N ∧ J ys W') ∨ (∃ pre, pre <+: inL F N ∧ Jx pre W')) := by
  refine callsIn_of_wp Tryz.func114 rfl trivial ?_ rfl
  simp only [Tryz.ntmps114, List.size_toArray, List.length_cons, List.length_nil, Nat.reduceAdd, Nat.reduceSub, Array.replicate_succ, Array.replicate_zero, List.push_toArray, List.append_toArray, List.nil_append, List.cons_append]
  have hb := hS.bn
  have hc := hS.c1
  have HS : Hid (SeqAt W Bn t q N cp F) := hS
  have HJ0 : Hid (J [] W) := h0
  have HY : Hid (∀ pre x W, J pre W → pre.length < (inL F N).length → YieldAt Fence.wide (n - 1) Tryz.prog l #[.int .i64 x] W fun e W' =>
      (e = .returned (.bool true) ∧ J (pre ++ [x]) W' ∧ Kp W W') ∨ (e = .returned (.bool false) ∧ Jx (pre ++ [x]) W')) := hY
  clear hS h0 hY
  gi_wp2
  gi_loopw [9] (fun x wx => ∃ k : Nat, k ≤ N ∧ x = .int .i64 k ∧ Hid (SeqAt wx Bn t q N cp F) ∧ Hid (J (inL F k) wx)) (fun x _ => N - (intOf x).toNat)
  case atStart => exact ⟨0, Nat.zero_le _, rfl, HS, HJ0⟩
  case round =>
    obtain ⟨k, hk, rfl, HSr, HJr⟩ := hrel
    have hb' := HSr.out.bn
    have hc' := HSr.out.c1
    by_cases hlt : k < N
    · have hm := HSr.out.cf k hlt
      by_cases hz : F k 0 = 0
      · rw [hz] at hm
        gi_wp2_with (refine ⟨trivial, ?_⟩; gi_at_call 74; refine (callsIn_wide.2 (used_node q _ 0 _ hm)).mono ?_; rintro e w1 ⟨rfl, hw1⟩; rw [hw1]; clear hw1 w1)
        refine ⟨fun _ h => (by cases h), ?_⟩
        gi_wp2
        exact ⟨⟨k + 1, by omega, by go_num, HSr, by show J _ _; rw [inL, if_pos hz]; exact HJr⟩, by simp [intOf]; omega⟩
      · have HB : Hid ((F k 0 != 0) = true) := by show _ = _; simpa using hz
        have HE : Hid (inL F (k + 1) = inL F k ++ [(k : Int) + 1]) := by show _ = _; rw [inL, if_neg hz]
        clear hz
        obtain ⟨fn, tmps, assign, body, hy, hR⟩ := HY.out (inL F k) ((k : Int) + 1) wr HJr.out (by have := (inL_pre F (N - (k + 1)) (k + 1)).length_le; rw [HE.out, List.length_append, show k + 1 + (N - (k + 1)) = N by omega] at this; simp at this; omega)
        gi_wp2_with (refine ⟨trivial, ?_⟩; gi_at_call 74; refine (callsIn_wide.2 (used_node q _ _ _ hm)).mono ?_; rw [HB.out]; rintro e w1 ⟨rfl, hw1⟩; rw [hw1]; clear hw1 w1)
        refine hR.mono ?_
        rintro e W3 (⟨rfl, hJ3, hk3⟩ | ⟨rfl, hJx3⟩)
        · have HS3 : Hid (SeqAt W3 Bn t q N cp F) := hKp _ _ hk3 HSr.out
          have HJ3 : Hid (J (inL F (k + 1)) W3) := by show J _ _; rw [HE.out]; exact hJ3
          clear hJ3 hk3
          gi_wp2
          exact ⟨⟨k + 1, by omega, by go_num, HS3, HJ3⟩, by simp [intOf]; omega⟩
        · gi_wp2
          refine bodyPost_ret (results_none rfl _ _ _) rfl ?_
          refine ⟨⟨_, rfl⟩, .inr ⟨inL F k ++ [(k : Int) + 1], ?_, hJx3⟩⟩
          rw [← HE.out, show N = k + 1 + (N - (k + 1)) by omega]
          exact inL_pre F _ _
    · obtain rfl : k = N := by omega
      gi_wp2
      go_end0
      exact ⟨⟨_, rfl⟩, .inl ⟨_, rfl, HJr.out⟩⟩
/-- The iterator's contract, as a loop wants it. -/
theorem inUse_stops (n : Nat) (hn : 1 ≤ n) (Bn t q N cp : Nat) (F : Nat → Nat → Int) (hN : N ≤ 4096) (Kp : World → World → Prop) (hKp : ∀ W W', Kp W W' → SeqAt W Bn t q N cp F → SeqAt W' Bn t q N cp F) (w : World) (hS : SeqAt w Bn t q N cp F) :
    SeqStopsK Fence.wide n Tryz.prog 114 #[.pointer (some ⟨Bn, 0, none⟩)] (fun x : Int => #[Value.int .i64 x]) Kp (fun ys => ys = inL F N) (fun pre => pre <+: inL F N) (inL F N).length w := fun l J Jx W hW _ _ hY h0 =>
  inUse1 n hn l Bn t q N cp F hN Kp hKp J Jx hY W ⟨(hW.cell (p := ⟨Bn, 0, none⟩) (block_lt_of_cell hS.bn)).trans hS.bn, (hW.cell (p := ⟨t, 1, none⟩) (block_lt_of_cell hS.c1)).trans hS.c1, fun i hi => (hW.cell (p := ⟨q, i * 17, none⟩) (block_lt_of_cell (hS.cf i hi))).trans (hS.cf i hi)⟩ h0
theorem inUse_any (t : Nat) (w : World) : Calls Tryz.prog 89 #[.pointer (some ⟨t, 0, none⟩)] w fun e w' => e = .returned (.func (.func 114) #[] #[.pointer (some ⟨w.heap.size, 0, none⟩)]) ∧ w' = w.alloc (.cells #[.pointer (some ⟨t, 0, none⟩)] 38) := by
  go_enter Tryz.func89, Tryz.ntmps89
  go_wp2
  go_ret
  exact ⟨rfl, rfl⟩
end Go.Proofs.YtfmemkninmpfjaaGreatDoor
/- The table's calls on a table that no call made (nil, or the zero one): each answers nothing, and EFAULT. Condition: 'made' answers false of it. -/
namespace Go.Proofs.YtfmemkninmpfjaaGreatDoor
open Go.RowKit
theorem results_tmp4 {fn : Func} {a b c d : Tmp} (h : fn.results = #[.tmp a, .tmp b, .tmp c, .tmp d]) (tmps : Array Value) (P : Program) (w : World) :
    (results fn tmps).run P w = .ok (.tuple #[tmps.getD a undef, tmps.getD b undef, tmps.getD c undef, tmps.getD d undef]) w := by
  simp only [results, h]
  simp
/-- 'made' says no of this receiver. -/
def NoT (p : Value) (w : World) : Prop := Calls Tryz.prog 72 #[p] w fun e w' => e = .returned (.bool false) ∧ w' = w
theorem NoT.out {p : Value} {w : World} (h : NoT p w) : Calls Tryz.prog 72 #[p] w fun e w' => e = .returned (.bool false) ∧ w' = w := h
theorem find_none' (p v : Value) (w : World) (h : Calls Tryz.prog 72 #[p] w fun e w' => e = .returned (.bool false) ∧ w' = w) : Calls Tryz.prog 76 #[p, v] w fun e w' => e = .returned (.tuple #[.pointer none, .int .i64 14]) ∧ w' = w := by
  go_enter Tryz.func76, Tryz.ntmps76
  go_wp2_with (go_at_call 72; refine h.mono ?_; rintro e w1 ⟨rfl, hw1⟩; rw [hw1]; clear hw1 w1)
  go_ret2
  exact ⟨by simp, rfl⟩
set_option maxHeartbeats 400000 in
theorem tn_alloc (p : Value) (w : World) (H : NoT p w) (a b c : Value) : Calls Tryz.prog 29 #[p, a, b, c] w fun e w' => e = .returned (.tuple #[.int .i64 0, .int .i64 14]) ∧ w' = w := by
  go_enter Tryz.func29, Tryz.ntmps29
  go_wp2_with (first | (go_at_call 72; refine H.out.mono ?_; rintro e w1 ⟨rfl, hw1⟩; rw [hw1]; clear hw1 w1))
  go_ret2
  exact ⟨by simp, rfl⟩
set_option maxHeartbeats 400000 in
theorem tn_read (p : Value) (w : World) (H : NoT p w) (a b c : Value) : Calls Tryz.prog 94 #[p, a, b, c] w fun e w' => e = .returned (.tuple #[.slice none 0 0, .int .i64 14]) ∧ w' = w := by
  go_enter Tryz.func94, Tryz.ntmps94
  go_wp2_with (first | (go_at_call 76; refine (find_none' p _ w H.out).mono ?_; rintro e w1 ⟨rfl, hw1⟩; rw [hw1]; clear hw1 w1))
  go_ret2
  exact ⟨by simp, rfl⟩
set_option maxHeartbeats 400000 in
theorem tn_write (p : Value) (w : World) (H : NoT p w) (a b c : Value) : Calls Tryz.prog 37 #[p, a, b, c] w fun e w' => e = .returned (.tuple #[.int .i64 0, .int .i64 14]) ∧ w' = w := by
  go_enter Tryz.func37, Tryz.ntmps37
  go_wp2_with (first | (go_at_call 76; refine (find_none' p _ w H.out).mono ?_; rintro e w1 ⟨rfl, hw1⟩; rw [hw1]; clear hw1 w1))
  go_ret2
  exact ⟨by simp, rfl⟩
set_option maxHeartbeats 400000 in
theorem tn_links (p : Value) (w : World) (H : NoT p w) (a b : Value) : Calls Tryz.prog 31 #[p, a, b] w fun e w' => e = .returned (.int .i64 14) ∧ w' = w := by
  go_enter Tryz.func31, Tryz.ntmps31
  go_wp2_with (first | (go_at_call 76; refine (find_none' p _ w H.out).mono ?_; rintro e w1 ⟨rfl, hw1⟩; rw [hw1]; clear hw1 w1))
  go_ret
  exact ⟨by simp, rfl⟩
set_option maxHeartbeats 400000 in
theorem tn_is (p : Value) (w : World) (H : NoT p w) (a : Value) : Calls Tryz.prog 65 #[p, a] w fun e w' => e = .returned (.bool false) ∧ w' = w := by
  go_enter Tryz.func65, Tryz.ntmps65
  go_wp2_with (first | (go_at_call 76; refine (find_none' p _ w H.out).mono ?_; rintro e w1 ⟨rfl, hw1⟩; rw [hw1]; clear hw1 w1))
  go_ret
  exact ⟨by simp, rfl⟩
set_option maxHeartbeats 400000 in
theorem tn_used (p : Value) (w : World) (H : NoT p w) : Calls Tryz.prog 47 #[p] w fun e w' => e = .returned (.slice none 0 0) ∧ w' = w := by
  go_enter Tryz.func47, Tryz.ntmps47
  go_wp2_with (first | (go_at_call 72; refine H.out.mono ?_; rintro e w1 ⟨rfl, hw1⟩; rw [hw1]; clear hw1 w1))
  go_ret
  exact ⟨by simp, rfl⟩
set_option maxHeartbeats 400000 in
theorem tn_blocks (p : Value) (w : World) (H : NoT p w) : Calls Tryz.prog 48 #[p] w fun e w' => e = .returned (.slice none 0 0) ∧ w' = w := by
  go_enter Tryz.func48, Tryz.ntmps48
  go_wp2_with (first | (go_at_call 72; refine H.out.mono ?_; rintro e w1 ⟨rfl, hw1⟩; rw [hw1]; clear hw1 w1))
  go_ret
  exact ⟨by simp, rfl⟩
abbrev zeroS : Array Value := #[.int .i64 0, .int .i64 0, .int .i64 0, .int .i64 0, .int .i64 0, .int .i64 0, .int .i64 0, .int .i64 0, .int .i64 0, .int .i64 0]
theorem zvS (w : World) : (zeroValue 91).run Tryz.prog w = .ok (.agg zeroS) w := by kernel_rfl
set_option maxHeartbeats 400000 in
theorem tn_stat (p : Value) (w : World) (H : NoT p (w.alloc (.cells zeroS 91))) (a : Value) : Calls Tryz.prog 44 #[p, a] w fun e w' => e = .returned (.tuple #[.agg zeroS, .int .i64 14]) ∧ w' = w.alloc (.cells zeroS 91) := by
  have HF : Hid (Calls Tryz.prog 76 #[p, a] (w.alloc (.cells zeroS 91)) fun e w' => e = .returned (.tuple #[.pointer none, .int .i64 14]) ∧ w' = w.alloc (.cells zeroS 91)) := find_none' p a _ H
  clear H
  go_enter Tryz.func44, Tryz.ntmps44
  go_wp2_with (first | (go_at_call 76; refine HF.out.mono ?_; rintro e w1 ⟨rfl, hw1⟩; rw [hw1]; clear hw1 w1))

  refine bodyPost_ret (v := .tuple #[.agg zeroS, .int .i64 14]) ?_ rfl ⟨rfl, rfl⟩
  rw [results_cell_tmp (fn := Tryz.f44) (p := 4) (ty := 91) (u := 5) rfl]
  simp [go_sem, zeroS]
end Go.Proofs.YtfmemkninmpfjaaGreatDoor
/- The walk of Room. Condition: the table lies in memory as 'Tb' says. -/
namespace Go.Proofs.YtfmemkninmpfjaaGreatDoor
open Go.RowKit Go.Shelf
attribute [local go_sem] Oper.semAt_some
/-- What a round of Room keeps: all that lay when the loop began, but for the count at L. -/
def KpR (n₁ L : Nat) (W W' : World) : Prop := ∀ x : Addr, x.block < n₁ → x.block ≠ L → W'.cell? x = W.cell? x
theorem cell_new_r (W : World) (v : Value) (t : TypeId) : (W.alloc (.cells #[v] t)).cell? ⟨W.heap.size, 0, none⟩ = some v ∧ (W.alloc (.cells #[v] t)).frozen? ⟨W.heap.size, 0, none⟩ = false :=
  ⟨by rw [World.cell?_alloc_at _ _ _ _ rfl]; rfl, World.frozen?_alloc_at _ _ _ _ rfl⟩
section
variable {w : World} {t q b c n N : Nat} {clk : Int} {F : Nat → Nat → Int} {R : Nat → Nat → Nat} {u : Nat → Bool} {D : Nat → Nat}
end
end Go.Proofs.YtfmemkninmpfjaaGreatDoor
/- The walk of take, one of its ways, level 2. Conditions: the store lies in memory as 'St' says, the table's first cell leads to it, the ref lies in a block of its own. -/
namespace Go.Proofs.YtfmemkninmpfjaaGreatDoor
open Go.RowKit
section
variable {w : World} {b c n : Nat} {u : Nat → Bool} {D : Nat → Nat}
set_option maxRecDepth 8000 in
set_option maxHeartbeats 4000000 in
theorem take_new2_bad (S : St w b c n u D) (t ab ao k i : Nat) (ht : w.cell? ⟨t, 0, none⟩ = some (.pointer (some ⟨b, 0, none⟩))) (ha : w.cell? ⟨ab, ao, none⟩ = some (.int .i64 (0 : Nat))) (hf : w.frozen? ⟨ab, ao, none⟩ = false) (hA : Apart b c t ab) (hk : k < 256) (hl : low u n = some i) (hx : tk 1 n (upd u i true) D (ptr (upd u i true) D (i + 1) (k / 16)) (k % 16) = none) :
    Calls Tryz.prog 104 #[.pointer (some ⟨t, 0, none⟩), .pointer (some ⟨ab, ao, none⟩), .int .i64 256, .int .i64 k] w (TkPost b c n t ab ao u D 0 w none) := by
  have HT : Hid (TS b c n t ab ao w.heap.size (w.heap.size + 1) 0 u D ((w.alloc (.cells #[.pointer (some ⟨t, 0, none⟩)] 38)).alloc (.cells #[.pointer (some ⟨ab, ao, none⟩)] 177))) := TS.box S ht ha hf hA
  have HM0 : Hid (Mod (fun _ => False) w ((w.alloc (.cells #[.pointer (some ⟨t, 0, none⟩)] 38)).alloc (.cells #[.pointer (some ⟨ab, ao, none⟩)] 177))) := ((Mod.refl _ w).alloc _).alloc _
  have hab := block_lt_of_cell ha
  have htl := block_lt_of_cell ht
  have hz := zvP
  have hI := infP16
  have hn := S.n2
  have HN : Hid (ab < w.heap.size) := hab
  have HBC : Hid (b < w.heap.size ∧ c < w.heap.size) := ⟨S.lt_b, S.lt_c⟩
  have hw1 : IntKind.i64.wrap (k : Int) = k := by rw [IntKind.wrap_i64]; omega
  have hw2 : IntKind.i64.wrap ((k : Int) / 16) = (k : Int) / 16 := by rw [IntKind.wrap_i64]; omega
  have HTM : Hid ((k : Int) % 16 = ((k % 16 : Nat) : Int)) := by show _ = _; omega
  have HTN : Hid (t < w.heap.size) := htl
  have HD : Hid (∀ j, D j < 256) := S.dl
  have HX : Hid (_ = _) := hx
  have HL : Hid (i < n ∧ u i = false ∧ ∀ j, j < i → u j = true) := low_some hl
  have hi : i < 4096 := by have := HL.out.1; omega
  have HB : Hid (freeU (upd u i true) (i + 1) = u ∧ freeD (upd u i true) D (i + 1) = D) := free_back S HL.out.1 HL.out.2.1
  clear S hl hf hA hx
  go_enter Tryz.func104, Tryz.ntmps104
  go_wp2_with (go_at_call 124; refine (HT.out.S.alloc_some i HL.out.1 HL.out.2.1 HL.out.2.2).mono ?_; rintro e w1 ⟨rfl, H1, M1, -⟩; have HT1 : Hid (TS b c n t ab ao w.heap.size (w.heap.size + 1) 0 (upd u i true) D w1) := HT.out.stored M1 H1 (fun _ h => .inl h); have HM1 : Hid (Mod (fun k => k = b) ((w.alloc (.cells #[.pointer (some ⟨t, 0, none⟩)] 38)).alloc (.cells #[.pointer (some ⟨ab, ao, none⟩)] 177)) w1) := M1; have c1 := HT1.out.c4; have c2 := HT1.out.c5; have c3 := HT1.out.ca; have c4 := HT1.out.fa; clear H1 M1)
  have HT2 : Hid (TS b c n t ab ao w.heap.size (w.heap.size + 1) (i + 1) (upd u i true) D (w1.setCell ⟨ab, ao, none⟩ (.int .i64 ((i : Int) + 1)))) := HT1.out.set (i + 1)
  have HF2 : Hid (Fr b c ab ao w (w1.setCell ⟨ab, ao, none⟩ (.int .i64 ((i : Int) + 1)))) := (Fr.of_mod HM0.out HN.out (fun _ h => h.elim) HT.out.A.nb HT.out.A.nc).trans ((HT.out.fr HM1.out (fun _ h => .inl h)).set _)
  have HX2' : w.heap.size + 2 ≤ (w1.setCell ⟨ab, ao, none⟩ (.int .i64 ((i : Int) + 1))).heap.size := by have := HM1.out.size; simp [World.setCell] at this ⊢; omega
  generalize hW2 : w1.setCell ⟨ab, ao, none⟩ (.int .i64 ((i : Int) + 1)) = w2 at *
  clear hW2 c1 c2 c3 c4 HT1 HM1
  clear HT HM0
  have HX2 : Hid (w.heap.size + 2 ≤ w2.heap.size) := HX2'
  generalize hx4 : w.heap.size = x4 at *
  have HS0 : Hid ((w2.drewN 1).cell? ⟨x4, 0, none⟩ = some (.pointer (some ⟨t, 0, none⟩)) ∧ (w2.drewN 1).cell? ⟨x4 + 1, 0, none⟩ = some (.pointer (some ⟨ab, ao, none⟩)) ∧ (w2.drewN 1).cell? ⟨ab, ao, none⟩ = some (.int .i64 ((i : Int) + 1))) := ⟨HT2.out.c4, HT2.out.c5, HT2.out.ca⟩
  have HZ : Hid (TS b c n t ab ao x4 (x4 + 1) (i + 1) (upd u i true) D (w2.alloc (.cells zeroP 198)).drew) := HT2.out.new (((Mod.refl _ w2).alloc _).drewN 1)
  have hS1 : (w2.alloc (.cells zeroP 198)).drew.cell? ⟨x4, 0, none⟩ = some (.pointer (some ⟨t, 0, none⟩)) ∧ (w2.alloc (.cells zeroP 198)).drew.cell? ⟨x4 + 1, 0, none⟩ = some (.pointer (some ⟨ab, ao, none⟩)) ∧ (w2.alloc (.cells zeroP 198)).drew.cell? ⟨ab, ao, none⟩ = some (.int .i64 ((i : Int) + 1)) := ⟨HZ.out.c4, HZ.out.c5, HZ.out.ca⟩
  have HZT : Hid ((w2.alloc (.cells zeroP 198)).drew.there w2.heap.size 0 16) := there_new w2 198 zeroP sizeP
  have hx2 : x4 + 2 ≤ w2.heap.size := HX2.out
  go_region_held (fun W' => W'.cell? ⟨x4, 0, none⟩ = some (.pointer (some ⟨t, 0, none⟩)) ∧ W'.cell? ⟨x4 + 1, 0, none⟩ = some (.pointer (some ⟨ab, ao, none⟩)) ∧ W'.cell? ⟨ab, ao, none⟩ = some (.int .i64 ((i : Int) + 1))) (first | exact hS6 | exact hS5 | exact hS3 | exact hS1 | exact HS0.out) (first | (go_at_call 127; rw [show ((i : Int) + 1) = ((i + 1 : Nat) : Int) from rfl]; refine (load_row (HT2.out.S.drewN 1) t (i + 1) HT2.out.ct (by omega)).mono ?_; rintro e w3 ⟨A, rfl, hsz, HA, HO, HJ, HM3⟩; have HM3' : Hid (Mod (fun _ => False) w2 w3) := ((Mod.refl _ w2).drewN 1).trans HM3.out; have HT3 : Hid (TS b c n t ab ao x4 (x4 + 1) (i + 1) (upd u i true) D w3) := HT2.out.new HM3'.out; have hS3 := s3 HT3.out; have hS5 := s3 (HT3.out.new ((Mod.refl _ w3).alloc (.cells zeroP 198))); have hO1 := one_list HO.out; have hTh : (w3.alloc (.cells zeroP 198)).there w3.heap.size 0 16 := there_new w3 198 zeroP sizeP; obtain ⟨w4, Pb, HW4, HPb, HTP⟩ := four1 HT3.out A hsz HO.out HJ.out (Nat.le_trans hx2 HM3'.out.size) HM3'.out; have hS6 := HW4.out ▸ s3 HTP.out.T) | (go_at_call 127; rw [show ((i : Int) + 1) = ((i + 1 : Nat) : Int) from rfl]; refine (load_row HZ.out.S t (i + 1) HZ.out.ct (by omega)).mono ?_; rintro e w3 ⟨A, rfl, hsz, HA, HO, HJ, HM3⟩; have HM3' : Hid (Mod (fun _ => False) (w2.alloc (.cells zeroP 198)).drew w3) := HM3; have HT3 : Hid (TS b c n t ab ao x4 (x4 + 1) (i + 1) (upd u i true) D w3) := HZ.out.new HM3'.out; have hS3 := s3 HT3.out; have hO1 := one_list HO.out; have hTh : w3.there w2.heap.size 0 16 := HM3'.out.there (by show _ < (w2.alloc _).heap.size; simp) (fun h => h) HZT.out; obtain ⟨w4, Pb, HW4, HPb, HTP⟩ := four2 HT3.out A hsz HJ.out hx2 hTh HM3'.out (HT2.out.lts hx2); have hS6 := HW4.out ▸ s3 HTP.out.T))
  all_goals rw [← HW4.out, ← HPb.out]
  all_goals clear hTh hS6 hS3 hO1 HT3 HM3' HW4 HPb HM3
  all_goals try clear hS5
  all_goals clear hS1 HZT HZ hx2
  all_goals have HF4 : Hid (Fr b c ab ao w w4) := HF2.out.trans (HTP.out.fr0 (block_lt_of_cell HT2.out.ca))
  all_goals go_wp2_with fail
  all_goals have HAP : Hid (Apart b c t Pb) := ⟨by have := HTP.out.lt; omega, by have := HTP.out.lt; have := HBC.out.1; omega, by have := HTP.out.lt; have := HBC.out.2; omega, HTP.out.T.A.tb, HTP.out.T.A.tc, by have := HTP.out.lt; have := HTN.out; omega⟩
  all_goals have HPN : Hid (ab ≠ Pb ∧ x4 ≠ Pb ∧ x4 + 1 ≠ Pb) := by have := HTP.out.lt; have := HN.out; refine ⟨?_, ?_, ?_⟩ <;> omega
  all_goals have HPL : Hid (w.heap.size ≤ Pb) := by have := HTP.out.lt; show _ ≤ _; omega
  all_goals have HS7 : Hid ((w4.drewN 1).cell? ⟨x4, 0, none⟩ = some (.pointer (some ⟨t, 0, none⟩))) := HTP.out.T.c4
  all_goals (go_region_held (fun W' => W'.cell? ⟨x4, 0, none⟩ = some (.pointer (some ⟨t, 0, none⟩))) (first | exact hS8 | exact HS7.out) (first | (go_at_call 104; rw [HTM.out]; refine (take1 (HTP.out.T.S.drewN 1) t Pb (k / 16) (ptr (upd u i true) D (i + 1) (k / 16)) (k % 16) HTP.out.T.ct (HTP.out.at_ (k / 16) (by omega)) (HTP.out.fr (k / 16) (by omega)) HAP.out (by omega) (ptr_lt _ D HD.out _ _)).mono ?_; rw [HX.out]; rintro e w5 ⟨rfl, H5, C5, F5, T5⟩; have HT5 : Hid (TS b c n t ab ao x4 (x4 + 1) (i + 1) (upd u i true) D w5) := HTP.out.T.step (((Mod.refl _ w4).drewN 1).trans F5.mod) H5 (fun e => e.elim HTP.out.T.A.nb (fun e => e.elim HTP.out.T.A.nc HPN.out.1)) (fun e => e.elim HTP.out.T.A.tb (fun e => e.elim HTP.out.T.A.tc HAP.out.ta)) (fun e => e.elim HTP.out.T.n4.1 (fun e => e.elim HTP.out.T.n4.2.1 HPN.out.2.1)) (fun e => e.elim HTP.out.T.n5.1 (fun e => e.elim HTP.out.T.n5.2.1 HPN.out.2.2)); have HF5 : Hid (Fr b c ab ao w w5) := fr_sub F5 (block_lt_of_cell HTP.out.T.ca) HTP.out.T.A.nb HTP.out.T.A.nc HPN.out.1 HPL.out HF4.out; have HC5 : Hid (w5.cell? ⟨Pb, k / 16, none⟩ = some (.int .i64 (ptr (upd u i true) D (i + 1) (k / 16) : Nat))) := C5; have HG5 : Hid (∀ o, o ≠ (k / 16) → w5.cell? ⟨Pb, o, none⟩ = w4.cell? ⟨Pb, o, none⟩) := F5.cell; have hS8 := HT5.out.c4; clear H5 C5 F5 T5)))
  all_goals clear hS8
  all_goals go_wp2_with (go_at_call 125; refine (back_any HT5.out (by omega)).mono ?_; rintro e w6 ⟨rfl, H6, C6, F6⟩; have HH : Hid (St w6 b c n u D ∧ w6.cell? ⟨ab, ao, none⟩ = some (.int .i64 0) ∧ Fr b c ab ao w w6 ∧ w6.cell? ⟨t, 0, none⟩ = some (.pointer (some ⟨b, 0, none⟩))) := ⟨by rw [HB.out.1, HB.out.2] at H6; exact H6, C6, HF5.out.trans F6, (F6.mod.cell (p := ⟨t, 0, none⟩) (block_lt_of_cell HT5.out.ct) (fun e => e.elim HT5.out.A.tb (fun e => e.elim HT5.out.A.tc HT5.out.A.ta))).trans HT5.out.ct⟩; clear H6 C6 F6)
  all_goals go_ret2
  all_goals exact ⟨by simp, HH.out⟩
end
end Go.Proofs.YtfmemkninmpfjaaGreatDoor
