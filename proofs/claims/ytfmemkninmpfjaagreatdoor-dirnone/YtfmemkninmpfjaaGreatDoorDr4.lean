/- The iterator over all whole slots of a content. Condition: its bytes lie in memory as said. -/
import Derived.Test.YtfmemkninmpfjaaGreatDoorDr3
import Derived.Test.YtfmemkninmpfjaaGreatDoorDq
import Derived.Laws.CopyOwn
import Derived.Deep.RegionLaw
namespace Go.Proofs.YtfmemkninmpfjaaGreatDoor
open Go.RowKit Go.Shelf
attribute [local go_sem] Oper.semAt_some
/-- A content: n bytes, of which the j-th is D j. -/
structure Cont (W : World) (p : Option Addr) (n c : Nat) (D : Nat → Nat) : Prop where
  le : n ≤ c
  cm : c ≤ 1099511627776
  lt : ∀ j, D j < 256
  at_ : 0 < n → ∃ g o, p = some ⟨g, o, none⟩ ∧ ∀ j, j < n → W.cell? ⟨g, o + j, none⟩ = some (.int .u8 (D j : Nat))
theorem cell_cells {W : World} {a : Addr} {v : Value} (h : W.cell? a = some v) : ∃ o, W.heap[a.block]? = some o ∧ o.isCells = true := by
  unfold World.cell? at h
  split at h
  · rename_i e; exact ⟨_, e, rfl⟩
  · exact absurd h (by simp)
theorem KC.cell {own : Nat → Prop} {W W' : World} (h : KC own W W') {a : Addr} {v : Value} (hc : W.cell? a = some v) (hn : ¬ own a.block) : W'.cell? a = some v := by
  obtain ⟨o, ho, hi⟩ := cell_cells hc
  rw [World.cell?_of_block (w := W) (a := a) ((h.2 _ o ho hi hn).trans ho.symm)]; exact hc
/-- What the iterator reads. -/
structure AllAt (W : World) (Bn : Nat) (p : Option Addr) (n c : Nat) (D : Nat → Nat) : Prop where
  bn : W.cell? ⟨Bn, 0, none⟩ = some (.slice p n c)
  ct : Cont W p n c D
theorem Cont.keep {own : Nat → Prop} {W W' : World} {p : Option Addr} {n c : Nat} {D : Nat → Nat} (h : Cont W p n c D) (k : KC own W W') (hg : ∀ g, p.map (·.block) = some g → ¬ own g) : Cont W' p n c D :=
  ⟨h.le, h.cm, h.lt, fun h0 => by
    obtain ⟨g, o, e, hc⟩ := h.at_ h0
    exact ⟨g, o, e, fun j hj => k.cell (hc j hj) (hg g (by rw [e]; rfl))⟩⟩
theorem AllAt.keep {own : Nat → Prop} {W W' : World} {Bn : Nat} {p : Option Addr} {n c : Nat} {D : Nat → Nat} (h : AllAt W Bn p n c D) (k : KC own W W') (hb : ¬ own Bn) (hg : ∀ g, p.map (·.block) = some g → ¬ own g) : AllAt W' Bn p n c D :=
  ⟨k.cell h.bn hb, h.ct.keep k hg⟩
def slotV (D : Nat → Nat) (k : Nat) : List Value := (List.range 32).map fun j => .int .u8 (D (k * 32 + j) : Nat)
def slotD (D : Nat → Nat) (k : Nat) : Nat → Nat := fun j => D (k * 32 + j)
theorem slotV_slot (D : Nat → Nat) (hD : ∀ j, D j < 256) (k : Nat) : Slot (slotV D k) (slotD D k) :=
  ⟨by simp [slotV], fun j hj => by simp [slotV, slotD, hj], fun j => hD _⟩
def encK (D : Nat → Nat) (k : Nat) : Array Value := #[.int .i64 k, .agg (slotV D k).toArray]
theorem count_any (p : Option Addr) (n c : Nat) (w : World) (hn : n ≤ 1099511627776) : Calls Tryz.prog 63 #[.slice p n c] w fun e w' => e = .returned (.int .i64 ((n / 32 : Nat) : Int)) ∧ w' = w := by
  go_enter Tryz.func63, Tryz.ntmps63
  go_wp2
  go_ret
  exact ⟨by simp, rfl⟩
theorem all_any (p : Option Addr) (n c : Nat) (w : World) : Calls Tryz.prog 96 #[.slice p n c] w fun e w' => e = .returned (.func (.func 118) #[] #[.pointer (some ⟨w.heap.size, 0, none⟩)]) ∧ w' = w.alloc (.cells #[.slice p n c] 102) := by
  go_enter Tryz.func96, Tryz.ntmps96
  go_wp2
  go_ret
  exact ⟨rfl, rfl⟩
theorem taken_any (p : Option Addr) (n c : Nat) (w : World) : Calls Tryz.prog 55 #[.slice p n c] w fun e w' => e = .returned (.func (.func 95) #[] #[.pointer (some ⟨w.heap.size, 0, none⟩)]) ∧ w' = w.alloc (.cells #[.slice p n c] 102) := by
  go_enter Tryz.func55, Tryz.ntmps55
  go_wp2
  go_ret
  exact ⟨rfl, rfl⟩
theorem size5 : (Tryz.prog.info? 5).map (·.size) = some 1 := by kernel_rfl
theorem undC : Tryz.prog.underlying 102 = some (.slice 5) := by kernel_rfl
theorem range_pre {a b : Nat} (h : a ≤ b) : List.range a <+: List.range b := by
  rw [show b = a + (b - a) by omega, List.range_add]; exact List.prefix_append _ _
theorem splice0 (L : List Value) (h : L.length = 32) : splice zeroSl.toList 0 L = L := by
  unfold splice
  rw [List.take_zero, List.nil_append, h, List.drop_eq_nil_of_le (by simp [zeroSl]), List.append_nil]
set_option maxRecDepth 100000 in
set_option maxHeartbeats 2000000 in
theorem all1 (own : Nat → Prop) (Bn : Nat) (p : Option Addr) (n c : Nat) (D : Nat → Nat) (hob : ¬ own Bn) (hog : ∀ g, p.map (·.block) = some g → ¬ own g) (w : World) (hS0 : AllAt w Bn p n c D) :
    SeqA Tryz.prog 118 #[.pointer (some ⟨Bn, 0, none⟩)] (encK D) own (List.range (n / 32)) w := fun l J Jx W hW hJ _ hY h0 => by
  have hS : AllAt W Bn p n c D := hS0.keep (own := fun _ => False) (KC.of_below hW) (fun h => h) (fun _ _ h => h)
  refine callsIn_of_wp Tryz.func118 rfl trivial ?_ rfl
  simp only [Tryz.ntmps118, List.size_toArray, List.length_cons, List.length_nil, Nat.reduceAdd, Nat.reduceSub, Array.replicate_succ, Array.replicate_zero, List.push_toArray, List.append_toArray, List.nil_append, List.cons_append]
  have hb := hS.bn
  have HS : Hid (AllAt W Bn p n c D) := hS
  have hnc := hS.ct.le
  have hcm := hS.ct.cm
  have HJ0 : Hid (J [] W) := h0
  have HY := (show Hid (∀ pre x W1, J pre W1 → pre ++ [x] <+: List.range (n / 32) → YieldAt Fence.wide 9 Tryz.prog l (encK D x) W1 fun e W' => (e = .returned (.bool true) ∧ J (pre ++ [x]) W' ∧ KC own W1 W' ∧ KeepsFrom W.heap.size W1 W') ∨ (e = .returned (.bool false) ∧ Jx (pre ++ [x]) W' ∧ KeepsFrom W.heap.size W1 W')) from hY)
  have HAb := (show Hid (AbidesB W.heap.size J) from hJ)
  have hz := zvSl
  clear hS h0 hY hJ hS0 hW
  gi_wp2_with (refine ⟨trivial, ?_⟩; gi_at_call 63; refine (callsIn_wide.2 (count_any p n c _ (by omega))).mono ?_; rintro e w1 ⟨rfl, hw1⟩; rw [hw1]; clear hw1 w1)
  gi_loopw [7] (fun x wx => ∃ k : Nat, k ≤ n / 32 ∧ x = .int .i64 k ∧ Hid (AllAt wx Bn p n c D) ∧ Hid (J (List.range k) wx)) (fun x _ => n / 32 - (intOf x).toNat)
  case atStart => exact ⟨0, Nat.zero_le _, rfl, HS, HJ0⟩
  case round =>
    obtain ⟨k, hk, rfl, HSr, HJr⟩ := hrel
    by_cases hlt : k < n / 32
    · obtain ⟨g, o, rfl, hc⟩ := HSr.out.ct.at_ (by omega)
      have hb' := HSr.out.bn
      have hbl := block_lt_of_cell hb'
      have HG : Hid ((wr.alloc (.cells zeroSl 109)).drew.heap[wr.heap.size]? = some (.cells zeroSl.toList.toArray 109 (0, 0))) := heap_alloc_new wr _
      have HL : Hid ((slotV D k).length = Nat.min (n - k * 32) 32) := by show _ = _; rw [(slotV_slot D HSr.out.ct.lt k).len]; exact (Nat.min_eq_right (by omega)).symm
      have HSl : Hid (Slot (slotV D k) (slotD D k)) := slotV_slot D HSr.out.ct.lt k
      have HC : Hid (∀ j v, (slotV D k)[j]? = some v → (wr.alloc (.cells zeroSl 109)).drew.cell? ((⟨g, o + k * 32, none⟩ : Addr).add j) = some v) := fun j v hv => by
        have hj : j < 32 := by have := (List.getElem?_eq_some_iff.1 hv).1; rw [HSl.out.len] at this; exact this
        have h1 := hc (k * 32 + j) (by omega)
        rw [HSl.out.at_ j hj] at hv
        rw [Addr.add_mid, show o + k * 32 + j = o + (k * 32 + j) by omega, ← hv]
        refine Eq.trans ?_ h1
        exact World.cell?_alloc_past _ _ _ (block_lt_of_cell h1)
      have HF : Hid (0 + (slotV D k).length ≤ zeroSl.toList.length) := by show _ ≤ _; rw [HSl.out.len]; simp [zeroSl]
      have HBl : Hid (Below wr.heap.size wr (wr.alloc (.cells zeroSl 109)).drew) := below_drewN0 ((Below.refl _ wr).alloc (Nat.le_refl _) _) 1
      obtain ⟨m, hm⟩ : ∃ m, m = k * 32 := ⟨_, rfl⟩
      have hwr : IntKind.i64.wrap ((k : Int) * 32) = (m : Int) := by rw [IntKind.wrap_i64, hm]; omega
      have hm1 : m ≤ n := by omega
      have hkn : ¬ c = m := by omega
      rw [← hm] at HL HC
      clear hc hm
      gi_wp2
      refine (wpIn_wide).2 ?_
      go_region_law (refine step_copy_splice rfl (.tmp 10) (.tmp 14) 28 102 rfl 5 undB size5 (some ⟨wr.heap.size, 0, none⟩) (some ⟨g, o + m, none⟩) 32 32 (n - m) (c - m) (by simp [Act.eval, Act.put]) (by simp [Act.eval, Act.put]) wr.heap.size 0 zeroSl.toList 109 HG.out (slotV D k) HL.out (fun _ => ⟨rfl, _, rfl, HC.out⟩) HF.out HSl.out.one wr.heap.size wr HBl.out (Nat.le_refl _) ?_; intro w4 HG4 hB4)
      have HR4 : w4.rangeAt wr.heap.size 0 (slotV D k) := fun j v hv => by
        rw [Nat.zero_add, cell_of_row _ _ j _ _ _ HG4.out, splice0 _ HSl.out.len]; simpa using hv
      have HR4' : Hid (w4.rangeAt wr.heap.size 0 (slotV D k)) := HR4
      have HS4 : Hid (AllAt w4 Bn (some ⟨g, o, none⟩) n c D) := HSr.out.keep (own := fun _ => False) (KC.of_below hB4) (fun h => h) (fun _ _ h => h)
      have hJ4 : J (List.range k) w4 := HAb.out _ _ _ none HJr.out ⟨hB4.os, hB4.tape, hB4.output, hB4.size, fun k hk _ => hB4.block k hk⟩ (fun _ e => by cases e)
      obtain ⟨fn, tmps, assign, body, hy, hR⟩ := HY.out (List.range k) k w4 hJ4 (by rw [← List.range_succ]; exact range_pre (by omega))
      unfold encK at hy
      clear hJ4 HR4 HG4 hB4
      gi_wp2_with (refine wpListIn_load_mid rfl 109 _ rfl wr.heap.size 0 rfl (slotV D k) _ HR4'.out undS rfl HSl.out.inf ?_)
      refine (roundIn_wide hR).mono ?_
      rintro e W3 (⟨rfl, hJ3, hk3, -⟩ | ⟨rfl, hJx3, -⟩)
      · have HS3 : Hid (AllAt W3 Bn (some ⟨g, o, none⟩) n c D) := HS4.out.keep hk3 hob hog
        have HJ3 : Hid (J (List.range (k + 1)) W3) := by show J _ _; rw [List.range_succ]; exact hJ3
        clear hJ3 hk3
        gi_wp2
        exact ⟨⟨k + 1, by omega, by go_num, HS3, HJ3⟩, by simp [intOf]; omega⟩
      · gi_wp2
        refine bodyPost_ret (results_none rfl _ _ _) rfl ?_
        refine ⟨⟨_, rfl⟩, .inr ⟨List.range k ++ [k], ?_, hJx3⟩⟩
        rw [← List.range_succ]
        exact range_pre (by omega)
    · obtain rfl : k = n / 32 := by omega
      gi_wp2
      go_end0
      exact ⟨⟨_, rfl⟩, .inl HJr.out⟩
end Go.Proofs.YtfmemkninmpfjaaGreatDoor
