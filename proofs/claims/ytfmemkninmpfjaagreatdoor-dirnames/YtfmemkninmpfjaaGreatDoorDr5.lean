/- The iterator over the slots that are not free. Condition: the bytes lie in memory as said. -/
import Derived.Test.YtfmemkninmpfjaaGreatDoorM16
namespace Go.Proofs.YtfmemkninmpfjaaGreatDoor
open Go.RowKit Go.Shelf
attribute [local go_sem] Oper.semAt_some
def tkn (D : Nat → Nat) (k : Nat) : Bool := !decide (le4 (slotD D k) 0 = 0)
theorem set_slot (w : World) (L : List Value) {s : Nat → Nat} (h : Slot L s) : (w.alloc (.cells zeroSl 109)).setCells w.heap.size 0 L = w.alloc (.cells L.toArray 109) :=
  setCells_new w 109 zeroSl L (by rw [sizeSl, h.len]) (all_oneCell_toArray h.one) h.inf
theorem there_slot (w : World) (L : List Value) {s : Nat → Nat} (h : Slot L s) : (w.alloc (.cells zeroSl 109)).there w.heap.size 0 L.toArray.size := by
  rw [show L.toArray.size = 32 by simpa using h.len]; exact there_new w 109 zeroSl sizeSl
theorem Slot.infA {L : List Value} {s : Nat → Nat} (h : Slot L s) : (Tryz.prog.info? 109).map (·.size) = some L.toArray.size := by rw [show L.toArray.size = L.length by simp]; exact h.inf
theorem filter_pre {α : Type} {p : α → Bool} {a b : List α} (h : a <+: b) : a.filter p <+: b.filter p := by
  obtain ⟨c, rfl⟩ := h
  rw [List.filter_append]; exact List.prefix_append _ _
set_option maxRecDepth 100000 in
set_option maxHeartbeats 2000000 in
theorem taken1 (own : Nat → Prop) (Bn : Nat) (p : Option Addr) (n c : Nat) (D : Nat → Nat) (hog : ∀ g, p.map (·.block) = some g → ¬ own g) (w : World) (hS0 : AllAt w Bn p n c D) (hlt : ∀ k, own k → k < w.heap.size) :
    SeqA Tryz.prog 95 #[.pointer (some ⟨Bn, 0, none⟩)] (encK D) own ((List.range (n / 32)).filter (tkn D)) w := fun l J Jx W hW hJ hJx hY h0 => by
  have hS : AllAt W Bn p n c D := hS0.keep (own := fun _ => False) (KC.of_below hW) (fun h => h) (fun _ _ h => h)
  refine callsIn_of_wp_marks Tryz.func95 rfl trivial ?_ rfl
  simp only [Tryz.ntmps95, List.size_toArray, List.length_cons, List.length_nil, Nat.reduceAdd, Nat.reduceSub, Array.replicate_succ, Array.replicate_zero, List.push_toArray, List.append_toArray, List.nil_append, List.cons_append]
  have hb := hS.bn
  have hbl := block_lt_of_cell hb
  have HS : Hid (AllAt W Bn p n c D) := hS
  have HJ0 : Hid (J [] W) := h0
  have HY := (show Hid (∀ pre x W1, J pre W1 → pre ++ [x] <+: (List.range (n / 32)).filter (tkn D) → YieldAt Fence.wide 9 Tryz.prog l (encK D x) W1 fun e W' => (e = .returned (.bool true) ∧ J (pre ++ [x]) W' ∧ KC own W1 W' ∧ KeepsFrom W.heap.size W1 W') ∨ (e = .returned (.bool false) ∧ Jx (pre ++ [x]) W' ∧ KeepsFrom W.heap.size W1 W')) from hY)
  have HAb := (show Hid (AbidesB W.heap.size J ∧ AbidesB W.heap.size Jx) from ⟨hJ, hJx⟩)
  have HO : Hid (∀ k, W.heap.size ≤ k → ¬ own k) := fun k hk ho => by have := hlt k ho; have := hW.size; omega
  have hz := zvSl
  clear hS h0 hY hJ hJx hS0 hlt hW
  refine wpIn_wide.2 ?_
  go_wp2_with (go_at_call 96; refine (all_any p n c _).mono ?_; rintro e w1 ⟨rfl, rfl⟩)
  obtain ⟨V0, hV0⟩ : ∃ V0, V0 = (W.alloc (.cells #[.func (.yield l) #[] #[]] 164)).alloc (.cells #[.slice p n c] 102) := ⟨_, rfl⟩
  have hsz : V0.heap.size = W.heap.size + 2 := by rw [hV0]; simp
  have hBV : Below W.heap.size W V0 := by rw [hV0]; exact ((Below.refl W.heap.size W).alloc (Nat.le_refl _) _).alloc (by simp) _
  have hYb : V0.heap[W.heap.size]? = some (.cells #[.func (.yield l) #[] #[]] 164 (0, 0)) := by
    rw [hV0]; exact (Below.heap_alloc _ _ _ (by simp)).trans (World.alloc_heap_new W _)
  have hA : AllAt V0 (W.heap.size + 1) p n c D := ⟨by rw [hV0, World.cell?_alloc_at _ _ _ _ (by simp)]; rfl, HS.out.ct.keep (own := fun _ => False) (KC.of_below hBV) (fun _ _ h => h)⟩
  have hD := HS.out.ct.lt
  rw [← hV0]
  clear hV0
  refine (wpIn_wide (n := 9)).1 ?_
  refine wpIn_rangeA rfl (enters_of Tryz.func118 (by kernel_rfl) rfl) (all1 own (W.heap.size + 1) p n c D (HO.out _ (by omega)) hog V0 hA) (Below.refl _ _) (fun _ => rfl)
    (fun pre V => J (pre.filter (tkn D)) V ∧ V.heap[W.heap.size]? = some (.cells #[.func (.yield l) #[] #[]] 164 (0, 0)))
    (fun c pre V => c = .ret ∧ Jx (pre.filter (tkn D)) V)
    (AbidesB.and (fun s X Y row hs hg hr => HAb.out.1 _ X Y row hs hg (fun r e => by have := hr r e; omega)) (abidesB_block (by omega)))
    (fun c => AbidesB.and (abidesB_pure _ _) (fun s X Y row hs hg hr => HAb.out.2 _ X Y row hs hg (fun r e => by have := hr r e; omega)))
    ⟨HAb.out.1 [] W V0 none HJ0.out ⟨hBV.os, hBV.tape, hBV.output, hBV.size, fun k hk _ => hBV.block k hk⟩ (fun r e => by cases e), hYb⟩ ?round ?done ?stop
  case round =>
    rintro l' pre x V hl' hl2 ⟨hJp, hYV⟩ hpre
    have HSl : Hid (Slot (slotV D x) (slotD D x)) := slotV_slot D hD x
    have HP := (show Hid (J (pre.filter (tkn D)) V ∧ V.heap[W.heap.size]? = some (.cells #[.func (.yield l) #[] #[]] 164 (0, 0)) ∧ pre ++ [x] <+: List.range (n / 32)) from ⟨hJp, hYV, hpre⟩)
    have HTh := (show Hid _ from there_slot V (slotV D x) HSl.out)
    unfold encK
    clear hJp hYV hpre
    gi_wp2_with (refine wpListIn_store_mid rfl 109 _ _ rfl V.heap.size 0 (slotV D x).toArray rfl rfl HTh.out HSl.out.infA (all_oneCell_toArray HSl.out.one) ?_)
    rw [set_slot V _ HSl.out]
    have hBA : Below V.heap.size V (V.alloc (.cells (slotV D x).toArray 109)) := (Below.refl _ V).alloc (Nat.le_refl _) _
    refine ⟨(KO.of_below hBA).from _, KC.of_below hBA, fun W2 hg2 => ?_⟩
    have hVs := (Array.getElem?_eq_some_iff.1 HP.out.2.1).1
    have HR2 : Hid (W2.rangeAt V.heap.size 0 (slotV D x)) := fun j v hv => hg2.cell (range_new V (slotV D x) 109 j v hv) (fun e => by have h1 : V.heap.size = l' := Option.some.inj e; omega)
    have hY1 : (V.alloc (.cells (slotV D x).toArray 109)).heap[W.heap.size]? = some (.cells #[.func (.yield l) #[] #[]] 164 (0, 0)) := (hBA.block _ hVs).trans HP.out.2.1
    have hY2 : W2.heap[W.heap.size]? = some (.cells #[.func (.yield l) #[] #[]] 164 (0, 0)) := (hg2.block _ (Array.getElem?_eq_some_iff.1 hY1).1 (fun e => by cases e; omega)).trans hY1
    have hJ2 : J (pre.filter (tkn D)) W2 := HAb.out.1 _ _ _ (some l') (HAb.out.1 _ _ _ none HP.out.1 ⟨hBA.os, hBA.tape, hBA.output, hBA.size, fun k hk _ => hBA.block k hk⟩ (fun r e => by cases e)) hg2 (fun r e => by cases e; omega)
    have HW2 := (show Hid (J (pre.filter (tkn D)) W2 ∧ W2.heap[W.heap.size]? = some (.cells #[.func (.yield l) #[] #[]] 164 (0, 0))) from ⟨hJ2, hY2⟩)
    have hVW : V.heap.size < W2.heap.size := by have := hg2.size; simp at this; omega
    clear hY1 hY2 hJ2 hBA hg2
    by_cases ht : tkn D x = true
    · have HT : Hid (tkn D x = true) := ht
      have hfr : decide (le4 (slotD D x) 0 = 0) = false := by simpa [tkn] using ht
      clear ht
      have HF := (show Hid (∀ w3, Below W2.heap.size W2 w3 → ∃ fn tmps assign body, (Instr.yield l #[.int .i64 x, .agg (slotV D x).toArray]).run Tryz.prog w3 = .ok (.round l fn tmps assign body) w3 ∧ RoundIn Fence.wide 9 Tryz.prog l fn tmps assign body w3 fun e W' => (e = .returned (.bool true) ∧ J (pre.filter (tkn D) ++ [x]) W' ∧ KC own w3 W' ∧ KeepsFrom W.heap.size w3 W') ∨ (e = .returned (.bool false) ∧ Jx (pre.filter (tkn D) ++ [x]) W' ∧ KeepsFrom W.heap.size w3 W')) from fun w3 hB3 =>
        HY.out (pre.filter (tkn D)) x w3 (HAb.out.1 _ _ _ none HW2.out.1 ⟨hB3.os, hB3.tape, hB3.output, hB3.size, fun k hk _ => hB3.block k hk⟩ (fun r e => by cases e)) (by have := filter_pre (p := tkn D) HP.out.2.2; rwa [List.filter_append, show [x].filter (tkn D) = [x] by simp [HT.out]] at this))
      gi_wp2_with (first | (refine wpListIn_load_mid rfl 109 _ rfl V.heap.size 0 rfl (slotV D x) _ (by first | exact HR3.out | exact HR2.out) undS rfl HSl.out.inf ?_) | (refine ⟨trivial, ?_⟩; gi_at_call 97; refine (CallsIn.inRound l' (callsIn_wide.2 (sFree _ _ _ HSl.out))).mono ?_; rw [hfr]; rintro e w3 ⟨rfl, HB3⟩; have HR3 : Hid (w3.rangeAt V.heap.size 0 (slotV D x)) := (fun j v hv => (HB3.cell (p := ⟨V.heap.size, 0 + j, none⟩) hVW).trans (HR2.out j v hv)); have hyc : w3.cell? ⟨W.heap.size, 0, none⟩ = some (.func (.yield l) #[] #[]) := (by rw [HB3.cell (p := ⟨W.heap.size, 0, none⟩) (Array.getElem?_eq_some_iff.1 HW2.out.2).1, cell_of_row _ _ 0 _ _ _ HW2.out.2]; rfl); obtain ⟨fn, tmps, assign, body, hy, hR⟩ := HF.out w3 HB3; have HB3' : Hid (Below W2.heap.size W2 w3) := HB3; clear HB3))
      refine (roundIn_any hR).mono ?_
      have HE : Hid ((pre ++ [x]).filter (tkn D) = pre.filter (tkn D) ++ [x]) := by show _ = _; rw [List.filter_append, show [x].filter (tkn D) = [x] by simp [HT.out]]
      have HKF : Hid (KeepsFrom V0.heap.size W2 w3) := (KO.of_below HB3'.out).from _
      have HYc : Hid (w3.heap[W.heap.size]? = some (.cells #[.func (.yield l) #[] #[]] 164 (0, 0))) := (HB3'.out.block _ (Array.getElem?_eq_some_iff.1 HW2.out.2).1).trans HW2.out.2
      rintro e W4 (⟨rfl, hJ4, hk4, hf4⟩ | ⟨rfl, hJ4, hf4⟩)
      · have HK : Hid (KeepsFrom V0.heap.size W2 W4 ∧ KC own W2 W4 ∧ J ((pre ++ [x]).filter (tkn D)) W4 ∧ W4.heap[W.heap.size]? = some (.cells #[.func (.yield l) #[] #[]] 164 (0, 0))) :=
          ⟨HKF.out.trans ⟨hf4.size, fun k o hk ho hc => hf4.same k o (by omega) ho hc⟩, (KC.of_below HB3'.out).trans hk4, by rw [HE.out]; exact hJ4, hk4.2 _ _ HYc.out rfl (HO.out _ (Nat.le_refl _))⟩
        clear hJ4 hk4 hf4
        gi_wp2
        exact ⟨HK.out.1, HK.out.2.1, HK.out.2.2⟩
      · have HK : Hid (KeepsFrom V0.heap.size W2 W4 ∧ Jx ((pre ++ [x]).filter (tkn D)) W4) :=
          ⟨HKF.out.trans ⟨hf4.size, fun k o hk ho hc => hf4.same k o (by omega) ho hc⟩, by rw [HE.out]; exact hJ4⟩
        clear hJ4 hf4
        gi_wp2
        exact ⟨HK.out.1, rfl, HK.out.2⟩
    · have HT : Hid (tkn D x = false) := by show _ = _; simpa using ht
      have hfr : decide (le4 (slotD D x) 0 = 0) = true := by simpa [tkn] using ht
      clear ht
      gi_wp2_with (first | (refine wpListIn_load_mid rfl 109 _ rfl V.heap.size 0 rfl (slotV D x) _ HR2.out undS rfl HSl.out.inf ?_) | (refine ⟨trivial, ?_⟩; gi_at_call 97; refine (CallsIn.inRound l' (callsIn_wide.2 (sFree _ _ _ HSl.out))).mono ?_; rw [hfr]; rintro e w3 ⟨rfl, HB3⟩))
      have HB3' : Hid (Below W2.heap.size W2 w3) := HB3
      clear HB3
      refine ⟨fun _ h => (by cases h), ?_⟩
      gi_wp2
      have HB3 := HB3'.out
      refine ⟨(KO.of_below HB3).from _, KC.of_below HB3, ?_, (HB3.block _ (Array.getElem?_eq_some_iff.1 HW2.out.2).1).trans HW2.out.2⟩
      rw [List.filter_append, show [x].filter (tkn D) = [] by simp [HT.out], List.append_nil]
      exact HAb.out.1 _ _ _ none HW2.out.1 ⟨HB3.os, HB3.tape, HB3.output, HB3.size, fun k hk _ => HB3.block k hk⟩ (fun r e => by cases e)
  case done =>
    rintro DD V hDD ⟨hJV, -⟩ hK
    go_wp2
    refine ⟨by simp, .inl ⟨_, _, rfl, run_takeDeferred hK, ?_⟩⟩
    exact ⟨_, results_none rfl _ _ _, ⟨_, rfl⟩, .inl (HAb.out.1.putObj _ hJV (by omega))⟩
  case stop =>
    rintro DD c pre V hDD hpre ⟨rfl, hJV⟩ hK
    gi_wp2
    refine ⟨by simp, .inl ⟨_, _, rfl, run_takeDeferred hK, ?_⟩⟩
    exact ⟨_, results_none rfl _ _ _, ⟨_, rfl⟩, .inr ⟨_, filter_pre hpre, HAb.out.2.putObj _ hJV (by omega)⟩⟩
end Go.Proofs.YtfmemkninmpfjaaGreatDoor
