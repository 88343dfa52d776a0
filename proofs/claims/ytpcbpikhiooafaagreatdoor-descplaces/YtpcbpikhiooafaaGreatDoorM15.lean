/- Several texts of this claim, one behind the other, in their order. -/
import Derived.Test.YtpcbpikhiooafaaGreatDoorDr6
/- The first free slot, or the one behind the last: the walk of room. Condition: the bytes lie in memory as said. -/
namespace Go.Proofs.YtpcbpikhiooafaaGreatDoor
open Go.RowKit Go.Shelf
attribute [local go_sem] Oper.semAt_some
def roomR (D : Nat → Nat) (n : Nat) : Nat := ((List.range (n / 32)).find? (fun k => !tkn D k)).getD (n / 32)
theorem cellB_abides {B C : Nat} {v : Value} (h : B < C) : AbidesB C (fun (_ : List Nat) W => W.cell? ⟨B, 0, none⟩ = some v) := fun s X Y row hs hg hr =>
  hg.cell hs (fun e => by have := hr _ e.symm; have h1 : C ≤ B := this; omega)
theorem loadInt {W : World} {B : Nat} {k : Int} (h : W.cell? ⟨B, 0, none⟩ = some (.int .i64 k)) : (loadVar 3 ⟨B, 0, none⟩).run Tryz.prog W = .ok (.int .i64 k) W := by simp [go_sem, h]
set_option maxRecDepth 100000 in
set_option maxHeartbeats 2000000 in
theorem sRoom (p : Option Addr) (n c : Nat) (D : Nat → Nat) (w : World) (hC : Cont w p n c D) :
    Calls Tryz.prog 98 #[.slice p n c] w fun e w' => Below w.heap.size w w' ∧ e = .returned (.int .i64 (roomR D n : Nat)) := by
  have hz := zvSl
  have HC : Hid (Cont w p n c D) := hC
  have hnl : n ≤ 1099511627776 := Nat.le_trans hC.le hC.cm
  clear hC
  refine (callsIn_wide (n := 9)).1 ?_
  refine callsIn_of_wp_marks Tryz.func98 rfl trivial ?_ rfl
  simp only [Tryz.ntmps98, List.size_toArray, List.length_cons, List.length_nil, Nat.reduceAdd, Nat.reduceSub, Array.replicate_succ, Array.replicate_zero, List.push_toArray, List.append_toArray, List.nil_append, List.cons_append]
  refine wpIn_wide.2 ?_
  go_wp2_with (go_at_call 119; refine (all_any p n c _).mono ?_; rintro e w1 ⟨rfl, rfl⟩)
  obtain ⟨V0, hV0⟩ : ∃ V0, V0 = (w.alloc (.cells #[.int .i64 0] 3)).alloc (.cells #[.slice p n c] 181) := ⟨_, rfl⟩
  have hsz : V0.heap.size = w.heap.size + 2 := by rw [hV0]; simp
  have hBV : Below w.heap.size w V0 := by rw [hV0]; exact ((Below.refl w.heap.size w).alloc (Nat.le_refl _) _).alloc (by simp) _
  have hF0 : V0.heap[w.heap.size]? = some (.cells #[.int .i64 0] 3 (0, 0)) := by
    rw [hV0]; exact (Below.heap_alloc _ _ _ (by simp)).trans (World.alloc_heap_new w _)
  have hA : AllAt V0 (w.heap.size + 1) p n c D := ⟨by rw [hV0, World.cell?_alloc_at _ _ _ _ (by simp)]; rfl, HC.out.keep (own := fun _ => False) (KC.of_below hBV) (fun _ _ h => h)⟩
  rw [← hV0]
  clear hV0
  have hD := HC.out.lt
  refine (wpIn_wide (n := 9)).1 ?_
  refine wpIn_rangeA rfl (enters_of Tryz.func138 (by kernel_rfl) rfl) (all1 (fun _ => False) (w.heap.size + 1) p n c D (fun h => h) (fun _ _ h => h) V0 hA) (Below.refl _ _) (fun _ => rfl)
    (fun pre V => ((∀ k ∈ pre, tkn D k = true) ∧ V.heap[w.heap.size]? = some (.cells #[.int .i64 0] 3 (0, 0))) ∧ Below w.heap.size w V)
    (fun c pre V => (∃ k pre', c = .ret ∧ pre = pre' ++ [k] ∧ (∀ i ∈ pre', tkn D i = true) ∧ tkn D k = false ∧ V.cell? ⟨w.heap.size, 0, none⟩ = some (.int .i64 (k : Nat))) ∧ Below w.heap.size w V)
    (AbidesB.and (AbidesB.and (abidesB_pure _ _) (abidesB_block (by omega))) (abidesB_below (Nat.le_refl _) (by omega)))
    (fun c => AbidesB.and (fun s X Y row hs hg hr => (by obtain ⟨k, pre', h1, h2, h3, h4, h5⟩ := hs; exact ⟨k, pre', h1, h2, h3, h4, cellB_abides (C := V0.heap.size) (by omega) s X Y row h5 hg hr⟩)) (abidesB_below (Nat.le_refl _) (by omega)))
    ⟨⟨by simp, hF0⟩, hBV⟩ ?round ?done ?stop
  case round =>
    rintro l' pre x V hl' hl2 ⟨⟨hno, hFV⟩, hBw⟩ hpre
    have HSl : Hid (Slot (slotV D x) (slotD D x)) := slotV_slot D hD x
    have HP := (show Hid ((∀ k ∈ pre, tkn D k = true) ∧ V.heap[w.heap.size]? = some (.cells #[.int .i64 0] 3 (0, 0)) ∧ Below w.heap.size w V) from ⟨hno, hFV, hBw⟩)
    have HTh := (show Hid _ from there_slot V (slotV D x) HSl.out)
    unfold encK
    clear hno hFV hBw hpre
    gi_wp2_with (refine wpListIn_store_mid rfl 97 _ _ rfl V.heap.size 0 (slotV D x).toArray rfl rfl HTh.out HSl.out.infA (all_oneCell_toArray HSl.out.one) ?_)
    rw [set_slot V _ HSl.out]
    have hBA : Below V.heap.size V (V.alloc (.cells (slotV D x).toArray 97)) := (Below.refl _ V).alloc (Nat.le_refl _) _
    refine ⟨(KO.of_below hBA).from _, KC.of_below hBA, fun W2 hg2 => ?_⟩
    have HR2 : Hid (W2.rangeAt V.heap.size 0 (slotV D x)) := fun j v hv => hg2.cell (range_new V (slotV D x) 97 j v hv) (fun e => by have h1 : V.heap.size = l' := Option.some.inj e; omega)
    have h1 : (V.alloc (.cells (slotV D x).toArray 97)).heap[w.heap.size]? = some (.cells #[.int .i64 0] 3 (0, 0)) := (hBA.block _ (Array.getElem?_eq_some_iff.1 HP.out.2.1).1).trans HP.out.2.1
    have HF2 : Hid (W2.heap[w.heap.size]? = some (.cells #[.int .i64 0] 3 (0, 0))) := (hg2.block _ (Array.getElem?_eq_some_iff.1 h1).1 (fun e => by cases e; omega)).trans h1
    have HBw2 : Hid (Below w.heap.size w W2) := (HP.out.2.2.trans (hBA.mono HP.out.2.2.size)).grown hg2 (by have := HP.out.2.2.size; simp; omega) (fun k e => by cases e; omega)
    clear h1 hBA hg2
    by_cases ht : tkn D x = true
    · have HT : Hid (tkn D x = true) := ht
      have hfr : decide (le4 (slotD D x) 0 = 0) = false := by simpa [tkn] using ht
      clear ht
      gi_wp2_with (first | (refine wpListIn_load_mid rfl 97 _ rfl V.heap.size 0 rfl (slotV D x) _ HR2.out undS rfl HSl.out.inf ?_) | (refine ⟨trivial, ?_⟩; gi_at_call 120; refine (CallsIn.inRound l' (callsIn_wide.2 (sFree _ _ _ HSl.out))).mono ?_; rw [hfr]; rintro e w3 ⟨rfl, HB3⟩))
      refine ⟨(KO.of_below HB3).from _, KC.of_below HB3, ⟨⟨fun k hk => ?_, (HB3.block _ (Array.getElem?_eq_some_iff.1 HF2.out).1).trans HF2.out⟩, HBw2.out.trans (HB3.mono HBw2.out.size)⟩⟩
      rcases List.mem_append.1 hk with h | h
      · exact HP.out.1 k h
      · obtain rfl : k = x := by simpa using h
        exact HT.out
    · have HT : Hid (tkn D x = false) := by show _ = _; simpa using ht
      have hfr : decide (le4 (slotD D x) 0 = 0) = true := by simpa [tkn] using ht
      clear ht
      gi_wp2_with (first | (refine wpListIn_load_mid rfl 97 _ rfl V.heap.size 0 rfl (slotV D x) _ HR2.out undS rfl HSl.out.inf ?_) | (refine ⟨trivial, ?_⟩; gi_at_call 120; refine (CallsIn.inRound l' (callsIn_wide.2 (sFree _ _ _ HSl.out))).mono ?_; rw [hfr]; rintro e w3 ⟨rfl, HB3⟩; have HB3' : Hid (Below W2.heap.size W2 w3) := HB3; have hc3 : w3.cell? ⟨w.heap.size, 0, none⟩ = some (.int .i64 0) := (by rw [HB3.cell (p := ⟨w.heap.size, 0, none⟩) (Array.getElem?_eq_some_iff.1 HF2.out).1, cell_of_row _ _ 0 _ _ _ HF2.out]; rfl); have hf3 : w3.frozen? ⟨w.heap.size, 0, none⟩ = false := (by rw [HB3.frozen (p := ⟨w.heap.size, 0, none⟩) (Array.getElem?_eq_some_iff.1 HF2.out).1]; exact frozen_of_row _ _ 0 _ _ HF2.out); clear HB3))
      refine ⟨⟨?_, fun k o hk ho hc => ?_⟩, ⟨x, pre, rfl, rfl, HP.out.1, HT.out, setCell_in _ _ _ _ _ hc3⟩, ?_⟩
      · have := HB3'.out.size; simpa using this
      · rw [heap_setCell_other _ _ _ _ (by show k ≠ w.heap.size; omega)]; exact (HB3'.out.block k (Array.getElem?_eq_some_iff.1 ho).1).trans ho
      · exact (HBw2.out.trans (HB3'.out.mono HBw2.out.size)).setCell (p := ⟨w.heap.size, 0, none⟩) (Nat.le_refl _) _
  case done =>
    rintro DD V hDD ⟨⟨hno, hFV⟩, hBw⟩ hK
    have c1 : V.cell? ⟨w.heap.size, 0, none⟩ = some (.int .i64 0) := by rw [cell_of_row _ _ 0 _ _ _ hFV]; rfl
    have f1 : V.frozen? ⟨w.heap.size, 0, none⟩ = false := frozen_of_row _ _ 0 _ _ hFV
    have HE : Hid (((V.setCell ⟨w.heap.size, 0, none⟩ (.int .i64 ((n / 32 : Nat) : Int))).heap[DD]? = some (.deferred (some []))) ∧ Below w.heap.size w (V.setCell ⟨w.heap.size, 0, none⟩ (.int .i64 ((n / 32 : Nat) : Int))) ∧ (V.setCell ⟨w.heap.size, 0, none⟩ (.int .i64 ((n / 32 : Nat) : Int))).cell? ⟨w.heap.size, 0, none⟩ = some (.int .i64 ((n / 32 : Nat) : Int)) ∧ roomR D n = n / 32) :=
      ⟨(heap_setCell_other _ _ _ _ (by show DD ≠ w.heap.size; omega)).trans hK, hBw.setCell (p := ⟨w.heap.size, 0, none⟩) (Nat.le_refl _) _, setCell_in _ _ _ _ _ c1, by
        rw [roomR, List.find?_eq_none.2 (fun k hk => by simp [hno k hk])]; rfl⟩
    clear hFV hBw hK hno
    go_wp2_with (go_at_call 121; refine (count_any p n c _ hnl).mono ?_; rintro e w1 ⟨rfl, hw1⟩; rw [hw1]; clear hw1 w1)
    rw [show ((n : Int) / 32) = ((n / 32 : Nat) : Int) by omega]
    refine ⟨by simp, .inl ⟨_, _, rfl, run_takeDeferred HE.out.1, ?_⟩⟩
    refine ⟨_, results_cell1 rfl _ _ ⟨w.heap.size, 0, none⟩ (.int .i64 ((n / 32 : Nat) : Int)) rfl ?_, ?_, ?_⟩
    · have := cellB_abides (C := w.heap.size + 1) (Nat.lt_succ_self _) [] _ _ (some DD) HE.out.2.2.1 (grownBy_putObj' _ _ (.deferred none)) (fun r e => by cases e; omega)
      exact loadInt this
    · exact HE.out.2.1.trans (belowK_b (w := w) (Nat.le_refl _) _ DD _ _ (by omega) HE.out.1 rfl rfl)
    · rw [HE.out.2.2.2]
  case stop =>
    rintro DD cc pre V hDD hpre ⟨⟨k, pre', rfl, rfl, hno, hk, hE⟩, hB⟩ hK
    gi_wp2
    refine ⟨by simp, .inl ⟨_, _, rfl, run_takeDeferred hK, ?_⟩⟩
    refine ⟨_, results_cell1 rfl _ _ ⟨w.heap.size, 0, none⟩ (.int .i64 (k : Nat)) rfl ?_, ?_, ?_⟩
    · have := cellB_abides (C := w.heap.size + 1) (Nat.lt_succ_self _) [] _ _ (some DD) hE (grownBy_putObj' _ _ (.deferred none)) (fun r e => by cases e; omega)
      exact loadInt this
    · exact hB.trans (belowK_b (w := w) (Nat.le_refl _) _ DD _ _ (by omega) hK rfl rfl)
    · rw [roomR, find_pre hpre (fun i hi => by simp [hno i hi]) (by simp [hk])]; rfl
end Go.Proofs.YtpcbpikhiooafaaGreatDoor
/- Can it be a name: the walk of check. Conditions: the name is of ASCII; a length that fits. -/
namespace Go.Proofs.YtpcbpikhiooafaaGreatDoor
open Go.RowKit
def chk (l : List UInt8) : Int := if l = [] ∨ Lib.containsAny l [47, 0] = true then 22 else if 27 < l.length then 36 else 0
set_option maxRecDepth 100000 in
set_option maxHeartbeats 1000000 in
theorem sCheck (l : List UInt8) (w : World) (hl : l.length < 4294967281) (ha : ∀ x ∈ l, x.toNat < 128) : Calls Tryz.prog 116 #[.string ⟨l.toArray⟩] w fun e w' => e = .returned (.int .i64 (chk l)) ∧ Below w.heap.size w w' := by
  have hca := Tryz.strings_ContainsAny_laid ⟨l.toArray⟩ ⟨#[47, 0]⟩ w (by simpa [ByteArray.size] using hl) (by decide) (fun j b hb => ha b (by simpa using List.mem_of_getElem? hb)) (fun j b hb => by
    have := List.mem_of_getElem? hb
    simp at this
    rcases this with rfl | rfl <;> decide)
  by_cases h0 : l = []
  · subst h0
    go_enter Tryz.func116, Tryz.ntmps116
    go_wp2
    go_ret
    exact ⟨rfl, Below.refl _ _⟩
  · have h0' : l.isEmpty = false := by simp [h0]
    cases hc : Lib.containsAny l [47, 0] with
    | true =>
      have HK : Hid (chk l = 22) := by show _ = _; rw [chk, if_pos (.inr hc)]
      rw [show Lib.containsAny (⟨l.toArray⟩ : ByteArray).data.toList (⟨#[47, 0]⟩ : ByteArray).data.toList = true by simpa using hc] at hca
      clear h0 hc
      go_enter Tryz.func116, Tryz.ntmps116
      go_wp2_with fail
      refine hca.mono ?_
      rintro e w1 ⟨rfl, HB⟩
      go_wp2
      go_ret
      exact ⟨by rw [HK.out]; rfl, HB⟩
    | false =>
      rw [show Lib.containsAny (⟨l.toArray⟩ : ByteArray).data.toList (⟨#[47, 0]⟩ : ByteArray).data.toList = false by simpa using hc] at hca
      have hd : ¬ (l = [] ∨ Lib.containsAny l [47, 0] = true) := by simp [h0, hc]
      by_cases h27 : 27 < l.length
      · have h27' : decide ((27 : Int) < (l.length : Int)) = true := by simp; omega
        have HK : Hid (chk l = 36) := by show _ = _; rw [chk, if_neg hd, if_pos h27]
        clear h0 hc hd
        go_enter Tryz.func116, Tryz.ntmps116
        go_wp2_with fail
        refine hca.mono ?_
        rintro e w1 ⟨rfl, HB⟩
        go_wp2
        go_ret
        exact ⟨by rw [HK.out]; rfl, HB⟩
      · have h27' : decide ((27 : Int) < (l.length : Int)) = false := by simp; omega
        have HK : Hid (chk l = 0) := by show _ = _; rw [chk, if_neg hd, if_neg h27]
        clear h0 hc hd
        go_enter Tryz.func116, Tryz.ntmps116
        go_wp2_with fail
        refine hca.mono ?_
        rintro e w1 ⟨rfl, HB⟩
        go_wp2
        go_ret
        exact ⟨by rw [HK.out]; rfl, HB⟩
end Go.Proofs.YtpcbpikhiooafaaGreatDoor
