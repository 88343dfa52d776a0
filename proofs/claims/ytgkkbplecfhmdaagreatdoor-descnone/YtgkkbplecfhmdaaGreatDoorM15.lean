/- Several texts of this claim, one behind the other, in their order. -/
import Derived.Test.YtgkkbplecfhmdaaGreatDoorDr6
import Derived.Test.YtgkkbplecfhmdaaGreatDoorM8
/- The first free slot, or the one behind the last: the walk of room. Condition: the bytes lie in memory as said. -/
namespace Go.Proofs.YtgkkbplecfhmdaaGreatDoor
open Go.RowKit Go.Shelf
attribute [local go_sem] Oper.semAt_some
def roomR (D : Nat → Nat) (n : Nat) : Nat := ((List.range (n / 32)).find? (fun k => !tkn D k)).getD (n / 32)
theorem cellB_abides {B C : Nat} {v : Value} (h : B < C) : AbidesB C (fun (_ : List Nat) W => W.cell? ⟨B, 0, none⟩ = some v) := fun s X Y row hs hg hr =>
  hg.cell hs (fun e => by have := hr _ e.symm; have h1 : C ≤ B := this; omega)
theorem loadInt {W : World} {B : Nat} {k : Int} (h : W.cell? ⟨B, 0, none⟩ = some (.int .i64 k)) : (loadVar 3 ⟨B, 0, none⟩).run Tryz.prog W = .ok (.int .i64 k) W := by simp [go_sem, h]
set_option maxRecDepth 100000 in
set_option maxHeartbeats 2000000 in
theorem sRoom (p : Option Addr) (n c : Nat) (D : Nat → Nat) (w : World) (hC : Cont w p n c D) :
    Calls Tryz.prog 128 #[.slice p n c] w fun e w' => Below w.heap.size w w' ∧ e = .returned (.int .i64 (roomR D n : Nat)) := by
  have hz := zvSl
  have HC : Hid (Cont w p n c D) := hC
  have hnl : n ≤ 1099511627776 := Nat.le_trans hC.le hC.cm
  clear hC
  refine (callsIn_wide (n := 9)).1 ?_
  refine callsIn_of_wp_marks Tryz.func128 rfl trivial ?_ rfl
  simp only [Tryz.ntmps128, List.size_toArray, List.length_cons, List.length_nil, Nat.reduceAdd, Nat.reduceSub, Array.replicate_succ, Array.replicate_zero, List.push_toArray, List.append_toArray, List.nil_append, List.cons_append]
  refine wpIn_wide.2 ?_
  go_wp2_with (go_at_call 155; refine (all_any p n c _).mono ?_; rintro e w1 ⟨rfl, rfl⟩)
  obtain ⟨V0, hV0⟩ : ∃ V0, V0 = (w.alloc (.cells #[.int .i64 0] 3)).alloc (.cells #[.slice p n c] 177) := ⟨_, rfl⟩
  have hsz : V0.heap.size = w.heap.size + 2 := by rw [hV0]; simp
  have hBV : Below w.heap.size w V0 := by rw [hV0]; exact ((Below.refl w.heap.size w).alloc (Nat.le_refl _) _).alloc (by simp) _
  have hF0 : V0.heap[w.heap.size]? = some (.cells #[.int .i64 0] 3 (0, 0)) := by
    rw [hV0]; exact (Below.heap_alloc _ _ _ (by simp)).trans (World.alloc_heap_new w _)
  have hA : AllAt V0 (w.heap.size + 1) p n c D := ⟨by rw [hV0, World.cell?_alloc_at _ _ _ _ (by simp)]; rfl, HC.out.keep (own := fun _ => False) (KC.of_below hBV) (fun _ _ h => h)⟩
  rw [← hV0]
  clear hV0
  have hD := HC.out.lt
  refine (wpIn_wide (n := 9)).1 ?_
  refine wpIn_rangeA rfl (enters_of Tryz.func181 (by kernel_rfl) rfl) (all1 (fun _ => False) (w.heap.size + 1) p n c D (fun h => h) (fun _ _ h => h) V0 hA) (Below.refl _ _) (fun _ => rfl)
    (fun pre V => ((∀ k ∈ pre, tkn D k = true) ∧ V.heap[w.heap.size]? = some (.cells #[.int .i64 0] 3 (0, 0))) ∧ Below w.heap.size w V)
    (fun c pre V => (∃ k pre', c = .ret ∧ pre = pre' ++ [k] ∧ (∀ i ∈ pre', tkn D i = true) ∧ tkn D k = false ∧ V.cell? ⟨w.heap.size, 0, none⟩ = some (.int .i64 (k : Nat))) ∧ Below w.heap.size w V)
    (AbidesB.and (AbidesB.and (abidesB_pure _ _) (abidesB_block (by omega))) (abidesB_below (Nat.le_refl _) (by omega)))
    (fun c => AbidesB.and (fun s X Y row hs hg hr => (by obtain ⟨k, pre', h1, h2, h3, h4, h5⟩ := hs; exact ⟨k, pre', h1, h2, h3, h4, cellB_abides (C := V0.heap.size) (by omega) s X Y row h5 hg hr⟩)) (abidesB_below (Nat.le_refl _) (by omega)))
    ⟨⟨by simp, hF0⟩, hBV⟩ ?round ?done ?stop
  case round =>
    rintro l' pre x V hl' hl2 ⟨⟨hno, hFV⟩, hBw⟩ hpre
    have HSl : Hid (Slot (slotV D x) (slotD D x)) := slotV_slot D hD x
    have HP := (show Hid ((∀ k ∈ pre, tkn D k = true) ∧ V.heap[w.heap.size]? = some (.cells #[.int .i64 0] 3 (0, 0)) ∧ Below w.heap.size w V) from ⟨hno, hFV, hBw⟩)
    have HTh := (show Hid _ from there_slot V (slotV D x) HSl.out)
    unfold encK
    clear hno hFV hBw hpre
    gi_wp2_with (refine wpListIn_store_mid rfl 184 _ _ rfl V.heap.size 0 (slotV D x).toArray rfl rfl HTh.out HSl.out.infA (all_oneCell_toArray HSl.out.one) ?_)
    rw [set_slot V _ HSl.out]
    have hBA : Below V.heap.size V (V.alloc (.cells (slotV D x).toArray 184)) := (Below.refl _ V).alloc (Nat.le_refl _) _
    refine ⟨(KO.of_below hBA).from _, KC.of_below hBA, fun W2 hg2 => ?_⟩
    have HR2 : Hid (W2.rangeAt V.heap.size 0 (slotV D x)) := fun j v hv => hg2.cell (range_new V (slotV D x) 184 j v hv) (fun e => by have h1 : V.heap.size = l' := Option.some.inj e; omega)
    have h1 : (V.alloc (.cells (slotV D x).toArray 184)).heap[w.heap.size]? = some (.cells #[.int .i64 0] 3 (0, 0)) := (hBA.block _ (Array.getElem?_eq_some_iff.1 HP.out.2.1).1).trans HP.out.2.1
    have HF2 : Hid (W2.heap[w.heap.size]? = some (.cells #[.int .i64 0] 3 (0, 0))) := (hg2.block _ (Array.getElem?_eq_some_iff.1 h1).1 (fun e => by cases e; omega)).trans h1
    have HBw2 : Hid (Below w.heap.size w W2) := (HP.out.2.2.trans (hBA.mono HP.out.2.2.size)).grown hg2 (by have := HP.out.2.2.size; simp; omega) (fun k e => by cases e; omega)
    clear h1 hBA hg2
    by_cases ht : tkn D x = true
    · have HT : Hid (tkn D x = true) := ht
      have hfr : decide (le4 (slotD D x) 0 = 0) = false := by simpa [tkn] using ht
      clear ht
      gi_wp2_with (first | (refine wpListIn_load_mid rfl 184 _ rfl V.heap.size 0 rfl (slotV D x) _ HR2.out undS rfl HSl.out.inf ?_) | (refine ⟨trivial, ?_⟩; gi_at_call 156; refine (CallsIn.inRound l' (callsIn_wide.2 (sFree _ _ _ HSl.out))).mono ?_; rw [hfr]; rintro e w3 ⟨rfl, HB3⟩))
      refine ⟨(KO.of_below HB3).from _, KC.of_below HB3, ⟨⟨fun k hk => ?_, (HB3.block _ (Array.getElem?_eq_some_iff.1 HF2.out).1).trans HF2.out⟩, HBw2.out.trans (HB3.mono HBw2.out.size)⟩⟩
      rcases List.mem_append.1 hk with h | h
      · exact HP.out.1 k h
      · obtain rfl : k = x := by simpa using h
        exact HT.out
    · have HT : Hid (tkn D x = false) := by show _ = _; simpa using ht
      have hfr : decide (le4 (slotD D x) 0 = 0) = true := by simpa [tkn] using ht
      clear ht
      gi_wp2_with (first | (refine wpListIn_load_mid rfl 184 _ rfl V.heap.size 0 rfl (slotV D x) _ HR2.out undS rfl HSl.out.inf ?_) | (refine ⟨trivial, ?_⟩; gi_at_call 156; refine (CallsIn.inRound l' (callsIn_wide.2 (sFree _ _ _ HSl.out))).mono ?_; rw [hfr]; rintro e w3 ⟨rfl, HB3⟩; have HB3' : Hid (Below W2.heap.size W2 w3) := HB3; have hc3 : w3.cell? ⟨w.heap.size, 0, none⟩ = some (.int .i64 0) := (by rw [HB3.cell (p := ⟨w.heap.size, 0, none⟩) (Array.getElem?_eq_some_iff.1 HF2.out).1, cell_of_row _ _ 0 _ _ _ HF2.out]; rfl); have hf3 : w3.frozen? ⟨w.heap.size, 0, none⟩ = false := (by rw [HB3.frozen (p := ⟨w.heap.size, 0, none⟩) (Array.getElem?_eq_some_iff.1 HF2.out).1]; exact frozen_of_row _ _ 0 _ _ HF2.out); clear HB3))
      refine ⟨⟨?_, fun k o hk ho hc => ?_⟩, ⟨x, pre, rfl, rfl, HP.out.1, HT.out, setCell_in _ _ _ _ _ hc3⟩, ?_⟩
      · have := HB3'.out.size; simpa using this
      · rw [heap_setCell_other _ _ _ _ (by show k ≠ w.heap.size; omega)]; exact (HB3'.out.block k (Array.getElem?_eq_some_iff.1 ho).1).trans ho
      · exact (HBw2.out.trans (HB3'.out.mono HBw2.out.size)).setCell (p := ⟨w.heap.size, 0, none⟩) (Nat.le_refl _) _
  case done =>
    rintro DD V hDD ⟨⟨hno, hFV⟩, hBw⟩ hK
    have c1 : V.cell? ⟨w.heap.size, 0, none⟩ = some (.int .i64 0) := by rw [cell_of_row _ _ 0 _ _ _ hFV]; rfl
    have f1 : V.frozen? ⟨w.heap.size, 0, none⟩ = false := frozen_of_row _ _ 0 _ _ hFV
    have HE : Hid (((V.setCell ⟨w.heap.size, 0, none⟩ (.int .i64 ((n / 32 : Nat) : Int))).heap[DD]? = some (.deferred (some []))) ∧ Below w.heap.size w (V.setCell ⟨w.heap.size, 0, none⟩ (.int .i64 ((n / 32 : Nat) : Int))) ∧ (V.setCell ⟨w.heap.size, 0, none⟩ (.int .i64 ((n / 32 : Nat) : Int))).cell? ⟨w.heap.size, 0, none⟩ = some (.int .i64 ((n / 32 : Nat) : Int)) ∧ roomR D n = n / 32) :=
      ⟨(heap_setCell_other _ _ _ _ (by show DD ≠ w.heap.size; omega)).trans hK, hBw.setCell (p := ⟨w.heap.size, 0, none⟩) (Nat.le_refl _) _, setCell_in _ _ _ _ _ c1, by
        rw [roomR, List.find?_eq_none.2 (fun k hk => by simp [hno k hk])]; rfl⟩
    clear hFV hBw hK hno
    go_wp2_with (go_at_call 165; refine (count_any p n c _ hnl).mono ?_; rintro e w1 ⟨rfl, hw1⟩; rw [hw1]; clear hw1 w1)
    rw [show ((n : Int) / 32) = ((n / 32 : Nat) : Int) by omega]
    refine ⟨by simp, .inl ⟨_, _, rfl, run_takeDeferred HE.out.1, ?_⟩⟩
    refine ⟨_, results_cell1 rfl _ _ ⟨w.heap.size, 0, none⟩ (.int .i64 ((n / 32 : Nat) : Int)) rfl ?_, ?_, ?_⟩
    · have := cellB_abides (C := w.heap.size + 1) (Nat.lt_succ_self _) [] _ _ (some DD) HE.out.2.2.1 (grownBy_putObj' _ _ (.deferred none)) (fun r e => by cases e; omega)
      exact loadInt this
    · exact HE.out.2.1.trans (belowK_b (w := w) (Nat.le_refl _) _ DD _ _ (by omega) HE.out.1 rfl rfl)
    · rw [HE.out.2.2.2]
  case stop =>
    rintro DD cc pre V hDD hpre ⟨⟨k, pre', rfl, rfl, hno, hk, hE⟩, hB⟩ hK
    gi_wp2
    refine ⟨by simp, .inl ⟨_, _, rfl, run_takeDeferred hK, ?_⟩⟩
    refine ⟨_, results_cell1 rfl _ _ ⟨w.heap.size, 0, none⟩ (.int .i64 (k : Nat)) rfl ?_, ?_, ?_⟩
    · have := cellB_abides (C := w.heap.size + 1) (Nat.lt_succ_self _) [] _ _ (some DD) hE (grownBy_putObj' _ _ (.deferred none)) (fun r e => by cases e; omega)
      exact loadInt this
    · exact hB.trans (belowK_b (w := w) (Nat.le_refl _) _ DD _ _ (by omega) hK rfl rfl)
    · rw [roomR, find_pre hpre (fun i hi => by simp [hno i hi]) (by simp [hk])]; rfl
end Go.Proofs.YtgkkbplecfhmdaaGreatDoor
/- Can it be a name: the walk of check. Conditions: the name is of ASCII; a length that fits. -/
namespace Go.Proofs.YtgkkbplecfhmdaaGreatDoor
open Go.RowKit
def chk (l : List UInt8) : Int := if l = [] ∨ Lib.containsAny l [47, 0] = true then 22 else if 27 < l.length then 36 else 0
set_option maxRecDepth 100000 in
set_option maxHeartbeats 1000000 in
theorem sCheck (l : List UInt8) (w : World) (hl : l.length < 4294967281) (ha : ∀ x ∈ l, x.toNat < 128) : Calls Tryz.prog 164 #[.string ⟨l.toArray⟩] w fun e w' => e = .returned (.int .i64 (chk l)) ∧ Below w.heap.size w w' := by
  have hca := Tryz.strings_ContainsAny_laid ⟨l.toArray⟩ ⟨#[47, 0]⟩ w (by simpa [ByteArray.size] using hl) (by decide) (fun j b hb => ha b (by simpa using List.mem_of_getElem? hb)) (fun j b hb => by
    have := List.mem_of_getElem? hb
    simp at this
    rcases this with rfl | rfl <;> decide)
  by_cases h0 : l = []
  · subst h0
    go_enter Tryz.func164, Tryz.ntmps164
    go_wp2
    go_ret
    exact ⟨rfl, Below.refl _ _⟩
  · have h0' : l.isEmpty = false := by simp [h0]
    cases hc : Lib.containsAny l [47, 0] with
    | true =>
      have HK : Hid (chk l = 22) := by show _ = _; rw [chk, if_pos (.inr hc)]
      rw [show Lib.containsAny (⟨l.toArray⟩ : ByteArray).data.toList (⟨#[47, 0]⟩ : ByteArray).data.toList = true by simpa using hc] at hca
      clear h0 hc
      go_enter Tryz.func164, Tryz.ntmps164
      go_wp2_with fail
      refine hca.mono ?_
      rintro e w1 ⟨rfl, HB⟩
      go_wp2
      go_ret
      exact ⟨by rw [HK.out]; rfl, HB⟩
    | false =>
      rw [show Lib.containsAny (⟨l.toArray⟩ : ByteArray).data.toList (⟨#[47, 0]⟩ : ByteArray).data.toList = false by simpa using hc] at hca
      have hd : ¬ (l = [] ∨ Lib.containsAny l [47, 0] = true) := by simp [h0, hc]
      by_cases h27 : 27 < l.length
      · have h27' : decide ((27 : Int) < (l.length : Int)) = true := by simp; omega
        have HK : Hid (chk l = 36) := by show _ = _; rw [chk, if_neg hd, if_pos h27]
        clear h0 hc hd
        go_enter Tryz.func164, Tryz.ntmps164
        go_wp2_with fail
        refine hca.mono ?_
        rintro e w1 ⟨rfl, HB⟩
        go_wp2
        go_ret
        exact ⟨by rw [HK.out]; rfl, HB⟩
      · have h27' : decide ((27 : Int) < (l.length : Int)) = false := by simp; omega
        have HK : Hid (chk l = 0) := by show _ = _; rw [chk, if_neg hd, if_neg h27]
        clear h0 hc hd
        go_enter Tryz.func164, Tryz.ntmps164
        go_wp2_with fail
        refine hca.mono ?_
        rintro e w1 ⟨rfl, HB⟩
        go_wp2
        go_ret
        exact ⟨by rw [HK.out]; rfl, HB⟩
end Go.Proofs.YtgkkbplecfhmdaaGreatDoor
/- The walk of take, one of its ways, level 2. Conditions: the store lies in memory as 'St' says, the table's first cell leads to it, the ref lies in a block of its own. -/
namespace Go.Proofs.YtgkkbplecfhmdaaGreatDoor
open Go.RowKit
section
variable {w : World} {b c n : Nat} {u : Nat → Bool} {D : Nat → Nat}
set_option maxRecDepth 8000 in
set_option maxHeartbeats 4000000 in
theorem take_new2_bad (S : St w b c n u D) (t ab ao k i : Nat) (ht : w.cell? ⟨t, 0, none⟩ = some (.pointer (some ⟨b, 0, none⟩))) (ha : w.cell? ⟨ab, ao, none⟩ = some (.int .i64 (0 : Nat))) (hf : w.frozen? ⟨ab, ao, none⟩ = false) (hA : Apart b c t ab) (hk : k < 256) (hl : low u n = some i) (hx : tk 1 n (upd u i true) D (ptr (upd u i true) D (i + 1) (k / 16)) (k % 16) = none) :
    Calls Tryz.prog 203 #[.pointer (some ⟨t, 0, none⟩), .pointer (some ⟨ab, ao, none⟩), .int .i64 256, .int .i64 k] w (TkPost b c n t ab ao u D 0 w none) := by
  have HT : Hid (TS b c n t ab ao w.heap.size (w.heap.size + 1) 0 u D ((w.alloc (.cells #[.pointer (some ⟨t, 0, none⟩)] 115)).alloc (.cells #[.pointer (some ⟨ab, ao, none⟩)] 224))) := TS.box S ht ha hf hA
  have HM0 : Hid (Mod (fun _ => False) w ((w.alloc (.cells #[.pointer (some ⟨t, 0, none⟩)] 115)).alloc (.cells #[.pointer (some ⟨ab, ao, none⟩)] 224))) := ((Mod.refl _ w).alloc _).alloc _
  have hab := block_lt_of_cell ha
  have htl := block_lt_of_cell ht
  have hz := zvP
  have hI := infP16
  have hn := S.n2
  have HN : Hid (ab < w.heap.size) := hab
  have HBC : Hid (b < w.heap.size ∧ c < w.heap.size) := ⟨S.lt_b, S.lt_c⟩
  have hw1 : IntKind.i64.wrap (k : Int) = k := by rw [IntKind.wrap_i64]; omega
  have hw2 : IntKind.i64.wrap ((k : Int) / 16) = (k : Int) / 16 := by rw [IntKind.wrap_i64]; omega
  have HTM : Hid ((k : Int) % 16 = ((k % 16 : Nat) : Int)) := by show _ = _; omega
  have HTN : Hid (t < w.heap.size) := htl
  have HD : Hid (∀ j, D j < 256) := S.dl
  have HX : Hid (_ = _) := hx
  have HL : Hid (i < n ∧ u i = false ∧ ∀ j, j < i → u j = true) := low_some hl
  have hi : i < 4096 := by have := HL.out.1; omega
  have HB : Hid (freeU (upd u i true) (i + 1) = u ∧ freeD (upd u i true) D (i + 1) = D) := free_back S HL.out.1 HL.out.2.1
  clear S hl hf hA hx
  go_enter Tryz.func203, Tryz.ntmps203
  go_wp2_with (go_at_call 212; refine (HT.out.S.alloc_some i HL.out.1 HL.out.2.1 HL.out.2.2).mono ?_; rintro e w1 ⟨rfl, H1, M1, -⟩; have HT1 : Hid (TS b c n t ab ao w.heap.size (w.heap.size + 1) 0 (upd u i true) D w1) := HT.out.stored M1 H1 (fun _ h => .inl h); have HM1 : Hid (Mod (fun k => k = b) ((w.alloc (.cells #[.pointer (some ⟨t, 0, none⟩)] 115)).alloc (.cells #[.pointer (some ⟨ab, ao, none⟩)] 224)) w1) := M1; have c1 := HT1.out.c4; have c2 := HT1.out.c5; have c3 := HT1.out.ca; have c4 := HT1.out.fa; clear H1 M1)
  have HT2 : Hid (TS b c n t ab ao w.heap.size (w.heap.size + 1) (i + 1) (upd u i true) D (w1.setCell ⟨ab, ao, none⟩ (.int .i64 ((i : Int) + 1)))) := HT1.out.set (i + 1)
  have HF2 : Hid (Fr b c ab ao w (w1.setCell ⟨ab, ao, none⟩ (.int .i64 ((i : Int) + 1)))) := (Fr.of_mod HM0.out HN.out (fun _ h => h.elim) HT.out.A.nb HT.out.A.nc).trans ((HT.out.fr HM1.out (fun _ h => .inl h)).set _)
  have HX2' : w.heap.size + 2 ≤ (w1.setCell ⟨ab, ao, none⟩ (.int .i64 ((i : Int) + 1))).heap.size := by have := HM1.out.size; simp [World.setCell] at this ⊢; omega
  generalize hW2 : w1.setCell ⟨ab, ao, none⟩ (.int .i64 ((i : Int) + 1)) = w2 at *
  clear hW2 c1 c2 c3 c4 HT1 HM1
  clear HT HM0
  have HX2 : Hid (w.heap.size + 2 ≤ w2.heap.size) := HX2'
  generalize hx4 : w.heap.size = x4 at *
  have HS0 : Hid ((w2.drewN 1).cell? ⟨x4, 0, none⟩ = some (.pointer (some ⟨t, 0, none⟩)) ∧ (w2.drewN 1).cell? ⟨x4 + 1, 0, none⟩ = some (.pointer (some ⟨ab, ao, none⟩)) ∧ (w2.drewN 1).cell? ⟨ab, ao, none⟩ = some (.int .i64 ((i : Int) + 1))) := ⟨HT2.out.c4, HT2.out.c5, HT2.out.ca⟩
  have HZ : Hid (TS b c n t ab ao x4 (x4 + 1) (i + 1) (upd u i true) D (w2.alloc (.cells zeroP 261)).drew) := HT2.out.new (((Mod.refl _ w2).alloc _).drewN 1)
  have hS1 : (w2.alloc (.cells zeroP 261)).drew.cell? ⟨x4, 0, none⟩ = some (.pointer (some ⟨t, 0, none⟩)) ∧ (w2.alloc (.cells zeroP 261)).drew.cell? ⟨x4 + 1, 0, none⟩ = some (.pointer (some ⟨ab, ao, none⟩)) ∧ (w2.alloc (.cells zeroP 261)).drew.cell? ⟨ab, ao, none⟩ = some (.int .i64 ((i : Int) + 1)) := ⟨HZ.out.c4, HZ.out.c5, HZ.out.ca⟩
  have HZT : Hid ((w2.alloc (.cells zeroP 261)).drew.there w2.heap.size 0 16) := there_new w2 261 zeroP sizeP
  have hx2 : x4 + 2 ≤ w2.heap.size := HX2.out
  go_region_held (fun W' => W'.cell? ⟨x4, 0, none⟩ = some (.pointer (some ⟨t, 0, none⟩)) ∧ W'.cell? ⟨x4 + 1, 0, none⟩ = some (.pointer (some ⟨ab, ao, none⟩)) ∧ W'.cell? ⟨ab, ao, none⟩ = some (.int .i64 ((i : Int) + 1))) (first | exact hS6 | exact hS5 | exact hS3 | exact hS1 | exact HS0.out) (first | (go_at_call 175; rw [show ((i : Int) + 1) = ((i + 1 : Nat) : Int) from rfl]; refine (load_row (HT2.out.S.drewN 1) t (i + 1) HT2.out.ct (by omega)).mono ?_; rintro e w3 ⟨A, rfl, hsz, HA, HO, HJ, HM3⟩; have HM3' : Hid (Mod (fun _ => False) w2 w3) := ((Mod.refl _ w2).drewN 1).trans HM3.out; have HT3 : Hid (TS b c n t ab ao x4 (x4 + 1) (i + 1) (upd u i true) D w3) := HT2.out.new HM3'.out; have hS3 := s3 HT3.out; have hS5 := s3 (HT3.out.new ((Mod.refl _ w3).alloc (.cells zeroP 261))); have hO1 := one_list HO.out; have hTh : (w3.alloc (.cells zeroP 261)).there w3.heap.size 0 16 := there_new w3 261 zeroP sizeP; obtain ⟨w4, Pb, HW4, HPb, HTP⟩ := four1 HT3.out A hsz HO.out HJ.out (Nat.le_trans hx2 HM3'.out.size) HM3'.out; have hS6 := HW4.out ▸ s3 HTP.out.T) | (go_at_call 175; rw [show ((i : Int) + 1) = ((i + 1 : Nat) : Int) from rfl]; refine (load_row HZ.out.S t (i + 1) HZ.out.ct (by omega)).mono ?_; rintro e w3 ⟨A, rfl, hsz, HA, HO, HJ, HM3⟩; have HM3' : Hid (Mod (fun _ => False) (w2.alloc (.cells zeroP 261)).drew w3) := HM3; have HT3 : Hid (TS b c n t ab ao x4 (x4 + 1) (i + 1) (upd u i true) D w3) := HZ.out.new HM3'.out; have hS3 := s3 HT3.out; have hO1 := one_list HO.out; have hTh : w3.there w2.heap.size 0 16 := HM3'.out.there (by show _ < (w2.alloc _).heap.size; simp) (fun h => h) HZT.out; obtain ⟨w4, Pb, HW4, HPb, HTP⟩ := four2 HT3.out A hsz HJ.out hx2 hTh HM3'.out (HT2.out.lts hx2); have hS6 := HW4.out ▸ s3 HTP.out.T))
  all_goals rw [← HW4.out, ← HPb.out]
  all_goals clear hTh hS6 hS3 hO1 HT3 HM3' HW4 HPb HM3
  all_goals try clear hS5
  all_goals clear hS1 HZT HZ hx2
  all_goals have HF4 : Hid (Fr b c ab ao w w4) := HF2.out.trans (HTP.out.fr0 (block_lt_of_cell HT2.out.ca))
  all_goals go_wp2_with fail
  all_goals have HAP : Hid (Apart b c t Pb) := ⟨by have := HTP.out.lt; omega, by have := HTP.out.lt; have := HBC.out.1; omega, by have := HTP.out.lt; have := HBC.out.2; omega, HTP.out.T.A.tb, HTP.out.T.A.tc, by have := HTP.out.lt; have := HTN.out; omega⟩
  all_goals have HPN : Hid (ab ≠ Pb ∧ x4 ≠ Pb ∧ x4 + 1 ≠ Pb) := by have := HTP.out.lt; have := HN.out; refine ⟨?_, ?_, ?_⟩ <;> omega
  all_goals have HPL : Hid (w.heap.size ≤ Pb) := by have := HTP.out.lt; show _ ≤ _; omega
  all_goals have HS7 : Hid ((w4.drewN 1).cell? ⟨x4, 0, none⟩ = some (.pointer (some ⟨t, 0, none⟩))) := HTP.out.T.c4
  all_goals (go_region_held (fun W' => W'.cell? ⟨x4, 0, none⟩ = some (.pointer (some ⟨t, 0, none⟩))) (first | exact hS8 | exact HS7.out) (first | (go_at_call 203; rw [HTM.out]; refine (take1 (HTP.out.T.S.drewN 1) t Pb (k / 16) (ptr (upd u i true) D (i + 1) (k / 16)) (k % 16) HTP.out.T.ct (HTP.out.at_ (k / 16) (by omega)) (HTP.out.fr (k / 16) (by omega)) HAP.out (by omega) (ptr_lt _ D HD.out _ _)).mono ?_; rw [HX.out]; rintro e w5 ⟨rfl, H5, C5, F5, T5⟩; have HT5 : Hid (TS b c n t ab ao x4 (x4 + 1) (i + 1) (upd u i true) D w5) := HTP.out.T.step (((Mod.refl _ w4).drewN 1).trans F5.mod) H5 (fun e => e.elim HTP.out.T.A.nb (fun e => e.elim HTP.out.T.A.nc HPN.out.1)) (fun e => e.elim HTP.out.T.A.tb (fun e => e.elim HTP.out.T.A.tc HAP.out.ta)) (fun e => e.elim HTP.out.T.n4.1 (fun e => e.elim HTP.out.T.n4.2.1 HPN.out.2.1)) (fun e => e.elim HTP.out.T.n5.1 (fun e => e.elim HTP.out.T.n5.2.1 HPN.out.2.2)); have HF5 : Hid (Fr b c ab ao w w5) := fr_sub F5 (block_lt_of_cell HTP.out.T.ca) HTP.out.T.A.nb HTP.out.T.A.nc HPN.out.1 HPL.out HF4.out; have HC5 : Hid (w5.cell? ⟨Pb, k / 16, none⟩ = some (.int .i64 (ptr (upd u i true) D (i + 1) (k / 16) : Nat))) := C5; have HG5 : Hid (∀ o, o ≠ (k / 16) → w5.cell? ⟨Pb, o, none⟩ = w4.cell? ⟨Pb, o, none⟩) := F5.cell; have hS8 := HT5.out.c4; clear H5 C5 F5 T5)))
  all_goals clear hS8
  all_goals go_wp2_with (go_at_call 213; refine (back_any HT5.out (by omega)).mono ?_; rintro e w6 ⟨rfl, H6, C6, F6⟩; have HH : Hid (St w6 b c n u D ∧ w6.cell? ⟨ab, ao, none⟩ = some (.int .i64 0) ∧ Fr b c ab ao w w6 ∧ w6.cell? ⟨t, 0, none⟩ = some (.pointer (some ⟨b, 0, none⟩))) := ⟨by rw [HB.out.1, HB.out.2] at H6; exact H6, C6, HF5.out.trans F6, (F6.mod.cell (p := ⟨t, 0, none⟩) (block_lt_of_cell HT5.out.ct) (fun e => e.elim HT5.out.A.tb (fun e => e.elim HT5.out.A.tc HT5.out.A.ta))).trans HT5.out.ct⟩; clear H6 C6 F6)
  all_goals go_ret2
  all_goals exact ⟨by simp, HH.out⟩
end
end Go.Proofs.YtgkkbplecfhmdaaGreatDoor
