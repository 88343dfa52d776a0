/- Several texts of this claim, one behind the other, in their order. -/
import Derived.Test.YtfmemkninmpfjaaGreatDoorDr6
import Derived.Test.YtfmemkninmpfjaaGreatDoorM7
/- The first free slot, or the one behind the last: the walk of room. Condition: the bytes lie in memory as said. -/
namespace Go.Proofs.YtfmemkninmpfjaaGreatDoor
open Go.RowKit Go.Shelf
attribute [local go_sem] Oper.semAt_some
def roomR (D : Nat → Nat) (n : Nat) : Nat := ((List.range (n / 32)).find? (fun k => !tkn D k)).getD (n / 32)
theorem cellB_abides {B C : Nat} {v : Value} (h : B < C) : AbidesB C (fun (_ : List Nat) W => W.cell? ⟨B, 0, none⟩ = some v) := fun s X Y row hs hg hr =>
  hg.cell hs (fun e => by have := hr _ e.symm; have h1 : C ≤ B := this; omega)
theorem loadInt {W : World} {B : Nat} {k : Int} (h : W.cell? ⟨B, 0, none⟩ = some (.int .i64 k)) : (loadVar 3 ⟨B, 0, none⟩).run Tryz.prog W = .ok (.int .i64 k) W := by simp [go_sem, h]
set_option maxRecDepth 100000 in
set_option maxHeartbeats 2000000 in
theorem sRoom (p : Option Addr) (n c : Nat) (D : Nat → Nat) (w : World) (hC : Cont w p n c D) :
    Calls Tryz.prog 68 #[.slice p n c] w fun e w' => Below w.heap.size w w' ∧ e = .returned (.int .i64 (roomR D n : Nat)) := by
  have hz := zvSl
  have HC : Hid (Cont w p n c D) := hC
  have hnl : n ≤ 1099511627776 := Nat.le_trans hC.le hC.cm
  clear hC
  refine (callsIn_wide (n := 9)).1 ?_
  refine callsIn_of_wp_marks Tryz.func68 rfl trivial ?_ rfl
  simp only [Tryz.ntmps68, List.size_toArray, List.length_cons, List.length_nil, Nat.reduceAdd, Nat.reduceSub, Array.replicate_succ, Array.replicate_zero, List.push_toArray, List.append_toArray, List.nil_append, List.cons_append]
  refine wpIn_wide.2 ?_
  go_wp2_with (go_at_call 96; refine (all_any p n c _).mono ?_; rintro e w1 ⟨rfl, rfl⟩)
  obtain ⟨V0, hV0⟩ : ∃ V0, V0 = (w.alloc (.cells #[.int .i64 0] 3)).alloc (.cells #[.slice p n c] 102) := ⟨_, rfl⟩
  have hsz : V0.heap.size = w.heap.size + 2 := by rw [hV0]; simp
  have hBV : Below w.heap.size w V0 := by rw [hV0]; exact ((Below.refl w.heap.size w).alloc (Nat.le_refl _) _).alloc (by simp) _
  have hF0 : V0.heap[w.heap.size]? = some (.cells #[.int .i64 0] 3 (0, 0)) := by
    rw [hV0]; exact (Below.heap_alloc _ _ _ (by simp)).trans (World.alloc_heap_new w _)
  have hA : AllAt V0 (w.heap.size + 1) p n c D := ⟨by rw [hV0, World.cell?_alloc_at _ _ _ _ (by simp)]; rfl, HC.out.keep (own := fun _ => False) (KC.of_below hBV) (fun _ _ h => h)⟩
  rw [← hV0]
  clear hV0
  have hD := HC.out.lt
  refine (wpIn_wide (n := 9)).1 ?_
  refine wpIn_rangeA rfl (enters_of Tryz.func118 (by kernel_rfl) rfl) (all1 (fun _ => False) (w.heap.size + 1) p n c D (fun h => h) (fun _ _ h => h) V0 hA) (Below.refl _ _) (fun _ => rfl)
    (fun pre V => ((∀ k ∈ pre, tkn D k = true) ∧ V.heap[w.heap.size]? = some (.cells #[.int .i64 0] 3 (0, 0))) ∧ Below w.heap.size w V)
    (fun c pre V => (∃ k pre', c = .ret ∧ pre = pre' ++ [k] ∧ (∀ i ∈ pre', tkn D i = true) ∧ tkn D k = false ∧ V.cell? ⟨w.heap.size, 0, none⟩ = some (.int .i64 (k : Nat))) ∧ Below w.heap.size w V)
    (AbidesB.and (AbidesB.and (abidesB_pure _ _) (abidesB_block (by omega))) (abidesB_below (Nat.le_refl _) (by omega)))
    (fun c => AbidesB.and (fun s X Y row hs hg hr => (by obtain ⟨k, pre', h1, h2, h3, h4, h5⟩ := hs; exact ⟨k, pre', h1, h2, h3, h4, cellB_abides (C := V0.heap.size) (by omega) s X Y row h5 hg hr⟩)) (abidesB_below (Nat.le_refl _) (by omega)))
    ⟨⟨by simp, hF0⟩, hBV⟩ ?round ?done ?stop
  case round =>
    rintro l' pre x V hl' hl2 ⟨⟨hno, hFV⟩, hBw⟩ hpre
    have HSl : Hid (Slot (slotV D x) (slotD D x)) := slotV_slot D hD x
    have HP := (show Hid ((∀ k ∈ pre, tkn D k = true) ∧ V.heap[w.heap.size]? = some (.cells #[.int .i64 0] 3 (0, 0)) ∧ Below w.heap.size w V) from ⟨hno, hFV, hBw⟩)
    have HTh := (show Hid _ from there_slot V (slotV D x) HSl.out)
    unfold encK
    clear hno hFV hBw hpre
    gi_wp2_with (refine wpListIn_store_mid rfl 109 _ _ rfl V.heap.size 0 (slotV D x).toArray rfl rfl HTh.out HSl.out.infA (all_oneCell_toArray HSl.out.one) ?_)
    rw [set_slot V _ HSl.out]
    have hBA : Below V.heap.size V (V.alloc (.cells (slotV D x).toArray 109)) := (Below.refl _ V).alloc (Nat.le_refl _) _
    refine ⟨(KO.of_below hBA).from _, KC.of_below hBA, fun W2 hg2 => ?_⟩
    have HR2 : Hid (W2.rangeAt V.heap.size 0 (slotV D x)) := fun j v hv => hg2.cell (range_new V (slotV D x) 109 j v hv) (fun e => by have h1 : V.heap.size = l' := Option.some.inj e; omega)
    have h1 : (V.alloc (.cells (slotV D x).toArray 109)).heap[w.heap.size]? = some (.cells #[.int .i64 0] 3 (0, 0)) := (hBA.block _ (Array.getElem?_eq_some_iff.1 HP.out.2.1).1).trans HP.out.2.1
    have HF2 : Hid (W2.heap[w.heap.size]? = some (.cells #[.int .i64 0] 3 (0, 0))) := (hg2.block _ (Array.getElem?_eq_some_iff.1 h1).1 (fun e => by cases e; omega)).trans h1
    have HBw2 : Hid (Below w.heap.size w W2) := (HP.out.2.2.trans (hBA.mono HP.out.2.2.size)).grown hg2 (by have := HP.out.2.2.size; simp; omega) (fun k e => by cases e; omega)
    clear h1 hBA hg2
    by_cases ht : tkn D x = true
    · have HT : Hid (tkn D x = true) := ht
      have hfr : decide (le4 (slotD D x) 0 = 0) = false := by simpa [tkn] using ht
      clear ht
      gi_wp2_with (first | (refine wpListIn_load_mid rfl 109 _ rfl V.heap.size 0 rfl (slotV D x) _ HR2.out undS rfl HSl.out.inf ?_) | (refine ⟨trivial, ?_⟩; gi_at_call 97; refine (CallsIn.inRound l' (callsIn_wide.2 (sFree _ _ _ HSl.out))).mono ?_; rw [hfr]; rintro e w3 ⟨rfl, HB3⟩))
      refine ⟨(KO.of_below HB3).from _, KC.of_below HB3, ⟨⟨fun k hk => ?_, (HB3.block _ (Array.getElem?_eq_some_iff.1 HF2.out).1).trans HF2.out⟩, HBw2.out.trans (HB3.mono HBw2.out.size)⟩⟩
      rcases List.mem_append.1 hk with h | h
      · exact HP.out.1 k h
      · obtain rfl : k = x := by simpa using h
        exact HT.out
    · have HT : Hid (tkn D x = false) := by show _ = _; simpa using ht
      have hfr : decide (le4 (slotD D x) 0 = 0) = true := by simpa [tkn] using ht
      clear ht
      gi_wp2_with (first | (refine wpListIn_load_mid rfl 109 _ rfl V.heap.size 0 rfl (slotV D x) _ HR2.out undS rfl HSl.out.inf ?_) | (refine ⟨trivial, ?_⟩; gi_at_call 97; refine (CallsIn.inRound l' (callsIn_wide.2 (sFree _ _ _ HSl.out))).mono ?_; rw [hfr]; rintro e w3 ⟨rfl, HB3⟩; have HB3' : Hid (Below W2.heap.size W2 w3) := HB3; have hc3 : w3.cell? ⟨w.heap.size, 0, none⟩ = some (.int .i64 0) := (by rw [HB3.cell (p := ⟨w.heap.size, 0, none⟩) (Array.getElem?_eq_some_iff.1 HF2.out).1, cell_of_row _ _ 0 _ _ _ HF2.out]; rfl); have hf3 : w3.frozen? ⟨w.heap.size, 0, none⟩ = false := (by rw [HB3.frozen (p := ⟨w.heap.size, 0, none⟩) (Array.getElem?_eq_some_iff.1 HF2.out).1]; exact frozen_of_row _ _ 0 _ _ HF2.out); clear HB3))
      refine ⟨⟨?_, fun k o hk ho hc => ?_⟩, ⟨x, pre, rfl, rfl, HP.out.1, HT.out, setCell_in _ _ _ _ _ hc3⟩, ?_⟩
      · have := HB3'.out.size; simpa using this
      · rw [heap_setCell_other _ _ _ _ (by show k ≠ w.heap.size; omega)]; exact (HB3'.out.block k (Array.getElem?_eq_some_iff.1 ho).1).trans ho
      · exact (HBw2.out.trans (HB3'.out.mono HBw2.out.size)).setCell (p := ⟨w.heap.size, 0, none⟩) (Nat.le_refl _) _
  case done =>
    rintro DD V hDD ⟨⟨hno, hFV⟩, hBw⟩ hK
    have c1 : V.cell? ⟨w.heap.size, 0, none⟩ = some (.int .i64 0) := by rw [cell_of_row _ _ 0 _ _ _ hFV]; rfl
    have f1 : V.frozen? ⟨w.heap.size, 0, none⟩ = false := frozen_of_row _ _ 0 _ _ hFV
    have HE : Hid (((V.setCell ⟨w.heap.size, 0, none⟩ (.int .i64 ((n / 32 : Nat) : Int))).heap[DD]? = some (.deferred (some []))) ∧ Below w.heap.size w (V.setCell ⟨w.heap.size, 0, none⟩ (.int .i64 ((n / 32 : Nat) : Int))) ∧ (V.setCell ⟨w.heap.size, 0, none⟩ (.int .i64 ((n / 32 : Nat) : Int))).cell? ⟨w.heap.size, 0, none⟩ = some (.int .i64 ((n / 32 : Nat) : Int)) ∧ roomR D n = n / 32) :=
      ⟨(heap_setCell_other _ _ _ _ (by show DD ≠ w.heap.size; omega)).trans hK, hBw.setCell (p := ⟨w.heap.size, 0, none⟩) (Nat.le_refl _) _, setCell_in _ _ _ _ _ c1, by
        rw [roomR, List.find?_eq_none.2 (fun k hk => by simp [hno k hk])]; rfl⟩
    clear hFV hBw hK hno
    go_wp2_with (go_at_call 63; refine (count_any p n c _ hnl).mono ?_; rintro e w1 ⟨rfl, hw1⟩; rw [hw1]; clear hw1 w1)
    rw [show ((n : Int) / 32) = ((n / 32 : Nat) : Int) by omega]
    refine ⟨by simp, .inl ⟨_, _, rfl, run_takeDeferred HE.out.1, ?_⟩⟩
    refine ⟨_, results_cell1 rfl _ _ ⟨w.heap.size, 0, none⟩ (.int .i64 ((n / 32 : Nat) : Int)) rfl ?_, ?_, ?_⟩
    · have := cellB_abides (C := w.heap.size + 1) (Nat.lt_succ_self _) [] _ _ (some DD) HE.out.2.2.1 (grownBy_putObj' _ _ (.deferred none)) (fun r e => by cases e; omega)
      exact loadInt this
    · exact HE.out.2.1.trans (belowK_b (w := w) (Nat.le_refl _) _ DD _ _ (by omega) HE.out.1 rfl rfl)
    · rw [HE.out.2.2.2]
  case stop =>
    rintro DD cc pre V hDD hpre ⟨⟨k, pre', rfl, rfl, hno, hk, hE⟩, hB⟩ hK
    gi_wp2
    refine ⟨by simp, .inl ⟨_, _, rfl, run_takeDeferred hK, ?_⟩⟩
    refine ⟨_, results_cell1 rfl _ _ ⟨w.heap.size, 0, none⟩ (.int .i64 (k : Nat)) rfl ?_, ?_, ?_⟩
    · have := cellB_abides (C := w.heap.size + 1) (Nat.lt_succ_self _) [] _ _ (some DD) hE (grownBy_putObj' _ _ (.deferred none)) (fun r e => by cases e; omega)
      exact loadInt this
    · exact hB.trans (belowK_b (w := w) (Nat.le_refl _) _ DD _ _ (by omega) hK rfl rfl)
    · rw [roomR, find_pre hpre (fun i hi => by simp [hno i hi]) (by simp [hk])]; rfl
end Go.Proofs.YtfmemkninmpfjaaGreatDoor
/- Can it be a name: the walk of check. Conditions: the name is of ASCII; a length that fits. -/
namespace Go.Proofs.YtfmemkninmpfjaaGreatDoor
open Go.RowKit
def chk (l : List UInt8) : Int := if l = [] ∨ Lib.containsAny l [47, 0] = true then 22 else if 27 < l.length then 36 else 0
set_option maxRecDepth 100000 in
set_option maxHeartbeats 1000000 in
theorem sCheck (l : List UInt8) (w : World) (hl : l.length < 4294967281) (ha : ∀ x ∈ l, x.toNat < 128) : Calls Tryz.prog 98 #[.string ⟨l.toArray⟩] w fun e w' => e = .returned (.int .i64 (chk l)) ∧ Below w.heap.size w w' := by
  have hca := Tryz.strings_ContainsAny_laid ⟨l.toArray⟩ ⟨#[47, 0]⟩ w (by simpa [ByteArray.size] using hl) (by decide) (fun j b hb => ha b (by simpa using List.mem_of_getElem? hb)) (fun j b hb => by
    have := List.mem_of_getElem? hb
    simp at this
    rcases this with rfl | rfl <;> decide)
  by_cases h0 : l = []
  · subst h0
    go_enter Tryz.func98, Tryz.ntmps98
    go_wp2
    go_ret
    exact ⟨rfl, Below.refl _ _⟩
  · have h0' : l.isEmpty = false := by simp [h0]
    cases hc : Lib.containsAny l [47, 0] with
    | true =>
      have HK : Hid (chk l = 22) := by show _ = _; rw [chk, if_pos (.inr hc)]
      rw [show Lib.containsAny (⟨l.toArray⟩ : ByteArray).data.toList (⟨#[47, 0]⟩ : ByteArray).data.toList = true by simpa using hc] at hca
      clear h0 hc
      go_enter Tryz.func98, Tryz.ntmps98
      go_wp2_with fail
      refine hca.mono ?_
      rintro e w1 ⟨rfl, HB⟩
      go_wp2
      go_ret
      exact ⟨by rw [HK.out]; rfl, HB⟩
    | false =>
      rw [show Lib.containsAny (⟨l.toArray⟩ : ByteArray).data.toList (⟨#[47, 0]⟩ : ByteArray).data.toList = false by simpa using hc] at hca
      have hd : ¬ (l = [] ∨ Lib.containsAny l [47, 0] = true) := by simp [h0, hc]
      by_cases h27 : 27 < l.length
      · have h27' : decide ((27 : Int) < (l.length : Int)) = true := by simp; omega
        have HK : Hid (chk l = 36) := by show _ = _; rw [chk, if_neg hd, if_pos h27]
        clear h0 hc hd
        go_enter Tryz.func98, Tryz.ntmps98
        go_wp2_with fail
        refine hca.mono ?_
        rintro e w1 ⟨rfl, HB⟩
        go_wp2
        go_ret
        exact ⟨by rw [HK.out]; rfl, HB⟩
      · have h27' : decide ((27 : Int) < (l.length : Int)) = false := by simp; omega
        have HK : Hid (chk l = 0) := by show _ = _; rw [chk, if_neg hd, if_neg h27]
        clear h0 hc hd
        go_enter Tryz.func98, Tryz.ntmps98
        go_wp2_with fail
        refine hca.mono ?_
        rintro e w1 ⟨rfl, HB⟩
        go_wp2
        go_ret
        exact ⟨by rw [HK.out]; rfl, HB⟩
end Go.Proofs.YtfmemkninmpfjaaGreatDoor
/- The walks of readPlace and Read. Conditions: the table lies in memory as 'Tb' says. -/
namespace Go.Proofs.YtfmemkninmpfjaaGreatDoor
open Go.RowKit
/-- look, of an inode's place; the byte at x of its bytes. -/
def lkAt (u : Nat → Bool) (D : Nat → Nat) (R : Nat → Nat) (k : Nat) : Nat := lk (lv k) u D (R (rt k)) (kk k)
def rd (u : Nat → Bool) (D : Nat → Nat) (R : Nat → Nat) (x : Nat) : Nat := if lkAt u D R (x / 64) ≠ 0 ∧ u (lkAt u D R (x / 64) - 1) = true then D ((lkAt u D R (x / 64) - 1) * 64 + x % 64) else 0
theorem lk_lt {u : Nat → Bool} {D : Nat → Nat} (hD : ∀ j, D j < 256) : ∀ l r k, r < 4294967296 → lk l u D r k < 4294967296
  | 0, _, _, h => h
  | l + 1, r, k, _ => by rw [lk]; exact lk_lt hD l _ _ (ptr_lt _ _ hD _ _)
section
variable {w w' : World} {t q b c n N : Nat} {clk : Int} {F : Nat → Nat → Int} {R : Nat → Nat → Nat} {u : Nat → Bool} {D : Nat → Nat}
theorem lookAt (T : Tb w t q b c n N clk F R u D) (i k P K r : Nat) (hk : k < 278) (h : P = 16 ^ lv k ∧ K = kk k ∧ r = R i (rt k)) :
    Calls Tryz.prog 131 #[.pointer (some ⟨t, 0, none⟩), .int .i64 r, .int .i64 P, .int .i64 K] w fun e w' => e = .returned (.int .i64 (lkAt u D (R i) k : Nat)) ∧ Mod (fun _ => False) w w' := by
  obtain ⟨rfl, rfl, rfl⟩ := h
  unfold lkAt
  by_cases h1 : k < 6
  · have e : lv k = 0 := by simp [lv, h1]
    rw [e]; exact look0 u D w t _ _
  · by_cases h2 : k < 22
    · have e : lv k = 1 := by simp [lv, h1, h2]
      rw [e]; exact look1 T.S t _ _ T.c0 (T.rl _ _) (by simp [kk, h1, h2]; omega)
    · have e : lv k = 2 := by simp [lv, h1, h2]
      rw [e]; exact look2 T.S t _ _ T.c0 (T.rl _ _) (by simp [kk, h1, h2]; omega)
theorem place_any3 (nb no k : Nat) (w : World) (hk : k < 278) : Calls Tryz.prog 103 #[.pointer (some ⟨nb, no, none⟩), .int .i64 k] w fun e w' => ∃ o P K : Nat,
    e = .returned (.tuple #[.agg #[.pointer (some ⟨nb, o, none⟩), .int .i64 P], .int .i64 K]) ∧ Hid (o = no + 9 + rt k ∧ P = 16 ^ lv k ∧ K = kk k) ∧ Hid (Mod (fun _ => False) w w') :=
  (place_at nb no k w hk).mono fun _ _ ⟨h1, h2⟩ => ⟨_, _, _, h1, ⟨rfl, rfl, rfl⟩, h2⟩
/-- The store's Read of any ref but a hole's. -/
theorem St.read_any (S : St w b c n u D) (r : Nat) : Calls Tryz.prog 132 #[.pointer (some ⟨b, 0, none⟩), .int .i64 ((r : Int) - 1)] w fun e w' =>
    if r ≠ 0 ∧ u (r - 1) = true then ∃ g, e = .returned (.tuple #[.slice (some ⟨g, 0, none⟩) 64 64, .int .i64 0]) ∧ Hid (w.heap.size ≤ g) ∧ Hid (∀ j, j < 64 → w'.cell? ⟨g, j, none⟩ = some (.int .u8 (D ((r - 1) * 64 + j) : Nat))) ∧ Hid (Mod (fun _ => False) w w')
    else e = .returned (.tuple #[.slice none 0 0, .int .i64 22]) ∧ ∃ m, w' = w.drewN m := by
  by_cases h : r ≠ 0 ∧ u (r - 1) = true
  · simp only [if_pos h]
    have hrn : r - 1 < n := Nat.lt_of_not_le fun h' => by have := h.2; rw [S.out _ h'] at this; exact absurd this (by simp)
    rw [show (r : Int) - 1 = ((r - 1 : Nat) : Int) by have := h.1; omega]
    exact S.read_in (r - 1) hrn h.2
  · simp only [if_neg h]
    exact S.read_not _ (unfit_of h)
/-- What readPlace makes of the part at ⟨g, go⟩. -/
structure RP (u : Nat → Bool) (D : Nat → Nat) (R : Nat → Nat) (off g go m : Nat) (w w' : World) : Prop where
  mod : Mod (fun k => k = g) w w'
  out : ∀ o, (o < go ∨ go + m ≤ o) → w'.cell? ⟨g, o, none⟩ = w.cell? ⟨g, o, none⟩
  at_ : (∀ j, j < m → w.cell? ⟨g, go + j, none⟩ = some (.int .u8 0)) → ∀ j, j < m → w'.cell? ⟨g, go + j, none⟩ = some (.int .u8 (rd u D R (off + j) : Nat))
  fr : ∀ o, w'.frozen? ⟨g, o, none⟩ = w.frozen? ⟨g, o, none⟩
theorem rd_in {u : Nat → Bool} {D : Nat → Nat} {R : Nat → Nat} {off j m : Nat} (hm : m + off % 64 ≤ 64) (hj : j < m) : rd u D R (off + j) = if lkAt u D R (off / 64) ≠ 0 ∧ u (lkAt u D R (off / 64) - 1) = true then D ((lkAt u D R (off / 64) - 1) * 64 + (off % 64 + j)) else 0 := by
  unfold rd
  rw [show (off + j) / 64 = off / 64 by omega, show (off + j) % 64 = off % 64 + j by omega]
theorem RP.hole {R : Nat → Nat} {off g go m : Nat} (hM : Mod (fun _ => False) w w') (hg : g < w.heap.size) (hm : m + off % 64 ≤ 64) (h : ¬ (lkAt u D R (off / 64) ≠ 0 ∧ u (lkAt u D R (off / 64) - 1) = true)) : RP u D R off g go m w w' where
  mod := hM.mono (fun _ _ h => h.elim)
  out o _ := hM.cell (p := ⟨g, o, none⟩) hg (fun h => h)
  at_ h0 j hj := by rw [rd_in hm hj, if_neg h, hM.cell (p := ⟨g, go + j, none⟩) hg (fun h => h)]; exact h0 j hj
  fr o := hM.frozen (p := ⟨g, o, none⟩) hg (fun h => h)
theorem RP.some {R : Nat → Nat} {off g go m : Nat} (hM : Mod (fun _ => False) w w') (hg : g < w.heap.size) (hm : m + off % 64 ≤ 64) (h : lkAt u D R (off / 64) ≠ 0 ∧ u (lkAt u D R (off / 64) - 1) = true) (cs : List Value) (hl : cs.length = m)
    (hc : ∀ j, j < m → cs[j]? = .some (.int .u8 (D ((lkAt u D R (off / 64) - 1) * 64 + (off % 64 + j)) : Nat))) (ht : w'.there g go m) : RP u D R off g go m w (w'.setCells g go cs) where
  mod := Mod.setCells (s := fun k => k = g) g rfl cs go (hM.mono (fun _ _ h => h.elim))
  out o ho := (World.cell?_setCells_out g cs go w' ⟨g, o, none⟩ (fun _ _ => by show o < go ∨ go + cs.length ≤ o; rw [hl]; exact ho)).trans (hM.cell (p := ⟨g, o, none⟩) hg (fun h => h))
  at_ _ j hj := by
    rw [rd_in hm hj, if_pos h]
    exact World.rangeAt_setCells_same w' g go cs (by rw [hl]; exact ht) j _ (hc j hj)
  fr o := (World.frozen?_setCells g cs go w' _).trans (hM.frozen (p := ⟨g, o, none⟩) hg (fun h => h))
set_option maxRecDepth 8000 in
set_option maxHeartbeats 4000000 in
theorem rplace (T : Tb w t q b c n N clk F R u D) (i off g go m cap : Nat) (hi : i < N) (ho : off < 17792) (hm : m + off % 64 ≤ 64) (ht : w.there g go m) (hgl : g < w.heap.size) :
    Calls Tryz.prog 117 #[.pointer (some ⟨t, 0, none⟩), .pointer (some ⟨q, i * 17, none⟩), .int .i64 off, .slice (some ⟨g, go, none⟩) m cap] w fun e w' => e = .returned (.tuple #[]) ∧ RP u D (R i) off g go m w w' := by
  have HT : Hid (Tb w t q b c n N clk F R u D) := T
  have HTh : Hid (w.there g go m) := ht
  have HG : Hid (g < w.heap.size) := hgl
  have hk : off / 64 < 278 := by omega
  have HQ : Hid ((off : Int) / 64 = ((off / 64 : Nat) : Int)) := by show _ = _; omega
  have hxl : lkAt u D (R i) (off / 64) < 4294967296 := lk_lt T.S.dl _ _ _ (T.rl _ _)
  have HL : Hid (lkAt u D (R i) (off / 64) < 4294967296) := hxl
  have hm64 : m ≤ 64 := by omega
  have hom : off % 64 < 64 := Nat.mod_lt _ (by omega)
  have HMO : Hid (m + off % 64 ≤ 64) := hm
  clear T ht hgl hxl hm ho
  go_enter Tryz.func117, Tryz.ntmps117
  go_wp2_with (go_at_call 103; rw [HQ.out]; refine (place_any3 q (i * 17) _ _ hk).mono ?_; rintro e w1 ⟨o, P, K, rfl, HP, HM1⟩; have HT1 : Hid (Tb (w1.alloc (.cells #[.pointer (some ⟨q, o, none⟩), .int .i64 P] 179)) t q b c n N clk F R u D) := HT.out.new (HM1.out.alloc _))
  have HC : Hid ((w1.alloc (.cells #[.pointer (some ⟨q, o, none⟩), .int .i64 P] 179)).cell? ⟨w1.heap.size, 0, none⟩ = .some (.pointer (.some ⟨q, o, none⟩)) ∧ (w1.alloc (.cells #[.pointer (some ⟨q, o, none⟩), .int .i64 P] 179)).cell? ⟨w1.heap.size, 1, none⟩ = .some (.int .i64 P) ∧ (w1.alloc (.cells #[.pointer (some ⟨q, o, none⟩), .int .i64 P] 179)).cell? ⟨q, o, none⟩ = .some (.int .i64 (R i (rt (off / 64)) : Nat))) := by
    refine ⟨?_, ?_, ?_⟩
    · rw [World.cell?_alloc_at _ _ _ _ rfl]; rfl
    · rw [World.cell?_alloc_at _ _ _ _ rfl]; rfl
    · have := HT1.out.cr i (rt (off / 64)) hi (rt_lt _)
      rw [← HP.out.1] at this; exact this
  have HM2 : Hid (Mod (fun _ => False) w (w1.alloc (.cells #[.pointer (some ⟨q, o, none⟩), .int .i64 P] 179))) := HM1.out.alloc _
  generalize hw2 : w1.alloc (.cells #[.pointer (some ⟨q, o, none⟩), .int .i64 P] 179) = w2 at *
  generalize w1.heap.size = x8 at *
  clear hw2 HM1
  go_region_held (fun W' => W'.cell? ⟨x8, 0, none⟩ = some (.pointer (some ⟨q, o, none⟩)) ∧ W'.cell? ⟨x8, 1, none⟩ = some (.int .i64 P) ∧ W'.cell? ⟨q, o, none⟩ = some (.int .i64 (R i (rt (off / 64)) : Nat))) (first | exact hS3 | exact HC.out) (first | (go_at_call 131; refine (lookAt (HT1.out.drewN 1) i (off / 64) P K _ hk ⟨HP.out.2.1, HP.out.2.2, rfl⟩).mono ?_; rintro e w3 ⟨rfl, M3⟩; have HM3 : Hid (Mod (fun _ => False) w2 w3) := ((Mod.refl _ w2).drewN 1).trans M3; have hS3 : w3.cell? ⟨x8, 0, none⟩ = some (.pointer (some ⟨q, o, none⟩)) ∧ w3.cell? ⟨x8, 1, none⟩ = some (.int .i64 P) ∧ w3.cell? ⟨q, o, none⟩ = some (.int .i64 (R i (rt (off / 64)) : Nat)) := ⟨(M3.cell (p := ⟨x8, 0, none⟩) (block_lt_of_cell (w := w2) HC.out.1) (fun h => h)).trans HC.out.1, (M3.cell (p := ⟨x8, 1, none⟩) (block_lt_of_cell (w := w2) HC.out.2.1) (fun h => h)).trans HC.out.2.1, (M3.cell (p := ⟨q, o, none⟩) (block_lt_of_cell (w := w2) HC.out.2.2) (fun h => h)).trans HC.out.2.2⟩; clear M3))
  clear hS3
  have HT3 : Hid (Tb w3 t q b c n N clk F R u D) := HT1.out.new HM3.out
  have HM4 : Hid (Mod (fun _ => False) w w3) := HM2.out.trans HM3.out
  clear HM2 HM3 HT1 HC
  obtain ⟨r, hr⟩ : ∃ r, r = lkAt u D (R i) (off / 64) := ⟨_, rfl⟩
  rw [← hr]
  have HE : Hid (r = lkAt u D (R i) (off / 64)) := hr
  have hrl : r < 4294967296 := by rw [hr]; exact HL.out
  clear hr
  by_cases h0 : r = 0
  · subst h0
    go_wp2
    exact ⟨rfl, _, results_none rfl _ _ _, rfl, RP.hole HM4.out HG.out HMO.out (fun e => e.1 HE.out.symm)⟩
  · have h0' : ((r : Int) == 0) = false := by simpa using h0
    have HC0 : Hid ((w3.drewN 1).cell? ⟨t, 0, none⟩ = some (.pointer (some ⟨b, 0, none⟩))) := HT3.out.c0
    by_cases hu : r ≠ 0 ∧ u (r - 1) = true
    · have HU : Hid (r ≠ 0 ∧ u (r - 1) = true) := hu
      clear hu h0
      go_wp2_with fail
      go_region_held (fun W' => W'.cell? ⟨t, 0, none⟩ = some (.pointer (some ⟨b, 0, none⟩))) (first | exact hS5 | exact HC0.out) (first | (go_at_call 107; refine (block_any r _ (by omega)).mono ?_; rintro e w5 ⟨rfl, rfl⟩) | (go_at_call 132; refine ((HT3.out.S.drewN 1).read_any r).mono ?_; simp only [if_pos HU.out]; rintro e w5 ⟨gb, rfl, HGB, HJ, HM5⟩; have HM6 : Hid (Mod (fun _ => False) w3 w5) := ((Mod.refl _ w3).drewN 1).trans HM5.out; have hS5 : w5.cell? ⟨t, 0, none⟩ = some (.pointer (some ⟨b, 0, none⟩)) := (HT3.out.new HM6.out).c0))
      clear hS5
      obtain ⟨cs, hlc, HCS, HC1, HCS1⟩ : ∃ cs : List Value, cs.length = m ∧ Hid (∀ j, j < m → cs[j]? = some (.int .u8 (D ((r - 1) * 64 + (off % 64 + j)) : Nat))) ∧ Hid (∀ v ∈ cs, v.oneCell' = true) ∧ Hid (∀ j v, cs[j]? = some v → w5.cell? ((⟨gb, off % 64, none⟩ : Addr).add j) = some v) := by
        refine ⟨(List.range m).map fun j => .int .u8 (D ((r - 1) * 64 + (off % 64 + j)) : Nat), by simp, fun j hj => by simp [List.getElem?_range hj], fun v hv => by obtain ⟨j, _, rfl⟩ := List.mem_map.mp hv; rfl, fun j v hv => ?_⟩
        rw [List.getElem?_map, Option.map_eq_some_iff] at hv
        obtain ⟨k, hk', rfl⟩ := hv
        obtain ⟨hl, he⟩ := List.getElem?_eq_some_iff.mp hk'
        simp at hl he
        subst he
        have := HMO.out
        rw [Addr.add_mid]; exact HJ.out (off % 64 + j) (by omega)
      have HTh5 : Hid (w5.there g go m) := (HM4.out.trans HM6.out).there HG.out (fun h => h) HTh.out
      have HRP : Hid (RP u D (R i) off g go m w (w5.setCells g go cs)) := RP.some (HM4.out.trans HM6.out) HG.out HMO.out (by rw [← HE.out]; exact HU.out) cs hlc (by rw [← HE.out]; exact HCS.out) HTh5.out
      have hmin : m = Nat.min (64 - off % 64) m := by have := HMO.out; exact (Nat.min_eq_right (by omega)).symm
      have HMI : Hid (m = Nat.min (64 - off % 64) m) := hmin
      clear hmin
      go_wp2_with (first | (refine wpList_copy_mid rfl _ _ 28 28 rfl 5 und33 inf5 g go m cap ⟨gb, off % 64, none⟩ (64 - off % 64) (64 - off % 64) rfl rfl cs (by rw [hlc]; exact HMI.out) HCS1.out (by rw [hlc]; exact HTh5.out) HC1.out ?_))
      exact ⟨rfl, _, results_none rfl _ _ _, rfl, HRP.out⟩
    · have HU : Hid (¬ (r ≠ 0 ∧ u (r - 1) = true)) := hu
      clear hu h0
      go_wp2_with fail
      go_region_held (fun W' => W'.cell? ⟨t, 0, none⟩ = some (.pointer (some ⟨b, 0, none⟩))) (first | exact HC0.out) (first | (go_at_call 107; refine (block_any r _ (by omega)).mono ?_; rintro e w5 ⟨rfl, rfl⟩) | (go_at_call 132; refine ((HT3.out.S.drewN 1).read_any r).mono ?_; simp only [if_neg HU.out]; rintro e w5 ⟨rfl, mm, rfl⟩))
      go_wp2
      exact ⟨rfl, _, results_none rfl _ _ _, rfl, RP.hole (HM4.out.drewN _) HG.out HMO.out (by rw [← HE.out]; exact HU.out)⟩
end
end Go.Proofs.YtfmemkninmpfjaaGreatDoor
