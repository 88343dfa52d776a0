/- The first slot that has a name: the walk of find. Condition: the bytes lie in memory as said. -/
import Derived.Test.YtpcbpikhiooafaaGreatDoorM14
namespace Go.Proofs.YtpcbpikhiooafaaGreatDoor
open Go.RowKit Go.Shelf
attribute [local go_sem] Oper.semAt_some
/-- Has slot k this name? -/
def has (D : Nat → Nat) (l : List UInt8) (k : Nat) : Bool := (strOf (nm (slotD D k))).toList == l
/-- The slots that are not free. -/
def tks (D : Nat → Nat) (n : Nat) : List Nat := (List.range (n / 32)).filter (tkn D)
/-- find's answer. -/
def fRes (D : Nat → Nat) (n : Nat) (l : List UInt8) : Value :=
  match (tks D n).find? (has D l) with
  | some k => .tuple #[.int .i64 k, .agg (slotV D k).toArray, .int .i64 0]
  | none => .tuple #[.int .i64 0, .agg zeroSl.toList.toArray, .int .i64 2]
/-- The four blocks that find lays. -/
structure FndAt (W : World) (B : Nat) (l : List UInt8) : Prop where
  b0 : W.heap[B]? = some (.cells #[.string ⟨l.toArray⟩] 9 (0, 0))
  b1 : W.heap[B + 1]? = some (.cells #[.int .i64 0] 3 (0, 0))
  b2 : W.heap[B + 2]? = some (.cells zeroSl 97 (0, 0))
  b3 : W.heap[B + 3]? = some (.cells #[.int .i64 0] 25 (0, 0))
/-- What find leaves in them. -/
structure FndEnd (W : World) (B k e : Nat) (L : List Value) : Prop where
  b1 : W.cell? ⟨B + 1, 0, none⟩ = some (.int .i64 k)
  b2 : W.rangeAt (B + 2) 0 L
  b3 : W.cell? ⟨B + 3, 0, none⟩ = some (.int .i64 e)
theorem setCells_other (b k : Nat) : ∀ (L : List Value) {o : Nat} {w : World}, k ≠ b → (w.setCells b o L).heap[k]? = w.heap[k]?
  | [], _, _, _ => rfl
  | v :: r, o, w, h => (setCells_other b k r (o := o + 1) (w := w.setCell ⟨b, o, none⟩ v) h).trans (heap_setCell_other _ _ _ _ h)
theorem zeroSl_slot : Slot zeroSl.toList (fun _ => 0) := ⟨rfl, fun j hj => zero_getS j hj, fun _ => by omega⟩
theorem find_pre {p : Nat → Bool} {T pre : List Nat} {k : Nat} (h : pre ++ [k] <+: T) (hn : ∀ i ∈ pre, p i = false) (hk : p k = true) : T.find? p = some k := by
  obtain ⟨r, rfl⟩ := h
  rw [List.append_assoc, List.find?_append, List.find?_eq_none.2 (fun i hi => by simp [hn i hi])]
  simp [hk]
theorem fndAt_abides {B C : Nat} {l : List UInt8} (h : B + 4 ≤ C) : AbidesB C (fun (_ : List Nat) W => FndAt W B l) := fun s X Y row hs hg hr =>
  have k : ∀ i ob, i < C → X.heap[i]? = some ob → Y.heap[i]? = some ob := fun i _ hi ho => (hg.block i (Array.getElem?_eq_some_iff.1 ho).1 (fun e => by have := hr i e.symm; omega)).trans ho
  ⟨k _ _ (by omega) hs.b0, k _ _ (by omega) hs.b1, k _ _ (by omega) hs.b2, k _ _ (by omega) hs.b3⟩
theorem fndEnd_abides {B C k e : Nat} {L : List Value} (h : B + 4 ≤ C) : AbidesB C (fun (_ : List Nat) W => FndEnd W B k e L) := fun s X Y row hs hg hr =>
  have kk : ∀ (a : Addr) v, a.block < C → X.cell? a = some v → Y.cell? a = some v := fun a _ hi ho => hg.cell ho (fun e => by have := hr _ e.symm; omega)
  ⟨kk _ _ (by show B + 1 < C; omega) hs.b1, fun j v hv => kk _ _ (by show B + 2 < C; omega) (hs.b2 j v hv), kk _ _ (by show B + 3 < C; omega) hs.b3⟩
theorem ret_find {W : World} {B k e : Nat} {L : List Value} {s : Nat → Nat} (h : FndEnd W B k e L) (hs : Slot L s) (tmps : Array Value) (h4 : tmps[4]?.getD undef = .pointer (some ⟨B + 1, 0, none⟩)) (h5 : tmps[5]?.getD undef = .pointer (some ⟨B + 2, 0, none⟩)) (h6 : tmps[6]?.getD undef = .pointer (some ⟨B + 3, 0, none⟩)) :
    (results Tryz.f97 tmps).run Tryz.prog W = .ok (.tuple #[.int .i64 k, .agg L.toArray, .int .i64 e]) W := by
  have h1 := h.b1
  have h3 := h.b3
  have h2 := run_loadVar_mid (P := Tryz.prog) W (B + 2) 0 97 L _ h.b2 undS rfl hs.inf
  have e1 : (loadVar 3 ⟨B + 1, 0, none⟩).run Tryz.prog W = .ok (.int .i64 k) W := by simp [go_sem, h1]
  have e3 : (loadVar 25 ⟨B + 3, 0, none⟩).run Tryz.prog W = .ok (.int .i64 e) W := by simp [go_sem, h3]
  clear h1 h3
  unfold results
  rw [Tryz.results97]
  simp [h4, h5, h6, asAddr, Sem.run_bind, Result.andThen, e1, h2, e3]
theorem FndAt.below {W W' : World} {B : Nat} {l : List UInt8} (h : FndAt W B l) (hB : Below W.heap.size W W') : FndAt W' B l :=
  have k : ∀ i ob, W.heap[i]? = some ob → W'.heap[i]? = some ob := fun i _ ho => (hB.block i (Array.getElem?_eq_some_iff.1 ho).1).trans ho
  ⟨k _ _ h.b0, k _ _ h.b1, k _ _ h.b2, k _ _ h.b3⟩
theorem FndAt.turn {W W' : World} {B l' : Nat} {l : List UInt8} (h : FndAt W B l) (hg : W.grownBy W' (some l')) (hl : B + 4 ≤ l') : FndAt W' B l :=
  have k : ∀ i ob, i < B + 4 → W.heap[i]? = some ob → W'.heap[i]? = some ob := fun i _ hi ho => (hg.block i (Array.getElem?_eq_some_iff.1 ho).1 (fun e => by cases e; omega)).trans ho
  ⟨k _ _ (by omega) h.b0, k _ _ (by omega) h.b1, k _ _ (by omega) h.b2, k _ _ (by omega) h.b3⟩
theorem below_dr0 {w W : World} (h : Below w.drew.heap.size w.drew W) : Below w.heap.size w W := ⟨h.os, h.tape, h.output, h.size, h.block⟩
theorem alloc5 (w : World) (o0 o1 o2 o3 o4 : Obj) : (((((w.alloc o0).alloc o1).alloc o2).alloc o3).alloc o4).heap[w.heap.size]? = some o0 ∧ (((((w.alloc o0).alloc o1).alloc o2).alloc o3).alloc o4).heap[w.heap.size + 1]? = some o1 ∧ (((((w.alloc o0).alloc o1).alloc o2).alloc o3).alloc o4).heap[w.heap.size + 2]? = some o2 ∧ (((((w.alloc o0).alloc o1).alloc o2).alloc o3).alloc o4).heap[w.heap.size + 3]? = some o3 ∧ (((((w.alloc o0).alloc o1).alloc o2).alloc o3).alloc o4).heap[w.heap.size + 4]? = some o4 := by
  have old : ∀ {v : World} (o : Obj) {k : Nat} {x : Obj}, v.heap[k]? = some x → (v.alloc o).heap[k]? = some x := fun o _ _ h => (Below.heap_alloc _ _ _ (Array.getElem?_eq_some_iff.1 h).1).trans h
  have new : ∀ (v : World) (o : Obj) {k : Nat}, k = v.heap.size → (v.alloc o).heap[k]? = some o := fun v o _ h => h ▸ World.alloc_heap_new v o
  exact ⟨old _ (old _ (old _ (old _ (new _ _ rfl)))), old _ (old _ (old _ (new _ _ (by simp)))), old _ (old _ (new _ _ (by simp))), old _ (new _ _ (by simp)), new _ _ (by simp)⟩
set_option maxRecDepth 100000 in
set_option maxHeartbeats 2000000 in
theorem sFind (p : Option Addr) (n c : Nat) (D : Nat → Nat) (l : List UInt8) (w : World) (hC : Cont w p n c D) :
    Calls Tryz.prog 97 #[.slice p n c, .string ⟨l.toArray⟩] w fun e w' => Below w.heap.size w w' ∧ e = .returned (fRes D n l) := by
  have hz := zvSl
  have HC : Hid (Cont w p n c D) := hC
  clear hC
  refine (callsIn_wide (n := 9)).1 ?_
  refine callsIn_of_wp_marks Tryz.func97 rfl trivial ?_ rfl
  simp only [Tryz.ntmps97, List.size_toArray, List.length_cons, List.length_nil, Nat.reduceAdd, Nat.reduceSub, Array.replicate_succ, Array.replicate_zero, List.push_toArray, List.append_toArray, List.nil_append, List.cons_append]
  refine wpIn_wide.2 ?_
  go_wp2_with (go_at_call 117; refine (taken_any p n c _).mono ?_; rintro e w1 ⟨rfl, rfl⟩)
  obtain ⟨V0, hV0⟩ : ∃ V0, V0 = ((((w.alloc (.cells #[.string ⟨l.toArray⟩] 9)).alloc (.cells #[.int .i64 0] 3)).alloc (.cells zeroSl 97)).alloc (.cells #[.int .i64 0] 25)).alloc (.cells #[.slice p n c] 181) := ⟨_, rfl⟩
  have hsz : V0.heap.size = w.heap.size + 5 := by rw [hV0]; simp
  have hBV : Below w.heap.size w V0 := by rw [hV0]; exact (((((Below.refl w.heap.size w).alloc (Nat.le_refl _) _).alloc (by simp) _).alloc (by simp; omega) _).alloc (by simp; omega) _).alloc (by simp; omega) _
  have hF0 : FndAt V0 w.heap.size l := by
    rw [hV0]
    obtain ⟨h0, h1, h2, h3, -⟩ := alloc5 w (.cells #[.string ⟨l.toArray⟩] 9) (.cells #[.int .i64 0] 3) (.cells zeroSl 97) (.cells #[.int .i64 0] 25) (.cells #[.slice p n c] 181)
    exact ⟨h0, h1, h2, h3⟩
  have hA : AllAt V0 (w.heap.size + 4) p n c D := ⟨by rw [hV0, World.cell?_alloc_at _ _ _ _ (by simp)]; rfl, HC.out.keep (own := fun _ => False) (KC.of_below hBV) (fun _ _ h => h)⟩
  rw [← hV0]
  clear hV0
  have hD := HC.out.lt
  refine (wpIn_wide (n := 9)).1 ?_
  refine wpIn_rangeA rfl (enters_of Tryz.func136 (by kernel_rfl) rfl) (taken1 (fun _ => False) (w.heap.size + 4) p n c D (fun _ _ h => h) V0 hA (fun _ h => h.elim)) (Below.refl _ _) (fun _ => rfl)
    (fun pre V => ((∀ k ∈ pre, has D l k = false) ∧ FndAt V w.heap.size l) ∧ Below w.heap.size w V)
    (fun c pre V => (∃ k pre', c = .ret ∧ pre = pre' ++ [k] ∧ (∀ i ∈ pre', has D l i = false) ∧ has D l k = true ∧ FndEnd V w.heap.size k 0 (slotV D k)) ∧ Below w.heap.size w V)
    (AbidesB.and (AbidesB.and (abidesB_pure _ _) (fndAt_abides (by omega))) (abidesB_below (Nat.le_refl _) (by omega)))
    (fun c => AbidesB.and (fun s X Y row hs hg hr => (by obtain ⟨k, pre', h1, h2, h3, h4, h5⟩ := hs; exact ⟨k, pre', h1, h2, h3, h4, fndEnd_abides (by omega) s X Y row h5 hg hr⟩)) (abidesB_below (Nat.le_refl _) (by omega)))
    ⟨⟨by simp, hF0⟩, hBV⟩ ?round ?done ?stop
  case round =>
    rintro l' pre x V hl' hl2 ⟨⟨hno, hFV⟩, hBw⟩ hpre
    have HSl : Hid (Slot (slotV D x) (slotD D x)) := slotV_slot D hD x
    have HP := (show Hid ((∀ k ∈ pre, has D l k = false) ∧ FndAt V w.heap.size l ∧ Below w.heap.size w V) from ⟨hno, hFV, hBw⟩)
    have HTh := (show Hid _ from there_slot V (slotV D x) HSl.out)
    unfold encK
    clear hno hFV hBw hpre
    gi_wp2_with (refine wpListIn_store_mid rfl 97 _ _ rfl V.heap.size 0 (slotV D x).toArray rfl rfl HTh.out HSl.out.infA (all_oneCell_toArray HSl.out.one) ?_)
    rw [set_slot V _ HSl.out]
    have hBA : Below V.heap.size V (V.alloc (.cells (slotV D x).toArray 97)) := (Below.refl _ V).alloc (Nat.le_refl _) _
    refine ⟨(KO.of_below hBA).from _, KC.of_below hBA, fun W2 hg2 => ?_⟩
    have HR2 : Hid (W2.drew.rangeAt V.heap.size 0 (slotV D x)) := fun j v hv => hg2.cell (range_new V (slotV D x) 97 j v hv) (fun e => by have h1 : V.heap.size = l' := Option.some.inj e; omega)
    have hF2 : FndAt W2 w.heap.size l := ((HP.out.2.1.below hBA).turn hg2 (by omega))
    have HF2 : Hid (FndAt W2 w.heap.size l) := hF2
    have hVW : V.heap.size < W2.heap.size := by have := hg2.size; simp at this; omega
    have hBw2 : Below w.heap.size w W2 := (HP.out.2.2.trans (hBA.mono HP.out.2.2.size)).grown hg2 (by have := HP.out.2.2.size; simp; omega) (fun k e => by cases e; omega)
    have HBw2 : Hid (Below w.heap.size w W2) := hBw2
    have hs0 : W2.cell? ⟨w.heap.size, 0, none⟩ = some (.string ⟨l.toArray⟩) := by rw [cell_of_row _ _ 0 _ _ _ hF2.b0]; rfl
    clear hF2 hBA hg2 hBw2
    gi_wp2
    simp only [Act.put]
    refine wpIn_region_any (by kernel_rfl) ?_
    change wpAnyIn _ _ _ _ _ _ _ _ _ (World.drew _)
    refine wpAnyIn_ready (rs := [0, 2]) (by kernel_rfl) (by simp) ?_
    refine AllReadyIn.cons rfl (fun K hK => ?_) ?_
    · refine stepIn_load_mid rfl 97 _ rfl V.heap.size 0 rfl (slotV D x) _ HR2.out undS rfl HSl.out.inf ?_
      refine hK _ _ ?_
      clear hK K
      refine wpAnyIn_ready (rs := [1, 2]) (by kernel_rfl) (by simp) ?_
      refine AllReadyIn.cons rfl (fun K hK => ?_) ?_
      · go_simp
        refine ⟨trivial, ?_⟩
        refine (CallsIn.inRound l' (callsIn_wide.2 (sName _ _ _ HSl.out))).mono ?_
        rintro e w3 ⟨rfl, HB3⟩
        have hs3 : w3.cell? ⟨w.heap.size, 0, none⟩ = some (.string ⟨l.toArray⟩) := (HB3.cell (p := ⟨w.heap.size, 0, none⟩) (block_lt_of_cell (w := W2) hs0)).trans hs0
        have HB3' : Hid (Below W2.heap.size W2 w3) := below_dr0 HB3
        clear HB3
        refine hK _ _ ?_
        clear hK K
        refine wpAnyIn_ready (rs := [2]) (by kernel_rfl) (by simp) ?_
        refine AllReadyIn.cons rfl (fun K hK => ?_) ?_
        · go_simp
          refine hK _ _ ?_
          clear hK K
          refine wpAnyIn_ready (rs := [3]) (by kernel_rfl) (by simp) ?_
          refine AllReadyIn.cons rfl (fun K hK => ?_) ?_
          · go_simp
            refine hK _ _ ?_
            clear hK K
            refine wpAnyIn_done (by kernel_rfl) ?_ _
            by_cases hh : has D l x = true
            · have hq : ((strOf (nm (slotD D x))).toList == l) = true := hh
              have HH : Hid (has D l x = true) := hh
              have hF3 : FndAt w3 w.heap.size l := HF2.out.below HB3'.out
              have c1 : w3.cell? ⟨w.heap.size + 1, 0, none⟩ = some (.int .i64 0) := by rw [cell_of_row _ _ 0 _ _ _ hF3.b1]; rfl
              have f1 : w3.frozen? ⟨w.heap.size + 1, 0, none⟩ = false := frozen_of_row _ _ 0 _ _ hF3.b1
              have c3 : w3.cell? ⟨w.heap.size + 3, 0, none⟩ = some (.int .i64 0) := by rw [cell_of_row _ _ 0 _ _ _ hF3.b3]; rfl
              have f3 : w3.frozen? ⟨w.heap.size + 3, 0, none⟩ = false := frozen_of_row _ _ 0 _ _ hF3.b3
              have HR3 : Hid (w3.drew.rangeAt V.heap.size 0 (slotV D x)) := fun j v hv => (HB3'.out.cell (p := ⟨V.heap.size, 0 + j, none⟩) hVW).trans (HR2.out j v hv)
              have HR3s : Hid ((w3.drew.setCell ⟨w.heap.size + 1, 0, none⟩ (.int .i64 x)).rangeAt V.heap.size 0 (slotV D x)) := fun j v hv => (setCell_out _ _ _ _ _ (fun e => by have h1 : V.heap.size = w.heap.size + 1 := e; omega)).trans (HR3.out j v hv)
              have HT2 : w3.there (w.heap.size + 2) 0 32 := fun j hj => ⟨by rw [Nat.zero_add, cell_of_row _ _ j _ _ _ hF3.b2]; simp [zeroSl, hj], frozen_of_row _ _ _ _ _ hF3.b2⟩
              have HT2s : Hid ((w3.drew.setCell ⟨w.heap.size + 1, 0, none⟩ (.int .i64 x)).there (w.heap.size + 1 + 1) 0 (slotV D x).toArray.size) := by
                show World.there _ _ _ _
                rw [show (slotV D x).toArray.size = 32 by simpa using HSl.out.len]
                exact fun j hj => ⟨by rw [setCell_out _ _ _ _ _ (fun e => by have h1 : w.heap.size + 1 + 1 = w.heap.size + 1 := e; omega)]; exact (HT2 j hj).1, by rw [World.frozen?_setCell]; exact (HT2 j hj).2⟩
              obtain ⟨wB, hwB⟩ : ∃ wB, Hid ((w3.drew.setCell ⟨w.heap.size + 1, 0, none⟩ (.int .i64 x)).setCells (w.heap.size + 1 + 1) 0 (slotV D x).toArray.toList = wB) := ⟨_, rfl⟩
              have cB : wB.cell? ⟨w.heap.size + 1 + 1 + 1, 0, none⟩ = some (.int .i64 0) := by
                rw [← hwB.out, World.cell?_setCells_out _ _ _ _ _ (fun e => by have h1 : w.heap.size + 1 + 1 + 1 = w.heap.size + 1 + 1 := e; omega), setCell_out _ _ _ _ _ (fun e => by have h1 : w.heap.size + 1 + 1 + 1 = w.heap.size + 1 := e; omega)]; exact c3
              have fB : wB.frozen? ⟨w.heap.size + 1 + 1 + 1, 0, none⟩ = false := by
                rw [← hwB.out, World.frozen?_setCells, World.frozen?_setCell]; exact f3
              have b1 : wB.cell? ⟨w.heap.size + 1, 0, none⟩ = some (.int .i64 x) := by
                rw [← hwB.out, World.cell?_setCells_out _ _ _ _ _ (fun e => by have h1 : w.heap.size + 1 = w.heap.size + 1 + 1 := e; omega)]; exact setCell_in _ _ _ _ _ c1
              have b2 : wB.rangeAt (w.heap.size + 2) 0 (slotV D x) := by
                rw [← hwB.out]; exact World.rangeAt_setCells_same _ _ _ _ (by have := HT2s.out; simpa using this)
              have hwo : ∀ k, w.heap.size + 5 ≤ k → (wB.setCell ⟨w.heap.size + 1 + 1 + 1, 0, none⟩ (.int .i64 0)).heap[k]? = w3.heap[k]? := fun k hk => by
                rw [heap_setCell_other _ _ _ _ (by show k ≠ w.heap.size + 1 + 1 + 1; omega), ← hwB.out, setCells_other _ _ _ (by omega), heap_setCell_other _ _ _ _ (by show k ≠ w.heap.size + 1; omega)]; rfl
              have hBB : Below w.heap.size w (wB.setCell ⟨w.heap.size + 1 + 1 + 1, 0, none⟩ (.int .i64 0)) := by
                have h3 : Below w.heap.size w w3 := HBw2.out.trans (HB3'.out.mono HBw2.out.size)
                rw [← hwB.out]
                exact (below_setCells ((below_drewN0 h3 1).setCell (p := ⟨w.heap.size + 1, 0, none⟩) (by show w.heap.size ≤ w.heap.size + 1; omega) _) (by omega) _ _).setCell (p := ⟨w.heap.size + 1 + 1 + 1, 0, none⟩) (by show w.heap.size ≤ w.heap.size + 1 + 1 + 1; omega) _
              have HE : Hid (FndEnd (wB.setCell ⟨w.heap.size + 1 + 1 + 1, 0, none⟩ (.int .i64 0)) w.heap.size x 0 (slotV D x)) :=
                ⟨(setCell_out _ _ _ _ _ (fun e => by have h1 : w.heap.size + 1 = w.heap.size + 1 + 1 + 1 := e; omega)).trans b1, fun j v hv => (setCell_out _ _ _ _ _ (fun e => by have h1 : w.heap.size + 2 = w.heap.size + 1 + 1 + 1 := e; omega)).trans (b2 j v hv), setCell_in _ _ _ _ _ cB⟩
              have HK : Hid (KeepsFrom V0.heap.size W2 (wB.setCell ⟨w.heap.size + 1 + 1 + 1, 0, none⟩ (.int .i64 0)) ∧ Below w.heap.size w (wB.setCell ⟨w.heap.size + 1 + 1 + 1, 0, none⟩ (.int .i64 0))) :=
                ⟨⟨Nat.le_trans HB3'.out.size (by have e1 : (wB.setCell ⟨w.heap.size + 1 + 1 + 1, 0, none⟩ (.int .i64 0)).heap.size = wB.heap.size := by simp
                                                 have e2 : wB.heap.size = w3.heap.size := by rw [← hwB.out, size_setCells]; simp
                                                 omega), fun k o hk ho hc => by rw [hwo k (by omega)]; exact (HB3'.out.block k (Array.getElem?_eq_some_iff.1 ho).1).trans ho⟩, hBB⟩
              clear hh hF3 c3 f3 HT2 b1 b2 hwo hBB
              rw [hq]
              gi_wp2
              refine wpIn_region_any (by kernel_rfl) ?_
              change wpAnyIn _ _ _ _ _ _ _ _ _ (World.drew _)
              refine wpAnyIn_ready (rs := [0, 1]) (by kernel_rfl) (by simp) ?_
              refine AllReadyIn.cons rfl (fun K hK => ?_) ?_
              · go_simp
                refine hK _ _ ?_
                clear hK K
                refine wpAnyIn_ready (rs := [1, 2]) (by kernel_rfl) (by simp) ?_
                refine AllReadyIn.cons rfl (fun K hK => ?_) ?_
                · refine stepIn_load_mid rfl 97 _ rfl V.heap.size 0 rfl (slotV D x) _ (by first | exact HR3.out | exact HR3s.out) undS rfl HSl.out.inf ?_
                  refine hK _ _ ?_
                  clear hK K
                  refine wpAnyIn_ready (rs := [2]) (by kernel_rfl) (by simp) ?_
                  refine AllReadyIn.cons rfl (fun K hK => ?_) ?_
                  · go_simp
                    refine hK _ _ ?_
                    clear hK K
                    refine wpAnyIn_ready (rs := [3]) (by kernel_rfl) (by simp) ?_
                    refine AllReadyIn.cons rfl (fun K hK => ?_) ?_
                    · refine stepIn_store_mid rfl 97 _ _ rfl (w.heap.size + 1 + 1) 0 (slotV D x).toArray rfl rfl HT2s.out HSl.out.infA (all_oneCell_toArray HSl.out.one) ?_
                      refine hK _ _ ?_
                      clear hK K
                      rw [show (w3.setCell ⟨w.heap.size + 1, 0, none⟩ (.int .i64 x)).drew.setCells (w.heap.size + 1 + 1) 0 (slotV D x).toArray.toList = wB from hwB.out]
                      refine wpAnyIn_ready (rs := [4]) (by kernel_rfl) (by simp) ?_
                      refine AllReadyIn.cons rfl (fun K hK => ?_) ?_
                      · go_simp
                        refine hK _ _ ?_
                        clear hK K
                        refine wpAnyIn_done (by kernel_rfl) ?_ _
                        gi_wp2
                        exact ⟨HK.out.1, ⟨x, pre, rfl, rfl, HP.out.1, HH.out, HE.out⟩, HK.out.2⟩
                      exact AllReadyIn.nil
                    exact AllReadyIn.nil
                  exact AllReadyIn.nil
                refine AllReadyIn.cons rfl (fun K hK => ?_) ?_
                · go_simp
                  refine hK _ _ ?_
                  clear hK K
                  refine wpAnyIn_ready (rs := [1]) (by kernel_rfl) (by simp) ?_
                  refine AllReadyIn.cons rfl (fun K hK => ?_) ?_
                  · refine stepIn_load_mid rfl 97 _ rfl V.heap.size 0 rfl (slotV D x) _ (by first | exact HR3.out | exact HR3s.out) undS rfl HSl.out.inf ?_
                    refine hK _ _ ?_
                    clear hK K
                    refine wpAnyIn_ready (rs := [3]) (by kernel_rfl) (by simp) ?_
                    refine AllReadyIn.cons rfl (fun K hK => ?_) ?_
                    · refine stepIn_store_mid rfl 97 _ _ rfl (w.heap.size + 1 + 1) 0 (slotV D x).toArray rfl rfl HT2s.out HSl.out.infA (all_oneCell_toArray HSl.out.one) ?_
                      refine hK _ _ ?_
                      clear hK K
                      rw [show (w3.setCell ⟨w.heap.size + 1, 0, none⟩ (.int .i64 x)).drew.setCells (w.heap.size + 1 + 1) 0 (slotV D x).toArray.toList = wB from hwB.out]
                      refine wpAnyIn_ready (rs := [4]) (by kernel_rfl) (by simp) ?_
                      refine AllReadyIn.cons rfl (fun K hK => ?_) ?_
                      · go_simp
                        refine hK _ _ ?_
                        clear hK K
                        refine wpAnyIn_done (by kernel_rfl) ?_ _
                        gi_wp2
                        exact ⟨HK.out.1, ⟨x, pre, rfl, rfl, HP.out.1, HH.out, HE.out⟩, HK.out.2⟩
                      exact AllReadyIn.nil
                    exact AllReadyIn.nil
                  exact AllReadyIn.nil
                exact AllReadyIn.nil
              refine AllReadyIn.cons rfl (fun K hK => ?_) ?_
              · refine stepIn_load_mid rfl 97 _ rfl V.heap.size 0 rfl (slotV D x) _ (by first | exact HR3.out | exact HR3s.out) undS rfl HSl.out.inf ?_
                refine hK _ _ ?_
                clear hK K
                refine wpAnyIn_ready (rs := [0]) (by kernel_rfl) (by simp) ?_
                refine AllReadyIn.cons rfl (fun K hK => ?_) ?_
                · go_simp
                  refine hK _ _ ?_
                  clear hK K
                  refine wpAnyIn_ready (rs := [2]) (by kernel_rfl) (by simp) ?_
                  refine AllReadyIn.cons rfl (fun K hK => ?_) ?_
                  · go_simp
                    refine hK _ _ ?_
                    clear hK K
                    refine wpAnyIn_ready (rs := [3]) (by kernel_rfl) (by simp) ?_
                    refine AllReadyIn.cons rfl (fun K hK => ?_) ?_
                    · refine stepIn_store_mid rfl 97 _ _ rfl (w.heap.size + 1 + 1) 0 (slotV D x).toArray rfl rfl HT2s.out HSl.out.infA (all_oneCell_toArray HSl.out.one) ?_
                      refine hK _ _ ?_
                      clear hK K
                      rw [show (w3.setCell ⟨w.heap.size + 1, 0, none⟩ (.int .i64 x)).drew.setCells (w.heap.size + 1 + 1) 0 (slotV D x).toArray.toList = wB from hwB.out]
                      refine wpAnyIn_ready (rs := [4]) (by kernel_rfl) (by simp) ?_
                      refine AllReadyIn.cons rfl (fun K hK => ?_) ?_
                      · go_simp
                        refine hK _ _ ?_
                        clear hK K
                        refine wpAnyIn_done (by kernel_rfl) ?_ _
                        gi_wp2
                        exact ⟨HK.out.1, ⟨x, pre, rfl, rfl, HP.out.1, HH.out, HE.out⟩, HK.out.2⟩
                      exact AllReadyIn.nil
                    exact AllReadyIn.nil
                  exact AllReadyIn.nil
                exact AllReadyIn.nil
              exact AllReadyIn.nil
            · have hq : ((strOf (nm (slotD D x))).toList == l) = false := by simpa [has] using hh
              have HN : Hid (has D l x = false) := by show _ = _; simpa using hh
              clear hh
              rw [hq]
              gi_wp2
              refine ⟨(KO.of_below HB3'.out).from _, KC.of_below HB3'.out, ⟨⟨fun k hk => ?_, HF2.out.below HB3'.out⟩, HBw2.out.trans (HB3'.out.mono HBw2.out.size)⟩⟩
              rcases List.mem_append.1 hk with h | h
              · exact HP.out.1 k h
              · obtain rfl : k = x := by simpa using h
                exact HN.out
          exact AllReadyIn.nil
        exact AllReadyIn.nil
      refine AllReadyIn.cons rfl (fun K hK => ?_) ?_
      · go_simp
        refine hK _ _ ?_
        clear hK K
        refine wpAnyIn_ready (rs := [1]) (by kernel_rfl) (by simp) ?_
        refine AllReadyIn.cons rfl (fun K hK => ?_) ?_
        · go_simp
          refine ⟨trivial, ?_⟩
          refine (CallsIn.inRound l' (callsIn_wide.2 (sName _ _ _ HSl.out))).mono ?_
          rintro e w3 ⟨rfl, HB3⟩
          have hs3 : w3.cell? ⟨w.heap.size, 0, none⟩ = some (.string ⟨l.toArray⟩) := (HB3.cell (p := ⟨w.heap.size, 0, none⟩) (block_lt_of_cell (w := W2) hs0)).trans hs0
          have HB3' : Hid (Below W2.heap.size W2 w3) := below_dr0 HB3
          clear HB3
          refine hK _ _ ?_
          clear hK K
          refine wpAnyIn_ready (rs := [3]) (by kernel_rfl) (by simp) ?_
          refine AllReadyIn.cons rfl (fun K hK => ?_) ?_
          · go_simp
            refine hK _ _ ?_
            clear hK K
            refine wpAnyIn_done (by kernel_rfl) ?_ _
            by_cases hh : has D l x = true
            · have hq : ((strOf (nm (slotD D x))).toList == l) = true := hh
              have HH : Hid (has D l x = true) := hh
              have hF3 : FndAt w3 w.heap.size l := HF2.out.below HB3'.out
              have c1 : w3.cell? ⟨w.heap.size + 1, 0, none⟩ = some (.int .i64 0) := by rw [cell_of_row _ _ 0 _ _ _ hF3.b1]; rfl
              have f1 : w3.frozen? ⟨w.heap.size + 1, 0, none⟩ = false := frozen_of_row _ _ 0 _ _ hF3.b1
              have c3 : w3.cell? ⟨w.heap.size + 3, 0, none⟩ = some (.int .i64 0) := by rw [cell_of_row _ _ 0 _ _ _ hF3.b3]; rfl
              have f3 : w3.frozen? ⟨w.heap.size + 3, 0, none⟩ = false := frozen_of_row _ _ 0 _ _ hF3.b3
              have HR3 : Hid (w3.drew.rangeAt V.heap.size 0 (slotV D x)) := fun j v hv => (HB3'.out.cell (p := ⟨V.heap.size, 0 + j, none⟩) hVW).trans (HR2.out j v hv)
              have HR3s : Hid ((w3.drew.setCell ⟨w.heap.size + 1, 0, none⟩ (.int .i64 x)).rangeAt V.heap.size 0 (slotV D x)) := fun j v hv => (setCell_out _ _ _ _ _ (fun e => by have h1 : V.heap.size = w.heap.size + 1 := e; omega)).trans (HR3.out j v hv)
              have HT2 : w3.there (w.heap.size + 2) 0 32 := fun j hj => ⟨by rw [Nat.zero_add, cell_of_row _ _ j _ _ _ hF3.b2]; simp [zeroSl, hj], frozen_of_row _ _ _ _ _ hF3.b2⟩
              have HT2s : Hid ((w3.drew.setCell ⟨w.heap.size + 1, 0, none⟩ (.int .i64 x)).there (w.heap.size + 1 + 1) 0 (slotV D x).toArray.size) := by
                show World.there _ _ _ _
                rw [show (slotV D x).toArray.size = 32 by simpa using HSl.out.len]
                exact fun j hj => ⟨by rw [setCell_out _ _ _ _ _ (fun e => by have h1 : w.heap.size + 1 + 1 = w.heap.size + 1 := e; omega)]; exact (HT2 j hj).1, by rw [World.frozen?_setCell]; exact (HT2 j hj).2⟩
              obtain ⟨wB, hwB⟩ : ∃ wB, Hid ((w3.drew.setCell ⟨w.heap.size + 1, 0, none⟩ (.int .i64 x)).setCells (w.heap.size + 1 + 1) 0 (slotV D x).toArray.toList = wB) := ⟨_, rfl⟩
              have cB : wB.cell? ⟨w.heap.size + 1 + 1 + 1, 0, none⟩ = some (.int .i64 0) := by
                rw [← hwB.out, World.cell?_setCells_out _ _ _ _ _ (fun e => by have h1 : w.heap.size + 1 + 1 + 1 = w.heap.size + 1 + 1 := e; omega), setCell_out _ _ _ _ _ (fun e => by have h1 : w.heap.size + 1 + 1 + 1 = w.heap.size + 1 := e; omega)]; exact c3
              have fB : wB.frozen? ⟨w.heap.size + 1 + 1 + 1, 0, none⟩ = false := by
                rw [← hwB.out, World.frozen?_setCells, World.frozen?_setCell]; exact f3
              have b1 : wB.cell? ⟨w.heap.size + 1, 0, none⟩ = some (.int .i64 x) := by
                rw [← hwB.out, World.cell?_setCells_out _ _ _ _ _ (fun e => by have h1 : w.heap.size + 1 = w.heap.size + 1 + 1 := e; omega)]; exact setCell_in _ _ _ _ _ c1
              have b2 : wB.rangeAt (w.heap.size + 2) 0 (slotV D x) := by
                rw [← hwB.out]; exact World.rangeAt_setCells_same _ _ _ _ (by have := HT2s.out; simpa using this)
              have hwo : ∀ k, w.heap.size + 5 ≤ k → (wB.setCell ⟨w.heap.size + 1 + 1 + 1, 0, none⟩ (.int .i64 0)).heap[k]? = w3.heap[k]? := fun k hk => by
                rw [heap_setCell_other _ _ _ _ (by show k ≠ w.heap.size + 1 + 1 + 1; omega), ← hwB.out, setCells_other _ _ _ (by omega), heap_setCell_other _ _ _ _ (by show k ≠ w.heap.size + 1; omega)]; rfl
              have hBB : Below w.heap.size w (wB.setCell ⟨w.heap.size + 1 + 1 + 1, 0, none⟩ (.int .i64 0)) := by
                have h3 : Below w.heap.size w w3 := HBw2.out.trans (HB3'.out.mono HBw2.out.size)
                rw [← hwB.out]
                exact (below_setCells ((below_drewN0 h3 1).setCell (p := ⟨w.heap.size + 1, 0, none⟩) (by show w.heap.size ≤ w.heap.size + 1; omega) _) (by omega) _ _).setCell (p := ⟨w.heap.size + 1 + 1 + 1, 0, none⟩) (by show w.heap.size ≤ w.heap.size + 1 + 1 + 1; omega) _
              have HE : Hid (FndEnd (wB.setCell ⟨w.heap.size + 1 + 1 + 1, 0, none⟩ (.int .i64 0)) w.heap.size x 0 (slotV D x)) :=
                ⟨(setCell_out _ _ _ _ _ (fun e => by have h1 : w.heap.size + 1 = w.heap.size + 1 + 1 + 1 := e; omega)).trans b1, fun j v hv => (setCell_out _ _ _ _ _ (fun e => by have h1 : w.heap.size + 2 = w.heap.size + 1 + 1 + 1 := e; omega)).trans (b2 j v hv), setCell_in _ _ _ _ _ cB⟩
              have HK : Hid (KeepsFrom V0.heap.size W2 (wB.setCell ⟨w.heap.size + 1 + 1 + 1, 0, none⟩ (.int .i64 0)) ∧ Below w.heap.size w (wB.setCell ⟨w.heap.size + 1 + 1 + 1, 0, none⟩ (.int .i64 0))) :=
                ⟨⟨Nat.le_trans HB3'.out.size (by have e1 : (wB.setCell ⟨w.heap.size + 1 + 1 + 1, 0, none⟩ (.int .i64 0)).heap.size = wB.heap.size := by simp
                                                 have e2 : wB.heap.size = w3.heap.size := by rw [← hwB.out, size_setCells]; simp
                                                 omega), fun k o hk ho hc => by rw [hwo k (by omega)]; exact (HB3'.out.block k (Array.getElem?_eq_some_iff.1 ho).1).trans ho⟩, hBB⟩
              clear hh hF3 c3 f3 HT2 b1 b2 hwo hBB
              rw [hq]
              gi_wp2
              refine wpIn_region_any (by kernel_rfl) ?_
              change wpAnyIn _ _ _ _ _ _ _ _ _ (World.drew _)
              refine wpAnyIn_ready (rs := [0, 1]) (by kernel_rfl) (by simp) ?_
              refine AllReadyIn.cons rfl (fun K hK => ?_) ?_
              · go_simp
                refine hK _ _ ?_
                clear hK K
                refine wpAnyIn_ready (rs := [1, 2]) (by kernel_rfl) (by simp) ?_
                refine AllReadyIn.cons rfl (fun K hK => ?_) ?_
                · refine stepIn_load_mid rfl 97 _ rfl V.heap.size 0 rfl (slotV D x) _ (by first | exact HR3.out | exact HR3s.out) undS rfl HSl.out.inf ?_
                  refine hK _ _ ?_
                  clear hK K
                  refine wpAnyIn_ready (rs := [2]) (by kernel_rfl) (by simp) ?_
                  refine AllReadyIn.cons rfl (fun K hK => ?_) ?_
                  · go_simp
                    refine hK _ _ ?_
                    clear hK K
                    refine wpAnyIn_ready (rs := [3]) (by kernel_rfl) (by simp) ?_
                    refine AllReadyIn.cons rfl (fun K hK => ?_) ?_
                    · refine stepIn_store_mid rfl 97 _ _ rfl (w.heap.size + 1 + 1) 0 (slotV D x).toArray rfl rfl HT2s.out HSl.out.infA (all_oneCell_toArray HSl.out.one) ?_
                      refine hK _ _ ?_
                      clear hK K
                      rw [show (w3.setCell ⟨w.heap.size + 1, 0, none⟩ (.int .i64 x)).drew.setCells (w.heap.size + 1 + 1) 0 (slotV D x).toArray.toList = wB from hwB.out]
                      refine wpAnyIn_ready (rs := [4]) (by kernel_rfl) (by simp) ?_
                      refine AllReadyIn.cons rfl (fun K hK => ?_) ?_
                      · go_simp
                        refine hK _ _ ?_
                        clear hK K
                        refine wpAnyIn_done (by kernel_rfl) ?_ _
                        gi_wp2
                        exact ⟨HK.out.1, ⟨x, pre, rfl, rfl, HP.out.1, HH.out, HE.out⟩, HK.out.2⟩
                      exact AllReadyIn.nil
                    exact AllReadyIn.nil
                  exact AllReadyIn.nil
                refine AllReadyIn.cons rfl (fun K hK => ?_) ?_
                · go_simp
                  refine hK _ _ ?_
                  clear hK K
                  refine wpAnyIn_ready (rs := [1]) (by kernel_rfl) (by simp) ?_
                  refine AllReadyIn.cons rfl (fun K hK => ?_) ?_
                  · refine stepIn_load_mid rfl 97 _ rfl V.heap.size 0 rfl (slotV D x) _ (by first | exact HR3.out | exact HR3s.out) undS rfl HSl.out.inf ?_
                    refine hK _ _ ?_
                    clear hK K
                    refine wpAnyIn_ready (rs := [3]) (by kernel_rfl) (by simp) ?_
                    refine AllReadyIn.cons rfl (fun K hK => ?_) ?_
                    · refine stepIn_store_mid rfl 97 _ _ rfl (w.heap.size + 1 + 1) 0 (slotV D x).toArray rfl rfl HT2s.out HSl.out.infA (all_oneCell_toArray HSl.out.one) ?_
                      refine hK _ _ ?_
                      clear hK K
                      rw [show (w3.setCell ⟨w.heap.size + 1, 0, none⟩ (.int .i64 x)).drew.setCells (w.heap.size + 1 + 1) 0 (slotV D x).toArray.toList = wB from hwB.out]
                      refine wpAnyIn_ready (rs := [4]) (by kernel_rfl) (by simp) ?_
                      refine AllReadyIn.cons rfl (fun K hK => ?_) ?_
                      · go_simp
                        refine hK _ _ ?_
                        clear hK K
                        refine wpAnyIn_done (by kernel_rfl) ?_ _
                        gi_wp2
                        exact ⟨HK.out.1, ⟨x, pre, rfl, rfl, HP.out.1, HH.out, HE.out⟩, HK.out.2⟩
                      exact AllReadyIn.nil
                    exact AllReadyIn.nil
                  exact AllReadyIn.nil
                exact AllReadyIn.nil
              refine AllReadyIn.cons rfl (fun K hK => ?_) ?_
              · refine stepIn_load_mid rfl 97 _ rfl V.heap.size 0 rfl (slotV D x) _ (by first | exact HR3.out | exact HR3s.out) undS rfl HSl.out.inf ?_
                refine hK _ _ ?_
                clear hK K
                refine wpAnyIn_ready (rs := [0]) (by kernel_rfl) (by simp) ?_
                refine AllReadyIn.cons rfl (fun K hK => ?_) ?_
                · go_simp
                  refine hK _ _ ?_
                  clear hK K
                  refine wpAnyIn_ready (rs := [2]) (by kernel_rfl) (by simp) ?_
                  refine AllReadyIn.cons rfl (fun K hK => ?_) ?_
                  · go_simp
                    refine hK _ _ ?_
                    clear hK K
                    refine wpAnyIn_ready (rs := [3]) (by kernel_rfl) (by simp) ?_
                    refine AllReadyIn.cons rfl (fun K hK => ?_) ?_
                    · refine stepIn_store_mid rfl 97 _ _ rfl (w.heap.size + 1 + 1) 0 (slotV D x).toArray rfl rfl HT2s.out HSl.out.infA (all_oneCell_toArray HSl.out.one) ?_
                      refine hK _ _ ?_
                      clear hK K
                      rw [show (w3.setCell ⟨w.heap.size + 1, 0, none⟩ (.int .i64 x)).drew.setCells (w.heap.size + 1 + 1) 0 (slotV D x).toArray.toList = wB from hwB.out]
                      refine wpAnyIn_ready (rs := [4]) (by kernel_rfl) (by simp) ?_
                      refine AllReadyIn.cons rfl (fun K hK => ?_) ?_
                      · go_simp
                        refine hK _ _ ?_
                        clear hK K
                        refine wpAnyIn_done (by kernel_rfl) ?_ _
                        gi_wp2
                        exact ⟨HK.out.1, ⟨x, pre, rfl, rfl, HP.out.1, HH.out, HE.out⟩, HK.out.2⟩
                      exact AllReadyIn.nil
                    exact AllReadyIn.nil
                  exact AllReadyIn.nil
                exact AllReadyIn.nil
              exact AllReadyIn.nil
            · have hq : ((strOf (nm (slotD D x))).toList == l) = false := by simpa [has] using hh
              have HN : Hid (has D l x = false) := by show _ = _; simpa using hh
              clear hh
              rw [hq]
              gi_wp2
              refine ⟨(KO.of_below HB3'.out).from _, KC.of_below HB3'.out, ⟨⟨fun k hk => ?_, HF2.out.below HB3'.out⟩, HBw2.out.trans (HB3'.out.mono HBw2.out.size)⟩⟩
              rcases List.mem_append.1 hk with h | h
              · exact HP.out.1 k h
              · obtain rfl : k = x := by simpa using h
                exact HN.out
          exact AllReadyIn.nil
        exact AllReadyIn.nil
      exact AllReadyIn.nil
    refine AllReadyIn.cons rfl (fun K hK => ?_) ?_
    · go_simp
      refine hK _ _ ?_
      clear hK K
      refine wpAnyIn_ready (rs := [0]) (by kernel_rfl) (by simp) ?_
      refine AllReadyIn.cons rfl (fun K hK => ?_) ?_
      · refine stepIn_load_mid rfl 97 _ rfl V.heap.size 0 rfl (slotV D x) _ HR2.out undS rfl HSl.out.inf ?_
        refine hK _ _ ?_
        clear hK K
        refine wpAnyIn_ready (rs := [1]) (by kernel_rfl) (by simp) ?_
        refine AllReadyIn.cons rfl (fun K hK => ?_) ?_
        · go_simp
          refine ⟨trivial, ?_⟩
          refine (CallsIn.inRound l' (callsIn_wide.2 (sName _ _ _ HSl.out))).mono ?_
          rintro e w3 ⟨rfl, HB3⟩
          have hs3 : w3.cell? ⟨w.heap.size, 0, none⟩ = some (.string ⟨l.toArray⟩) := (HB3.cell (p := ⟨w.heap.size, 0, none⟩) (block_lt_of_cell (w := W2) hs0)).trans hs0
          have HB3' : Hid (Below W2.heap.size W2 w3) := below_dr0 HB3
          clear HB3
          refine hK _ _ ?_
          clear hK K
          refine wpAnyIn_ready (rs := [3]) (by kernel_rfl) (by simp) ?_
          refine AllReadyIn.cons rfl (fun K hK => ?_) ?_
          · go_simp
            refine hK _ _ ?_
            clear hK K
            refine wpAnyIn_done (by kernel_rfl) ?_ _
            by_cases hh : has D l x = true
            · have hq : ((strOf (nm (slotD D x))).toList == l) = true := hh
              have HH : Hid (has D l x = true) := hh
              have hF3 : FndAt w3 w.heap.size l := HF2.out.below HB3'.out
              have c1 : w3.cell? ⟨w.heap.size + 1, 0, none⟩ = some (.int .i64 0) := by rw [cell_of_row _ _ 0 _ _ _ hF3.b1]; rfl
              have f1 : w3.frozen? ⟨w.heap.size + 1, 0, none⟩ = false := frozen_of_row _ _ 0 _ _ hF3.b1
              have c3 : w3.cell? ⟨w.heap.size + 3, 0, none⟩ = some (.int .i64 0) := by rw [cell_of_row _ _ 0 _ _ _ hF3.b3]; rfl
              have f3 : w3.frozen? ⟨w.heap.size + 3, 0, none⟩ = false := frozen_of_row _ _ 0 _ _ hF3.b3
              have HR3 : Hid (w3.drew.rangeAt V.heap.size 0 (slotV D x)) := fun j v hv => (HB3'.out.cell (p := ⟨V.heap.size, 0 + j, none⟩) hVW).trans (HR2.out j v hv)
              have HR3s : Hid ((w3.drew.setCell ⟨w.heap.size + 1, 0, none⟩ (.int .i64 x)).rangeAt V.heap.size 0 (slotV D x)) := fun j v hv => (setCell_out _ _ _ _ _ (fun e => by have h1 : V.heap.size = w.heap.size + 1 := e; omega)).trans (HR3.out j v hv)
              have HT2 : w3.there (w.heap.size + 2) 0 32 := fun j hj => ⟨by rw [Nat.zero_add, cell_of_row _ _ j _ _ _ hF3.b2]; simp [zeroSl, hj], frozen_of_row _ _ _ _ _ hF3.b2⟩
              have HT2s : Hid ((w3.drew.setCell ⟨w.heap.size + 1, 0, none⟩ (.int .i64 x)).there (w.heap.size + 1 + 1) 0 (slotV D x).toArray.size) := by
                show World.there _ _ _ _
                rw [show (slotV D x).toArray.size = 32 by simpa using HSl.out.len]
                exact fun j hj => ⟨by rw [setCell_out _ _ _ _ _ (fun e => by have h1 : w.heap.size + 1 + 1 = w.heap.size + 1 := e; omega)]; exact (HT2 j hj).1, by rw [World.frozen?_setCell]; exact (HT2 j hj).2⟩
              obtain ⟨wB, hwB⟩ : ∃ wB, Hid ((w3.drew.setCell ⟨w.heap.size + 1, 0, none⟩ (.int .i64 x)).setCells (w.heap.size + 1 + 1) 0 (slotV D x).toArray.toList = wB) := ⟨_, rfl⟩
              have cB : wB.cell? ⟨w.heap.size + 1 + 1 + 1, 0, none⟩ = some (.int .i64 0) := by
                rw [← hwB.out, World.cell?_setCells_out _ _ _ _ _ (fun e => by have h1 : w.heap.size + 1 + 1 + 1 = w.heap.size + 1 + 1 := e; omega), setCell_out _ _ _ _ _ (fun e => by have h1 : w.heap.size + 1 + 1 + 1 = w.heap.size + 1 := e; omega)]; exact c3
              have fB : wB.frozen? ⟨w.heap.size + 1 + 1 + 1, 0, none⟩ = false := by
                rw [← hwB.out, World.frozen?_setCells, World.frozen?_setCell]; exact f3
              have b1 : wB.cell? ⟨w.heap.size + 1, 0, none⟩ = some (.int .i64 x) := by
                rw [← hwB.out, World.cell?_setCells_out _ _ _ _ _ (fun e => by have h1 : w.heap.size + 1 = w.heap.size + 1 + 1 := e; omega)]; exact setCell_in _ _ _ _ _ c1
              have b2 : wB.rangeAt (w.heap.size + 2) 0 (slotV D x) := by
                rw [← hwB.out]; exact World.rangeAt_setCells_same _ _ _ _ (by have := HT2s.out; simpa using this)
              have hwo : ∀ k, w.heap.size + 5 ≤ k → (wB.setCell ⟨w.heap.size + 1 + 1 + 1, 0, none⟩ (.int .i64 0)).heap[k]? = w3.heap[k]? := fun k hk => by
                rw [heap_setCell_other _ _ _ _ (by show k ≠ w.heap.size + 1 + 1 + 1; omega), ← hwB.out, setCells_other _ _ _ (by omega), heap_setCell_other _ _ _ _ (by show k ≠ w.heap.size + 1; omega)]; rfl
              have hBB : Below w.heap.size w (wB.setCell ⟨w.heap.size + 1 + 1 + 1, 0, none⟩ (.int .i64 0)) := by
                have h3 : Below w.heap.size w w3 := HBw2.out.trans (HB3'.out.mono HBw2.out.size)
                rw [← hwB.out]
                exact (below_setCells ((below_drewN0 h3 1).setCell (p := ⟨w.heap.size + 1, 0, none⟩) (by show w.heap.size ≤ w.heap.size + 1; omega) _) (by omega) _ _).setCell (p := ⟨w.heap.size + 1 + 1 + 1, 0, none⟩) (by show w.heap.size ≤ w.heap.size + 1 + 1 + 1; omega) _
              have HE : Hid (FndEnd (wB.setCell ⟨w.heap.size + 1 + 1 + 1, 0, none⟩ (.int .i64 0)) w.heap.size x 0 (slotV D x)) :=
                ⟨(setCell_out _ _ _ _ _ (fun e => by have h1 : w.heap.size + 1 = w.heap.size + 1 + 1 + 1 := e; omega)).trans b1, fun j v hv => (setCell_out _ _ _ _ _ (fun e => by have h1 : w.heap.size + 2 = w.heap.size + 1 + 1 + 1 := e; omega)).trans (b2 j v hv), setCell_in _ _ _ _ _ cB⟩
              have HK : Hid (KeepsFrom V0.heap.size W2 (wB.setCell ⟨w.heap.size + 1 + 1 + 1, 0, none⟩ (.int .i64 0)) ∧ Below w.heap.size w (wB.setCell ⟨w.heap.size + 1 + 1 + 1, 0, none⟩ (.int .i64 0))) :=
                ⟨⟨Nat.le_trans HB3'.out.size (by have e1 : (wB.setCell ⟨w.heap.size + 1 + 1 + 1, 0, none⟩ (.int .i64 0)).heap.size = wB.heap.size := by simp
                                                 have e2 : wB.heap.size = w3.heap.size := by rw [← hwB.out, size_setCells]; simp
                                                 omega), fun k o hk ho hc => by rw [hwo k (by omega)]; exact (HB3'.out.block k (Array.getElem?_eq_some_iff.1 ho).1).trans ho⟩, hBB⟩
              clear hh hF3 c3 f3 HT2 b1 b2 hwo hBB
              rw [hq]
              gi_wp2
              refine wpIn_region_any (by kernel_rfl) ?_
              change wpAnyIn _ _ _ _ _ _ _ _ _ (World.drew _)
              refine wpAnyIn_ready (rs := [0, 1]) (by kernel_rfl) (by simp) ?_
              refine AllReadyIn.cons rfl (fun K hK => ?_) ?_
              · go_simp
                refine hK _ _ ?_
                clear hK K
                refine wpAnyIn_ready (rs := [1, 2]) (by kernel_rfl) (by simp) ?_
                refine AllReadyIn.cons rfl (fun K hK => ?_) ?_
                · refine stepIn_load_mid rfl 97 _ rfl V.heap.size 0 rfl (slotV D x) _ (by first | exact HR3.out | exact HR3s.out) undS rfl HSl.out.inf ?_
                  refine hK _ _ ?_
                  clear hK K
                  refine wpAnyIn_ready (rs := [2]) (by kernel_rfl) (by simp) ?_
                  refine AllReadyIn.cons rfl (fun K hK => ?_) ?_
                  · go_simp
                    refine hK _ _ ?_
                    clear hK K
                    refine wpAnyIn_ready (rs := [3]) (by kernel_rfl) (by simp) ?_
                    refine AllReadyIn.cons rfl (fun K hK => ?_) ?_
                    · refine stepIn_store_mid rfl 97 _ _ rfl (w.heap.size + 1 + 1) 0 (slotV D x).toArray rfl rfl HT2s.out HSl.out.infA (all_oneCell_toArray HSl.out.one) ?_
                      refine hK _ _ ?_
                      clear hK K
                      rw [show (w3.setCell ⟨w.heap.size + 1, 0, none⟩ (.int .i64 x)).drew.setCells (w.heap.size + 1 + 1) 0 (slotV D x).toArray.toList = wB from hwB.out]
                      refine wpAnyIn_ready (rs := [4]) (by kernel_rfl) (by simp) ?_
                      refine AllReadyIn.cons rfl (fun K hK => ?_) ?_
                      · go_simp
                        refine hK _ _ ?_
                        clear hK K
                        refine wpAnyIn_done (by kernel_rfl) ?_ _
                        gi_wp2
                        exact ⟨HK.out.1, ⟨x, pre, rfl, rfl, HP.out.1, HH.out, HE.out⟩, HK.out.2⟩
                      exact AllReadyIn.nil
                    exact AllReadyIn.nil
                  exact AllReadyIn.nil
                refine AllReadyIn.cons rfl (fun K hK => ?_) ?_
                · go_simp
                  refine hK _ _ ?_
                  clear hK K
                  refine wpAnyIn_ready (rs := [1]) (by kernel_rfl) (by simp) ?_
                  refine AllReadyIn.cons rfl (fun K hK => ?_) ?_
                  · refine stepIn_load_mid rfl 97 _ rfl V.heap.size 0 rfl (slotV D x) _ (by first | exact HR3.out | exact HR3s.out) undS rfl HSl.out.inf ?_
                    refine hK _ _ ?_
                    clear hK K
                    refine wpAnyIn_ready (rs := [3]) (by kernel_rfl) (by simp) ?_
                    refine AllReadyIn.cons rfl (fun K hK => ?_) ?_
                    · refine stepIn_store_mid rfl 97 _ _ rfl (w.heap.size + 1 + 1) 0 (slotV D x).toArray rfl rfl HT2s.out HSl.out.infA (all_oneCell_toArray HSl.out.one) ?_
                      refine hK _ _ ?_
                      clear hK K
                      rw [show (w3.setCell ⟨w.heap.size + 1, 0, none⟩ (.int .i64 x)).drew.setCells (w.heap.size + 1 + 1) 0 (slotV D x).toArray.toList = wB from hwB.out]
                      refine wpAnyIn_ready (rs := [4]) (by kernel_rfl) (by simp) ?_
                      refine AllReadyIn.cons rfl (fun K hK => ?_) ?_
                      · go_simp
                        refine hK _ _ ?_
                        clear hK K
                        refine wpAnyIn_done (by kernel_rfl) ?_ _
                        gi_wp2
                        exact ⟨HK.out.1, ⟨x, pre, rfl, rfl, HP.out.1, HH.out, HE.out⟩, HK.out.2⟩
                      exact AllReadyIn.nil
                    exact AllReadyIn.nil
                  exact AllReadyIn.nil
                exact AllReadyIn.nil
              refine AllReadyIn.cons rfl (fun K hK => ?_) ?_
              · refine stepIn_load_mid rfl 97 _ rfl V.heap.size 0 rfl (slotV D x) _ (by first | exact HR3.out | exact HR3s.out) undS rfl HSl.out.inf ?_
                refine hK _ _ ?_
                clear hK K
                refine wpAnyIn_ready (rs := [0]) (by kernel_rfl) (by simp) ?_
                refine AllReadyIn.cons rfl (fun K hK => ?_) ?_
                · go_simp
                  refine hK _ _ ?_
                  clear hK K
                  refine wpAnyIn_ready (rs := [2]) (by kernel_rfl) (by simp) ?_
                  refine AllReadyIn.cons rfl (fun K hK => ?_) ?_
                  · go_simp
                    refine hK _ _ ?_
                    clear hK K
                    refine wpAnyIn_ready (rs := [3]) (by kernel_rfl) (by simp) ?_
                    refine AllReadyIn.cons rfl (fun K hK => ?_) ?_
                    · refine stepIn_store_mid rfl 97 _ _ rfl (w.heap.size + 1 + 1) 0 (slotV D x).toArray rfl rfl HT2s.out HSl.out.infA (all_oneCell_toArray HSl.out.one) ?_
                      refine hK _ _ ?_
                      clear hK K
                      rw [show (w3.setCell ⟨w.heap.size + 1, 0, none⟩ (.int .i64 x)).drew.setCells (w.heap.size + 1 + 1) 0 (slotV D x).toArray.toList = wB from hwB.out]
                      refine wpAnyIn_ready (rs := [4]) (by kernel_rfl) (by simp) ?_
                      refine AllReadyIn.cons rfl (fun K hK => ?_) ?_
                      · go_simp
                        refine hK _ _ ?_
                        clear hK K
                        refine wpAnyIn_done (by kernel_rfl) ?_ _
                        gi_wp2
                        exact ⟨HK.out.1, ⟨x, pre, rfl, rfl, HP.out.1, HH.out, HE.out⟩, HK.out.2⟩
                      exact AllReadyIn.nil
                    exact AllReadyIn.nil
                  exact AllReadyIn.nil
                exact AllReadyIn.nil
              exact AllReadyIn.nil
            · have hq : ((strOf (nm (slotD D x))).toList == l) = false := by simpa [has] using hh
              have HN : Hid (has D l x = false) := by show _ = _; simpa using hh
              clear hh
              rw [hq]
              gi_wp2
              refine ⟨(KO.of_below HB3'.out).from _, KC.of_below HB3'.out, ⟨⟨fun k hk => ?_, HF2.out.below HB3'.out⟩, HBw2.out.trans (HB3'.out.mono HBw2.out.size)⟩⟩
              rcases List.mem_append.1 hk with h | h
              · exact HP.out.1 k h
              · obtain rfl : k = x := by simpa using h
                exact HN.out
          exact AllReadyIn.nil
        exact AllReadyIn.nil
      exact AllReadyIn.nil
    exact AllReadyIn.nil
  case done =>
    rintro DD V hDD ⟨⟨hno, hFV⟩, hBw⟩ hK
    have c1 : V.cell? ⟨w.heap.size + 1, 0, none⟩ = some (.int .i64 0) := by rw [cell_of_row _ _ 0 _ _ _ hFV.b1]; rfl
    have f1 : V.frozen? ⟨w.heap.size + 1, 0, none⟩ = false := frozen_of_row _ _ 0 _ _ hFV.b1
    have c3 : V.cell? ⟨w.heap.size + 1 + 1 + 1, 0, none⟩ = some (.int .i64 0) := by rw [cell_of_row _ _ 0 _ _ _ hFV.b3]; rfl
    have f3 : V.frozen? ⟨w.heap.size + 1 + 1 + 1, 0, none⟩ = false := frozen_of_row _ _ 0 _ _ hFV.b3
    have ht : V.there (w.heap.size + 2) 0 32 := fun j hj => ⟨by rw [Nat.zero_add, cell_of_row _ _ j _ _ _ hFV.b2]; simp [zeroSl, hj], frozen_of_row _ _ _ _ _ hFV.b2⟩
    have HT : Hid ((V.setCell ⟨w.heap.size + 1, 0, none⟩ (.int .i64 0)).there (w.heap.size + 1 + 1) 0 zeroSl.size) :=
      fun j hj => ⟨by rw [setCell_out _ _ _ _ _ (fun e => by have h1 : w.heap.size + 1 + 1 = w.heap.size + 1 := e; omega)]; exact (ht j hj).1, by rw [World.frozen?_setCell]; exact (ht j hj).2⟩
    obtain ⟨wB, hwB⟩ : ∃ wB, Hid ((V.setCell ⟨w.heap.size + 1, 0, none⟩ (.int .i64 0)).setCells (w.heap.size + 1 + 1) 0 zeroSl.toList = wB) := ⟨_, rfl⟩
    have cB : wB.cell? ⟨w.heap.size + 1 + 1 + 1, 0, none⟩ = some (.int .i64 0) := by
      rw [← hwB.out, World.cell?_setCells_out _ _ _ _ _ (fun e => by have h1 : w.heap.size + 1 + 1 + 1 = w.heap.size + 1 + 1 := e; omega), setCell_out _ _ _ _ _ (fun e => by have h1 : w.heap.size + 1 + 1 + 1 = w.heap.size + 1 := e; omega)]; exact c3
    have fB : wB.frozen? ⟨w.heap.size + 1 + 1 + 1, 0, none⟩ = false := by
      rw [← hwB.out, World.frozen?_setCells, World.frozen?_setCell]; exact f3
    have b1 : wB.cell? ⟨w.heap.size + 1, 0, none⟩ = some (.int .i64 0) := by
      rw [← hwB.out, World.cell?_setCells_out _ _ _ _ _ (fun e => by have h1 : w.heap.size + 1 = w.heap.size + 1 + 1 := e; omega)]; exact setCell_in _ _ _ _ _ c1
    have b2 : wB.rangeAt (w.heap.size + 2) 0 zeroSl.toList := by
      rw [← hwB.out]; exact World.rangeAt_setCells_same _ _ _ _ (by have := HT.out; simpa using this)
    have hwo : ∀ k, w.heap.size + 5 ≤ k → (wB.setCell ⟨w.heap.size + 1 + 1 + 1, 0, none⟩ (.int .i64 2)).heap[k]? = V.heap[k]? := fun k hk => by
      rw [heap_setCell_other _ _ _ _ (by show k ≠ w.heap.size + 1 + 1 + 1; omega), ← hwB.out, setCells_other _ _ _ (by omega), heap_setCell_other _ _ _ _ (by show k ≠ w.heap.size + 1; omega)]
    have hBB : Below w.heap.size w (wB.setCell ⟨w.heap.size + 1 + 1 + 1, 0, none⟩ (.int .i64 2)) := by
      rw [← hwB.out]
      exact (below_setCells (hBw.setCell (p := ⟨w.heap.size + 1, 0, none⟩) (by show w.heap.size ≤ w.heap.size + 1; omega) _) (by omega) _ _).setCell (p := ⟨w.heap.size + 1 + 1 + 1, 0, none⟩) (by show w.heap.size ≤ w.heap.size + 1 + 1 + 1; omega) _
    have HE : Hid (FndEnd (wB.setCell ⟨w.heap.size + 1 + 1 + 1, 0, none⟩ (.int .i64 2)) w.heap.size 0 2 zeroSl.toList) :=
      ⟨(setCell_out _ _ _ _ _ (fun e => by have h1 : w.heap.size + 1 = w.heap.size + 1 + 1 + 1 := e; omega)).trans b1, fun j v hv => (setCell_out _ _ _ _ _ (fun e => by have h1 : w.heap.size + 2 = w.heap.size + 1 + 1 + 1 := e; omega)).trans (b2 j v hv), setCell_in _ _ _ _ _ cB⟩
    have HK : Hid ((wB.setCell ⟨w.heap.size + 1 + 1 + 1, 0, none⟩ (.int .i64 2)).heap[DD]? = some (.deferred (some [])) ∧ Below w.heap.size w (wB.setCell ⟨w.heap.size + 1 + 1 + 1, 0, none⟩ (.int .i64 2)) ∧ ∀ k ∈ tks D n, has D l k = false) := ⟨(hwo DD (by omega)).trans hK, hBB, hno⟩
    clear hFV c3 f3 ht b1 b2 hwo hBB hBw hK hno
    have HI : Hid ((Tryz.prog.info? 97).map (·.size) = some zeroSl.size ∧ zeroSl.all (·.oneCell') = true) := ⟨infS, by have := all_oneCell_toArray zeroSl_slot.one; simpa using this⟩
    go_wp2_with (refine wpList_store_mid rfl 97 _ _ rfl (w.heap.size + 1 + 1) 0 zeroSl rfl rfl HT.out HI.out.1 HI.out.2 ?_; rw [hwB.out])
    refine ⟨by simp, .inl ⟨_, _, rfl, run_takeDeferred HK.out.1, ?_⟩⟩
    refine ⟨_, ret_find (fndEnd_abides (C := w.heap.size + 4) (Nat.le_refl _) [] _ _ (some DD) HE.out (grownBy_putObj' _ _ _) (fun r e => by cases e; omega)) zeroSl_slot _ rfl rfl rfl, ?_, ?_⟩
    · exact HK.out.2.1.trans (belowK_b (w := w) (Nat.le_refl _) _ DD _ _ (by omega) HK.out.1 rfl rfl)
    · rw [fRes, show (tks D n).find? (has D l) = none from List.find?_eq_none.2 (fun k hk => by simp [HK.out.2.2 k hk])]; rfl
  case stop =>
    rintro DD cc pre V hDD hpre ⟨⟨k, pre', rfl, rfl, hno, hk, hE⟩, hB⟩ hK
    gi_wp2
    refine ⟨by simp, .inl ⟨_, _, rfl, run_takeDeferred hK, ?_⟩⟩
    refine ⟨_, ret_find (fndEnd_abides (C := w.heap.size + 4) (Nat.le_refl _) [] _ _ (some DD) hE (grownBy_putObj' _ _ _) (fun r e => by cases e; omega)) (slotV_slot D hD k) _ rfl rfl rfl, ?_, ?_⟩
    · exact hB.trans (belowK_b (w := w) (Nat.le_refl _) _ DD _ _ (by omega) hK rfl rfl)
    · rw [fRes, show (tks D n).find? (has D l) = some k from find_pre hpre hno hk]; rfl
end Go.Proofs.YtpcbpikhiooafaaGreatDoor
