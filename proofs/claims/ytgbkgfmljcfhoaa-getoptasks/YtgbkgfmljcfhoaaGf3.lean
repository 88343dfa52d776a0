/- The walk of the program's Last. Conditions: the options' cells are as said; a length that fits. -/
import Derived.Test.YtgbkgfmljcfhoaaGf2
namespace Go.Proofs.Ytgbkgfmljcfhoaa
open Go.RowKit Go.Shelf
attribute [local go_sem] ext_eq app_eq get_eq Oper.semAt_some
theorem dn_len (n j : Nat) : (dn n j).length = j := by simp [dn]
theorem dn_take {n i j : Nat} (h : i ≤ j) : (dn n j).take i = dn n i := by
  obtain ⟨t, ht⟩ := dn_pre (n := n) h
  rw [← ht]
  exact List.take_left' (dn_len n i)
theorem dn_at {n j x : Nat} (h : dn n j ++ [x] <+: dn n n) : j < n ∧ x = n - 1 - j := by
  have hl := h.length_le
  simp only [List.length_append, dn_len, List.length_cons, List.length_nil] at hl
  refine ⟨by omega, ?_⟩
  have := List.prefix_iff_eq_take.1 h
  rw [List.length_append, dn_len, List.length_cons, List.length_nil, Nat.zero_add, dn_take (by omega), dn_succ] at this
  simpa using List.append_cancel_left this
theorem results_cells9 {P : Program} {fn : Func} {p q : Tmp} {ty tq : TypeId} (h : fn.results = #[.cell p ty, .cell q tq]) (tmps : Array Value) (w : World) (a b : Addr) (u v : Value) (ha : tmps.getD p undef = .pointer (some a)) (hb : tmps.getD q undef = .pointer (some b)) (hl : (loadVar ty a).run P w = .ok u w) (hl2 : (loadVar tq b).run P w = .ok v w) :
    (results fn tmps).run P w = .ok (.tuple #[u, v]) w := by
  have e : (results fn tmps).run P w = ((asAddr (tmps.getD p undef)).run P w).andThen fun a w₁ => ((loadVar ty a).run P w₁).andThen fun u w₂ => ((asAddr (tmps.getD q undef)).run P w₂).andThen fun b w₃ => ((loadVar tq b).run P w₃).andThen fun v w₄ => .ok (.tuple #[u, v]) w₄ := by
    simp only [results, h]
    simp [Sem.run_bind, Result.andThen]
  rw [e, ha]
  show ((loadVar ty a).run P w).andThen _ = _
  rw [hl, hb]
  show ((loadVar tq b).run P w).andThen _ = _
  rw [hl2]
  rfl
theorem loadS {W : World} {B : Nat} {s : ByteArray} (h : W.cell? ⟨B, 0, none⟩ = some (.string s)) : (loadVar 9 ⟨B, 0, none⟩).run Try.prog W = .ok (.string s) W := by simp [go_sem, h]
theorem loadB {W : World} {B : Nat} {s : Bool} (h : W.cell? ⟨B, 0, none⟩ = some (.bool s)) : (loadVar 4 ⟨B, 0, none⟩).run Try.prog W = .ok (.bool s) W := by simp [go_sem, h]
theorem below_put {n DD : Nat} {w V : World} (h : Below n w V) (hn : n ≤ w.heap.size) (hD : n ≤ DD) (o : Obj) : Below n w (V.putObj DD o) :=
  h.grown (grownBy_putObj' V DD o) (Nat.le_trans hn h.size) (fun k e => by cases e; exact hD)
theorem cell_put {V : World} {B DD : Nat} (h : B ≠ DD) (o : Obj) (k : Nat) : (V.putObj DD o).cell? ⟨B, k, none⟩ = V.cell? ⟨B, k, none⟩ :=
  World.cell?_of_block (a := ⟨B, k, none⟩) (World.putObj_heap_other h)
theorem zvO (w : World) : (zeroValue 67).run Try.prog w = .ok (.agg #[.string ⟨#[]⟩, .string ⟨#[]⟩]) w := by kernel_rfl
/-- The three cells of Last. -/
structure L3 (V : World) (s : Nat) (nm : List UInt8) : Prop where
  b0 : V.heap[s]? = some (.cells #[.string ⟨nm.toArray⟩] 9 (0, 0))
  b1 : V.heap[s + 1]? = some (.cells #[.string ⟨#[]⟩] 9 (0, 0))
  b2 : V.heap[s + 2]? = some (.cells #[.bool false] 4 (0, 0))
theorem L3.grow {V W : World} {s B : Nat} {nm : List UInt8} {row : Option Nat} (h : L3 V s nm) (hg : V.grownBy W row) (hs : s + 3 ≤ B) (hr : ∀ r, row = some r → B ≤ r) : L3 W s nm :=
  have f := fun k (hk : k < s + 3) (h1 : k < V.heap.size) => hg.block k h1 (fun e => by have := hr k e.symm; omega)
  ⟨(f _ (by omega) (Array.getElem?_eq_some_iff.1 h.b0).1).trans h.b0, (f _ (by omega) (Array.getElem?_eq_some_iff.1 h.b1).1).trans h.b1, (f _ (by omega) (Array.getElem?_eq_some_iff.1 h.b2).1).trans h.b2⟩
theorem L3.two {V : World} {s : Nat} {nm : List UInt8} (h : L3 V s nm) (x : ByteArray) (b : Bool) :
    V.cell? ⟨s, 0, none⟩ = some (.string ⟨nm.toArray⟩) ∧ V.cell? ⟨s + 1, 0, none⟩ = some (.string ⟨#[]⟩) ∧ V.frozen? ⟨s + 1, 0, none⟩ = false ∧
    (V.setCell ⟨s + 1, 0, none⟩ (.string x)).cell? ⟨s + 1 + 1, 0, none⟩ = some (.bool false) ∧ (V.setCell ⟨s + 1, 0, none⟩ (.string x)).frozen? ⟨s + 1 + 1, 0, none⟩ = false ∧
    ((V.setCell ⟨s + 1, 0, none⟩ (.string x)).setCell ⟨s + 1 + 1, 0, none⟩ (.bool b)).cell? ⟨s + 1, 0, none⟩ = some (.string x) ∧ ((V.setCell ⟨s + 1, 0, none⟩ (.string x)).setCell ⟨s + 1 + 1, 0, none⟩ (.bool b)).cell? ⟨s + 2, 0, none⟩ = some (.bool b) ∧
    (∀ k, k ≠ s + 1 → k ≠ s + 1 + 1 → ((V.setCell ⟨s + 1, 0, none⟩ (.string x)).setCell ⟨s + 1 + 1, 0, none⟩ (.bool b)).heap[k]? = V.heap[k]?) ∧ ((V.setCell ⟨s + 1, 0, none⟩ (.string x)).setCell ⟨s + 1 + 1, 0, none⟩ (.bool b)).heap.size = V.heap.size := by
  have c1 : V.cell? ⟨s + 1, 0, none⟩ = some (.string ⟨#[]⟩) := by rw [cell_of_row _ _ 0 _ _ _ h.b1]; rfl
  have c2 : V.cell? ⟨s + 1 + 1, 0, none⟩ = some (.bool false) := by rw [cell_of_row _ _ 0 _ _ _ h.b2]; rfl
  have e2 : (V.setCell ⟨s + 1, 0, none⟩ (.string x)).heap[s + 1 + 1]? = some (.cells #[.bool false] 4 (0, 0)) := (Below.heap_setCell _ _ _ _ (by show s + 1 + 1 ≠ s + 1; omega)).trans h.b2
  have m2 : (V.setCell ⟨s + 1, 0, none⟩ (.string x)).cell? ⟨s + 1 + 1, 0, none⟩ = some (.bool false) := by rw [cell_of_row _ _ 0 _ _ _ e2]; rfl
  refine ⟨by rw [cell_of_row _ _ 0 _ _ _ h.b0]; rfl, c1, by simp [World.frozen?, h.b1], m2, by unfold World.frozen?; rw [e2]; rfl, ?_, World.cell?_setCell_same _ _ _ m2, fun k h1 h2 => (Below.heap_setCell _ _ _ _ h2).trans (Below.heap_setCell _ _ _ _ h1), by simp [World.setCell]⟩
  exact (World.cell?_setCell_other _ _ _ _ (fun e => by have := congrArg Addr.block e; simp at this)).trans (World.cell?_setCell_same _ _ _ c1)
set_option maxRecDepth 100000 in
set_option maxHeartbeats 2000000 in
theorem gLast (opts : List Ga.Opt) (nm : List UInt8) (a : Option Addr) (c : Nat) (w : World) (hO : Opts w a opts) (hl : opts.length < 2 ^ 63) :
    Calls Try.prog 15 #[.slice a opts.length c, .string ⟨nm.toArray⟩] w fun e w' => e = .returned (lstV (lstO opts nm opts.length)) ∧ Below w.heap.size w w' := by
  have HO : Hid (Opts w a opts) := hO
  clear hO
  refine (callsIn_wide (n := 9)).1 ?_
  refine callsIn_of_wp_marks Try.func15 rfl trivial ?_ rfl
  simp only [Try.ntmps15, List.size_toArray, List.length_cons, List.length_nil, Nat.reduceAdd, Nat.reduceSub, Array.replicate_succ, Array.replicate_zero, List.push_toArray, List.append_toArray, List.nil_append, List.cons_append]
  refine wpIn_wide.2 ?_
  go_wp2_with (go_at_call 33; refine (backward9 a opts.length c _).mono ?_; rintro e w1 ⟨rfl, rfl⟩)
  obtain ⟨V0, hV0⟩ : ∃ V0, V0 = (((w.alloc (.cells #[.string ⟨nm.toArray⟩] 9)).alloc (.cells #[.string ⟨#[]⟩] 9)).alloc (.cells #[.bool false] 4)).alloc (.cells #[.slice a opts.length c] 23) := ⟨_, rfl⟩
  have hsz : V0.heap.size = w.heap.size + 4 := by rw [hV0]; simp
  have hBV : Below w.heap.size w V0 := by rw [hV0]; exact ((((Below.refl w.heap.size w).alloc (Nat.le_refl _) _).alloc (by simp) _).alloc (by simp; omega) _).alloc (by simp; omega) _
  have hL0 : L3 V0 w.heap.size nm := by
    rw [hV0]
    refine ⟨?_, ?_, ?_⟩
    · exact (Below.heap_alloc _ _ _ (by simp; omega)).trans ((Below.heap_alloc _ _ _ (by simp; omega)).trans ((Below.heap_alloc _ _ _ (by simp)).trans (World.alloc_heap_new w _)))
    · have e : w.heap.size + 1 = (w.alloc (.cells #[.string ⟨nm.toArray⟩] 9)).heap.size := by simp
      exact (Below.heap_alloc _ _ _ (by simp)).trans ((Below.heap_alloc _ _ _ (by simp)).trans (by rw [e]; exact World.alloc_heap_new _ _))
    · have e : w.heap.size + 2 = ((w.alloc (.cells #[.string ⟨nm.toArray⟩] 9)).alloc (.cells #[.string ⟨#[]⟩] 9)).heap.size := by simp
      exact (Below.heap_alloc _ _ _ (by simp)).trans (by rw [e]; exact World.alloc_heap_new _ _)
  have hA : BkAt V0 (w.heap.size + 3) a c opts := ⟨by rw [hV0, World.cell?_alloc_at _ _ _ _ (by simp)]; rfl, HO.out.grow hBV⟩
  rw [← hV0]
  clear hV0
  refine (wpIn_wide (n := 9)).1 ?_
  refine wpIn_rangeA rfl (enters_of Try.func43 (by kernel_rfl) rfl) (back9 opts (w.heap.size + 3) a c V0 hl hA) (Below.refl _ _) (fun _ => rfl)
    (fun pre V => ((∃ j, pre = dn opts.length j ∧ lstO opts nm (opts.length - j) = lstO opts nm opts.length) ∧ L3 V w.heap.size nm) ∧ Below w.heap.size w V)
    (fun c pre V => (c = .ret ∧ ∃ v, lstO opts nm opts.length = some v ∧ V.cell? ⟨w.heap.size + 1, 0, none⟩ = some (.string ⟨v.toArray⟩) ∧ V.cell? ⟨w.heap.size + 2, 0, none⟩ = some (.bool true)) ∧ Below w.heap.size w V)
    (AbidesB.and (AbidesB.and (abidesB_pure _ _) (fun _ _ _ _ hs hg hr => hs.grow hg (by omega) hr)) (abidesB_below (Nat.le_refl _) (by omega)))
    (fun c => AbidesB.and (fun s X Y row hs hg hr => (by obtain ⟨h1, v, h2, h3, h4⟩ := hs; exact ⟨h1, v, h2, hg.cell h3 (fun e => by have := hr _ e.symm; have h9 : V0.heap.size ≤ w.heap.size + 1 := this; omega), hg.cell h4 (fun e => by have := hr _ e.symm; have h9 : V0.heap.size ≤ w.heap.size + 2 := this; omega)⟩)) (abidesB_below (Nat.le_refl _) (by omega)))
    ⟨⟨⟨0, rfl, rfl⟩, hL0⟩, hBV⟩ ?round ?done ?stop
  case round =>
    rintro l' pre x V hl' hl2 ⟨⟨⟨j, rfl, hj⟩, hL⟩, hBw⟩ hpre
    obtain ⟨hjl, hx⟩ := dn_at hpre
    have hxl : x < opts.length := by omega
    have hst := lst_step opts nm x hxl
    rw [show x + 1 = opts.length - j by omega, hj] at hst
    have hpj : dn opts.length j ++ [x] = dn opts.length (j + 1) := by rw [dn_succ, hx]
    have HP : Hid (dn opts.length j ++ [x] = dn opts.length (j + 1) ∧ opts.length - (j + 1) = x) := ⟨hpj, by omega⟩
    unfold encO
    rw [List.getElem?_eq_getElem hxl, Option.getD_some]
    generalize opts[x] = p at *
    obtain ⟨p1, p2⟩ := p
    dsimp only at hst ⊢
    have HT : Hid (lstO opts nm opts.length = if p1 = nm then some p2 else lstO opts nm x) := hst
    have HL : Hid (L3 V w.heap.size nm) := hL
    have HB : Hid (Below w.heap.size w V) := hBw
    clear hst hL hBw hpj hpre hx hj
    have hz := zvO
    gi_wp2
    have hBA : Below V.heap.size V (V.alloc (.cells #[.string ⟨p1.toArray⟩, .string ⟨p2.toArray⟩] 67)) := (Below.refl _ V).alloc (Nat.le_refl _) _
    refine ⟨(KO.of_below hBA).from _, KC.of_below hBA, fun W2 hg2 => ?_⟩
    have d0 : W2.cell? ⟨V.heap.size, 0, none⟩ = some (.string ⟨p1.toArray⟩) := hg2.cell (World.cell?_alloc_at _ _ _ _ rfl) (fun e => by have h1 : V.heap.size = l' := Option.some.inj e; omega)
    have d1 : W2.cell? ⟨V.heap.size, 1, none⟩ = some (.string ⟨p2.toArray⟩) := hg2.cell (World.cell?_alloc_at _ _ _ _ rfl) (fun e => by have h1 : V.heap.size = l' := Option.some.inj e; omega)
    have hL2 : L3 W2 w.heap.size nm := (HL.out.grow (World.grownBy_alloc V _ none) (B := V0.heap.size) (by omega) (fun _ e => by cases e)).grow hg2 (B := V0.heap.size) (by omega) (fun r e => by cases e; exact hl')
    have HB2 : Hid (Below w.heap.size w W2) := (HB.out.trans (hBA.mono HB.out.size)).grown hg2 (by have := HB.out.size; simp; omega) (fun k e => by cases e; omega)
    have HL2 : Hid (L3 W2 w.heap.size nm) := hL2
    obtain ⟨n0, n1, f1, m2, f2, x1, x2, xh, xz⟩ := hL2.two ⟨p2.toArray⟩ true
    have HX := (show Hid _ from And.intro x1 (And.intro x2 (And.intro xh xz)))
    clear hBA hg2 hL2 x1 x2 xh xz
    by_cases he : p1 = nm
    · have he' : (p1 == nm) = true := by simpa using he
      have HE : Hid (lstO opts nm opts.length = some p2) := by show _ = _; rw [HT.out, if_pos he]
      clear he
      gi_wp2
      refine ⟨⟨by rw [HX.out.2.2.2]; exact Nat.le_refl _, fun k o hk ho hc => (HX.out.2.2.1 k (by omega) (by omega)).trans ho⟩, ⟨rfl, p2, HE.out, HX.out.1, HX.out.2.1⟩, ?_⟩
      exact (HB2.out.setCell (p := ⟨w.heap.size + 1, 0, none⟩) (by show _ ≤ w.heap.size + 1; omega) _).setCell (p := ⟨w.heap.size + 1 + 1, 0, none⟩) (by show _ ≤ w.heap.size + 1 + 1; omega) _
    · have he' : (p1 == nm) = false := by simpa using he
      have HE : Hid (lstO opts nm x = lstO opts nm opts.length) := by show _ = _; rw [HT.out, if_neg he]
      clear he
      gi_wp2
      exact ⟨(KO.of_below (Below.refl _ _)).from _, KC.refl _ _, ⟨⟨j + 1, HP.out.1, by rw [HP.out.2]; exact HE.out⟩, HL2.out⟩, HB2.out⟩
  case done =>
    rintro DD V hDD ⟨⟨⟨j, hj, hE⟩, hL⟩, hB⟩ hK
    have := congrArg List.length hj
    rw [dn_len, dn_len] at this
    rw [← this, Nat.sub_self] at hE
    have HE : Hid (lstO opts nm opts.length = none) := hE.symm
    obtain ⟨n0, n1, f1, m2, f2, x1, x2, xh, xz⟩ := hL.two ⟨#[]⟩ false
    have HX := (show Hid _ from And.intro x1 (And.intro x2 ((xh DD (by omega) (by omega)).trans hK)))
    have HB : Hid (Below w.heap.size w V) := hB
    clear hL hB hK hE x1 x2 xh xz this hj
    go_wp2
    refine ⟨by simp, .inl ⟨_, _, rfl, run_takeDeferred HX.out.2.2, ?_⟩⟩
    refine ⟨_, results_cells9 rfl _ _ ⟨w.heap.size + 1, 0, none⟩ ⟨w.heap.size + 2, 0, none⟩ _ _ rfl rfl (loadS ((cell_put (by omega) _ _).trans HX.out.1)) (loadB ((cell_put (by omega) _ _).trans HX.out.2.1)), by rw [HE.out]; rfl, below_put ?_ (Nat.le_refl _) (by omega) _⟩
    exact (HB.out.setCell (p := ⟨w.heap.size + 1, 0, none⟩) (by show _ ≤ w.heap.size + 1; omega) _).setCell (p := ⟨w.heap.size + 1 + 1, 0, none⟩) (by show _ ≤ w.heap.size + 1 + 1; omega) _
  case stop =>
    rintro DD cc pre V hDD hpre ⟨⟨rfl, v, h2, h3, h4⟩, hB⟩ hK
    gi_wp2
    refine ⟨by simp, .inl ⟨_, _, rfl, run_takeDeferred hK, ?_⟩⟩
    refine ⟨_, results_cells9 rfl _ _ ⟨w.heap.size + 1, 0, none⟩ ⟨w.heap.size + 2, 0, none⟩ _ _ rfl rfl (loadS ((cell_put (by omega) _ _).trans h3)) (loadB ((cell_put (by omega) _ _).trans h4)), by rw [h2]; rfl, below_put hB (Nat.le_refl _) (by omega) _⟩
end Go.Proofs.Ytgbkgfmljcfhoaa
