/- The walk of the program's Winner. Conditions: the options' cells are as said; lengths that fit. -/
import Derived.Test.YtgbkgfmljcfhoaaGf4
namespace Go.Proofs.Ytgbkgfmljcfhoaa
open Go.RowKit Go.Shelf
attribute [local go_sem] ext_eq app_eq get_eq Oper.semAt_some
theorem oneIn_one (names : List UInt8) (b : UInt8) : oneIn names [b] = names.contains b := by
  unfold oneIn
  rw [Bool.eq_iff_iff]
  simp
theorem zvT (w : World) : (zeroValue 72).run Try.prog w = .ok (.agg (Array.replicate 256 (.bool false))) w := by kernel_rfl
theorem tabCells : (Value.agg (Array.replicate 256 (.bool false))).cells = Array.replicate 256 (.bool false) := by kernel_rfl
/-- A table of bytes: which of them are among these. -/
def Tab9 (V : World) (s : Nat) (ns : List UInt8) : Prop := ∃ arr : Array Value, V.heap[s]? = some (.cells arr 72 (0, 0)) ∧ ∀ b : UInt8, arr[b.toNat]? = some (.bool (ns.contains b))
theorem Tab9.cell {V : World} {s : Nat} {ns : List UInt8} (h : Tab9 V s ns) (b : UInt8) : V.cell? ⟨s, b.toNat, none⟩ = some (.bool (ns.contains b)) ∧ V.frozen? ⟨s, b.toNat, none⟩ = false := by
  obtain ⟨arr, h1, h2⟩ := h
  exact ⟨by rw [cell_of_row _ _ _ _ _ _ h1]; exact h2 b, by simp [World.frozen?, h1]⟩
theorem Tab9.set {V : World} {s : Nat} {ns : List UInt8} (h : Tab9 V s ns) (b : UInt8) : Tab9 (V.setCell ⟨s, b.toNat, none⟩ (.bool true)) s (ns ++ [b]) := by
  obtain ⟨arr, h1, h2⟩ := h
  refine ⟨arr.setIfInBounds b.toNat (.bool true), by unfold World.setCell; simp [Array.getElem?_modify, h1], fun d => ?_⟩
  rw [Array.getElem?_setIfInBounds]
  by_cases e : b = d
  · subst e
    have := h2 b
    have hlt : b.toNat < arr.size := (Array.getElem?_eq_some_iff.1 this).1
    simp [hlt]
  · have e' : ¬ b.toNat = d.toNat := fun h => e (UInt8.toNat_inj.1 h)
    rw [if_neg e', h2 d]
    simp [Ne.symm e]
theorem Tab9.grow {V W : World} {s B : Nat} {ns : List UInt8} {row : Option Nat} (h : Tab9 V s ns) (hg : V.grownBy W row) (hs : s < B) (hr : ∀ r, row = some r → B ≤ r) : Tab9 W s ns := by
  obtain ⟨arr, h1, h2⟩ := h
  exact ⟨arr, (hg.block s (Array.getElem?_eq_some_iff.1 h1).1 (fun e => by have := hr s e.symm; omega)).trans h1, h2⟩
theorem results_cellS9 {P : Program} {fn : Func} {p : Tmp} {ty : TypeId} (h : fn.results = #[.cell p ty]) (tmps : Array Value) (w : World) (a : Addr) (v : Value) (ha : tmps.getD p undef = .pointer (some a)) (hl : (loadVar ty a).run P w = .ok v w) :
    (results fn tmps).run P w = .ok v w := by
  have e : (results fn tmps).run P w = ((asAddr (tmps.getD p undef)).run P w).andThen fun a w₁ => (loadVar ty a).run P w₁ := by
    simp only [results, h]
    simp [Sem.run_bind, Result.andThen]
  rw [e, ha]
  exact hl
theorem set_one {V : World} {s : Nat} (h : V.heap[s]? = some (.cells #[.string ⟨#[]⟩] 9 (0, 0))) (x : ByteArray) :
    V.cell? ⟨s, 0, none⟩ = some (.string ⟨#[]⟩) ∧ V.frozen? ⟨s, 0, none⟩ = false ∧ (V.setCell ⟨s, 0, none⟩ (.string x)).cell? ⟨s, 0, none⟩ = some (.string x) ∧ (∀ k, k ≠ s → (V.setCell ⟨s, 0, none⟩ (.string x)).heap[k]? = V.heap[k]?) ∧ (V.setCell ⟨s, 0, none⟩ (.string x)).heap.size = V.heap.size := by
  have c1 : V.cell? ⟨s, 0, none⟩ = some (.string ⟨#[]⟩) := by rw [cell_of_row _ _ 0 _ _ _ h]; rfl
  exact ⟨c1, by simp [World.frozen?, h], World.cell?_setCell_same _ _ _ c1, fun k h1 => Below.heap_setCell _ _ _ _ h1, by simp [World.setCell]⟩
set_option maxRecDepth 100000 in
set_option maxHeartbeats 600000 in
theorem gWinner (opts : List Ga.Opt) (names : List UInt8) (a : Option Addr) (c : Nat) (w : World) (hO : Opts w a opts) (hl : opts.length < 2 ^ 63) (hn : names.length < 2 ^ 63) :
    Calls Try.prog 20 #[.slice a opts.length c, .string ⟨names.toArray⟩] w fun e w' => e = .returned (.string ⟨(winO opts names opts.length).toArray⟩) ∧ Below w.heap.size w w' := by
  have HO : Hid (Opts w a opts) := hO
  clear hO
  refine (callsIn_wide (n := 9)).1 ?_
  refine callsIn_of_wp_marks Try.func20 rfl trivial ?_ rfl
  simp only [Try.ntmps20, List.size_toArray, List.length_cons, List.length_nil, Nat.reduceAdd, Nat.reduceSub, Array.replicate_succ, Array.replicate_zero, List.push_toArray, List.append_toArray, List.nil_append, List.cons_append]
  refine wpIn_wide.2 ?_
  have hz := zvT
  have htc := tabCells
  have hT0 : Tab9 ((w.alloc (.cells #[.string ⟨#[]⟩] 9)).alloc (.cells (Array.replicate 256 (.bool false)) 72)) (w.heap.size + 1) [] := by
    refine ⟨Array.replicate 256 (.bool false), ?_, fun b => ?_⟩
    · have e : w.heap.size + 1 = (w.alloc (.cells #[.string ⟨#[]⟩] 9)).heap.size := by simp
      rw [e]; exact World.alloc_heap_new _ _
    · have := b.toNat_lt
      rw [Array.getElem?_replicate, if_pos (by simpa using this)]; rfl
  have HT0 : Hid (Tab9 ((w.alloc (.cells #[.string ⟨#[]⟩] 9)).alloc (.cells (Array.replicate 256 (.bool false)) 72)) (w.heap.size + 1) []) := hT0
  have HS0 : Hid (((w.alloc (.cells #[.string ⟨#[]⟩] 9)).alloc (.cells (Array.replicate 256 (.bool false)) 72)).heap[w.heap.size]? = some (.cells #[.string ⟨#[]⟩] 9 (0, 0))) := (Below.heap_alloc _ _ _ (by simp)).trans (World.alloc_heap_new w _)
  have HB0 : Hid (Below w.heap.size w ((w.alloc (.cells #[.string ⟨#[]⟩] 9)).alloc (.cells (Array.replicate 256 (.bool false)) 72))) := ((Below.refl w.heap.size w).alloc (Nat.le_refl _) _).alloc (by simp) _
  clear hT0
  generalize hRep : Array.replicate 256 (Value.bool false) = rep at *
  go_wp2
  have hsz0 : ((w.alloc (.cells #[.string ⟨#[]⟩] 9)).alloc (.cells rep 72)).heap.size = w.heap.size + 2 := by simp
  clear hz htc hRep
  generalize (w.alloc (.cells #[.string ⟨#[]⟩] 9)).alloc (.cells rep 72) = W0 at *
  go_loopw [11] (fun i V => ∃ k : Nat, k ≤ names.length ∧ i = .int .i64 k ∧ V.heap.size = w.heap.size + 2 ∧ Hid (Tab9 V (w.heap.size + 1) (names.take k)) ∧ Hid (V.heap[w.heap.size]? = some (.cells #[.string ⟨#[]⟩] 9 (0, 0))) ∧ Hid (Below w.heap.size w V)) (fun i _ => names.length - (intOf i).toNat)
  case atStart => exact ⟨0, Nat.zero_le _, rfl, hsz0, HT0, HS0, HB0⟩
  case round =>
    obtain ⟨k, hk, rfl, hsz, HT, HS, HB⟩ := hrel
    by_cases hlt : k < names.length
    · obtain ⟨t0, f0⟩ := HT.out.cell names[k]
      have hb8 := names[k].toNat_lt
      have HN : Hid (names.take (k + 1) = names.take k ++ [names[k]]) := List.take_succ_eq_append_getElem hlt
      go_wp2
      exact ⟨⟨k + 1, by omega, by go_num, by simp [World.setCell, hsz], by show Tab9 _ _ _; rw [HN.out]; exact HT.out.set _, (Below.heap_setCell _ _ _ _ (by show w.heap.size ≠ w.heap.size + 1; omega)).trans HS.out, HB.out.setCell (p := ⟨w.heap.size + 1, _, none⟩) (by show _ ≤ w.heap.size + 1; omega) _⟩, by simp [intOf]; omega⟩
    · have hT' := HT.out
      rw [List.take_of_length_le (by omega)] at hT'
      have HT' : Hid (Tab9 wr (w.heap.size + 1) names) := hT'
      clear hT' HT HT0 HS0 HB0 hsz0
      go_wp2_with (go_at_call 33; refine (backward9 a opts.length c _).mono ?_; rintro e w1 ⟨rfl, rfl⟩)
      obtain ⟨V0, hV0⟩ : ∃ V0, V0 = wr.alloc (.cells #[.slice a opts.length c] 23) := ⟨_, rfl⟩
      have hsz1 : V0.heap.size = w.heap.size + 3 := by rw [hV0]; simp [hsz]
      have hBV : Below w.heap.size w V0 := by rw [hV0]; exact HB.out.alloc (by omega) _
      have hG : wr.grownBy V0 none := by rw [hV0]; exact World.grownBy_alloc wr _ none
      have hTV : Tab9 V0 (w.heap.size + 1) names := HT'.out.grow (B := w.heap.size + 2) hG (by omega) (fun _ e => by cases e)
      have hSV : V0.heap[w.heap.size]? = some (.cells #[.string ⟨#[]⟩] 9 (0, 0)) := by rw [hV0]; exact (Below.heap_alloc _ _ _ (by omega)).trans HS.out
      have hA : BkAt V0 (w.heap.size + 2) a c opts := ⟨by rw [hV0, World.cell?_alloc_at _ _ _ _ (by simp [hsz])]; rfl, HO.out.grow hBV⟩
      rw [← hV0]
      clear hV0 hG
      have hw1 : w.heap.size + 1 < V0.heap.size := by omega
      have hw0 : w.heap.size < V0.heap.size := by omega
      have hI9 : AbidesB V0.heap.size (fun (pre : List Nat) V => ((∃ j, pre = dn opts.length j ∧ winO opts names (opts.length - j) = winO opts names opts.length) ∧ Tab9 V (w.heap.size + 1) names ∧ V.heap[w.heap.size]? = some (.cells #[.string ⟨#[]⟩] 9 (0, 0))) ∧ Below w.heap.size w V) := fun s X Y row hs hg hr =>
        ⟨⟨hs.1.1, Tab9.grow hs.1.2.1 hg hw1 hr, abidesB_block (β := List Nat) hw0 s X Y row hs.1.2.2 hg hr⟩, abidesB_below (β := List Nat) (Nat.le_refl _) (Nat.le_of_lt hw0) s X Y row hs.2 hg hr⟩
      refine (wpIn_wide (n := 9)).1 ?_
      refine wpIn_rangeA rfl (enters_of Try.func43 (by kernel_rfl) rfl) (back9 opts (w.heap.size + 2) a c V0 hl hA) (Below.refl _ _) (fun _ => rfl)
        (fun pre V => ((∃ j, pre = dn opts.length j ∧ winO opts names (opts.length - j) = winO opts names opts.length) ∧ Tab9 V (w.heap.size + 1) names ∧ V.heap[w.heap.size]? = some (.cells #[.string ⟨#[]⟩] 9 (0, 0))) ∧ Below w.heap.size w V)
        (fun c _ V => (c = .ret ∧ V.cell? ⟨w.heap.size, 0, none⟩ = some (.string ⟨(winO opts names opts.length).toArray⟩)) ∧ Below w.heap.size w V)
        hI9
        (fun c => AbidesB.and (fun s X Y row hs hg hr => (by obtain ⟨h1, h3⟩ := hs; exact ⟨h1, hg.cell h3 (fun e => by have := hr _ e.symm; have h9 : V0.heap.size ≤ w.heap.size := this; omega)⟩)) (abidesB_below (Nat.le_refl _) (by omega)))
        ⟨⟨⟨0, rfl, rfl⟩, hTV, hSV⟩, hBV⟩ ?round ?done ?stop
      case round =>
        rintro l' pre x V hl' hl2 ⟨⟨⟨j, rfl, hj⟩, hTb, hSb⟩, hBw⟩ hpre
        obtain ⟨hjl, hx⟩ := dn_at hpre
        have hxl : x < opts.length := by omega
        have hst := win_step opts names x hxl
        rw [show x + 1 = opts.length - j by omega, hj] at hst
        have hpj : dn opts.length j ++ [x] = dn opts.length (j + 1) := by rw [dn_succ, hx]
        have HP : Hid (dn opts.length j ++ [x] = dn opts.length (j + 1) ∧ opts.length - (j + 1) = x) := ⟨hpj, by omega⟩
        unfold encO
        rw [List.getElem?_eq_getElem hxl, Option.getD_some]
        generalize opts[x] = p at *
        obtain ⟨p1, p2⟩ := p
        dsimp only at hst ⊢
        have HT2 : Hid (winO opts names opts.length = if oneIn names p1 = true then p1 else winO opts names x) := hst
        have HTb : Hid (Tab9 V (w.heap.size + 1) names) := hTb
        have HSb : Hid (V.heap[w.heap.size]? = some (.cells #[.string ⟨#[]⟩] 9 (0, 0))) := hSb
        have HBb : Hid (Below w.heap.size w V) := hBw
        clear hst hTb hSb hBw hpj hpre hx hj hTV hSV hBV hA
        have hz := zvO
        gi_wp2
        have hBA : Below V.heap.size V (V.alloc (.cells #[.string ⟨p1.toArray⟩, .string ⟨p2.toArray⟩] 67)) := (Below.refl _ V).alloc (Nat.le_refl _) _
        refine ⟨(KO.of_below hBA).from _, KC.of_below hBA, fun W2 hg2 => ?_⟩
        have d0 : W2.cell? ⟨V.heap.size, 0, none⟩ = some (.string ⟨p1.toArray⟩) := hg2.cell (World.cell?_alloc_at _ _ _ _ rfl) (fun e => by have h1 : V.heap.size = l' := Option.some.inj e; omega)
        have hTW : Tab9 W2 (w.heap.size + 1) names := (HTb.out.grow (B := V0.heap.size) (World.grownBy_alloc V _ none) (by omega) (fun _ e => by cases e)).grow hg2 (B := V0.heap.size) (by omega) (fun r e => by cases e; exact hl')
        have hSW : W2.heap[w.heap.size]? = some (.cells #[.string ⟨#[]⟩] 9 (0, 0)) := by
          have h1 := (hBA.block _ (Array.getElem?_eq_some_iff.1 HSb.out).1).trans HSb.out
          exact (hg2.block _ (Array.getElem?_eq_some_iff.1 h1).1 (fun e => by cases e; omega)).trans h1
        have HB2 : Hid (Below w.heap.size w W2) := (HBb.out.trans (hBA.mono HBb.out.size)).grown hg2 (by have := HBb.out.size; simp; omega) (fun k e => by cases e; omega)
        have HTW : Hid (Tab9 W2 (w.heap.size + 1) names) := hTW
        have HSW : Hid (W2.heap[w.heap.size]? = some (.cells #[.string ⟨#[]⟩] 9 (0, 0))) := hSW
        obtain ⟨n1, f1, x1, xh, xz⟩ := set_one hSW ⟨p1.toArray⟩
        have HX := (show Hid _ from And.intro x1 (And.intro xh xz))
        clear hBA hg2 hSW x1 xh xz
        cases p1 with
        | nil =>
          have HE : Hid (winO opts names x = winO opts names opts.length) := by show _ = _; rw [HT2.out, if_neg (by simp [oneIn])]
          clear hTW
          gi_wp2
          exact ⟨(KO.of_below (Below.refl _ _)).from _, KC.refl _ _, ⟨⟨j + 1, HP.out.1, by rw [HP.out.2]; exact HE.out⟩, HTW.out, HSW.out⟩, HB2.out⟩
        | cons b r =>
          cases r with
          | cons b2 r2 =>
            have HE : Hid (winO opts names x = winO opts names opts.length) := by show _ = _; rw [HT2.out, if_neg (by simp [oneIn])]
            clear hTW
            gi_wp2
            exact ⟨(KO.of_below (Below.refl _ _)).from _, KC.refl _ _, ⟨⟨j + 1, HP.out.1, by rw [HP.out.2]; exact HE.out⟩, HTW.out, HSW.out⟩, HB2.out⟩
          | nil =>
            obtain ⟨t0, f0⟩ := hTW.cell b
            have hb8 := b.toNat_lt
            clear hTW
            cases hcb : names.contains b with
            | true =>
              rw [hcb] at t0
              have HE : Hid (winO opts names opts.length = [b]) := by show _ = _; rw [HT2.out, if_pos (by rw [oneIn_one, hcb])]
              clear hcb
              gi_wp2
              refine ⟨⟨by rw [HX.out.2.2]; exact Nat.le_refl _, fun k o hk ho hc => (HX.out.2.1 k (by omega)).trans ho⟩, ⟨rfl, by rw [HE.out]; exact HX.out.1⟩, ?_⟩
              exact HB2.out.setCell (p := ⟨w.heap.size, 0, none⟩) (Nat.le_refl _) _
            | false =>
              rw [hcb] at t0
              have HE : Hid (winO opts names x = winO opts names opts.length) := by show _ = _; rw [HT2.out, if_neg (by rw [oneIn_one, hcb]; simp)]
              clear hcb
              gi_wp2
              exact ⟨(KO.of_below (Below.refl _ _)).from _, KC.refl _ _, ⟨⟨j + 1, HP.out.1, by rw [HP.out.2]; exact HE.out⟩, HTW.out, HSW.out⟩, HB2.out⟩
      case done =>
        rintro DD V hDD ⟨⟨⟨j, hj, hE⟩, _, hSb⟩, hB⟩ hK
        have := congrArg List.length hj
        rw [dn_len, dn_len] at this
        rw [← this, Nat.sub_self] at hE
        have HE : Hid (winO opts names opts.length = []) := hE.symm
        obtain ⟨n1, f1, x1, xh, xz⟩ := set_one hSb ⟨#[]⟩
        have HX := (show Hid _ from And.intro x1 ((xh DD (by omega)).trans hK))
        have HB9 : Hid (Below w.heap.size w V) := hB
        clear hSb hB hK hE x1 xh xz this hj
        go_wp2
        refine ⟨by simp, .inl ⟨_, _, rfl, run_takeDeferred HX.out.2, ?_⟩⟩
        refine ⟨_, results_cellS9 rfl _ _ ⟨w.heap.size, 0, none⟩ _ rfl (loadS ((cell_put (by omega) _ _).trans HX.out.1)), by rw [HE.out], below_put ?_ (Nat.le_refl _) (by omega) _⟩
        exact HB9.out.setCell (p := ⟨w.heap.size, 0, none⟩) (Nat.le_refl _) _
      case stop =>
        rintro DD cc pre V hDD hpre ⟨⟨rfl, h3⟩, hB⟩ hK
        gi_wp2
        refine ⟨by simp, .inl ⟨_, _, rfl, run_takeDeferred hK, ?_⟩⟩
        exact ⟨_, results_cellS9 rfl _ _ ⟨w.heap.size, 0, none⟩ _ rfl (loadS ((cell_put (by omega) _ _).trans h3)), rfl, below_put hB (Nat.le_refl _) (by omega) _⟩
end Go.Proofs.Ytgbkgfmljcfhoaa
