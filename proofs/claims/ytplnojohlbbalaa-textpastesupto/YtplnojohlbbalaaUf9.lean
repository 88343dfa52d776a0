/- The program's slices.DeleteFunc of columns. Condition: lengths that fit. -/
import Derived.Test.YtplnojohlbbalaaUf8
namespace Go.Proofs.Ytplnojohlbbalaa
open Go.RowKit
attribute [local go_sem] ext_eq app_eq get_eq
theorem gb_trans {w1 w2 w3 : World} {r : Option Nat} (h1 : w1.grownBy w2 r) (h2 : w2.grownBy w3 r) : w1.grownBy w3 r :=
  ⟨h2.os.trans h1.os, h2.tape.trans h1.tape, h2.output.trans h1.output, Nat.le_trans h1.size h2.size, fun k hk hr => (h2.block k (Nat.lt_of_lt_of_le hk h1.size) hr).trans (h1.block k hk hr)⟩
theorem gb_refl (w : World) (r : Option Nat) : w.grownBy w r := ⟨rfl, rfl, rfl, Nat.le_refl _, fun _ _ _ => rfl⟩
theorem gb_set (w : World) (g j : Nat) (u : Value) : w.grownBy (w.setCell ⟨g, j, none⟩ u) (some g) :=
  ⟨rfl, rfl, rfl, by simp, fun k _ hk => heap_setCell_other w ⟨g, j, none⟩ k u (fun e => hk (by simp [e]))⟩
theorem gb_sets (g : Nat) : ∀ (us : List Value) (o : Nat) (w : World), w.grownBy (w.setCells g o us) (some g)
  | [], _, w => gb_refl w _
  | u :: us, o, w => gb_trans (gb_set w g o u) (gb_sets g us (o + 1) _)
theorem zeroC (w : World) : (zeroValue 23).run Try.prog w = .ok (.slice none 0 0) w := by
  obtain ⟨i, hi, hz, _⟩ := infoC
  simp [zeroValue, typeInfo, go_sem, hi, hz]
set_option maxRecDepth 100000 in
set_option maxHeartbeats 4000000 in
theorem oDelete (C : List (List (List UInt8))) (N gp : Nat) (v : Value) (B : Nat) (hC : C.length ≤ 1048577) (w0 w : World) (hP : PC w0 B w v C) (hg : w.cell? ⟨gp, 0, none⟩ = some (.int .i64 N)) (hne : v.ownBlock ≠ some gp) : Calls Try.prog 27 #[v, .func (.func 28) #[] #[.pointer (some ⟨gp, 0, none⟩)]] w fun e w' => ∃ v', e = .returned v' ∧ PC w0 B w' v' (Tl.mo N C) ∧ w.grownBy w' v.ownBlock ∧ v'.ownBlock = v.ownBlock := by
  obtain ⟨a, c, rfl⟩ := hP.slice
  have HI := hidA (oIndexFunc C N gp a c hC w0 w hP.cq hg)
  have hfl := Tl.fi_le N C
  by_cases hf : Tl.fi N C = C.length
  · have HP := hidA hP
    have HM := hidA (Tl.mo_all N C hf)
    rw [Tl.fr_no hf] at HI
    clear hP hg hne hf hfl
    go_enter Try.func27, Try.ntmps27
    go_wp2_with (go_at_call 43; (with_reducible refine HI.out.mono ?_); rintro e w1 ⟨rfl, hw1⟩; rw [hw1]; clear hw1 w1)
    go_ret
    exact ⟨_, rfl, by rw [HM.out]; exact HP.out, gb_refl _ _, rfl⟩
  · have hfC : Tl.fi N C < C.length := by omega
    obtain ⟨g, rfl⟩ : ∃ g, a = some ⟨g, 0, none⟩ := by
      obtain ⟨g, _, _, e, _⟩ := hP.cq 0 (by omega)
      exact ⟨g, e⟩
    rw [Tl.fr_yes hfC] at HI
    have hgp : gp ≠ g := fun e => hne (by rw [e]; rfl)
    have hgs : gp < w.heap.size := block_lt_of_cell hg
    have hD0 := hP.dl N (Tl.fi N C) (Nat.le_refl _)
    have hdel : C[Tl.fi N C].length ≤ N := by
      rcases Nat.lt_or_ge N (C[Tl.fi N C].length) with h | h
      · have := Tl.fi_miss N C (Tl.fi N C) hfC (Nat.le_refl _) (by omega)
        omega
      · exact h
    have HD1 := hidA (hD0.skip hfC hdel)
    have hl1 : (Tl.mo N (C.take (Tl.fi N C + 1))).length = Tl.fi N C := by
      rw [Tl.mo_no hfC hdel, Tl.mo_pre N C _ (Nat.le_refl _), List.length_take]; omega
    have HL1 := hidA hl1
    have hw1 : IntKind.i64.wrap ((Tl.fi N C : Int) + 1) = ((Tl.fi N C + 1 : Nat) : Int) := by rw [IntKind.wrap_i64]; omega
    have HG := hidA hg
    have hfn : ¬ ((Tl.fi N C : Nat) : Int) = -1 := by omega
    have hfb : (((Tl.fi N C : Nat) : Int) == -1) = false := beq_eq_false_iff_ne.2 hfn
    clear hP hg hne hD0 hdel hl1 hf hfl
    generalize hfi : Tl.fi N C = f at *
    clear hfi
    go_enter Try.func27, Try.ntmps27
    go_upto_region 5 with (go_at_call 43; (with_reducible refine HI.out.mono ?_); rintro e w1 ⟨rfl, hw1⟩; rw [hw1]; clear hw1 w1)
    go_loopw [5, 6] (fun s5 s6 W => ∃ (j : Nat), s6 = .int .i64 j ∧ s5 = .int .i64 ((Tl.mo N (C.take j)).length : Nat) ∧ j ≤ C.length ∧ (Tl.mo N (C.take j)).length < j ∧ Hid (Dl w0 B W g c C N j) ∧ Hid (w.grownBy W (some g))) (fun _ s6 _ => C.length - (intOf s6).toNat)
    case atStart => exact ⟨f + 1, by first | rfl | go_num, by rw [HL1.out], hfC, by rw [HL1.out]; omega, HD1, hidA (gb_refl _ _)⟩
    case round =>
      obtain ⟨j, rfl, rfl, hj, hij, HD, HGb⟩ := hrel
      clear HD1 HI
      have hgw := HGb.out.cell HG.out (fun e => hgp (by injection e))
      by_cases hlt : j < C.length
      · obtain ⟨hgB, hgsz, hcap, a1, c1, hc, hall, hfr⟩ := HD.out.cell hlt
        have hwj : IntKind.i64.wrap ((j : Int) + 1) = ((j + 1 : Nat) : Int) := by rw [IntKind.wrap_i64]; omega
        have HDl := hidA (oDel a1 C[j].length c1 gp N wr hgw)
        by_cases hm : C[j].length ≤ N
        · have HD2 := hidA (HD.out.skip hlt hm)
          have hme := Tl.mo_no hlt hm
          have HMe := hidA hme
          rw [decide_eq_true hm] at HDl
          clear hall hfr hm HD hme
          generalize C[j].length = m at *
          go_wp2_with (go_at_call 28; (with_reducible refine HDl.out.mono ?_); rintro e w1 ⟨rfl, hw9⟩; rw [hw9]; clear hw9 w1)
          exact ⟨⟨j + 1, by first | rfl | go_num, by rw [HMe.out], hlt, by rw [HMe.out]; omega, HD2, HGb⟩, by simp [intOf]; omega⟩
        · have HD2 := hidA (HD.out.keep hlt hm hc)
          have hme := Tl.mo_yes hlt hm
          have HMl : Hid ((Tl.mo N (C.take (j + 1))).length = (Tl.mo N (C.take j)).length + 1) := by show _ = _; rw [hme, List.length_append]; rfl
          obtain ⟨u, hu⟩ := hall (Tl.mo N (C.take j)).length (by omega)
          have hff := hfr (Tl.mo N (C.take j)).length
          rw [decide_eq_false hm] at HDl
          clear hall hfr hm HD hme
          generalize (Tl.mo N (C.take j)).length = i at *
          have hwi : IntKind.i64.wrap ((i : Int) + 1) = ((i + 1 : Nat) : Int) := by rw [IntKind.wrap_i64]; omega
          have hiC : (i : Int) < (C.length : Int) := by omega
          have HG2 := hidA (gb_trans HGb.out (gb_set wr g i (.slice a1 C[j].length c1)))
          generalize C[j].length = m at *
          go_wp2_with (go_at_call 28; (with_reducible refine HDl.out.mono ?_); rintro e w1 ⟨rfl, hw9⟩; rw [hw9]; clear hw9 w1)
          exact ⟨⟨j + 1, by first | rfl | go_num, (by rw [HMl.out]; first | rfl | (simp; done)), hlt, by rw [HMl.out]; omega, HD2, HG2⟩, by simp [intOf]; omega⟩
      · have ej : j = C.length := by omega
        subst ej
        obtain ⟨hgB, hgsz, hcap, a1, c1, hc, hall, hfr⟩ : B ≤ g ∧ g < wr.heap.size ∧ C.length ≤ c ∧ True ∧ True ∧ True ∧ (∀ i, i < C.length → ∃ u, wr.cell? ⟨g, i, none⟩ = some u) ∧ (∀ i, wr.frozen? ⟨g, i, none⟩ = false) := by
          obtain ⟨vs, h1, h2, h3, h4⟩ := HD.out
          refine ⟨(h1.lt g rfl).1, (h1.lt g rfl).2, ?_, trivial, trivial, trivial, fun i hi => ?_, h1.frozenAt⟩
          · rcases h1.2 with ⟨e, _⟩ | ⟨g', cap', cur, e, _, _, h9, _⟩
            · cases e
            · injection e with _ _ e3
              subst e3; exact h9
          · have := h1.cells (g := g) rfl i (vs[i]'(by omega)) (by simp [h2, hi])
            rw [add0] at this
            exact ⟨_, this⟩
        have HP2 := hidA (HD.out.done)
        rw [List.take_length] at hij ⊢
        have hcl := fun ty => Lib.run_clear_slice (P := Try.prog) wr 47 23 ty (.slice none 0 0) Try.underlying47 zeroC rfl rfl g (Tl.mo N C).length (C.length - (Tl.mo N C).length) (c - (Tl.mo N C).length) (by omega) (fun t ht => by obtain ⟨u, hu⟩ := hall ((Tl.mo N C).length + t) (by omega); rw [hu]; rfl) (fun t _ => hfr _)
        have hs1 := cc_from g hij hcap
        have hs2 := cc_to (some ⟨g, 0, none⟩) (Nat.le_of_lt hij) hcap
        have HG3 := hidA (gb_trans HGb.out (gb_sets g (List.replicate (C.length - (Tl.mo N C).length) (.slice none 0 0)) (Tl.mo N C).length wr))
        clear hall hfr HD
        generalize hF : Tl.mo N C = F at *
        have HF := hidA hF
        clear hF
        generalize List.replicate (C.length - F.length) (Value.slice none 0 0) = us at *
        go_wp2_with fail
        go_ret
        exact ⟨_, rfl, by rw [HF.out]; exact HP2.out us, HG3.out, rfl⟩
end Go.Proofs.Ytplnojohlbbalaa
