/- The walk of the program's bracket. Conditions: a text that fits; the reader lies in memory; the table of names. -/
import Derived.Test.YtncnmeidciailaaDoorLd7
namespace Go.Proofs.YtncnmeidciailaaDoor
open Go.RowKit
attribute [local go_sem] ext_eq app_eq get_eq
theorem RN.lt {W : World} {rb : Nat} {l : List UInt8} {fl : Int} {sb : Option Nat} {sn : Nat → Bool} (h : RN W rb l fl sb sn) : rb < W.heap.size := by
  obtain ⟨_, h1, _⟩ := h; exact heap_lt h1
theorem CN.md {w W : World} {rb : Nat} {l : List UInt8} {fl : Int} {sb : Option Nat} {sn : Nat → Bool} (h : CN w) (hl : 0 < l.length) (hR : RN w rb l fl sb sn) (hM : Md (sR rb sb) w W) : CN W := by
  have h1 := h 1 (by decide)
  have h0 := h 0 (by decide)
  have hn : ¬ sR rb sb 0 := by
    rintro (e | e)
    · have := hR.cells.2
      rw [← e, h1] at this
      cases this
    · subst e
      obtain ⟨sv, _, arr, cap, _, h5, h6⟩ := hR
      rw [cell_heap h5, h6.2 0 hl] at h0
      cases h0
  intro j hj
  have hj1 := h j hj
  rw [← hj1]
  exact hM.cell (lt_of_cell hj1) hn
set_option maxRecDepth 100000 in
set_option maxHeartbeats 2000000 in
theorem gBracket (l : List UInt8) (fl : Int) (rb : Nat) (sb : Option Nat) (k : Nat) (hk : k < l.length) (hk91 : l[k] = 91) (hl : l.length ≤ 2 ^ 40) (w : World) (h : RS w rb l fl sb k) (hc : CN w) : Calls Tryd.prog 73 #[.pointer (some ⟨rb, 0, none⟩), .int .i64 ((k + 1 : Nat) : Int)] w (BrOut l fl rb sb k w) := by
  have hs : (⟨l.toArray⟩ : ByteArray).size = l.length := str_size l
  have hmf : ∀ (fn : Fn) (first cap : Array Value) (w : World), (Instr.makeFunc fn first cap).run Tryd.prog w = .ok (.func fn first cap) w := fun _ _ _ _ => rfl
  obtain ⟨sn, hR, hL⟩ := h.rn
  obtain ⟨hrb, hsb⟩ := h.lt
  obtain ⟨c0, c1⟩ := h.cells
  have hne : rb ≠ w.heap.size := by omega
  have hw1 : IntKind.i64.wrap (((k + 1 : Nat) : Int) + 1) = ((k + 2 : Nat) : Int) := by rw [IntKind.wrap_i64]; omega
  have HB0 := hidA (BL.zero (l := l) (fl := fl) hR)
  have HL := hidA hL
  have HR := hidA hR
  have HCN := hidA hc
  clear h hR hL hc
  by_cases hk1 : k + 1 < l.length
  · have hk1' : decide (((k + 1 : Nat) : Int) < (l.length : Int)) = true := by simp; omega
    by_cases c33 : l[k + 1] = 33
    · have n33 := byte_yes _ 33 33 rfl c33
      have hdr : l.drop (k + 1) = l[k + 1] :: l.drop (k + 1 + 1) := List.drop_eq_getElem_cons hk1
      have hneg : Gl.neg (l.drop (k + 1)) = true := by rw [hdr]; simp [Gl.neg, c33]
      have hngl : Gl.ngl (l.drop (k + 1)) = 1 := by unfold Gl.ngl; rw [hneg]; rfl
      clear hdr c33
      obtain ⟨F, HF⟩ : ∃ F, Hid (k + 2 = F) := ⟨_, rfl⟩
      have hFk : k < F := by have := HF.out; omega
      have hFl : F ≤ l.length := by have := HF.out; omega
      have HFd : Hid (k + 1 + Gl.ngl (l.drop (k + 1)) = F) := by have := HF.out; show _ = _; rw [hngl]; omega
      have HAt0 := hidA (Gl.At.zero (f := Gl.flOf fl) hFl)
      have HVi0 := hidA (Gl.Vis.zero (Gl.flOf fl) l F sn)
      have HBr := hidA (Gl.bracket_its (Gl.flOf fl) l (k + 1) (by omega))
      rw [HFd.out, hneg, hngl] at HBr
      go_enter Tryd.func73, Tryd.ntmps73
      go_wp2
      generalize hW0 : ((((w.alloc (.cells #[.pointer (some ⟨rb, 0, none⟩)] 97)).alloc (.cells Tryd.zeroCells71 71)).alloc (.cells #[.pointer (some ⟨w.heap.size + 1, 0, none⟩)] 79)).alloc (.cells #[.func (.func 91) #[] #[.pointer (some ⟨w.heap.size, 0, none⟩), .pointer (some ⟨w.heap.size + 1 + 1, 0, none⟩), .pointer (some ⟨w.heap.size + 1 + 1 + 1, 0, none⟩)]] 113)) = W0 at *
      have hFz : (((k + 2 : Nat)) : Int) = (F : Int) := by rw [HF.out]
      have hFy : (k : Int) + 2 = (F : Int) := by have := HF.out; omega
      have hFx : (k : Int) + 1 + 1 = (F : Int) := by have := HF.out; omega
      try simp only [hFx]
      clear hW0 hngl hneg hFz hFy hFx
      go_loopw [1] (fun s1 W' => ∃ (q : Nat) (sb' : Option Nat) (sn' : Nat → Bool) (g : UInt8 → Bool), s1 = .int .i64 q ∧ F ≤ q ∧ q ≤ l.length ∧ Hid (BL w W' l fl rb sb sb' sn' w.heap.size g) ∧ Hid (Gl.At (Gl.flOf fl) l F q g) ∧ Hid (Gl.Vis (Gl.flOf fl) l F q sn sn')) (fun s1 _ => l.length - (intOf s1).toNat)
      case atStart => exact ⟨F, sb, sn, _, rfl, Nat.le_refl _, hFl, HB0, HAt0, HVi0⟩
      case round =>
        obtain ⟨q, sb', sn', g, rfl, hFq, hql, HB, HAt, HVi⟩ := hrel
        obtain ⟨d0, d1⟩ := HB.out.rn.cells
        obtain ⟨d2, d3, d4⟩ := HB.out.ce.cells
        have hrz : rb < wr.heap.size := HB.out.rn.lt
        have hpz : w.heap.size + 1 + 1 + 1 < wr.heap.size := heap_lt HB.out.ce.e2
        clear HAt0 HVi0
        by_cases hlt : q < l.length
        · have HLo := hidA (gLost rb l fl sb' sn' q hlt hl wr HB.out.rn)
          have hlt' : decide ((q : Int) < (l.length : Int)) = true := by simp; omega
          cases hsn : sn' q with
          | true =>
            have HNo : Hid (Gl.its (Gl.flOf fl) false (l.drop q) = none) := by
              rcases HVi.out q hsn with h1 | ⟨_, h2, _⟩
              · exact Gl.seen_none hk hk91 HL.out (by omega) hlt h1
              · omega
            rw [hsn] at HLo
            clear hsn
            go_wp2_with (go_at_call 95; go_loud (refine HLo.out.mono ?_); rintro e w1 ⟨rfl, m1, sb2, n1, r1⟩; (have HB1 := hidA (HB.out.lost m1 n1 r1)); (have hr1 : rb < w1.heap.size := r1.lt); (obtain ⟨e0, e1⟩ := r1.cells); (obtain ⟨e2, e3, e4⟩ := HB1.out.ce.cells); (have hp1 : w.heap.size + 1 + 1 + 1 < w1.heap.size := heap_lt HB1.out.ce.e2); clear m1 n1 r1)
            refine bodyPost_ret (v := .tuple #[.pointer none, .int .i64 0, .bool false]) (by simp [results, Tryd.results73, go_sem]) rfl ?_
            refine ⟨HB1.out.md, sb2, HB1.out.sn, ?_⟩
            rw [HBr.out, HAt.out.none (Gl.none_first hlt HNo.out)]
            exact ⟨rfl, HB1.out.rn.rs (((HVi.out.lost' HFd.out HL.out HNo.out)).upd HNo.out)⟩
          | false =>
            rw [hsn] at HLo
            clear hsn
            have HIp := hidA (Gl.item_pos (Gl.flOf fl) (l.drop q) (by intro e; have := congrArg List.length e; simp at this; omega))
            by_cases h93 : l[q] = 93
            · have b93 := byte_yes _ 93 93 rfl h93
              by_cases hqF : q = F
              · have hqF' : ((q : Int) == (F : Int)) = true := by simp; omega
                have HA2 := hidA (HAt.out.step hlt (.inr hqF))
                have HV2 := hidA (HVi.out.step hFq hlt (.inr hqF))
                clear hqF h93
                go_wp2_with (first | (go_at_call 95; go_loud (refine HLo.out.mono ?_); rintro e w1 ⟨rfl, m1, sb2, n1, r1⟩; (have HB1 := hidA (HB.out.lost m1 n1 r1)); (have hr1 : rb < w1.heap.size := r1.lt); (obtain ⟨e0, e1⟩ := r1.cells); (obtain ⟨e2, e3, e4⟩ := HB1.out.ce.cells); (have hp1 : w.heap.size + 1 + 1 + 1 < w1.heap.size := heap_lt HB1.out.ce.e2); clear m1 n1 r1) | (go_at_call 91; go_loud (refine (gItem l fl w.heap.size (w.heap.size + 1 + 1) (w.heap.size + 1 + 1 + 1) rb (w.heap.size + 1) q g hlt hl w1 HB1.out.ce e0 e1 HB1.out.st (HCN.out.md (by omega) HR.out HB1.out.md)).mono ?_); rintro e w2 ⟨rfl, s2, m2⟩; (have HB2 := hidA (HB1.out.item m2 s2)); clear s2 m2))
                go_roundw
                case rel => exact ⟨q + (Gl.item (Gl.flOf fl) (l.drop q)).2, sb2, updS sn' q, _, rfl, by omega, HA2.out.2.1, HB2, HA2, HV2⟩
                case measure => (have := HIp.out; simp [intOf]; omega)
              · have hqF' : ((q : Int) == (F : Int)) = false := by simp; omega
                have HS3 := hidA (HAt.out.some hlt h93 hqF)
                have hwq : IntKind.i64.wrap ((q : Int) + 1) = ((q + 1 : Nat) : Int) := by rw [IntKind.wrap_i64]; omega
                have HFi := hidA (fun W (h : SetT W (w.heap.size + 1) g) => gFinished (w.heap.size + 1) true fl g W h)
                clear hqF h93
                go_wp2_with (first | (go_at_call 95; go_loud (refine HLo.out.mono ?_); rintro e w1 ⟨rfl, m1, sb2, n1, r1⟩; (have HB1 := hidA (HB.out.lost m1 n1 r1)); (have hr1 : rb < w1.heap.size := r1.lt); (obtain ⟨e0, e1⟩ := r1.cells); (obtain ⟨e2, e3, e4⟩ := HB1.out.ce.cells); (have hp1 : w.heap.size + 1 + 1 + 1 < w1.heap.size := heap_lt HB1.out.ce.e2); clear m1 n1 r1) | (go_region_with (go_at_call 55; refine Calls.mono (HFi.out _ (by exact HB1.out.st)) ?_; rintro e w2 ⟨rfl, s2, m2⟩; (have HB2 := hidA (HB1.out.item (((Md.refl _ w1).drewN 1).trans m2) s2)); clear s2 m2)))
                all_goals
                  refine bodyPost_ret (v := .tuple #[.pointer (some ⟨w.heap.size + 1, 0, none⟩), .int .i64 ((q + 1 : Nat) : Int), .bool true]) (by simp [results, Tryd.results73, go_sem]) rfl ?_
                  refine ⟨HB2.out.md, sb2, HB2.out.sn, ?_⟩
                  rw [HBr.out, HS3.out]
                  have e1 : k + 1 + (1 + (q - F + 1)) = q + 1 := by have := HF.out; omega
                  have e2 : (fun x => g x || false) = g := by funext x; simp
                  show ∃ b, _ = _ ∧ SetT _ b (Gl.fin (Gl.flOf fl) true (fun x => g x || false)) ∧ RS _ rb l fl sb2 (k + 1 + (1 + (q - F + 1)))
                  rw [e1, e2]
                  exact ⟨w.heap.size + 1, rfl, HB2.out.st, HB2.out.rn.rs (HVi.out.done HL.out (by omega))⟩
            · have b93 := byte_no _ 93 93 rfl h93
              have HA2 := hidA (HAt.out.step hlt (.inl h93))
              have HV2 := hidA (HVi.out.step hFq hlt (.inl h93))
              clear h93
              go_wp2_with (first | (go_at_call 95; go_loud (refine HLo.out.mono ?_); rintro e w1 ⟨rfl, m1, sb2, n1, r1⟩; (have HB1 := hidA (HB.out.lost m1 n1 r1)); (have hr1 : rb < w1.heap.size := r1.lt); (obtain ⟨e0, e1⟩ := r1.cells); (obtain ⟨e2, e3, e4⟩ := HB1.out.ce.cells); (have hp1 : w.heap.size + 1 + 1 + 1 < w1.heap.size := heap_lt HB1.out.ce.e2); clear m1 n1 r1) | (go_at_call 91; go_loud (refine (gItem l fl w.heap.size (w.heap.size + 1 + 1) (w.heap.size + 1 + 1 + 1) rb (w.heap.size + 1) q g hlt hl w1 HB1.out.ce e0 e1 HB1.out.st (HCN.out.md (by omega) HR.out HB1.out.md)).mono ?_); rintro e w2 ⟨rfl, s2, m2⟩; (have HB2 := hidA (HB1.out.item m2 s2)); clear s2 m2))
              go_roundw
              case rel => exact ⟨q + (Gl.item (Gl.flOf fl) (l.drop q)).2, sb2, updS sn' q, _, rfl, by omega, HA2.out.2.1, HB2, HA2, HV2⟩
              case measure => (have := HIp.out; simp [intOf]; omega)
        · have hlt' : decide ((q : Int) < (l.length : Int)) = false := by simp; omega
          have hdq : l.drop q = [] := List.drop_eq_nil_of_le (by omega)
          go_wp2
          refine bodyPost_ret (v := .tuple #[.pointer none, .int .i64 0, .bool false]) (by simp [results, Tryd.results73, go_sem]) rfl ?_
          refine ⟨HB.out.md, sb', HB.out.sn, ?_⟩
          rw [HBr.out, HAt.out.none (by rw [hdq]; exact Gl.its_nil _ _)]
          exact ⟨rfl, HB.out.rn.rs (HVi.out.lost' HFd.out HL.out (by rw [hdq]; exact Gl.its_nil _ _))⟩
    have n33 := byte_no _ 33 33 rfl c33
    by_cases c94 : l[k + 1] = 94
    · have n94 := byte_yes _ 94 94 rfl c94
      have hdr : l.drop (k + 1) = l[k + 1] :: l.drop (k + 1 + 1) := List.drop_eq_getElem_cons hk1
      have hneg : Gl.neg (l.drop (k + 1)) = true := by rw [hdr]; simp [Gl.neg, c94]
      have hngl : Gl.ngl (l.drop (k + 1)) = 1 := by unfold Gl.ngl; rw [hneg]; rfl
      clear hdr c94 c33
      obtain ⟨F, HF⟩ : ∃ F, Hid (k + 2 = F) := ⟨_, rfl⟩
      have hFk : k < F := by have := HF.out; omega
      have hFl : F ≤ l.length := by have := HF.out; omega
      have HFd : Hid (k + 1 + Gl.ngl (l.drop (k + 1)) = F) := by have := HF.out; show _ = _; rw [hngl]; omega
      have HAt0 := hidA (Gl.At.zero (f := Gl.flOf fl) hFl)
      have HVi0 := hidA (Gl.Vis.zero (Gl.flOf fl) l F sn)
      have HBr := hidA (Gl.bracket_its (Gl.flOf fl) l (k + 1) (by omega))
      rw [HFd.out, hneg, hngl] at HBr
      go_enter Tryd.func73, Tryd.ntmps73
      go_wp2
      generalize hW0 : ((((w.alloc (.cells #[.pointer (some ⟨rb, 0, none⟩)] 97)).alloc (.cells Tryd.zeroCells71 71)).alloc (.cells #[.pointer (some ⟨w.heap.size + 1, 0, none⟩)] 79)).alloc (.cells #[.func (.func 91) #[] #[.pointer (some ⟨w.heap.size, 0, none⟩), .pointer (some ⟨w.heap.size + 1 + 1, 0, none⟩), .pointer (some ⟨w.heap.size + 1 + 1 + 1, 0, none⟩)]] 113)) = W0 at *
      have hFz : (((k + 2 : Nat)) : Int) = (F : Int) := by rw [HF.out]
      have hFy : (k : Int) + 2 = (F : Int) := by have := HF.out; omega
      have hFx : (k : Int) + 1 + 1 = (F : Int) := by have := HF.out; omega
      try simp only [hFx]
      clear hW0 hngl hneg hFz hFy hFx
      go_loopw [1] (fun s1 W' => ∃ (q : Nat) (sb' : Option Nat) (sn' : Nat → Bool) (g : UInt8 → Bool), s1 = .int .i64 q ∧ F ≤ q ∧ q ≤ l.length ∧ Hid (BL w W' l fl rb sb sb' sn' w.heap.size g) ∧ Hid (Gl.At (Gl.flOf fl) l F q g) ∧ Hid (Gl.Vis (Gl.flOf fl) l F q sn sn')) (fun s1 _ => l.length - (intOf s1).toNat)
      case atStart => exact ⟨F, sb, sn, _, rfl, Nat.le_refl _, hFl, HB0, HAt0, HVi0⟩
      case round =>
        obtain ⟨q, sb', sn', g, rfl, hFq, hql, HB, HAt, HVi⟩ := hrel
        obtain ⟨d0, d1⟩ := HB.out.rn.cells
        obtain ⟨d2, d3, d4⟩ := HB.out.ce.cells
        have hrz : rb < wr.heap.size := HB.out.rn.lt
        have hpz : w.heap.size + 1 + 1 + 1 < wr.heap.size := heap_lt HB.out.ce.e2
        clear HAt0 HVi0
        by_cases hlt : q < l.length
        · have HLo := hidA (gLost rb l fl sb' sn' q hlt hl wr HB.out.rn)
          have hlt' : decide ((q : Int) < (l.length : Int)) = true := by simp; omega
          cases hsn : sn' q with
          | true =>
            have HNo : Hid (Gl.its (Gl.flOf fl) false (l.drop q) = none) := by
              rcases HVi.out q hsn with h1 | ⟨_, h2, _⟩
              · exact Gl.seen_none hk hk91 HL.out (by omega) hlt h1
              · omega
            rw [hsn] at HLo
            clear hsn
            go_wp2_with (go_at_call 95; go_loud (refine HLo.out.mono ?_); rintro e w1 ⟨rfl, m1, sb2, n1, r1⟩; (have HB1 := hidA (HB.out.lost m1 n1 r1)); (have hr1 : rb < w1.heap.size := r1.lt); (obtain ⟨e0, e1⟩ := r1.cells); (obtain ⟨e2, e3, e4⟩ := HB1.out.ce.cells); (have hp1 : w.heap.size + 1 + 1 + 1 < w1.heap.size := heap_lt HB1.out.ce.e2); clear m1 n1 r1)
            refine bodyPost_ret (v := .tuple #[.pointer none, .int .i64 0, .bool false]) (by simp [results, Tryd.results73, go_sem]) rfl ?_
            refine ⟨HB1.out.md, sb2, HB1.out.sn, ?_⟩
            rw [HBr.out, HAt.out.none (Gl.none_first hlt HNo.out)]
            exact ⟨rfl, HB1.out.rn.rs (((HVi.out.lost' HFd.out HL.out HNo.out)).upd HNo.out)⟩
          | false =>
            rw [hsn] at HLo
            clear hsn
            have HIp := hidA (Gl.item_pos (Gl.flOf fl) (l.drop q) (by intro e; have := congrArg List.length e; simp at this; omega))
            by_cases h93 : l[q] = 93
            · have b93 := byte_yes _ 93 93 rfl h93
              by_cases hqF : q = F
              · have hqF' : ((q : Int) == (F : Int)) = true := by simp; omega
                have HA2 := hidA (HAt.out.step hlt (.inr hqF))
                have HV2 := hidA (HVi.out.step hFq hlt (.inr hqF))
                clear hqF h93
                go_wp2_with (first | (go_at_call 95; go_loud (refine HLo.out.mono ?_); rintro e w1 ⟨rfl, m1, sb2, n1, r1⟩; (have HB1 := hidA (HB.out.lost m1 n1 r1)); (have hr1 : rb < w1.heap.size := r1.lt); (obtain ⟨e0, e1⟩ := r1.cells); (obtain ⟨e2, e3, e4⟩ := HB1.out.ce.cells); (have hp1 : w.heap.size + 1 + 1 + 1 < w1.heap.size := heap_lt HB1.out.ce.e2); clear m1 n1 r1) | (go_at_call 91; go_loud (refine (gItem l fl w.heap.size (w.heap.size + 1 + 1) (w.heap.size + 1 + 1 + 1) rb (w.heap.size + 1) q g hlt hl w1 HB1.out.ce e0 e1 HB1.out.st (HCN.out.md (by omega) HR.out HB1.out.md)).mono ?_); rintro e w2 ⟨rfl, s2, m2⟩; (have HB2 := hidA (HB1.out.item m2 s2)); clear s2 m2))
                go_roundw
                case rel => exact ⟨q + (Gl.item (Gl.flOf fl) (l.drop q)).2, sb2, updS sn' q, _, rfl, by omega, HA2.out.2.1, HB2, HA2, HV2⟩
                case measure => (have := HIp.out; simp [intOf]; omega)
              · have hqF' : ((q : Int) == (F : Int)) = false := by simp; omega
                have HS3 := hidA (HAt.out.some hlt h93 hqF)
                have hwq : IntKind.i64.wrap ((q : Int) + 1) = ((q + 1 : Nat) : Int) := by rw [IntKind.wrap_i64]; omega
                have HFi := hidA (fun W (h : SetT W (w.heap.size + 1) g) => gFinished (w.heap.size + 1) true fl g W h)
                clear hqF h93
                go_wp2_with (first | (go_at_call 95; go_loud (refine HLo.out.mono ?_); rintro e w1 ⟨rfl, m1, sb2, n1, r1⟩; (have HB1 := hidA (HB.out.lost m1 n1 r1)); (have hr1 : rb < w1.heap.size := r1.lt); (obtain ⟨e0, e1⟩ := r1.cells); (obtain ⟨e2, e3, e4⟩ := HB1.out.ce.cells); (have hp1 : w.heap.size + 1 + 1 + 1 < w1.heap.size := heap_lt HB1.out.ce.e2); clear m1 n1 r1) | (go_region_with (go_at_call 55; refine Calls.mono (HFi.out _ (by exact HB1.out.st)) ?_; rintro e w2 ⟨rfl, s2, m2⟩; (have HB2 := hidA (HB1.out.item (((Md.refl _ w1).drewN 1).trans m2) s2)); clear s2 m2)))
                all_goals
                  refine bodyPost_ret (v := .tuple #[.pointer (some ⟨w.heap.size + 1, 0, none⟩), .int .i64 ((q + 1 : Nat) : Int), .bool true]) (by simp [results, Tryd.results73, go_sem]) rfl ?_
                  refine ⟨HB2.out.md, sb2, HB2.out.sn, ?_⟩
                  rw [HBr.out, HS3.out]
                  have e1 : k + 1 + (1 + (q - F + 1)) = q + 1 := by have := HF.out; omega
                  have e2 : (fun x => g x || false) = g := by funext x; simp
                  show ∃ b, _ = _ ∧ SetT _ b (Gl.fin (Gl.flOf fl) true (fun x => g x || false)) ∧ RS _ rb l fl sb2 (k + 1 + (1 + (q - F + 1)))
                  rw [e1, e2]
                  exact ⟨w.heap.size + 1, rfl, HB2.out.st, HB2.out.rn.rs (HVi.out.done HL.out (by omega))⟩
            · have b93 := byte_no _ 93 93 rfl h93
              have HA2 := hidA (HAt.out.step hlt (.inl h93))
              have HV2 := hidA (HVi.out.step hFq hlt (.inl h93))
              clear h93
              go_wp2_with (first | (go_at_call 95; go_loud (refine HLo.out.mono ?_); rintro e w1 ⟨rfl, m1, sb2, n1, r1⟩; (have HB1 := hidA (HB.out.lost m1 n1 r1)); (have hr1 : rb < w1.heap.size := r1.lt); (obtain ⟨e0, e1⟩ := r1.cells); (obtain ⟨e2, e3, e4⟩ := HB1.out.ce.cells); (have hp1 : w.heap.size + 1 + 1 + 1 < w1.heap.size := heap_lt HB1.out.ce.e2); clear m1 n1 r1) | (go_at_call 91; go_loud (refine (gItem l fl w.heap.size (w.heap.size + 1 + 1) (w.heap.size + 1 + 1 + 1) rb (w.heap.size + 1) q g hlt hl w1 HB1.out.ce e0 e1 HB1.out.st (HCN.out.md (by omega) HR.out HB1.out.md)).mono ?_); rintro e w2 ⟨rfl, s2, m2⟩; (have HB2 := hidA (HB1.out.item m2 s2)); clear s2 m2))
              go_roundw
              case rel => exact ⟨q + (Gl.item (Gl.flOf fl) (l.drop q)).2, sb2, updS sn' q, _, rfl, by omega, HA2.out.2.1, HB2, HA2, HV2⟩
              case measure => (have := HIp.out; simp [intOf]; omega)
        · have hlt' : decide ((q : Int) < (l.length : Int)) = false := by simp; omega
          have hdq : l.drop q = [] := List.drop_eq_nil_of_le (by omega)
          go_wp2
          refine bodyPost_ret (v := .tuple #[.pointer none, .int .i64 0, .bool false]) (by simp [results, Tryd.results73, go_sem]) rfl ?_
          refine ⟨HB.out.md, sb', HB.out.sn, ?_⟩
          rw [HBr.out, HAt.out.none (by rw [hdq]; exact Gl.its_nil _ _)]
          exact ⟨rfl, HB.out.rn.rs (HVi.out.lost' HFd.out HL.out (by rw [hdq]; exact Gl.its_nil _ _))⟩
    have n94 := byte_no _ 94 94 rfl c94
    have hdr : l.drop (k + 1) = l[k + 1] :: l.drop (k + 1 + 1) := List.drop_eq_getElem_cons hk1
    have hneg : Gl.neg (l.drop (k + 1)) = false := by rw [hdr]; simp [Gl.neg, c33, c94]
    have hngl : Gl.ngl (l.drop (k + 1)) = 0 := by unfold Gl.ngl; rw [hneg]; rfl
    clear hdr c33 c94
    obtain ⟨F, HF⟩ : ∃ F, Hid (k + 1 = F) := ⟨_, rfl⟩
    have hFk : k < F := by have := HF.out; omega
    have hFl : F ≤ l.length := by have := HF.out; omega
    have HFd : Hid (k + 1 + Gl.ngl (l.drop (k + 1)) = F) := by have := HF.out; show _ = _; rw [hngl]; omega
    have HAt0 := hidA (Gl.At.zero (f := Gl.flOf fl) hFl)
    have HVi0 := hidA (Gl.Vis.zero (Gl.flOf fl) l F sn)
    have HBr := hidA (Gl.bracket_its (Gl.flOf fl) l (k + 1) (by omega))
    rw [HFd.out, hneg, hngl] at HBr
    go_enter Tryd.func73, Tryd.ntmps73
    go_wp2
    generalize hW0 : ((((w.alloc (.cells #[.pointer (some ⟨rb, 0, none⟩)] 97)).alloc (.cells Tryd.zeroCells71 71)).alloc (.cells #[.pointer (some ⟨w.heap.size + 1, 0, none⟩)] 79)).alloc (.cells #[.func (.func 91) #[] #[.pointer (some ⟨w.heap.size, 0, none⟩), .pointer (some ⟨w.heap.size + 1 + 1, 0, none⟩), .pointer (some ⟨w.heap.size + 1 + 1 + 1, 0, none⟩)]] 113)) = W0 at *
    have hFz : (((k + 1 : Nat)) : Int) = (F : Int) := by rw [HF.out]
    have hFy : (k : Int) + 1 = (F : Int) := by have := HF.out; omega
    have hFx : (k : Int) + 1 + 0 = (F : Int) := by have := HF.out; omega
    try simp only [hFy]
    clear hW0 hngl hneg hFz hFy hFx
    go_loopw [1] (fun s1 W' => ∃ (q : Nat) (sb' : Option Nat) (sn' : Nat → Bool) (g : UInt8 → Bool), s1 = .int .i64 q ∧ F ≤ q ∧ q ≤ l.length ∧ Hid (BL w W' l fl rb sb sb' sn' w.heap.size g) ∧ Hid (Gl.At (Gl.flOf fl) l F q g) ∧ Hid (Gl.Vis (Gl.flOf fl) l F q sn sn')) (fun s1 _ => l.length - (intOf s1).toNat)
    case atStart => exact ⟨F, sb, sn, _, rfl, Nat.le_refl _, hFl, HB0, HAt0, HVi0⟩
    case round =>
      obtain ⟨q, sb', sn', g, rfl, hFq, hql, HB, HAt, HVi⟩ := hrel
      obtain ⟨d0, d1⟩ := HB.out.rn.cells
      obtain ⟨d2, d3, d4⟩ := HB.out.ce.cells
      have hrz : rb < wr.heap.size := HB.out.rn.lt
      have hpz : w.heap.size + 1 + 1 + 1 < wr.heap.size := heap_lt HB.out.ce.e2
      clear HAt0 HVi0
      by_cases hlt : q < l.length
      · have HLo := hidA (gLost rb l fl sb' sn' q hlt hl wr HB.out.rn)
        have hlt' : decide ((q : Int) < (l.length : Int)) = true := by simp; omega
        cases hsn : sn' q with
        | true =>
          have HNo : Hid (Gl.its (Gl.flOf fl) false (l.drop q) = none) := by
            rcases HVi.out q hsn with h1 | ⟨_, h2, _⟩
            · exact Gl.seen_none hk hk91 HL.out (by omega) hlt h1
            · omega
          rw [hsn] at HLo
          clear hsn
          go_wp2_with (go_at_call 95; go_loud (refine HLo.out.mono ?_); rintro e w1 ⟨rfl, m1, sb2, n1, r1⟩; (have HB1 := hidA (HB.out.lost m1 n1 r1)); (have hr1 : rb < w1.heap.size := r1.lt); (obtain ⟨e0, e1⟩ := r1.cells); (obtain ⟨e2, e3, e4⟩ := HB1.out.ce.cells); (have hp1 : w.heap.size + 1 + 1 + 1 < w1.heap.size := heap_lt HB1.out.ce.e2); clear m1 n1 r1)
          refine bodyPost_ret (v := .tuple #[.pointer none, .int .i64 0, .bool false]) (by simp [results, Tryd.results73, go_sem]) rfl ?_
          refine ⟨HB1.out.md, sb2, HB1.out.sn, ?_⟩
          rw [HBr.out, HAt.out.none (Gl.none_first hlt HNo.out)]
          exact ⟨rfl, HB1.out.rn.rs (((HVi.out.lost' HFd.out HL.out HNo.out)).upd HNo.out)⟩
        | false =>
          rw [hsn] at HLo
          clear hsn
          have HIp := hidA (Gl.item_pos (Gl.flOf fl) (l.drop q) (by intro e; have := congrArg List.length e; simp at this; omega))
          by_cases h93 : l[q] = 93
          · have b93 := byte_yes _ 93 93 rfl h93
            by_cases hqF : q = F
            · have hqF' : ((q : Int) == (F : Int)) = true := by simp; omega
              have HA2 := hidA (HAt.out.step hlt (.inr hqF))
              have HV2 := hidA (HVi.out.step hFq hlt (.inr hqF))
              clear hqF h93
              go_wp2_with (first | (go_at_call 95; go_loud (refine HLo.out.mono ?_); rintro e w1 ⟨rfl, m1, sb2, n1, r1⟩; (have HB1 := hidA (HB.out.lost m1 n1 r1)); (have hr1 : rb < w1.heap.size := r1.lt); (obtain ⟨e0, e1⟩ := r1.cells); (obtain ⟨e2, e3, e4⟩ := HB1.out.ce.cells); (have hp1 : w.heap.size + 1 + 1 + 1 < w1.heap.size := heap_lt HB1.out.ce.e2); clear m1 n1 r1) | (go_at_call 91; go_loud (refine (gItem l fl w.heap.size (w.heap.size + 1 + 1) (w.heap.size + 1 + 1 + 1) rb (w.heap.size + 1) q g hlt hl w1 HB1.out.ce e0 e1 HB1.out.st (HCN.out.md (by omega) HR.out HB1.out.md)).mono ?_); rintro e w2 ⟨rfl, s2, m2⟩; (have HB2 := hidA (HB1.out.item m2 s2)); clear s2 m2))
              go_roundw
              case rel => exact ⟨q + (Gl.item (Gl.flOf fl) (l.drop q)).2, sb2, updS sn' q, _, rfl, by omega, HA2.out.2.1, HB2, HA2, HV2⟩
              case measure => (have := HIp.out; simp [intOf]; omega)
            · have hqF' : ((q : Int) == (F : Int)) = false := by simp; omega
              have HS3 := hidA (HAt.out.some hlt h93 hqF)
              have hwq : IntKind.i64.wrap ((q : Int) + 1) = ((q + 1 : Nat) : Int) := by rw [IntKind.wrap_i64]; omega
              have HFi := hidA (fun W (h : SetT W (w.heap.size + 1) g) => gFinished (w.heap.size + 1) false fl g W h)
              clear hqF h93
              go_wp2_with (first | (go_at_call 95; go_loud (refine HLo.out.mono ?_); rintro e w1 ⟨rfl, m1, sb2, n1, r1⟩; (have HB1 := hidA (HB.out.lost m1 n1 r1)); (have hr1 : rb < w1.heap.size := r1.lt); (obtain ⟨e0, e1⟩ := r1.cells); (obtain ⟨e2, e3, e4⟩ := HB1.out.ce.cells); (have hp1 : w.heap.size + 1 + 1 + 1 < w1.heap.size := heap_lt HB1.out.ce.e2); clear m1 n1 r1) | (go_region_with (go_at_call 55; refine Calls.mono (HFi.out _ (by exact HB1.out.st)) ?_; rintro e w2 ⟨rfl, s2, m2⟩; (have HB2 := hidA (HB1.out.item (((Md.refl _ w1).drewN 1).trans m2) s2)); clear s2 m2)))
              all_goals
                refine bodyPost_ret (v := .tuple #[.pointer (some ⟨w.heap.size + 1, 0, none⟩), .int .i64 ((q + 1 : Nat) : Int), .bool true]) (by simp [results, Tryd.results73, go_sem]) rfl ?_
                refine ⟨HB2.out.md, sb2, HB2.out.sn, ?_⟩
                rw [HBr.out, HS3.out]
                have e1 : k + 1 + (0 + (q - F + 1)) = q + 1 := by have := HF.out; omega
                have e2 : (fun x => g x || false) = g := by funext x; simp
                show ∃ b, _ = _ ∧ SetT _ b (Gl.fin (Gl.flOf fl) false (fun x => g x || false)) ∧ RS _ rb l fl sb2 (k + 1 + (0 + (q - F + 1)))
                rw [e1, e2]
                exact ⟨w.heap.size + 1, rfl, HB2.out.st, HB2.out.rn.rs (HVi.out.done HL.out (by omega))⟩
          · have b93 := byte_no _ 93 93 rfl h93
            have HA2 := hidA (HAt.out.step hlt (.inl h93))
            have HV2 := hidA (HVi.out.step hFq hlt (.inl h93))
            clear h93
            go_wp2_with (first | (go_at_call 95; go_loud (refine HLo.out.mono ?_); rintro e w1 ⟨rfl, m1, sb2, n1, r1⟩; (have HB1 := hidA (HB.out.lost m1 n1 r1)); (have hr1 : rb < w1.heap.size := r1.lt); (obtain ⟨e0, e1⟩ := r1.cells); (obtain ⟨e2, e3, e4⟩ := HB1.out.ce.cells); (have hp1 : w.heap.size + 1 + 1 + 1 < w1.heap.size := heap_lt HB1.out.ce.e2); clear m1 n1 r1) | (go_at_call 91; go_loud (refine (gItem l fl w.heap.size (w.heap.size + 1 + 1) (w.heap.size + 1 + 1 + 1) rb (w.heap.size + 1) q g hlt hl w1 HB1.out.ce e0 e1 HB1.out.st (HCN.out.md (by omega) HR.out HB1.out.md)).mono ?_); rintro e w2 ⟨rfl, s2, m2⟩; (have HB2 := hidA (HB1.out.item m2 s2)); clear s2 m2))
            go_roundw
            case rel => exact ⟨q + (Gl.item (Gl.flOf fl) (l.drop q)).2, sb2, updS sn' q, _, rfl, by omega, HA2.out.2.1, HB2, HA2, HV2⟩
            case measure => (have := HIp.out; simp [intOf]; omega)
      · have hlt' : decide ((q : Int) < (l.length : Int)) = false := by simp; omega
        have hdq : l.drop q = [] := List.drop_eq_nil_of_le (by omega)
        go_wp2
        refine bodyPost_ret (v := .tuple #[.pointer none, .int .i64 0, .bool false]) (by simp [results, Tryd.results73, go_sem]) rfl ?_
        refine ⟨HB.out.md, sb', HB.out.sn, ?_⟩
        rw [HBr.out, HAt.out.none (by rw [hdq]; exact Gl.its_nil _ _)]
        exact ⟨rfl, HB.out.rn.rs (HVi.out.lost' HFd.out HL.out (by rw [hdq]; exact Gl.its_nil _ _))⟩
  · have hk1' : decide (((k + 1 : Nat) : Int) < (l.length : Int)) = false := by simp; omega
    have hdr : l.drop (k + 1) = [] := List.drop_eq_nil_of_le (by omega)
    have hneg : Gl.neg (l.drop (k + 1)) = false := by rw [hdr]; rfl
    have hngl : Gl.ngl (l.drop (k + 1)) = 0 := by rw [hdr]; rfl
    clear hdr
    obtain ⟨F, HF⟩ : ∃ F, Hid (k + 1 = F) := ⟨_, rfl⟩
    have hFk : k < F := by have := HF.out; omega
    have hFl : F ≤ l.length := by have := HF.out; omega
    have HFd : Hid (k + 1 + Gl.ngl (l.drop (k + 1)) = F) := by have := HF.out; show _ = _; rw [hngl]; omega
    have HAt0 := hidA (Gl.At.zero (f := Gl.flOf fl) hFl)
    have HVi0 := hidA (Gl.Vis.zero (Gl.flOf fl) l F sn)
    have HBr := hidA (Gl.bracket_its (Gl.flOf fl) l (k + 1) (by omega))
    rw [HFd.out, hneg, hngl] at HBr
    go_enter Tryd.func73, Tryd.ntmps73
    go_wp2
    generalize hW0 : ((((w.alloc (.cells #[.pointer (some ⟨rb, 0, none⟩)] 97)).alloc (.cells Tryd.zeroCells71 71)).alloc (.cells #[.pointer (some ⟨w.heap.size + 1, 0, none⟩)] 79)).alloc (.cells #[.func (.func 91) #[] #[.pointer (some ⟨w.heap.size, 0, none⟩), .pointer (some ⟨w.heap.size + 1 + 1, 0, none⟩), .pointer (some ⟨w.heap.size + 1 + 1 + 1, 0, none⟩)]] 113)) = W0 at *
    have hFz : (((k + 1 : Nat)) : Int) = (F : Int) := by rw [HF.out]
    have hFy : (k : Int) + 1 = (F : Int) := by have := HF.out; omega
    have hFx : (k : Int) + 1 + 0 = (F : Int) := by have := HF.out; omega
    try simp only [hFy]
    clear hW0 hngl hneg hFz hFy hFx
    go_loopw [1] (fun s1 W' => ∃ (q : Nat) (sb' : Option Nat) (sn' : Nat → Bool) (g : UInt8 → Bool), s1 = .int .i64 q ∧ F ≤ q ∧ q ≤ l.length ∧ Hid (BL w W' l fl rb sb sb' sn' w.heap.size g) ∧ Hid (Gl.At (Gl.flOf fl) l F q g) ∧ Hid (Gl.Vis (Gl.flOf fl) l F q sn sn')) (fun s1 _ => l.length - (intOf s1).toNat)
    case atStart => exact ⟨F, sb, sn, _, rfl, Nat.le_refl _, hFl, HB0, HAt0, HVi0⟩
    case round =>
      obtain ⟨q, sb', sn', g, rfl, hFq, hql, HB, HAt, HVi⟩ := hrel
      obtain ⟨d0, d1⟩ := HB.out.rn.cells
      obtain ⟨d2, d3, d4⟩ := HB.out.ce.cells
      have hrz : rb < wr.heap.size := HB.out.rn.lt
      have hpz : w.heap.size + 1 + 1 + 1 < wr.heap.size := heap_lt HB.out.ce.e2
      clear HAt0 HVi0
      by_cases hlt : q < l.length
      · exact absurd hlt (by have := HF.out; omega)
      · have hlt' : decide ((q : Int) < (l.length : Int)) = false := by simp; omega
        have hdq : l.drop q = [] := List.drop_eq_nil_of_le (by omega)
        go_wp2
        refine bodyPost_ret (v := .tuple #[.pointer none, .int .i64 0, .bool false]) (by simp [results, Tryd.results73, go_sem]) rfl ?_
        refine ⟨HB.out.md, sb', HB.out.sn, ?_⟩
        rw [HBr.out, HAt.out.none (by rw [hdq]; exact Gl.its_nil _ _)]
        exact ⟨rfl, HB.out.rn.rs (HVi.out.lost' HFd.out HL.out (by rw [hdq]; exact Gl.its_nil _ _))⟩
end Go.Proofs.YtncnmeidciailaaDoor
