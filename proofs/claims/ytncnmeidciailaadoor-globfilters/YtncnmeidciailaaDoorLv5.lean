/- The walk of the plain answer's bracket. Conditions: a text of at most 2^40 bytes; what In answers, as a premise. -/
import Derived.Test.YtncnmeidciailaaDoorLv4
namespace Go.Proofs.YtncnmeidciailaaDoor
open Go.RowKit
attribute [local go_sem] ext_eq app_eq get_eq
theorem brZero : BrV (fun _ => false) ((0 : Nat) : Int) Tryd.zeroCells89.toList ∧ Tryd.zeroCells89.all (·.oneCell') = true := by
  rw [zeroBr]
  refine ⟨⟨by rw [Array.length_toList, Array.size_push, Array.size_replicate], fun k => ?_, by rw [Array.getElem?_toList, Array.getElem?_push, if_pos (by rw [Array.size_replicate])]; rfl, fun v hv => ?_⟩, ?_⟩
  · have := k.toNat_lt
    rw [Array.getElem?_toList, Array.getElem?_push, if_neg (by rw [Array.size_replicate]; omega), Array.getElem?_replicate, if_pos (by simpa using this)]
  · rw [Array.toList_push, Array.toList_replicate, List.mem_append, List.mem_replicate, List.mem_singleton] at hv
    rcases hv with ⟨_, rfl⟩ | rfl <;> rfl
  · rw [Array.all_eq_true_iff_forall_mem]
    intro v hv
    rw [Array.mem_push, Array.mem_replicate] at hv
    rcases hv with ⟨_, rfl⟩ | rfl <;> rfl
set_option maxRecDepth 100000 in
set_option maxHeartbeats 8000000 in
theorem rBracketI (hIn : ∀ (n : List UInt8) (c : UInt8) (W : World), Calls Tryd.prog 52 #[.string ⟨n.toArray⟩, .int .u8 c.toNat] W fun e w' => e = .returned (.tuple #[.bool (Gl.inC n c), .bool (decide (n ∈ Gl.names))]) ∧ w' = W)
    (l : List UInt8) (fl : Int) (hl : l.length ≤ 2 ^ 40) (w : World) : Calls Tryd.prog 59 #[.string ⟨l.toArray⟩, .int .i64 fl] w (BkOut l fl w) := by
  have hs : (⟨l.toArray⟩ : ByteArray).size = l.length := str_size l
  have HIn := hidA hIn
  obtain ⟨f, Hf⟩ : ∃ f, Hid (f = Gl.flOf fl) := ⟨_, rfl⟩
  obtain ⟨ng, Hng⟩ : ∃ b, Hid (b = Gl.neg l) := ⟨_, rfl⟩
  obtain ⟨n0, Hn0⟩ : ∃ n, Hid (n = Gl.ngl l) := ⟨_, rfl⟩
  have Hn1 : Hid (n0 = if ng then 1 else 0) := by
    show _ = _
    rw [Hn0.out, Hng.out]; rfl
  have hn0l : n0 ≤ l.length := by
    have h1 := Hn0.out
    rw [h1]
    cases l with
    | nil => exact Nat.le_refl _
    | cons c r => unfold Gl.ngl; split <;> simp
  have HB0 : Hid (BK w ((w.alloc (.cells Tryd.zeroCells89 89)).alloc (.cells Tryd.zeroCells89 89)) (fun _ => false) 0) := by
    have h1 := BrT.new (w.alloc (.cells Tryd.zeroCells89 89))
    rw [show (w.alloc (.cells Tryd.zeroCells89 89)).heap.size = w.heap.size + 1 by simp] at h1
    exact ⟨h1, (Below.heap_alloc _ _ _ (by simp)).trans (heap_new _ _), ((Below.refl _ _).alloc (Nat.le_refl _) _).alloc (by simp) _⟩
  clear hIn
  go_enter Tryd.func59, Tryd.ntmps59
  go_upto_region 3 with fail
  generalize (w.alloc (.cells Tryd.zeroCells89 89)).alloc (.cells Tryd.zeroCells89 89) = W0 at *
  go_cut [7] (fun v wc => W0 = wc ∧ v = .bool ng)
  case first =>
    by_cases h0 : 0 < l.length
    · have hx : Gl.neg l = (decide (l[0] = 33) || decide (l[0] = 94)) := by
        cases l with
        | nil => simp at h0
        | cons c r => rfl
      by_cases c33 : l[0] = 33
      · have hc := byte_yes _ 33 33 rfl c33
        obtain rfl : ng = true := by rw [Hng.out, hx]; simp [c33]
        clear hx c33
        go_wp2_with fail
        go_meet
        exact ⟨rfl, rfl⟩
      · have hc := byte_no _ 33 33 rfl c33
        by_cases c94 : l[0] = 94
        · have hc2 := byte_yes _ 94 94 rfl c94
          obtain rfl : ng = true := by rw [Hng.out, hx]; simp [c94]
          clear hx c33 c94
          go_wp2_with fail
          go_meet
          exact ⟨rfl, rfl⟩
        · have hc2 := byte_no _ 94 94 rfl c94
          obtain rfl : ng = false := by rw [Hng.out, hx]; simp [c33, c94]
          clear hx c33 c94
          go_wp2_with fail
          go_meet
          exact ⟨rfl, rfl⟩
    · obtain rfl : l = [] := List.length_eq_zero_iff.1 (by omega)
      obtain rfl : ng = false := Hng.out
      go_wp2_with fail
      go_meet
      exact ⟨rfl, rfl⟩
  case rest =>
  obtain ⟨rfl, rfl⟩ := hcut
  go_upto_if 39 with fail
  go_cut [6] (fun v wc => W0 = wc ∧ v = .int .i64 n0)
  case first =>
    cases ng with
    | true =>
      obtain rfl : n0 = 1 := Hn1.out
      go_wp2_with fail
      go_meet
      exact ⟨rfl, rfl⟩
    | false =>
      obtain rfl : n0 = 0 := Hn1.out
      go_wp2_with fail
      go_meet
      exact ⟨rfl, rfl⟩
  case rest =>
  obtain ⟨rfl, rfl⟩ := hcut
  go_wp2_with fail
  have HI0 : Hid (Gl.its f true (l.drop n0) = (Gl.its f true (l.drop n0)).map fun p => (fun x => (fun _ : UInt8 => false) x || p.1 x, (n0 - n0) + p.2)) := by
    show _ = _
    rw [Nat.sub_self]
    cases Gl.its f true (l.drop n0) with
    | none => rfl
    | some q => simp
  go_loopg [6, 8] (l.length - n0) (fun k s6 s8 W => ∃ (i : Nat) (fb : Bool) (g : UInt8 → Bool), k = l.length - i ∧ s6 = .int .i64 i ∧ s8 = .bool fb ∧ n0 ≤ i ∧ i ≤ l.length ∧ Hid (BK w W g 0) ∧ Hid (Gl.its f true (l.drop n0) = (Gl.its f fb (l.drop i)).map fun p => (fun x => g x || p.1 x, (i - n0) + p.2)))
  case atStart => exact ⟨n0, true, _, rfl, rfl, rfl, Nat.le_refl _, hn0l, HB0, HI0⟩
  case round =>
    obtain ⟨i, fb, g, rfl, rfl, rfl, hi0, hi, HB, HI⟩ := hrel
    clear HB0 HI0
    by_cases hlt : i < l.length
    · obtain ⟨V, HV⟩ : ∃ V, Hid (V = (decide (l[i] = 93) && !fb)) := ⟨(decide (l[i] = 93) && !fb), rfl⟩
      go_upto_region 10 with fail
      go_cut [54] (fun v wc => wr = wc ∧ v = .bool V)
      case first =>
        by_cases c93 : l[i] = 93
        · have hc := byte_yes _ 93 93 rfl c93
          obtain rfl : V = !fb := by rw [HV.out]; simp [c93]
          clear c93 HV HI HB
          go_wp2_with fail
          go_meet
          exact ⟨rfl, rfl⟩
        · have hc := byte_no _ 93 93 rfl c93
          obtain rfl : V = false := by rw [HV.out]; simp [c93]
          clear c93 HV HI HB
          go_wp2_with fail
          go_meet
          exact ⟨rfl, rfl⟩
      case rest =>
      obtain ⟨rfl, rfl⟩ := hcut
      cases V with
      | true =>
        as_aux_lemma =>
          have h93 : l[i] = 93 ∧ fb = false := by
            have := HV.out
            cases fb
            · refine ⟨?_, rfl⟩
              by_cases h : l[i] = 93
              · exact h
              · simp [h] at this
            · simp at this
          obtain ⟨h93, rfl⟩ := h93
          have HN := hidA (Gl.bracket_end f l n0 i g Hn0.out hi0 HI.out hlt h93)
          rw [← Hng.out] at HN
          clear HI HIn h93 HV
          go_upto_if 152 with fail
          go_cut [20, 21] (fun _ _ wc => Hid (BK w wc (fun x => if f.fold then g x || g (Gl.other x) else g x) 0))
          case first =>
            cases hff : (bits .and .i64 fl 8 != 0) with
            | false =>
              as_aux_lemma =>
                have hf2 : f.fold = false := by rw [Hf.out]; exact hff
                have HB2 : Hid (BK w wr (fun x => if f.fold then g x || g (Gl.other x) else g x) 0) := HB.out.congr (fun x => by rw [hf2]; rfl)
                clear hf2
                go_wp2_with fail
                go_meet
                exact HB2
            | true =>
              as_aux_lemma =>
                have hf2 : f.fold = true := by rw [Hf.out]; exact hff
                obtain ⟨L, hL, hR⟩ := HB.out.tab.bits
                have HL := hidA hL
                have HR := hidA hR
                have HTh : Hid ((wr.alloc (.cells Tryd.zeroCells70 70)).there wr.heap.size 0 L.toArray.size) := by
                  show World.there _ _ _ _
                  rw [show L.toArray.size = 256 by simpa using hL.len]; exact there_at (heap_new _ _) sizeA
                have HSt : Hid ((wr.alloc (.cells Tryd.zeroCells70 70)).setCells wr.heap.size 0 L = wr.alloc (.cells L.toArray 70)) := set_new wr _ _ L (by rw [sizeA, hL.len]) (all_oneCell_toArray hL.one) hL.infO
                have HB1 := hidA (HB.out.alloc (.cells L.toArray 70))
                have HO1 : Hid ((wr.alloc (.cells L.toArray 70)).heap[wr.heap.size]? = some (.cells L.toArray 70 (0, 0))) := heap_new _ _
                have hob : w.heap.size + 1 < wr.heap.size := HB.out.tab.lt
                clear hL hR HB
                go_wp2_with (first | (refine wpList_load_mid rfl 70 _ rfl (w.heap.size + 1) 0 rfl L _ HR.out Tryd.underlying70 rfl HL.out.infO ?_) | (refine wpList_store_mid rfl 70 _ _ rfl wr.heap.size 0 L.toArray rfl rfl HTh.out HL.out.infOA (all_oneCell_toArray HL.out.one) ?_; rw [show L.toArray.toList = L from rfl, HSt.out]))
                clear HR HTh HSt
                generalize wr.alloc (.cells L.toArray 70) = W1 at *
                generalize wr.heap.size = ob at *
                go_loopg [155] 256 (fun k s155 W => ∃ (j : Nat), k = 256 - j ∧ s155 = .int .i64 j ∧ j ≤ 256 ∧ Hid (BK w W (fun x => if x.toNat < j then g x || g (Gl.other x) else g x) 0) ∧ Hid (W.heap[ob]? = some (.cells L.toArray 70 (0, 0))))
                case atStart => exact ⟨0, rfl, rfl, Nat.zero_le _, hidA (HB1.out.congr (fun x => by rw [if_neg (by omega)])), HO1⟩
                case round =>
                  obtain ⟨j, rfl, rfl, hj, HBj, HOj⟩ := hrel
                  clear HB1 HO1
                  by_cases hlj : j < 256
                  · have hoN := ofN hlj
                    have hw1 : IntKind.i64.wrap ((j : Int) + 1) = ((j + 1 : Nat) : Int) := by rw [IntKind.wrap_i64]; omega
                    have hu8 : IntKind.u8.wrap (j : Int) = (j : Int) := by rw [IntKind.wrap_u8]; omega
                    have hcj : wr.cell? ⟨ob, j, none⟩ = some (.bool (g (UInt8.ofNat j))) := by
                      rw [cell_heap HOj.out]
                      have := HL.out.bit (UInt8.ofNat j)
                      rw [hoN] at this
                      simpa using this
                    have hoo : wr.cell? ⟨ob, (Gl.other (UInt8.ofNat j)).toNat, none⟩ = some (.bool (g (Gl.other (UInt8.ofNat j)))) := by
                      rw [cell_heap HOj.out]
                      have := HL.out.bit (Gl.other (UInt8.ofNat j))
                      simpa using this
                    have HOt : Hid (∀ W, Calls Tryd.prog 61 #[.int .u8 j] W fun e w' => e = .returned (.int .u8 (Gl.other (UInt8.ofNat j)).toNat) ∧ w' = W) := fun W => by
                      have := rOther (UInt8.ofNat j) W
                      rwa [hoN] at this
                    have ho8 := (Gl.other (UInt8.ofNat j)).toNat_lt
                    have hct := HBj.out.tab.cellN j hlj
                    have hcf := HBj.out.tab.frozen j
                    have HB2 := hidA (fun v => HBj.out.set j hlj v)
                    have HO2 : Hid (∀ v, (wr.setCell ⟨w.heap.size + 1, j, none⟩ v).heap[ob]? = some (.cells L.toArray 70 (0, 0))) := fun v => (Below.heap_setCell _ _ _ _ (by show ob ≠ w.heap.size + 1; omega)).trans HOj.out
                    have HE : Hid (∀ x, (if x.toNat < j + 1 then g x || g (Gl.other x) else g x) = Gl.updB (fun x => if x.toNat < j then g x || g (Gl.other x) else g x) (UInt8.ofNat j) (g (UInt8.ofNat j) || g (Gl.other (UInt8.ofNat j))) x) := fun x => by
                      unfold Gl.updB
                      by_cases e : x = UInt8.ofNat j
                      · have := (ofN_eq hlj x).1 e
                        rw [if_pos e, if_pos (by omega), e]
                      · have : x.toNat ≠ j := fun h => e ((ofN_eq hlj x).2 h)
                        rw [if_neg e]
                        dsimp only
                        by_cases h2 : x.toNat < j
                        · rw [if_pos h2, if_pos (by omega)]
                        · rw [if_neg h2, if_neg (by omega)]
                    clear HBj HOj HL hoN
                    generalize g (Gl.other (UInt8.ofNat j)) = go' at *
                    generalize Gl.other (UInt8.ofNat j) = oj at *
                    generalize g (UInt8.ofNat j) = gj at *
                    cases gj with
                    | true =>
                      as_aux_lemma =>
                        clear HOt hoo
                        go_wp2_with fail
                        go_roundg (256 - (j + 1))
                        case measure => omega
                        case rel => exact ⟨j + 1, rfl, by first | rfl | go_num, hlj, hidA ((HB2.out true).congr HE.out), HO2.out _⟩
                    | false =>
                      as_aux_lemma =>
                        go_wp2_with (go_at_call 61; refine (HOt.out _).mono ?_; rintro e w1 ⟨rfl, hw'⟩; rw [hw']; clear hw' w1)
                        go_roundg (256 - (j + 1))
                        case measure => omega
                        case rel => exact ⟨j + 1, rfl, by first | rfl | go_num, hlj, hidA ((HB2.out go').congr HE.out), HO2.out _⟩
                  · have HB2 : Hid (BK w wr (fun x => if f.fold then g x || g (Gl.other x) else g x) 0) := HBj.out.congr (fun x => by
                      have := x.toNat_lt
                      rw [hf2]
                      show (g x || g (Gl.other x)) = (if x.toNat < j then g x || g (Gl.other x) else g x)
                      rw [if_pos (by omega)])
                    clear HBj HOj HL hf2
                    go_wp2_with fail
                    go_meet
                    exact HB2
          case rest =>
          obtain ⟨GG, HGG⟩ : ∃ GG : UInt8 → Bool, Hid (∀ x, GG x = (if f.fold then g x || g (Gl.other x) else g x)) := ⟨_, fun x => rfl⟩
          have HG := hidA (hcut.out.congr HGG.out)
          have HFin : Hid (∀ x, Gl.fin f ng g x = (GG x != ng)) := fun x => by rw [HGG.out x]; rfl
          clear hcut HB HGG
          go_upto_if 172 with fail
          go_cut [22] (fun _ wc => Hid (BK w wc (fun x => GG x != ng) 0))
          case first =>
            cases ng with
            | false =>
              as_aux_lemma =>
                have HB2 : Hid (BK w wc (fun x => GG x != false) 0) := HG.out.congr (fun x => by cases GG x <;> rfl)
                go_wp2_with fail
                go_meet
                exact HB2
            | true =>
              as_aux_lemma =>
                go_wp2_with fail
                go_loopg [173] 256 (fun k s173 W => ∃ (j : Nat), k = 256 - j ∧ s173 = .int .i64 j ∧ j ≤ 256 ∧ Hid (BK w W (fun x => if x.toNat < j then !GG x else GG x) 0))
                case atStart => exact ⟨0, rfl, rfl, Nat.zero_le _, hidA (HG.out.congr (fun x => by rw [if_neg (by omega)]))⟩
                case round =>
                  obtain ⟨j, rfl, rfl, hj, HBj⟩ := hrel
                  clear HG
                  by_cases hlj : j < 256
                  · have hw1 : IntKind.i64.wrap ((j : Int) + 1) = ((j + 1 : Nat) : Int) := by rw [IntKind.wrap_i64]; omega
                    have hct : wr.cell? ⟨w.heap.size + 1, j, none⟩ = some (.bool (GG (UInt8.ofNat j))) := by
                      have := HBj.out.tab.cellN j hlj
                      rwa [ofN hlj, if_neg (by omega)] at this
                    have hcf := HBj.out.tab.frozen j
                    have HB2 := hidA (HBj.out.set j hlj (!GG (UInt8.ofNat j)))
                    have HE : Hid (∀ x, (if x.toNat < j + 1 then !GG x else GG x) = Gl.updB (fun x => if x.toNat < j then !GG x else GG x) (UInt8.ofNat j) (!GG (UInt8.ofNat j)) x) := fun x => by
                      unfold Gl.updB
                      by_cases e : x = UInt8.ofNat j
                      · have := (ofN_eq hlj x).1 e
                        rw [if_pos e, if_pos (by omega), e]
                      · have : x.toNat ≠ j := fun h => e ((ofN_eq hlj x).2 h)
                        rw [if_neg e]
                        dsimp only
                        by_cases h2 : x.toNat < j
                        · rw [if_pos h2, if_pos (by omega)]
                        · rw [if_neg h2, if_neg (by omega)]
                    clear HBj
                    generalize GG (UInt8.ofNat j) = gj at *
                    go_wp2_with fail
                    go_roundg (256 - (j + 1))
                    case measure => omega
                    case rel => exact ⟨j + 1, rfl, by first | rfl | go_num, hlj, hidA (HB2.out.congr HE.out)⟩
                  · have HB2 : Hid (BK w wr (fun x => GG x != true) 0) := HBj.out.congr (fun x => by
                      have := x.toNat_lt
                      rw [if_pos (by omega)]
                      cases GG x <;> rfl)
                    clear HBj
                    go_wp2_with fail
                    go_meet
                    exact HB2
          case rest =>
          have HX := hidA (hcut.out.congr HFin.out)
          clear hcut HG HFin
          rename World => wz
          have hw1 : IntKind.i64.wrap ((i : Int) + 1) = ((i + 1 : Nat) : Int) := by rw [IntKind.wrap_i64]; omega
          have hcl := HX.out.tab.lenC
          have hcf := HX.out.tab.frozen 256
          have HX2 : Hid (BrT (wz.setCell ⟨w.heap.size + 1, 256, none⟩ (.int .i64 ((i + 1 : Nat) : Int))) (w.heap.size + 1) (Gl.fin f ng g) ((i + 1 : Nat) : Int)) := HX.out.tab.setLen _
          have HRs : Hid ((wz.setCell ⟨w.heap.size + 1, 256, none⟩ (.int .i64 ((i + 1 : Nat) : Int))).heap[w.heap.size]? = some (.cells Tryd.zeroCells89 89 (0, 0))) := (Below.heap_setCell _ _ _ _ (by show w.heap.size ≠ w.heap.size + 1; omega)).trans HX.out.res
          have HBl : Hid (Below w.heap.size w (wz.setCell ⟨w.heap.size + 1, 256, none⟩ (.int .i64 ((i + 1 : Nat) : Int)))) := HX.out.bel.setCell (p := ⟨w.heap.size + 1, 256, none⟩) (by show _ ≤ w.heap.size + 1; omega) _
          obtain ⟨L, hL, hR⟩ := HX2.out.vals
          have HL := hidA hL
          have HR := hidA hR
          have HTh : Hid ((wz.setCell ⟨w.heap.size + 1, 256, none⟩ (.int .i64 ((i + 1 : Nat) : Int))).there w.heap.size 0 L.toArray.size) := by
            show World.there _ _ _ _
            rw [show L.toArray.size = 257 by simpa using hL.len]; exact there_at HRs.out sizeBr
          clear hL hR HX HX2 HRs
          go_wp2_with (first | (refine wpList_load_mid rfl 89 _ rfl (w.heap.size + 1) 0 rfl L _ HR.out Tryd.underlying89 rfl HL.out.inf ?_) | (refine wpList_store_mid rfl 89 _ _ rfl w.heap.size 0 L.toArray rfl rfl HTh.out HL.out.infA (all_oneCell_toArray HL.out.one) ?_))
          have hRR := World.rangeAt_setCells_same _ w.heap.size 0 L (by have := HTh.out; simpa using this)
          refine bodyPost_ret (v := .agg L.toArray) (results_cellG Tryd.results59 _ _ ⟨w.heap.size, 0, none⟩ _ rfl (run_loadVar_mid _ _ _ _ L _ hRR Tryd.underlying89 rfl HL.out.inf)) rfl ?_
          exact ⟨below_setCellsG HBl.out (Nat.le_refl _) _ _, L, _, i + 1, rfl, HL.out, .inr ⟨Nat.succ_pos _, by rw [← Hf.out]; exact HN.out⟩⟩
      | false =>
        as_aux_lemma =>
          have HVi : Hid (l[i] ≠ 93 ∨ fb = true) := by
            show _ ∨ _
            have := HV.out
            by_cases h : l[i] = 93
            · cases fb
              · simp [h] at this
              · exact .inr rfl
            · exact .inl h
          have hne : l.drop i ≠ [] := by intro e; have := congrArg List.length e; simp at this; omega
          obtain ⟨hp1, hp2⟩ := Gl.item_pos f (l.drop i) hne
          rw [List.length_drop] at hp2
          have Hp := hidA (And.intro hp1 hp2)
          have HC := hidA (fun W => rClass (l.drop i) (by rw [List.length_drop]; omega) W)
          have Hcr : Hid (Gl.clsR (l.drop i) = match Gl.cls (l.drop i) with
            | some n => (n, n.length + 4)
            | none => ([], 0)) := rfl
          clear hp1 hp2 hne HV
          generalize Gl.clsR (l.drop i) = R at *
          obtain ⟨nm, n⟩ := R
          dsimp only at HC Hcr
          have HI0 : Hid (∀ W, Calls Tryd.prog 52 #[.string ⟨nm.toArray⟩, .int .u8 0] W fun e w' => e = .returned (.tuple #[.bool (Gl.inC nm 0), .bool (decide (nm ∈ Gl.names))]) ∧ w' = W) := fun W => HIn.out nm 0 W
          generalize Gl.inC nm 0 = in0 at *
          obtain ⟨kn, Hkn⟩ : ∃ kn, Hid (kn = decide (nm ∈ Gl.names)) := ⟨decide (nm ∈ Gl.names), rfl⟩
          rw [← Hkn.out] at HI0
          obtain ⟨K, HK⟩ : ∃ K, Hid (K = (decide (0 < n) && kn)) := ⟨(decide (0 < n) && kn), rfl⟩
          have hn40 : n ≤ 2 ^ 41 := by
            have h1 := Hcr.out
            cases hc : Gl.cls (l.drop i) with
            | none => rw [hc] at h1; injection h1 with _ h2; omega
            | some m =>
              rw [hc] at h1
              injection h1 with h1 h2
              have h3 := Gl.cls_len hc
              rw [List.length_drop] at h3
              omega
          go_upto_region 13 with (first | (go_at_call 45; refine (HC.out _).mono ?_; rintro e w1 ⟨rfl, hw'⟩; rw [hw']; clear hw' w1) | (go_at_call 52; refine (HI0.out _).mono ?_; rintro e w1 ⟨rfl, hw'⟩; rw [hw']; clear hw' w1))
          go_cut [71] (fun v wc => wr = wc ∧ v = .bool K)
          case first =>
            by_cases h0 : 0 < n
            · have hd1 : decide ((0 : Int) < (n : Int)) = true := decide_eq_true (by omega)
              have hd2 : decide (0 < n) = true := decide_eq_true h0
              obtain rfl : K = kn := by rw [HK.out, hd2]; rfl
              go_wp2_with fail
              go_meet
              exact ⟨rfl, rfl⟩
            · have hd1 : decide ((0 : Int) < (n : Int)) = false := decide_eq_false (by omega)
              have hd2 : decide (0 < n) = false := decide_eq_false h0
              obtain rfl : K = false := by rw [HK.out, hd2]; rfl
              go_wp2_with fail
              go_meet
              exact ⟨rfl, rfl⟩
          case rest =>
          obtain ⟨rfl, rfl⟩ := hcut
          cases K with
          | true =>
            as_aux_lemma =>
              have hk := HK.out
              have hkn : nm ∈ Gl.names ∧ 0 < n := by
                have h1 := Hkn.out
                rw [h1] at hk
                have h2 := hk.symm
                simp only [Bool.and_eq_true, decide_eq_true_eq] at h2
                exact ⟨h2.2, h2.1⟩
              have hit : Gl.item f (l.drop i) = (Gl.inC nm, n) := by
                have h1 := Hcr.out
                cases hc : Gl.cls (l.drop i) with
                | none => rw [hc] at h1; injection h1 with _ h2; omega
                | some m =>
                  rw [hc] at h1
                  injection h1 with h1 h2
                  subst h1
                  rw [Gl.item_class hc hkn.1, h2]
              have HI2 := hidA (Gl.its_item hlt hi0 HI.out HVi.out hit)
              have hpp := Hp.out
              rw [hit] at hpp
              have hpn : i + n ≤ l.length := by have := hpp.2; omega
              have hn0 : 0 < n := hkn.2
              obtain ⟨i2, Hi2⟩ : ∃ m, Hid (m = i + n) := ⟨_, rfl⟩
              have hwi : IntKind.i64.wrap ((i : Int) + (n : Int)) = (i2 : Int) := by have := Hi2.out; rw [IntKind.wrap_i64]; omega
              rw [← Hi2.out] at HI2
              have hi20 : n0 ≤ i2 := by have := Hi2.out; omega
              have hi2l : i2 ≤ l.length := by have := Hi2.out; omega
              have hi2m : l.length - i2 < l.length - i := by have := Hi2.out; omega
              clear hk hkn hit HC HI0 Hcr HK Hkn Hp hpp HI HVi Hi2 hpn
              go_wp2_with fail
              go_loopg [72] 256 (fun k s72 W => ∃ (j : Nat), k = 256 - j ∧ s72 = .int .i64 j ∧ j ≤ 256 ∧ Hid (BK w W (fun x => g x || (Gl.inC nm x && decide (x.toNat < j))) 0))
              case atStart => exact ⟨0, rfl, rfl, Nat.zero_le _, hidA (HB.out.congr (fun x => by simp))⟩
              case round =>
                obtain ⟨j, rfl, rfl, hj, HBj⟩ := hrel
                clear HB
                by_cases hlj : j < 256
                · have hoN := ofN hlj
                  have hw1 : IntKind.i64.wrap ((j : Int) + 1) = ((j + 1 : Nat) : Int) := by rw [IntKind.wrap_i64]; omega
                  have hu8 : IntKind.u8.wrap (j : Int) = (j : Int) := by rw [IntKind.wrap_u8]; omega
                  have HIj : Hid (∀ W, Calls Tryd.prog 52 #[.string ⟨nm.toArray⟩, .int .u8 j] W fun e w' => e = .returned (.tuple #[.bool (Gl.inC nm (UInt8.ofNat j)), .bool (decide (nm ∈ Gl.names))]) ∧ w' = W) := fun W => by
                    have := HIn.out nm (UInt8.ofNat j) W
                    rwa [hoN] at this
                  have hct : wr.cell? ⟨w.heap.size + 1, j, none⟩ = some (.bool (g (UInt8.ofNat j))) := by
                    have := HBj.out.tab.cellN j hlj
                    rwa [hoN, decide_eq_false (by omega), Bool.and_false, Bool.or_false] at this
                  have hcf := HBj.out.tab.frozen j
                  have HB2 := hidA (fun v => HBj.out.set j hlj v)
                  have HE : Hid (∀ x, (g x || (Gl.inC nm x && decide (x.toNat < j + 1))) = Gl.updB (fun x => g x || (Gl.inC nm x && decide (x.toNat < j))) (UInt8.ofNat j) (g (UInt8.ofNat j) || Gl.inC nm (UInt8.ofNat j)) x) := fun x => by
                    unfold Gl.updB
                    by_cases e : x = UInt8.ofNat j
                    · have := (ofN_eq hlj x).1 e
                      rw [if_pos e, decide_eq_true (by omega), e, Bool.and_true]
                    · have : x.toNat ≠ j := fun h => e ((ofN_eq hlj x).2 h)
                      rw [if_neg e]
                      dsimp only
                      rw [show decide (x.toNat < j + 1) = decide (x.toNat < j) by rw [decide_eq_decide]; omega]
                  clear HBj hoN
                  generalize Gl.inC nm (UInt8.ofNat j) = cj at *
                  generalize g (UInt8.ofNat j) = gj at *
                  generalize decide (nm ∈ Gl.names) = kn' at *
                  cases gj with
                  | true =>
                    as_aux_lemma =>
                      go_wp2_with (go_at_call 52; refine (HIj.out _).mono ?_; rintro e w1 ⟨rfl, hw'⟩; rw [hw']; clear hw' w1)
                      go_roundg (256 - (j + 1))
                      case measure => omega
                      case rel => exact ⟨j + 1, rfl, by first | rfl | go_num, hlj, hidA ((HB2.out true).congr HE.out)⟩
                  | false =>
                    as_aux_lemma =>
                      go_wp2_with (go_at_call 52; refine (HIj.out _).mono ?_; rintro e w1 ⟨rfl, hw'⟩; rw [hw']; clear hw' w1)
                      go_roundg (256 - (j + 1))
                      case measure => omega
                      case rel => exact ⟨j + 1, rfl, by first | rfl | go_num, hlj, hidA ((HB2.out cj).congr HE.out)⟩
                · have HB2 : Hid (BK w wr (fun x => g x || Gl.inC nm x) 0) := HBj.out.congr (fun x => by
                    have := x.toNat_lt
                    rw [decide_eq_true (by omega), Bool.and_true])
                  clear HBj
                  go_wp2_with fail
                  go_roundg (l.length - i2)
                  case measure => omega
                  case rel => exact ⟨i2, false, _, rfl, rfl, rfl, hi20, hi2l, HB2, HI2⟩
          | false =>
            as_aux_lemma =>
              have Hno : Hid (∀ m, Gl.cls (l.drop i) = some m → m ∉ Gl.names) := fun m hm hmn => by
                have h1 := Hcr.out
                rw [hm] at h1
                injection h1 with h1 h2
                have h3 := HK.out
                rw [Hkn.out, h1, decide_eq_true hmn, decide_eq_true (by omega)] at h3
                cases h3
              have hne : l.drop i ≠ [] := by intro e; have := congrArg List.length e; simp at this; omega
              obtain ⟨ho1, ho2⟩ := Gl.one_pos f (l.drop i) hne
              rw [List.length_drop] at ho2
              have HO1 := hidA (fun W => rOne (l.drop i) fl (List.length_pos_iff.2 hne) (by rw [List.length_drop]; omega) W)
              rw [← Hf.out] at HO1
              have HIr := hidA (Gl.item_range (f := f) Hno.out)
              have HIo := hidA (Gl.item_single (f := f) Hno.out)
              clear hne Hno HC HI0 Hcr HK Hkn Hp
              generalize hone : Gl.one f (l.drop i) = O at *
              clear hone
              obtain ⟨c1, k1⟩ := O
              dsimp only at HO1 HIr HIo ho1 ho2
              obtain ⟨i1, Hi1⟩ : ∃ m, Hid (m = i + k1) := ⟨_, rfl⟩
              have hwi1 : IntKind.i64.wrap ((i : Int) + (k1 : Int)) = (i1 : Int) := by have := Hi1.out; rw [IntKind.wrap_i64]; omega
              obtain ⟨m1, Hm1⟩ : ∃ m, Hid (m = i1 + 1) := ⟨_, rfl⟩
              have hwm1 : IntKind.i64.wrap ((i1 : Int) + 1) = (m1 : Int) := by have h1 := Hm1.out; have h2 := Hi1.out; rw [IntKind.wrap_i64]; omega
              have hi1l : i1 ≤ l.length := by have := Hi1.out; omega
              have hii1 : i < i1 := by have := Hi1.out; omega
              have hm1b : m1 ≤ 2 ^ 41 := by have := Hm1.out; omega
              obtain ⟨dsh, Hds⟩ : ∃ d, Hid (d = Gl.dash (l.drop i1)) := ⟨_, rfl⟩
              have Hdr : Hid ((l.drop i).drop k1 = l.drop i1) := by show _ = _; rw [List.drop_drop, Hi1.out]
              have Hdr2 : Hid ((l.drop i).drop (k1 + 1) = l.drop m1) := by show _ = _; have h1 := Hm1.out; have h2 := Hi1.out; rw [List.drop_drop]; congr 1; omega
              rw [Hdr.out, Hdr2.out] at HIr
              rw [Hdr.out] at HIo
              have hk1b : k1 ≤ 2 ^ 41 := by omega
              go_upto_region 24 with (go_at_call 60; refine (HO1.out _).mono ?_; rintro e w1 ⟨rfl, hw'⟩; rw [hw']; clear hw' w1)
              go_cut [125] (fun v wc => wr = wc ∧ v = .bool dsh)
              case first =>
                have hda := Gl.dash_pl l i1
                rw [← Hds.out] at hda
                by_cases h1 : m1 < l.length
                · have hil : i1 < l.length := by have := Hm1.out; omega
                  have e1 : l[i1 + 1]? = some l[m1] := by have := Hm1.out; rw [← this, List.getElem?_eq_getElem h1]
                  rw [List.getElem?_eq_getElem hil, e1, decide_eq_true (by have := Hm1.out; omega)] at hda
                  by_cases c45 : l[i1] = 45
                  · have hc := byte_yes _ 45 45 rfl c45
                    by_cases c93 : l[m1] = 93
                    · have hc2 : ((l[m1].toNat : Int) != 93) = false := by rw [c93]; rfl
                      obtain rfl : dsh = false := by rw [hda]; simp [c93]
                      clear hda c45 c93 e1
                      go_wp2_with fail
                      go_meet
                      exact ⟨rfl, rfl⟩
                    · have hc2 : ((l[m1].toNat : Int) != 93) = true := neq_lit c93 93 rfl
                      obtain rfl : dsh = true := by rw [hda]; simp [c93, c45]
                      clear hda c45 c93 e1
                      go_wp2_with fail
                      go_meet
                      exact ⟨rfl, rfl⟩
                  · have hc := byte_no _ 45 45 rfl c45
                    obtain rfl : dsh = false := by rw [hda]; simp [c45]
                    clear hda c45 e1
                    go_wp2_with fail
                    go_meet
                    exact ⟨rfl, rfl⟩
                · obtain rfl : dsh = false := by rw [hda, decide_eq_false (by have := Hm1.out; omega)]; rfl
                  clear hda
                  go_wp2_with fail
                  go_meet
                  exact ⟨rfl, rfl⟩
              case rest =>
              obtain ⟨rfl, rfl⟩ := hcut
              go_upto_if 125 with fail
              go_cut [6, 17, 18] (fun s6 _ s18 wc => wr = wc ∧ ∃ (j : Nat) (h : UInt8), s6 = .int .i64 j ∧ s18 = .int .u8 h.toNat ∧ i < j ∧ j ≤ l.length ∧ Hid (Gl.item f (l.drop i) = (Gl.rng c1 h, j - i)))
              case first =>
                cases dsh with
                | true =>
                  as_aux_lemma =>
                    have hd := Gl.dash_len Hds.out.symm
                    rw [List.length_drop] at hd
                    have hm1l : m1 < l.length := by have := Hm1.out; omega
                    have hne : l.drop m1 ≠ [] := by intro e; have := congrArg List.length e; simp at this; omega
                    obtain ⟨hq1, hq2⟩ := Gl.one_pos f (l.drop m1) hne
                    rw [List.length_drop] at hq2
                    have HO2 := hidA (fun W => rOne (l.drop m1) fl (List.length_pos_iff.2 hne) (by rw [List.length_drop]; omega) W)
                    rw [← Hf.out] at HO2
                    have HIt := hidA (HIr.out Hds.out.symm)
                    clear hne HIr HIo HO1
                    generalize hone : Gl.one f (l.drop m1) = O at *
                    clear hone
                    obtain ⟨c2, k2⟩ := O
                    dsimp only at HO2 HIt hq1 hq2
                    obtain ⟨q1, Hq1⟩ : ∃ m, Hid (m = 1 + k2) := ⟨_, rfl⟩
                    have hwq : IntKind.i64.wrap (1 + (k2 : Int)) = (q1 : Int) := by have := Hq1.out; rw [IntKind.wrap_i64]; omega
                    obtain ⟨j, Hj⟩ : ∃ m, Hid (m = i1 + q1) := ⟨_, rfl⟩
                    have hwj : IntKind.i64.wrap ((i1 : Int) + (q1 : Int)) = (j : Int) := by have h1 := Hj.out; have h2 := Hq1.out; rw [IntKind.wrap_i64]; omega
                    go_wp2_with (go_at_call 60; refine (HO2.out _).mono ?_; rintro e w1 ⟨rfl, hw'⟩; rw [hw']; clear hw' w1)
                    go_meet
                    have h1 := Hj.out
                    have h2 := Hq1.out
                    have h3 := Hm1.out
                    have h4 := Hi1.out
                    refine ⟨rfl, j, c2, rfl, rfl, by omega, by omega, hidA ?_⟩
                    rw [HIt.out]
                    congr 1
                    omega
                | false =>
                  as_aux_lemma =>
                    have HIt := hidA (HIo.out Hds.out.symm)
                    clear HIr HIo HO1
                    go_wp2_with fail
                    go_meet
                    have h4 := Hi1.out
                    refine ⟨rfl, i1, c1, rfl, rfl, by omega, by omega, hidA ?_⟩
                    rw [HIt.out]
                    congr 1
                    omega
              case rest =>
              obtain ⟨rfl, j, hh, rfl, rfl, hij, hjl, Hit⟩ := hcut
              have HI2 := hidA (Gl.its_item hlt hi0 HI.out HVi.out Hit.out)
              rw [show i + (j - i) = j by omega] at HI2
              clear HIr HIo HO1 HI HVi Hit Hds Hdr Hdr2 Hi1 Hm1 hwi1 hwm1 hii1 hi1l hm1b hk1b ho1 ho2
              have hj0 : n0 ≤ j := by omega
              have hjm : l.length - j < l.length - i := by omega
              have h81 := c1.toNat_lt
              have h82 := hh.toNat_lt
              go_wp2_with fail
              go_loopg [19] (hh.toNat + 1 - c1.toNat) (fun k s19 W => ∃ (q : Nat), k = hh.toNat + 1 - q ∧ s19 = .int .i64 q ∧ c1.toNat ≤ q ∧ (q ≤ hh.toNat + 1 ∨ q = c1.toNat) ∧ Hid (BK w W (fun x => g x || (decide (c1.toNat ≤ x.toNat) && decide (x.toNat < q))) 0))
              case atStart => exact ⟨c1.toNat, rfl, rfl, Nat.le_refl _, .inr rfl, hidA (HB.out.congr (fun x => by
                have : (decide (c1.toNat ≤ x.toNat) && decide (x.toNat < c1.toNat)) = false := by
                  rw [Bool.and_eq_false_iff, decide_eq_false_iff_not, decide_eq_false_iff_not]; omega
                rw [this, Bool.or_false]))⟩
              case round =>
                obtain ⟨q, rfl, rfl, hq1, hq2, HBq⟩ := hrel
                clear HB
                by_cases hlq : q ≤ hh.toNat
                · have hw1 : IntKind.i64.wrap ((q : Int) + 1) = ((q + 1 : Nat) : Int) := by rw [IntKind.wrap_i64]; omega
                  have hq256 : q < 256 := by omega
                  have hct := HBq.out.tab.cellN q hq256
                  have hcf := HBq.out.tab.frozen q
                  have HB2 := hidA (HBq.out.set q hq256 true)
                  have HE : Hid (∀ x, (g x || (decide (c1.toNat ≤ x.toNat) && decide (x.toNat < q + 1))) = Gl.updB (fun x => g x || (decide (c1.toNat ≤ x.toNat) && decide (x.toNat < q))) (UInt8.ofNat q) true x) := fun x => by
                    unfold Gl.updB
                    by_cases e : x = UInt8.ofNat q
                    · have := (ofN_eq hq256 x).1 e
                      rw [if_pos e, decide_eq_true (by omega), decide_eq_true (by omega), Bool.and_true, Bool.or_true]
                    · have : x.toNat ≠ q := fun h => e ((ofN_eq hq256 x).2 h)
                      rw [if_neg e]
                      dsimp only
                      rw [show decide (x.toNat < q + 1) = decide (x.toNat < q) by rw [decide_eq_decide]; omega]
                  clear HBq
                  go_wp2_with fail
                  go_roundg (hh.toNat + 1 - (q + 1))
                  case measure => omega
                  case rel => exact ⟨q + 1, rfl, by first | rfl | go_num, by omega, .inl (by omega), hidA (HB2.out.congr HE.out)⟩
                · have HB2 : Hid (BK w wr (fun x => g x || Gl.rng c1 hh x) 0) := HBq.out.congr (fun x => by
                    unfold Gl.rng
                    congr 1
                    rw [Bool.eq_iff_iff]
                    simp only [Bool.and_eq_true, decide_eq_true_eq]
                    omega)
                  clear HBq
                  go_wp2_with fail
                  go_roundg (l.length - j)
                  case measure => omega
                  case rel => exact ⟨j, false, _, rfl, rfl, rfl, hj0, hjl, HB2, HI2⟩
    · obtain rfl : i = l.length := by omega
      have HN := hidA (Gl.bracket_nil f l n0 l.length g fb Hn0.out HI.out (Nat.le_refl _))
      rw [Hf.out] at HN
      have HTh : Hid (wr.there w.heap.size 0 Tryd.zeroCells89.size) := there_at HB.out.res rfl
      have HZ := hidA brZero
      clear HI HIn
      go_wp2_with (refine wpList_store_mid rfl 89 _ _ rfl w.heap.size 0 Tryd.zeroCells89 rfl rfl HTh.out (by rw [sizeBr]; exact infoBr) HZ.out.2 ?_)
      have hRR := World.rangeAt_setCells_same wr w.heap.size 0 Tryd.zeroCells89.toList (by have := HTh.out; simpa using this)
      refine bodyPost_ret (v := .agg Tryd.zeroCells89.toList.toArray) (results_cellG Tryd.results59 _ _ ⟨w.heap.size, 0, none⟩ _ rfl (run_loadVar_mid _ _ _ _ Tryd.zeroCells89.toList _ hRR Tryd.underlying89 rfl HZ.out.1.inf)) rfl ?_
      exact ⟨below_setCellsG HB.out.bel (Nat.le_refl _) _ _, _, _, 0, rfl, HZ.out.1, .inl ⟨rfl, HN.out⟩⟩
end Go.Proofs.YtncnmeidciailaaDoor
