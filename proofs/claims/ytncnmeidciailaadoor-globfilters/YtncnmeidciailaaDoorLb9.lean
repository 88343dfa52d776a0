/- The walks of the program's item of a set (a class; what begins with no bracket) and of Set where nothing fills. Conditions: a text that fits; the table of names; what item answers, as a premise. -/
import Derived.Test.YtncnmeidciailaaDoorLb8
import Derived.Defers
import Derived.Recover
namespace Go.Proofs.YtncnmeidciailaaDoor
open Go.RowKit
attribute [local go_sem] ext_eq app_eq get_eq
namespace Gl
theorem sItem_plain {size : Int} {s : SS} {l : List UInt8} {k : Nat} (hk : k < l.length) (hc : l[k] ≠ 91) : sItem size s (l.drop k) = spanO s (span (l.drop k)) := by
  have hh : (l.drop k).head? = some l[k] := by rw [List.head?_drop, List.getElem?_eq_getElem hk]
  have h2 : ∀ x y : UInt8, (l.drop k).take 2 = [x, y] → l[k] = x := fun x y h => by
    rw [List.drop_eq_getElem_cons hk] at h
    simp only [List.take_succ_cons] at h
    injection h
  have e1 : cls (l.drop k) = none := by unfold cls; rw [if_neg (fun h => hc (h2 _ _ h))]
  have e2 : eqv (l.drop k) = none := by unfold eqv; rw [if_neg (fun h => hc (h2 _ _ h.1))]
  have e3 : rep (l.drop k) = none := by
    unfold rep
    simp only
    rw [if_neg (fun h => by have := h.1; rw [hh] at this; exact hc (Option.some.inj this))]
  unfold sItem
  rw [e1, e2, e3]
  rfl
theorem sItem_cls {size : Int} {s : SS} {l n : List UInt8} (h : cls l = some n) : sItem size s l = clsO s n := by
  unfold sItem
  rw [h]
  rfl
theorem sRun_fuel (size : Int) : ∀ (n m : Nat) (s : SS) (l : List UInt8), l.length ≤ n → l.length ≤ m → sRun size n s l = sRun size m s l := by
  intro n
  induction n with
  | zero => intro m s l h1 h2; obtain rfl : l = [] := List.length_eq_zero_iff.1 (by omega); cases m <;> rfl
  | succ n ih =>
    intro m s l h1 h2
    cases l with
    | nil => cases m <;> rfl
    | cons c r =>
      cases m with
      | zero => simp at h2
      | succ m =>
        unfold sRun
        cases hi : sItem size s (c :: r) with
        | none => rfl
        | some p =>
          obtain ⟨s', k⟩ := p
          have hp := sItem_pos (by simp) hi
          simp only [List.length_cons] at h1 h2 hp
          simp only
          exact ih m s' _ (by simp only [List.length_drop, List.length_cons]; omega) (by simp only [List.length_drop, List.length_cons]; omega)
/-- The reading of a set from here on. -/
def sR (size : Int) (s : SS) (l : List UInt8) : Option SS := sRun size l.length s l
theorem sR_nil (size : Int) (s : SS) : sR size s [] = some s := rfl
theorem sR_step {size : Int} {s : SS} {l : List UInt8} (h : l ≠ []) : sR size s l = match sItem size s l with
    | some (s', k) => sR size s' (l.drop k)
    | none => none := by
  cases l with
  | nil => exact absurd rfl h
  | cons c r =>
    show sRun size (r.length + 1) s (c :: r) = _
    unfold sRun
    cases hi : sItem size s (c :: r) with
    | none => rfl
    | some p =>
      obtain ⟨s', k⟩ := p
      have hp := sItem_pos (by simp) hi
      simp only [List.length_cons] at hp
      simp only
      exact sRun_fuel size _ _ _ _ (by simp only [List.length_drop, List.length_cons]; omega) (Nat.le_refl _)
end Gl
set_option maxRecDepth 100000 in
set_option maxHeartbeats 1000000 in
theorem gItemN {B : Nat} {W : World} {rb : Nat} {l : List UInt8} {size last : Int} {v : Value} {s : Gl.SS} (h : SR B W rb l size last v s) (hB : B ≤ W.heap.size) (k : Nat) (hk : k < l.length) (hl : l.length ≤ 2 ^ 40) (hc : l[k] ≠ 91) : Calls Tryd.prog 43 #[.pointer (some ⟨rb, 0, none⟩), .int .i64 k] W (ItOut B rb l size last v W k (Gl.sItem size s (l.drop k))) := by
  have hs : (⟨l.toArray⟩ : ByteArray).size = l.length := str_size l
  have HSp := hidA (gSpan h hB k hk hl)
  rw [← Gl.sItem_plain (size := size) hk hc] at HSp
  have c0 := h.cells.1
  have hc' := byte_no _ 91 91 rfl hc
  clear h hc
  generalize Gl.sItem size s (l.drop k) = O at *
  go_enter Tryd.func43, Tryd.ntmps43
  go_wp2_with (go_at_call 68; refine HSp.out.mono ?_; rintro e w1 ⟨hm, ho⟩; have HM := hidA hm; clear hm; rcases ho with ⟨s', m, v', hO, rfl, h1, h2⟩ | ⟨hO, rfl⟩ <;> (have HO := hidA hO; clear hO))
  · go_ret
    exact ⟨HM.out, .inl ⟨s', m, v', HO.out, rfl, h1, h2⟩⟩
  · exact ⟨rfl, HM.out, .inr ⟨HO.out, rfl⟩⟩
set_option maxRecDepth 100000 in
set_option maxHeartbeats 1000000 in
theorem gItemC {B : Nat} {W : World} {rb : Nat} {l : List UInt8} {size : Int} {v : Value} {s : Gl.SS} (h : SR B W rb l size (Lib.lastIndex l [58, 93]) v s) (hB : B ≤ W.heap.size) (k : Nat) (hk : k < l.length) (hl : l.length < 4294967281) (n : List UInt8) (hn : Gl.cls (l.drop k) = some n) (hc : CN W) (hm : ML W) : Calls Tryd.prog 43 #[.pointer (some ⟨rb, 0, none⟩), .int .i64 k] W (ItOut B rb l size (Lib.lastIndex l [58, 93]) v W k (Gl.sItem size s (l.drop k))) := by
  have hs : (⟨l.toArray⟩ : ByteArray).size = l.length := str_size l
  have HSp := hidA (gSClass h hB k hk hl n hn hc hm)
  rw [← Gl.sItem_cls (size := size) hn] at HSp
  have c0 := h.cells.1
  have hc' := byte_yes l[k] 91 91 rfl (by have := (Gl.cls_some hk hn).2.1; rw [List.getElem?_eq_getElem hk] at this; exact Option.some.inj this)
  have hw1 : IntKind.i64.wrap ((k : Int) + 1) = ((k + 1 : Nat) : Int) := by rw [IntKind.wrap_i64]; omega
  have HPos := hidA (fun s' n' hO => (Gl.sItem_pos (size := size) (s := s) (s' := s') (k := n') (l := l.drop k) (by intro e; have := congrArg List.length e; simp at this; omega) hO).1)
  clear h hc hm hn
  generalize Gl.sItem size s (l.drop k) = O at *
  go_enter Tryd.func43, Tryd.ntmps43
  go_wp2_with (go_at_call 65; refine HSp.out.mono ?_; rintro e w1 ⟨hm, ho⟩; have HM := hidA hm; clear hm; rcases ho with ⟨s', m, v', hO, rfl, h1, h2⟩ | ⟨hO, rfl⟩ <;> (have HO := hidA hO; clear hO); (try (have hp1 : 1 ≤ m := HPos.out _ _ HO.out)); (try (have hpd : decide ((0 : Int) < ((k + m : Nat) : Int)) = true := by simp; omega)))
  · go_ret
    exact ⟨HM.out, .inl ⟨s', m, v', HO.out, rfl, h1, h2⟩⟩
  · exact ⟨rfl, HM.out, .inr ⟨HO.out, rfl⟩⟩
set_option maxRecDepth 100000 in
theorem catch_idle12 (p q : Addr) (w : World) :
    CallsD Tryd.prog 41 #[.pointer (some p), .pointer (some q)] .returning w fun e u' w' => e = .returned (.tuple #[]) ∧ u' = .returning ∧ w' = w := by
  refine callsD_of_wpS Tryd.func41 rfl fun c₀ cs hu => ?_
  apply wpS_seq
  apply wpS_region
  simp [wpOpsS, go_sem, recoverD, hu, Tryd.ntmps41, Exit.thenS]
  refine wpS_cond (t := false) (by simp [Act.eval, Array.replicate]) ?_
  simp only [Bool.false_eq_true, if_false]
  refine wpS_of_wp (wp_skip ?_)
  cases c₀
  simp_all [bodyPostS, results, Tryd.results41]
theorem cell_other (w : World) (b c : Nat) (h : ¬ c = b) (v : Value) : (w.setCell ⟨b, 0, none⟩ v).cell? ⟨c, 0, none⟩ = w.cell? ⟨c, 0, none⟩ := World.cell?_of_block (w := w) (Below.heap_setCell _ _ _ _ h)
set_option maxRecDepth 100000 in
set_option maxHeartbeats 2000000 in
/-- Set, where all items are read and nothing fills. -/
theorem gSet0 (l : List UInt8) (size : Int) (hl : l.length ≤ 2 ^ 31) (w : World) (hc : CN w) (hm : ML w) (sF : Gl.SS) (hr : Gl.sR size ⟨[], none⟩ l = some sF) (hf : sF.fil = none) (h0 : sF.out ≠ []) (h4 : sF.out.length ≤ 4096)
    (hit : ∀ B W rb v s k, SR B W rb l size (Lib.lastIndex l [58, 93]) v s → B ≤ W.heap.size → CN W → ML W → k < l.length → Calls Tryd.prog 43 #[.pointer (some ⟨rb, 0, none⟩), .int .i64 ((k : Nat) : Int)] W (ItOut B rb l size (Lib.lastIndex l [58, 93]) v W k (Gl.sItem size s (l.drop k)))) :
    Calls Tryd.prog 20 #[.string ⟨l.toArray⟩, .int .i64 size] w fun e w' => ∃ v, e = .returned (.tuple #[v, .int .i64 0]) ∧ By w.heap.size w' v sF.out ∧ Below w.heap.size w w' := by
  have hs : (⟨l.toArray⟩ : ByteArray).size = l.length := str_size l
  have hmf : ∀ (fn : Fn) (first cap : Array Value) (w : World), (Instr.makeFunc fn first cap).run Tryd.prog w = .ok (.func fn first cap) w := fun _ _ _ _ => rfl
  have HLa : Hid (∀ W, Calls Tryd.prog 42 #[.string ⟨l.toArray⟩, .string ⟨#[58, 93]⟩] W fun e w' => e = .returned (.int .i64 (Lib.lastIndex l [58, 93])) ∧ w' = W) := fun W => Tryd.strings_LastIndex ⟨l.toArray⟩ ⟨#[58, 93]⟩ (by rw [str_size]; omega) W
  generalize Lib.lastIndex l [58, 93] = last at *
  have HIt := hidA hit
  have HCN := hidA hc
  have HML := hidA hm
  have HRn := hidA hr
  have HFi := hidA hf
  have HOu := hidA h0
  clear hit hc hm hr hf h0
  generalize hb : w.heap.size = b at *
  go_enter_defers Tryd.func20, Tryd.ntmps20
  go_wp2_with (go_at_call 42; refine (HLa.out _).mono ?_; rintro e w1 ⟨rfl, hw'⟩; rw [hw']; clear hw' w1)
  have hW0 : ∃ W0, W0 = (((w.alloc (.cells #[.slice none 0 0] 32)).alloc (.cells #[.int .i64 0] 23)).alloc (.cells #[.string ⟨l.toArray⟩, .int .i64 size, .int .i64 last, .slice none 0 0, .bool false, .int .u8 0, .int .i64 0] 61)) := ⟨_, rfl⟩
  obtain ⟨W0, hW0⟩ := hW0
  have HB0 : Hid (Below b w W0) := by rw [hW0, ← hb]; exact (((Below.refl _ _).alloc (Nat.le_refl _) _).alloc (by simp) _).alloc (by simp; omega) _
  have HS0 : Hid (SR b W0 (b + 1 + 1) l size last (.slice none 0 0) ⟨[], none⟩) := by
    refine ⟨?_, by omega, By.nil _ _⟩
    rw [hW0]
    have := heap_new ((w.alloc (.cells #[.slice none 0 0] 32)).alloc (.cells #[.int .i64 0] 23)) (.cells #[.string ⟨l.toArray⟩, .int .i64 size, .int .i64 last, .slice none 0 0, .bool false, .int .u8 0, .int .i64 0] 61)
    simpa [hb] using this
  have HZ1 : Hid (W0.heap[b]? = some (.cells #[.slice none 0 0] 32 (0, 0))) := by
    show _ = _
    rw [hW0, ← hb]
    exact (Below.heap_alloc _ _ _ (by simp; omega)).trans ((Below.heap_alloc _ _ _ (by simp)).trans (heap_new _ _))
  have HZ2 : Hid (W0.heap[b + 1]? = some (.cells #[.int .i64 0] 23 (0, 0))) := by
    show _ = _
    rw [hW0, ← hb]
    refine (Below.heap_alloc _ _ _ (by simp)).trans ?_
    have := heap_new (w.alloc (.cells #[.slice none 0 0] 32)) (.cells #[.int .i64 0] 23)
    simpa using this
  have HSz : Hid (b + 1 + 1 < W0.heap.size) := heap_lt HS0.out.hb
  rw [← hW0]
  have HBE := hidA hb
  clear hW0 hb HLa
  go_loopw [7] (fun s7 W' => ∃ (k : Nat) (v : Value) (s : Gl.SS), s7 = .int .i64 k ∧ k ≤ l.length ∧ Hid (SR b W' (b + 1 + 1) l size last v s) ∧ Hid (Md (sS (b + 1 + 1) (.slice none 0 0)) W0 W') ∧ Hid (vNew W0 (.slice none 0 0) v) ∧ Hid (Gl.sR size s (l.drop k) = some sF)) (fun s7 _ => l.length - (intOf s7).toNat)
  case atStart => exact ⟨0, _, _, rfl, Nat.zero_le _, HS0, Md.refl _ _, vNew.refl _ _, HRn⟩
  case round =>
    obtain ⟨k, v, s, rfl, hk, HK, HMk, HV, HR⟩ := hrel
    have hbw : Below b W0 wr := HMk.out.below (by have := HSz.out; omega) (fun k hk hh => hh.elim (fun e => by omega) (fun e => by cases e))
    have HBw := hidA (HB0.out.trans hbw)
    have hzr : W0.heap.size ≤ wr.heap.size := HMk.out.size
    clear hbw
    by_cases hlt : k < l.length
    · have hne : l.drop k ≠ [] := by intro e; have := congrArg List.length e; simp at this; omega
      have hst := HR.out
      rw [Gl.sR_step hne] at hst
      cases hI : Gl.sItem size s (l.drop k) with
      | none => rw [hI] at hst; cases hst
      | some q =>
        obtain ⟨s', n⟩ := q
        rw [hI] at hst
        have hpos := Gl.sItem_pos hne hI
        rw [List.length_drop] at hpos
        have HC1 := hidA (HIt.out b wr (b + 1 + 1) v s k HK.out (by have := HSz.out; omega) (HCN.out.grow HBw.out (Nat.le_of_eq HBE.out)) (HML.out.grow HBw.out (Nat.le_of_eq HBE.out)) hlt)
        rw [hI] at HC1
        have HR2 : Hid (Gl.sR size s' (l.drop (k + n)) = some sF) := by show _ = _; rw [← List.drop_drop]; exact hst
        clear hI hst hne HIt
        go_wp2_with (go_at_call 43; go_loud (refine HC1.out.mono ?_); rintro e w2 ⟨hm2, ho⟩; (obtain ⟨s2, n2, v2, hO, rfl, h1, h2⟩ := ho.resolve_right (fun h => by cases h.1)); (obtain ⟨rfl, rfl⟩ := Prod.mk.inj (Option.some.inj hO)); have Q1 := hidA h1; have Q2 := hidA hm2; have Q3 := hidA h2; clear h1 hm2 h2 hO ho)
        exact ⟨⟨k + n, v2, s', rfl, by omega, Q1, sS_trans HMk.out HV.out Q2.out, HV.out.trans hzr Q3.out, HR2⟩, by simp [intOf]; omega⟩
    · obtain rfl : k = l.length := by omega
      have hsF : s = sF := by have := HR.out; rw [List.drop_length, Gl.sR_nil] at this; exact Option.some.inj this
      subst hsF
      have HWh := hidA (gWhole0 HK.out HFi.out HOu.out h4)
      have e1 := (HMk.out.block b (by have := HSz.out; omega) (fun h => h.elim (fun e => by omega) (fun e => by cases e))).trans HZ1.out
      have e2 := (HMk.out.block (b + 1) (by have := HSz.out; omega) (fun h => h.elim (fun e => by omega) (fun e => by cases e))).trans HZ2.out
      have HE1 := hidA e1
      have HE2 := hidA e2
      have hbz : b + 1 < wr.heap.size := heap_lt e2
      clear e1 e2 HIt HCN HML HRn HK
      go_wp2_with (go_at_call 44; go_loud (refine HWh.out.mono ?_); rintro e w2 ⟨v2, rfl, hy2, hb2⟩; (have HY2 := hidA hy2); (obtain ⟨ya, yc, rfl⟩ := hy2.slice); (have HB2 := hidA hb2); (have g1 := (hb2.block b (by omega)).trans HE1.out); (have g2 := (hb2.block (b + 1) (by omega)).trans HE2.out); (have c1 : w2.cell? ⟨b, 0, none⟩ = some (.slice none 0 0) := by rw [cell_heap g1]; rfl); (have c2 : w2.cell? ⟨b + 1, 0, none⟩ = some (.int .i64 0) := by rw [cell_heap g2]; rfl); (have z1 : w2.frozen? ⟨b, 0, none⟩ = false := by simp [World.frozen?, g1]); (have z2 : w2.frozen? ⟨b + 1, 0, none⟩ = false := by simp [World.frozen?, g2]); (have HG1 := hidA g1); (have HG2 := hidA g2); (have hne : ∀ v, (w2.setCell ⟨b, 0, none⟩ v).cell? ⟨b + 1, 0, none⟩ = some (.int .i64 0) := fun v => by rw [cell_other _ _ _ (by omega)]; exact c2); (have zne : ∀ v, (w2.setCell ⟨b, 0, none⟩ v).frozen? ⟨b + 1, 0, none⟩ = false := fun v => by simp [z2]); clear hy2 hb2 g1 g2)
      refine leaves_cons (f := 41) (args := #[.pointer (some ⟨b, 0, none⟩), .pointer (some ⟨b + 1, 0, none⟩)]) (by simp) (by simp [go_sem]) ?_
      refine (catch_idle12 ⟨b, 0, none⟩ ⟨b + 1, 0, none⟩ _).mono ?_
      rintro e u' w3 ⟨rfl, rfl, rfl⟩
      have e1 : ∀ v u, ((w2.setCell ⟨b, 0, none⟩ v).setCell ⟨b + 1, 0, none⟩ u).cell? ⟨b, 0, none⟩ = some v := fun v u => by rw [cell_other _ _ _ (by omega), World.cell?_setCell_same _ _ _ c1]
      have e2 : ∀ v u, ((w2.setCell ⟨b, 0, none⟩ v).setCell ⟨b + 1, 0, none⟩ u).cell? ⟨b + 1, 0, none⟩ = some u := fun v u => World.cell?_setCell_same _ _ _ (by rw [cell_other _ _ _ (by omega)]; exact c2)
      have HBf : Hid (∀ v u, Below b w ((w2.setCell ⟨b, 0, none⟩ v).setCell ⟨b + 1, 0, none⟩ u)) := fun v u => ((HBw.out.trans (HB2.out.mono (by omega))).setCell (by simp) v).setCell (by simp) u
      have HYf : Hid (∀ v u, By b ((w2.setCell ⟨b, 0, none⟩ v).setCell ⟨b + 1, 0, none⟩ u) (.slice ya s.out.length yc) s.out) := fun v u => by
        have h1 : By b w2 (.slice ya s.out.length yc) s.out := by
          refine ⟨HY2.out.1, ?_⟩
          rcases HY2.out.2 with h | ⟨g, cap, cur, h1, h2, h3⟩
          · exact .inl h
          · exact .inr ⟨g, cap, cur, h1, by omega, h3⟩
        exact h1.on (fun g c hg => by rw [Below.heap_setCell _ _ _ _ (heap_ne hg HG2.out (by decide)), Below.heap_setCell _ _ _ _ (heap_ne hg HG1.out (by decide))])
      simp [Leaves, settle, results, Tryd.results20, go_sem, e1, e2]
      exact ⟨HYf.out _ _, HBf.out _ _⟩
end Go.Proofs.YtncnmeidciailaaDoor
