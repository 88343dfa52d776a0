/- The walks of the program's giveUp and span. Conditions: a text that fits; the reader lies in memory. -/
import Derived.Test.YtncnmeidciailaaDoorLb5
namespace Go.Proofs.YtncnmeidciailaaDoor
open Go.RowKit
attribute [local go_sem] ext_eq app_eq get_eq
/-- A set that was given up. -/
def EI : List PanicEntry := [{ v := .iface 23 (.int .i64 22), recovered := false }]
theorem gGiveUp (w : World) : Calls Tryd.prog 80 #[] w fun x w' => x = .panicked EI ∧ w' = w := by
  go_enter Tryd.func80, Tryd.ntmps80
  go_wp2
  exact ⟨rfl, rfl, rfl⟩
/-- What an item's reading tells. -/
def ItOut (B rb : Nat) (l : List UInt8) (size last : Int) (v : Value) (W : World) (k : Nat) (o : Option (Gl.SS × Nat)) (e : Ending) (W' : World) : Prop :=
  Md (sS rb v) W W' ∧ ((∃ s' n v', o = some (s', n) ∧ e = .returned (.int .i64 ((k + n : Nat) : Int)) ∧ SR B W' rb l size last v' s' ∧ vNew W v v') ∨ (o = none ∧ e = .panicked EI))
namespace Gl
theorem span_two {l : List UInt8} {k : Nat} (h1 : k + (esc (l.drop k)).2 + 1 < l.length) (h2 : l[k + (esc (l.drop k)).2] = 45) : span (l.drop k) = ((esc (l.drop k)).1, (esc (l.drop (k + (esc (l.drop k)).2 + 1))).1, (esc (l.drop k)).2 + 1 + (esc (l.drop (k + (esc (l.drop k)).2 + 1))).2) := by
  unfold span
  rw [if_pos ⟨by rw [List.drop_drop, List.head?_drop, List.getElem?_eq_getElem (by omega), h2], by rw [List.length_drop]; omega⟩, List.drop_drop]
  rw [show k + ((esc (l.drop k)).2 + 1) = k + (esc (l.drop k)).2 + 1 by omega]
theorem span_one {l : List UInt8} {k : Nat} (h : ¬ (k + (esc (l.drop k)).2 + 1 < l.length) ∨ ∃ h : k + (esc (l.drop k)).2 < l.length, l[k + (esc (l.drop k)).2] ≠ 45) : span (l.drop k) = ((esc (l.drop k)).1, (esc (l.drop k)).1, (esc (l.drop k)).2) := by
  unfold span
  rw [if_neg]
  rintro ⟨h1, h2⟩
  rw [List.length_drop] at h2
  rcases h with h | ⟨h3, h4⟩
  · omega
  · rw [List.drop_drop, List.head?_drop, List.getElem?_eq_getElem h3] at h1
    exact h4 (Option.some.inj h1)
theorem from_len (lo : Nat) : ∀ n, (from_ lo n).length = n
  | 0 => rfl
  | n + 1 => by simp [from_, from_len lo n]
end Gl
/-- What a span adds. -/
def spanO (s : Gl.SS) (p : UInt8 × UInt8 × Nat) : Option (Gl.SS × Nat) := if p.2.1.toNat < p.1.toNat then none else some (s.add (Gl.from_ p.1.toNat (p.2.1.toNat + 1 - p.1.toNat)), p.2.2)
theorem spanO_no {s : Gl.SS} {lo hi : UInt8} {n : Nat} (h : hi.toNat < lo.toNat) : spanO s (lo, hi, n) = none := by unfold spanO; rw [if_pos h]
theorem spanO_yes {s : Gl.SS} {lo hi : UInt8} {n : Nat} (h : ¬ hi.toNat < lo.toNat) : spanO s (lo, hi, n) = some (s.add (Gl.from_ lo.toNat (hi.toNat + 1 - lo.toNat)), n) := by unfold spanO; rw [if_neg h]
set_option maxRecDepth 100000 in
set_option maxHeartbeats 4000000 in
theorem gSpan {B : Nat} {W : World} {rb : Nat} {l : List UInt8} {size last : Int} {v : Value} {s : Gl.SS} (h : SR B W rb l size last v s) (hB : B ≤ W.heap.size) (k : Nat) (hk : k < l.length) (hl : l.length ≤ 2 ^ 40) : Calls Tryd.prog 68 #[.pointer (some ⟨rb, 0, none⟩), .int .i64 k] W (ItOut B rb l size last v W k (spanO s (Gl.span (l.drop k)))) := by
  have hs : (⟨l.toArray⟩ : ByteArray).size = l.length := str_size l
  have HS := hidA (fun m => h.grow (bl_drew W m))
  have HM := hidA (fun m => (Md.refl (sS rb v) W).drewN m)
  have hc0 : ∀ m, (W.drewN m).cell? ⟨rb, 0, none⟩ = some (.string ⟨l.toArray⟩) := fun m => h.cells.1
  have hc1 : W.cell? ⟨rb, 0, none⟩ = some (.string ⟨l.toArray⟩) := h.cells.1
  have hne : l.drop k ≠ [] := by intro e; have := congrArg List.length e; simp at this; omega
  obtain ⟨hp1, hp2⟩ := Gl.esc_pos (l.drop k) hne
  rw [List.length_drop] at hp2
  have HLt := hidA (fun m => gSLetter rb l k hk hl (W.drewN m) (hc0 m))
  have HLt0 := hidA (gSLetter rb l k hk hl W hc1)
  have HG := hidA (fun w => gGiveUp w)
  have HAd := hidA (fun (s : Gl.SS) (v : Value) (w : World) (h : SR B w rb l size last v s) hB c => gAdd h hB c 1 (by omega))
  have hf1 := Gl.span_two (l := l) (k := k)
  have hf2 := Gl.span_one (l := l) (k := k)
  clear h hne
  obtain ⟨⟨lo, p⟩, hO⟩ : ∃ O, Gl.esc (l.drop k) = O := ⟨_, rfl⟩
  simp only [hO] at *
  clear hO
  have hlo := lo.toNat_lt
  have hw1 : IntKind.i64.wrap (((k + p : Nat) : Int) + 1) = ((k + p + 1 : Nat) : Int) := by rw [IntKind.wrap_i64]; omega
  by_cases hlt : k + p + 1 < l.length
  · have hlt' : decide (((k + p + 1 : Nat) : Int) < (l.length : Int)) = true := by simp; omega
    by_cases hc : l[k + p] = 45
    · have hc' := byte_yes _ 45 45 rfl hc
      have hsp := hf1 hlt hc
      have HB1 := hidA (fun w h0 => gSLetter rb l (k + p + 1) hlt hl w h0)
      clear hf1 hf2 hc
      obtain ⟨⟨hi, q⟩, hQ⟩ : ∃ O, Gl.esc (l.drop (k + p + 1)) = O := ⟨_, rfl⟩
      simp only [hQ] at *
      clear hQ
      have hhi := hi.toNat_lt
      by_cases hcmp : hi.toNat < lo.toNat
      · have HO : Hid (spanO s (Gl.span (l.drop k)) = none) := by show _ = _; rw [hsp]; exact spanO_no hcmp
        generalize spanO s (Gl.span (l.drop k)) = O at *
        go_enter Tryd.func68, Tryd.ntmps68
        go_wp2_with (first | (go_at_call 82; go_loud (refine (HB1.out _ d0).mono ?_); rintro e w2 ⟨rfl, m2, hw2⟩; (have HS2 : Hid (SR B w2 rb l size last v s) := by rw [hw2]; exact HS1.out.grow (bl_drew w1 m2)); (have HM2 : Hid (Md (sS rb v) W w2) := by rw [hw2]; exact HM1.out.drewN m2); (have z2 : W.heap.size ≤ w2.heap.size := HM2.out.size); clear hw2) | (go_at_call 82; go_loud (with_reducible refine Calls.mono HLt0.out ?_); rintro e w1 ⟨rfl, m1, hw1⟩; (have HS1 : Hid (SR B w1 rb l size last v s) := by rw [hw1]; exact HS.out m1); (have HM1 : Hid (Md (sS rb v) W w1) := by rw [hw1]; exact HM.out m1); (have d0 : w1.cell? ⟨rb, 0, none⟩ = some (.string ⟨l.toArray⟩) := HS1.out.cells.1); (have z1 : W.heap.size ≤ w1.heap.size := HM1.out.size); clear hw1) | (go_at_call 80; go_loud (refine (HG.out _).mono ?_); rintro e w9 ⟨rfl, hw9⟩; rw [hw9]; clear hw9 w9))
        exact ⟨rfl, HM2.out, .inr ⟨HO.out, rfl⟩⟩
      · have HO : Hid (spanO s (Gl.span (l.drop k)) = some (s.add (Gl.from_ lo.toNat (hi.toNat + 1 - lo.toNat)), p + 1 + q)) := by show _ = _; rw [hsp]; exact spanO_yes hcmp
        generalize spanO s (Gl.span (l.drop k)) = O at *
        go_enter Tryd.func68, Tryd.ntmps68
        go_wp2_with (first | (go_at_call 82; go_loud (refine (HB1.out _ d0).mono ?_); rintro e w2 ⟨rfl, m2, hw2⟩; (have HS2 : Hid (SR B w2 rb l size last v s) := by rw [hw2]; exact HS1.out.grow (bl_drew w1 m2)); (have HM2 : Hid (Md (sS rb v) W w2) := by rw [hw2]; exact HM1.out.drewN m2); (have z2 : W.heap.size ≤ w2.heap.size := HM2.out.size); clear hw2) | (go_at_call 82; go_loud (with_reducible refine Calls.mono HLt0.out ?_); rintro e w1 ⟨rfl, m1, hw1⟩; (have HS1 : Hid (SR B w1 rb l size last v s) := by rw [hw1]; exact HS.out m1); (have HM1 : Hid (Md (sS rb v) W w1) := by rw [hw1]; exact HM.out m1); (have d0 : w1.cell? ⟨rb, 0, none⟩ = some (.string ⟨l.toArray⟩) := HS1.out.cells.1); (have z1 : W.heap.size ≤ w1.heap.size := HM1.out.size); clear hw1))
        go_loopw [8] (fun s8 W' => ∃ (j : Nat) (v' : Value), s8 = .int .i64 ((lo.toNat + j : Nat) : Int) ∧ j ≤ hi.toNat + 1 - lo.toNat ∧ Hid (SR B W' rb l size last v' (s.add (Gl.from_ lo.toNat j))) ∧ Hid (Md (sS rb v) W W') ∧ Hid (vNew W v v')) (fun s8 _ => hi.toNat + 1 - (intOf s8).toNat)
        case atStart => exact ⟨0, v, rfl, Nat.zero_le _, hidA (by rw [show Gl.from_ lo.toNat 0 = [] from rfl, Gl.add_nil]; exact HS2.out), HM2, vNew.refl _ _⟩
        case round =>
          obtain ⟨j, v', rfl, hj, HK, HMk, HV⟩ := hrel
          rename_i wr
          have hzr : W.heap.size ≤ wr.heap.size := HMk.out.size
          obtain ⟨P, hP⟩ : ∃ P, lo.toNat + j = P := ⟨_, rfl⟩
          simp only [hP]
          have HP := hidA hP
          have hPl : lo.toNat ≤ P := by omega
          have hPm : P ≤ 256 := by have := hi.toNat_lt; omega
          have hjP : j = P - lo.toNat := by omega
          have HJ := hidA hjP
          clear hjP hP
          have hwP : IntKind.i64.wrap ((P : Int) + 1) = ((P + 1 : Nat) : Int) := by rw [IntKind.wrap_i64]; have := hi.toNat_lt; omega
          by_cases hle : P ≤ hi.toNat
          · have hP2 : P < 256 := by have := hi.toNat_lt; omega
            have hu8 : IntKind.u8.wrap (P : Int) = (P : Int) := by rw [IntKind.wrap_u8]; omega
            have HA1 : Hid (Calls Tryd.prog 81 #[.pointer (some ⟨rb, 0, none⟩), .int .u8 P, .int .i64 1] wr fun e W' => e = .returned (.tuple #[]) ∧ ∃ v'', SR B W' rb l size last v'' ((s.add (Gl.from_ lo.toNat j)).add (List.replicate 1 (UInt8.ofNat P))) ∧ Md (sS rb v') wr W' ∧ vNew wr v' v'') := by
              have hh := HAd.out _ _ wr HK.out (by omega) (UInt8.ofNat P)
              rw [ofN hP2] at hh
              exact hh
            have HF : Hid ((s.add (Gl.from_ lo.toNat j)).add (List.replicate 1 (UInt8.ofNat P)) = s.add (Gl.from_ lo.toNat (j + 1))) := by
              show _ = _
              rw [Gl.add_add, show Gl.from_ lo.toNat (j + 1) = Gl.from_ lo.toNat j ++ [UInt8.ofNat (lo.toNat + j)] from rfl, HP.out]; rfl
            clear HAd HG
            go_wp2_with (go_at_call 81; refine HA1.out.mono ?_; rintro e w3 ⟨rfl, v3, q1, q2, q3⟩; rw [HF.out] at q1; have Q1 := hidA q1; have Q2 := hidA q2; have Q3 := hidA q3; clear q1 q2 q3)
            exact ⟨⟨j + 1, v3, vint (by have := HP.out; omega), by have := HP.out; omega, Q1, sS_trans HMk.out HV.out Q2.out, HV.out.trans hzr Q3.out⟩, by simp [intOf]; omega⟩
          · have hje : j = hi.toNat + 1 - lo.toNat := by have := HP.out; omega
            have HJE := hidA hje
            clear hje HAd HG
            go_wp2
            go_ret
            exact ⟨HMk.out, .inl ⟨_, _, v', HO.out, by first | rfl | (exact ret_int (by omega)), by rw [← HJE.out]; exact HK.out, HV.out⟩⟩
    · have hc' := byte_no _ 45 45 rfl hc
      have hsp := hf2 (.inr ⟨by omega, hc⟩)
      clear hf1 hf2 hc
      by_cases hcmp : lo.toNat < lo.toNat
      · exact absurd hcmp (Nat.lt_irrefl _)
      · have HO : Hid (spanO s (Gl.span (l.drop k)) = some (s.add (Gl.from_ lo.toNat (lo.toNat + 1 - lo.toNat)), p)) := by show _ = _; rw [hsp]; exact spanO_yes hcmp
        generalize spanO s (Gl.span (l.drop k)) = O at *
        go_enter Tryd.func68, Tryd.ntmps68
        go_wp2_with (first | (go_at_call 82; go_loud (with_reducible refine Calls.mono HLt0.out ?_); rintro e w1 ⟨rfl, m1, hw1⟩; (have HS1 : Hid (SR B w1 rb l size last v s) := by rw [hw1]; exact HS.out m1); (have HM1 : Hid (Md (sS rb v) W w1) := by rw [hw1]; exact HM.out m1); (have d0 : w1.cell? ⟨rb, 0, none⟩ = some (.string ⟨l.toArray⟩) := HS1.out.cells.1); (have z1 : W.heap.size ≤ w1.heap.size := HM1.out.size); clear hw1))
        go_loopw [8] (fun s8 W' => ∃ (j : Nat) (v' : Value), s8 = .int .i64 ((lo.toNat + j : Nat) : Int) ∧ j ≤ lo.toNat + 1 - lo.toNat ∧ Hid (SR B W' rb l size last v' (s.add (Gl.from_ lo.toNat j))) ∧ Hid (Md (sS rb v) W W') ∧ Hid (vNew W v v')) (fun s8 _ => lo.toNat + 1 - (intOf s8).toNat)
        case atStart => exact ⟨0, v, rfl, Nat.zero_le _, hidA (by rw [show Gl.from_ lo.toNat 0 = [] from rfl, Gl.add_nil]; exact HS1.out), HM1, vNew.refl _ _⟩
        case round =>
          obtain ⟨j, v', rfl, hj, HK, HMk, HV⟩ := hrel
          rename_i wr
          have hzr : W.heap.size ≤ wr.heap.size := HMk.out.size
          obtain ⟨P, hP⟩ : ∃ P, lo.toNat + j = P := ⟨_, rfl⟩
          simp only [hP]
          have HP := hidA hP
          have hPl : lo.toNat ≤ P := by omega
          have hPm : P ≤ 256 := by have := lo.toNat_lt; omega
          have hjP : j = P - lo.toNat := by omega
          have HJ := hidA hjP
          clear hjP hP
          have hwP : IntKind.i64.wrap ((P : Int) + 1) = ((P + 1 : Nat) : Int) := by rw [IntKind.wrap_i64]; have := lo.toNat_lt; omega
          by_cases hle : P ≤ lo.toNat
          · have hP2 : P < 256 := by have := lo.toNat_lt; omega
            have hu8 : IntKind.u8.wrap (P : Int) = (P : Int) := by rw [IntKind.wrap_u8]; omega
            have HA1 : Hid (Calls Tryd.prog 81 #[.pointer (some ⟨rb, 0, none⟩), .int .u8 P, .int .i64 1] wr fun e W' => e = .returned (.tuple #[]) ∧ ∃ v'', SR B W' rb l size last v'' ((s.add (Gl.from_ lo.toNat j)).add (List.replicate 1 (UInt8.ofNat P))) ∧ Md (sS rb v') wr W' ∧ vNew wr v' v'') := by
              have hh := HAd.out _ _ wr HK.out (by omega) (UInt8.ofNat P)
              rw [ofN hP2] at hh
              exact hh
            have HF : Hid ((s.add (Gl.from_ lo.toNat j)).add (List.replicate 1 (UInt8.ofNat P)) = s.add (Gl.from_ lo.toNat (j + 1))) := by
              show _ = _
              rw [Gl.add_add, show Gl.from_ lo.toNat (j + 1) = Gl.from_ lo.toNat j ++ [UInt8.ofNat (lo.toNat + j)] from rfl, HP.out]; rfl
            clear HAd HG
            go_wp2_with (go_at_call 81; refine HA1.out.mono ?_; rintro e w3 ⟨rfl, v3, q1, q2, q3⟩; rw [HF.out] at q1; have Q1 := hidA q1; have Q2 := hidA q2; have Q3 := hidA q3; clear q1 q2 q3)
            exact ⟨⟨j + 1, v3, vint (by have := HP.out; omega), by have := HP.out; omega, Q1, sS_trans HMk.out HV.out Q2.out, HV.out.trans hzr Q3.out⟩, by simp [intOf]; omega⟩
          · have hje : j = lo.toNat + 1 - lo.toNat := by have := HP.out; omega
            have HJE := hidA hje
            clear hje HAd HG
            go_wp2
            go_ret
            exact ⟨HMk.out, .inl ⟨_, _, v', HO.out, by first | rfl | (exact ret_int (by omega)), by rw [← HJE.out]; exact HK.out, HV.out⟩⟩
  · have hlt' : decide (((k + p + 1 : Nat) : Int) < (l.length : Int)) = false := by simp; omega
    have hsp := hf2 (.inl hlt)
    clear hf1 hf2
    by_cases hcmp : lo.toNat < lo.toNat
    · exact absurd hcmp (Nat.lt_irrefl _)
    · have HO : Hid (spanO s (Gl.span (l.drop k)) = some (s.add (Gl.from_ lo.toNat (lo.toNat + 1 - lo.toNat)), p)) := by show _ = _; rw [hsp]; exact spanO_yes hcmp
      generalize spanO s (Gl.span (l.drop k)) = O at *
      go_enter Tryd.func68, Tryd.ntmps68
      go_wp2_with (first | (go_at_call 82; go_loud (with_reducible refine Calls.mono HLt0.out ?_); rintro e w1 ⟨rfl, m1, hw1⟩; (have HS1 : Hid (SR B w1 rb l size last v s) := by rw [hw1]; exact HS.out m1); (have HM1 : Hid (Md (sS rb v) W w1) := by rw [hw1]; exact HM.out m1); (have d0 : w1.cell? ⟨rb, 0, none⟩ = some (.string ⟨l.toArray⟩) := HS1.out.cells.1); (have z1 : W.heap.size ≤ w1.heap.size := HM1.out.size); clear hw1))
      go_loopw [8] (fun s8 W' => ∃ (j : Nat) (v' : Value), s8 = .int .i64 ((lo.toNat + j : Nat) : Int) ∧ j ≤ lo.toNat + 1 - lo.toNat ∧ Hid (SR B W' rb l size last v' (s.add (Gl.from_ lo.toNat j))) ∧ Hid (Md (sS rb v) W W') ∧ Hid (vNew W v v')) (fun s8 _ => lo.toNat + 1 - (intOf s8).toNat)
      case atStart => exact ⟨0, v, rfl, Nat.zero_le _, hidA (by rw [show Gl.from_ lo.toNat 0 = [] from rfl, Gl.add_nil]; exact HS1.out), HM1, vNew.refl _ _⟩
      case round =>
        obtain ⟨j, v', rfl, hj, HK, HMk, HV⟩ := hrel
        rename_i wr
        have hzr : W.heap.size ≤ wr.heap.size := HMk.out.size
        obtain ⟨P, hP⟩ : ∃ P, lo.toNat + j = P := ⟨_, rfl⟩
        simp only [hP]
        have HP := hidA hP
        have hPl : lo.toNat ≤ P := by omega
        have hPm : P ≤ 256 := by have := lo.toNat_lt; omega
        have hjP : j = P - lo.toNat := by omega
        have HJ := hidA hjP
        clear hjP hP
        have hwP : IntKind.i64.wrap ((P : Int) + 1) = ((P + 1 : Nat) : Int) := by rw [IntKind.wrap_i64]; have := lo.toNat_lt; omega
        by_cases hle : P ≤ lo.toNat
        · have hP2 : P < 256 := by have := lo.toNat_lt; omega
          have hu8 : IntKind.u8.wrap (P : Int) = (P : Int) := by rw [IntKind.wrap_u8]; omega
          have HA1 : Hid (Calls Tryd.prog 81 #[.pointer (some ⟨rb, 0, none⟩), .int .u8 P, .int .i64 1] wr fun e W' => e = .returned (.tuple #[]) ∧ ∃ v'', SR B W' rb l size last v'' ((s.add (Gl.from_ lo.toNat j)).add (List.replicate 1 (UInt8.ofNat P))) ∧ Md (sS rb v') wr W' ∧ vNew wr v' v'') := by
            have hh := HAd.out _ _ wr HK.out (by omega) (UInt8.ofNat P)
            rw [ofN hP2] at hh
            exact hh
          have HF : Hid ((s.add (Gl.from_ lo.toNat j)).add (List.replicate 1 (UInt8.ofNat P)) = s.add (Gl.from_ lo.toNat (j + 1))) := by
            show _ = _
            rw [Gl.add_add, show Gl.from_ lo.toNat (j + 1) = Gl.from_ lo.toNat j ++ [UInt8.ofNat (lo.toNat + j)] from rfl, HP.out]; rfl
          clear HAd HG
          go_wp2_with (go_at_call 81; refine HA1.out.mono ?_; rintro e w3 ⟨rfl, v3, q1, q2, q3⟩; rw [HF.out] at q1; have Q1 := hidA q1; have Q2 := hidA q2; have Q3 := hidA q3; clear q1 q2 q3)
          exact ⟨⟨j + 1, v3, vint (by have := HP.out; omega), by have := HP.out; omega, Q1, sS_trans HMk.out HV.out Q2.out, HV.out.trans hzr Q3.out⟩, by simp [intOf]; omega⟩
        · have hje : j = lo.toNat + 1 - lo.toNat := by have := HP.out; omega
          have HJE := hidA hje
          clear hje HAd HG
          go_wp2
          go_ret
          exact ⟨HMk.out, .inl ⟨_, _, v', HO.out, by first | rfl | (exact ret_int (by omega)), by rw [← HJE.out]; exact HK.out, HV.out⟩⟩
end Go.Proofs.YtncnmeidciailaaDoor
