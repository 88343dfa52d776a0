/- The walk of the plain answer's half. Condition: a text that fits. -/
import Derived.Test.YtladflfdpfpbpaaDoorKa5
namespace Go.Proofs.YtladflfdpfpbpaaDoor
open Go.RowKit
attribute [local go_sem] ext_eq app_eq get_eq
set_option maxRecDepth 100000 in
set_option maxHeartbeats 8000000 in
theorem rHF (s : List UInt8) (hs : s.length ≤ 2 ^ 60) (w : World) : Calls Tryd.prog 10 #[.string ⟨s.toArray⟩] w fun e w' => e = .returned (.tuple #[.int .i64 (Ok.HF s).1, .int .i64 (Ok.HF s).2.1, .int .i64 (Ok.HF s).2.2.1, .int .i64 (Ok.HF s).2.2.2]) ∧ Below w.heap.size w w' := by
  have HD := hidA (rDG s hs w)
  have hle := Ok.DG_le s
  have hR : Ok.HF s = Ok.HF s := rfl
  conv at hR => rhs; unfold Ok.HF
  rcases hp : Ok.DG s with ⟨f, q⟩
  rw [hp] at HD hR hle
  clear hp
  dsimp only at HD hR hle
  by_cases h0 : q = 0
  · rw [if_pos (.inl h0)] at hR
    rw [hR]
    subst h0
    clear hR
    go_enter Tryd.func10, Tryd.ntmps10
    go_wp2_with (go_at_call 18; refine HD.out.mono ?_; rintro e w1 ⟨rfl, b1⟩; (have HB := hidA b1); clear b1)
    (try simp only [Exit.inBlock, Exit.then])
    refine bodyPost_ret (by simp [results, Tryd.results10, go_sem]; rfl) rfl ?_
    exact ⟨rfl, HB.out⟩
  have e0 : ((q : Int) == 0) = false := by rw [beq_eq_false_iff_ne]; omega
  by_cases h1 : f = 0
  · rw [if_pos (.inr h1)] at hR
    rw [hR]
    subst h1
    clear hR
    go_enter Tryd.func10, Tryd.ntmps10
    go_wp2_with (go_at_call 18; refine HD.out.mono ?_; rintro e w1 ⟨rfl, b1⟩; (have HB := hidA b1); clear b1)
    (try simp only [Exit.inBlock, Exit.then])
    refine bodyPost_ret (by simp [results, Tryd.results10, go_sem]; rfl) rfl ?_
    exact ⟨rfl, HB.out⟩
  have e1 : ((f : Int) == 0) = false := by rw [beq_eq_false_iff_ne]; omega
  rw [if_neg (fun h => h.elim h0 h1)] at hR
  clear h0 h1
  have hqI : (q : Int) ≤ (s.length : Int) := by omega
  by_cases h46 : (s.drop q).head? = some 46
  · rw [if_pos h46, List.tail_drop] at hR
    rw [List.head?_drop] at h46
    have hq : q < s.length := by
      rcases Nat.lt_or_ge q s.length with h | h
      · exact h
      · rw [List.getElem?_eq_none h] at h46; cases h46
    rw [List.getElem?_eq_getElem hq] at h46
    have hsq : s[q] = 46 := Option.some.inj h46
    clear h46
    have hw1 : IntKind.i64.wrap ((q : Int) + 1) = ((q + 1 : Nat) : Int) := by rw [IntKind.wrap_i64]; omega
    have hq1 : q + 1 ≤ s.length := hq
    have hq1I : ((q + 1 : Nat) : Int) ≤ (s.length : Int) := by omega
    have HD2 := hidA (fun W => rDG (s.drop (q + 1)) (by rw [List.length_drop]; omega) W)
    have hle2 := Ok.DG_le (s.drop (q + 1))
    rw [List.length_drop] at hle2
    rcases hp : Ok.DG (s.drop (q + 1)) with ⟨g, d⟩
    rw [hp] at HD2 hR hle2
    clear hp
    dsimp only at HD2 hR hle2
    by_cases hd0 : d = 0
    · rw [if_pos hd0] at hR
      rw [hR]
      subst hd0
      clear hR
      go_enter Tryd.func10, Tryd.ntmps10
      go_wp2_with (first
        | (go_at_call 18; (have hsz0 := HB0.out.size); refine (HD2.out _).mono ?_; clear hsz0; rintro e w2 ⟨rfl, b2⟩; (have HB := hidA (HB0.out.trans (b2.mono HB0.out.size))); clear b2)
        | (go_at_call 18; refine HD.out.mono ?_; rintro e w1 ⟨rfl, b1⟩; (have HB0 := hidA b1); clear b1))
      (try simp only [Exit.inBlock, Exit.then])
      refine bodyPost_ret (by simp [results, Tryd.results10, go_sem]; rfl) rfl ?_
      exact ⟨rfl, HB.out⟩
    have e2 : ((d : Int) == 0) = false := by rw [beq_eq_false_iff_ne]; omega
    rw [if_neg hd0, List.drop_drop] at hR
    obtain ⟨k0, Hk0⟩ : ∃ k : Nat, Hid (k = q + 1 + d) := ⟨_, hidA rfl⟩
    rw [← Hk0.out] at hR
    have hw2 : IntKind.i64.wrap (1 + (d : Int)) = ((1 + d : Nat) : Int) := by rw [IntKind.wrap_i64]; omega
    have hw3 : IntKind.i64.wrap ((q : Int) + ((1 + d : Nat) : Int)) = (k0 : Int) := by have := Hk0.out; rw [IntKind.wrap_i64]; omega
    have hw4 : IntKind.i64.wrap ((q : Int) + (1 + (d : Int))) = (k0 : Int) := by have := Hk0.out; rw [IntKind.wrap_i64]; omega
    have HK : Hid (k0 ≤ s.length) := hidA (by have := Hk0.out; omega)
    obtain ⟨F, HF1⟩ : ∃ F : Int, Hid (F = Ok.fl ((s.drop k0).take (Ok.lc (s.drop k0)))) := ⟨_, hidA rfl⟩
    obtain ⟨n, HF2⟩ : ∃ n : Nat, Hid (n = k0 + Ok.lc (s.drop k0)) := ⟨_, hidA rfl⟩
    have hG : Ok.HF s = (f, (g : Int), F, n) := by rw [hR, HF1.out, HF2.out]; rfl
    rw [hG]
    clear hG hR hd0
    go_enter Tryd.func10, Tryd.ntmps10
    go_wp2_with (first
      | (go_at_call 18; (have hsz0 := HB0.out.size); refine (HD2.out _).mono ?_; clear hsz0; rintro e w2 ⟨rfl, b2⟩; (have HB := hidA (HB0.out.trans (b2.mono HB0.out.size))); clear b2)
      | (go_at_call 18; refine HD.out.mono ?_; rintro e w1 ⟨rfl, b1⟩; (have HB0 := hidA b1); clear b1))
    go_loop [7, 11] (fun s7 s11 => ∃ (k : Nat) (A : Int), k0 ≤ k ∧ k ≤ s.length ∧ s7 = .int .i64 k ∧ s11 = .int .i64 A ∧ Hid (A = Ok.fl ((s.drop k0).take (k - k0))) ∧ Hid (k - k0 ≤ Ok.lc (s.drop k0))) (fun s7 _ => s.length - (intOf s7).toNat)
    case atStart => exact ⟨k0, 0, Nat.le_refl _, HK.out, rfl, rfl, hidA (by rw [Nat.sub_self]; rfl), hidA (by rw [Nat.sub_self]; exact Nat.zero_le _)⟩
    case round =>
      obtain ⟨k, A, hk0, hk, rfl, rfl, HA, HL⟩ := hrel
      by_cases hlt : k < s.length
      · have hw1 : IntKind.i64.wrap ((k : Int) + 1) = ((k + 1 : Nat) : Int) := by rw [IntKind.wrap_i64]; omega
        have HE := hidA (Ok.fl_step hk0 hlt)
        rw [← HA.out] at HE
        have HY : Hid (Ok.lt s[k] = true → k + 1 - k0 ≤ Ok.lc (s.drop k0)) := Ok.lc_yes hk0 HL.out hlt
        have HN : Hid (Ok.lt s[k] = false → k0 + Ok.lc (s.drop k0) = k) := Ok.lc_stop hk0 HL.out hlt
        have hk1 : k0 ≤ k + 1 := by omega
        obtain ⟨x, Hx⟩ : ∃ x : UInt8, Hid (x = s[k]) := ⟨_, hidA rfl⟩
        rw [← Hx.out] at HE HY HN
        by_cases h110 : x = 110
        · have hxk : s[k] = 110 := by rw [← Hx.out]; exact h110
          subst h110
          clear Hx HL HA HN HF1 HF2
          go_wp2
          exact ⟨⟨k + 1, Ok.orI A (Ok.lf 110), hk1, hlt, by first | rfl | go_num, rfl, hidA HE.out.symm, hidA (HY.out rfl)⟩, by simp [intOf]; omega⟩
        have e110 := byte_no s[k] 110 110 rfl (by rw [← Hx.out]; exact h110)
        by_cases h114 : x = 114
        · have hxk : s[k] = 114 := by rw [← Hx.out]; exact h114
          subst h114
          clear Hx HL HA HN HF1 HF2
          go_wp2
          exact ⟨⟨k + 1, Ok.orI A (Ok.lf 114), hk1, hlt, by first | rfl | go_num, rfl, hidA HE.out.symm, hidA (HY.out rfl)⟩, by simp [intOf]; omega⟩
        have e114 := byte_no s[k] 114 114 rfl (by rw [← Hx.out]; exact h114)
        by_cases h102 : x = 102
        · have hxk : s[k] = 102 := by rw [← Hx.out]; exact h102
          subst h102
          clear Hx HL HA HN HF1 HF2
          go_wp2
          exact ⟨⟨k + 1, Ok.orI A (Ok.lf 102), hk1, hlt, by first | rfl | go_num, rfl, hidA HE.out.symm, hidA (HY.out rfl)⟩, by simp [intOf]; omega⟩
        have e102 := byte_no s[k] 102 102 rfl (by rw [← Hx.out]; exact h102)
        by_cases h98 : x = 98
        · have hxk : s[k] = 98 := by rw [← Hx.out]; exact h98
          subst h98
          clear Hx HL HA HN HF1 HF2
          go_wp2
          exact ⟨⟨k + 1, Ok.orI A (Ok.lf 98), hk1, hlt, by first | rfl | go_num, rfl, hidA HE.out.symm, hidA (HY.out rfl)⟩, by simp [intOf]; omega⟩
        have e98 := byte_no s[k] 98 98 rfl (by rw [← Hx.out]; exact h98)
        by_cases h100 : x = 100
        · have hxk : s[k] = 100 := by rw [← Hx.out]; exact h100
          subst h100
          clear Hx HL HA HN HF1 HF2
          go_wp2
          exact ⟨⟨k + 1, Ok.orI A (Ok.lf 100), hk1, hlt, by first | rfl | go_num, rfl, hidA HE.out.symm, hidA (HY.out rfl)⟩, by simp [intOf]; omega⟩
        have e100 := byte_no s[k] 100 100 rfl (by rw [← Hx.out]; exact h100)
        have hlf : Ok.lt x = false := by
          unfold Ok.lt
          rw [decide_eq_false h110, decide_eq_false h114, decide_eq_false h102, decide_eq_false h98, decide_eq_false h100]; rfl
        have hst := HN.out hlf
        have r1 : F = A := by
          rw [HF1.out, HA.out, show k - k0 = Ok.lc (s.drop k0) by omega]
        have r2 : n = k := by rw [HF2.out]; exact hst
        subst r1 r2
        clear hst HL HA HF1 HF2
        clear hlf h110 h114 h102 h98 h100 HE HY HN Hx
        go_wp2
        (try simp only [Exit.inBlock, Exit.then])
        refine bodyPost_ret (by simp [results, Tryd.results10, go_sem]; rfl) rfl ?_
        exact ⟨rfl, HB.out⟩
      · have hst := Ok.lc_end hk0 HL.out hk hlt
        have r1 : F = A := by
          rw [HF1.out, HA.out, show k - k0 = Ok.lc (s.drop k0) by omega]
        have r2 : n = k := by rw [HF2.out]; exact hst
        subst r1 r2
        clear hst HL HA HF1 HF2
        go_wp2
        (try simp only [Exit.inBlock, Exit.then])
        refine bodyPost_ret (by simp [results, Tryd.results10, go_sem]; rfl) rfl ?_
        exact ⟨rfl, HB.out⟩
  · rw [if_neg h46] at hR
    rw [List.head?_drop] at h46
    have HK : Hid (q ≤ s.length) := hidA hle
    obtain ⟨F, HF1⟩ : ∃ F : Int, Hid (F = Ok.fl ((s.drop q).take (Ok.lc (s.drop q)))) := ⟨_, hidA rfl⟩
    obtain ⟨n, HF2⟩ : ∃ n : Nat, Hid (n = q + Ok.lc (s.drop q)) := ⟨_, hidA rfl⟩
    have hG : Ok.HF s = (f, -1, F, n) := by rw [hR, HF1.out, HF2.out]; rfl
    rw [hG]
    clear hG hR
    by_cases hq : q < s.length
    · have hsq := byte_no s[q] 46 46 rfl (fun h => h46 (by rw [List.getElem?_eq_getElem hq, h]))
      clear h46
      go_enter Tryd.func10, Tryd.ntmps10
      go_wp2_with (go_at_call 18; refine HD.out.mono ?_; rintro e w1 ⟨rfl, b1⟩; (have HB := hidA b1); clear b1)
      go_loop [7, 11] (fun s7 s11 => ∃ (k : Nat) (A : Int), q ≤ k ∧ k ≤ s.length ∧ s7 = .int .i64 k ∧ s11 = .int .i64 A ∧ Hid (A = Ok.fl ((s.drop q).take (k - q))) ∧ Hid (k - q ≤ Ok.lc (s.drop q))) (fun s7 _ => s.length - (intOf s7).toNat)
      case atStart => exact ⟨q, 0, Nat.le_refl _, HK.out, rfl, rfl, hidA (by rw [Nat.sub_self]; rfl), hidA (by rw [Nat.sub_self]; exact Nat.zero_le _)⟩
      case round =>
        obtain ⟨k, A, hk0, hk, rfl, rfl, HA, HL⟩ := hrel
        by_cases hlt : k < s.length
        · have hw1 : IntKind.i64.wrap ((k : Int) + 1) = ((k + 1 : Nat) : Int) := by rw [IntKind.wrap_i64]; omega
          have HE := hidA (Ok.fl_step hk0 hlt)
          rw [← HA.out] at HE
          have HY : Hid (Ok.lt s[k] = true → k + 1 - q ≤ Ok.lc (s.drop q)) := Ok.lc_yes hk0 HL.out hlt
          have HN : Hid (Ok.lt s[k] = false → q + Ok.lc (s.drop q) = k) := Ok.lc_stop hk0 HL.out hlt
          have hk1 : q ≤ k + 1 := by omega
          obtain ⟨x, Hx⟩ : ∃ x : UInt8, Hid (x = s[k]) := ⟨_, hidA rfl⟩
          rw [← Hx.out] at HE HY HN
          by_cases h110 : x = 110
          · have hxk : s[k] = 110 := by rw [← Hx.out]; exact h110
            subst h110
            clear Hx HL HA HN HF1 HF2
            go_wp2
            exact ⟨⟨k + 1, Ok.orI A (Ok.lf 110), hk1, hlt, by first | rfl | go_num, rfl, hidA HE.out.symm, hidA (HY.out rfl)⟩, by simp [intOf]; omega⟩
          have e110 := byte_no s[k] 110 110 rfl (by rw [← Hx.out]; exact h110)
          by_cases h114 : x = 114
          · have hxk : s[k] = 114 := by rw [← Hx.out]; exact h114
            subst h114
            clear Hx HL HA HN HF1 HF2
            go_wp2
            exact ⟨⟨k + 1, Ok.orI A (Ok.lf 114), hk1, hlt, by first | rfl | go_num, rfl, hidA HE.out.symm, hidA (HY.out rfl)⟩, by simp [intOf]; omega⟩
          have e114 := byte_no s[k] 114 114 rfl (by rw [← Hx.out]; exact h114)
          by_cases h102 : x = 102
          · have hxk : s[k] = 102 := by rw [← Hx.out]; exact h102
            subst h102
            clear Hx HL HA HN HF1 HF2
            go_wp2
            exact ⟨⟨k + 1, Ok.orI A (Ok.lf 102), hk1, hlt, by first | rfl | go_num, rfl, hidA HE.out.symm, hidA (HY.out rfl)⟩, by simp [intOf]; omega⟩
          have e102 := byte_no s[k] 102 102 rfl (by rw [← Hx.out]; exact h102)
          by_cases h98 : x = 98
          · have hxk : s[k] = 98 := by rw [← Hx.out]; exact h98
            subst h98
            clear Hx HL HA HN HF1 HF2
            go_wp2
            exact ⟨⟨k + 1, Ok.orI A (Ok.lf 98), hk1, hlt, by first | rfl | go_num, rfl, hidA HE.out.symm, hidA (HY.out rfl)⟩, by simp [intOf]; omega⟩
          have e98 := byte_no s[k] 98 98 rfl (by rw [← Hx.out]; exact h98)
          by_cases h100 : x = 100
          · have hxk : s[k] = 100 := by rw [← Hx.out]; exact h100
            subst h100
            clear Hx HL HA HN HF1 HF2
            go_wp2
            exact ⟨⟨k + 1, Ok.orI A (Ok.lf 100), hk1, hlt, by first | rfl | go_num, rfl, hidA HE.out.symm, hidA (HY.out rfl)⟩, by simp [intOf]; omega⟩
          have e100 := byte_no s[k] 100 100 rfl (by rw [← Hx.out]; exact h100)
          have hlf : Ok.lt x = false := by
            unfold Ok.lt
            rw [decide_eq_false h110, decide_eq_false h114, decide_eq_false h102, decide_eq_false h98, decide_eq_false h100]; rfl
          have hst := HN.out hlf
          have r1 : F = A := by
            rw [HF1.out, HA.out, show k - q = Ok.lc (s.drop q) by omega]
          have r2 : n = k := by rw [HF2.out]; exact hst
          subst r1 r2
          clear hst HL HA HF1 HF2
          clear hlf h110 h114 h102 h98 h100 HE HY HN Hx
          go_wp2
          (try simp only [Exit.inBlock, Exit.then])
          refine bodyPost_ret (by simp [results, Tryd.results10, go_sem]; rfl) rfl ?_
          exact ⟨rfl, HB.out⟩
        · have hst := Ok.lc_end hk0 HL.out hk hlt
          have r1 : F = A := by
            rw [HF1.out, HA.out, show k - q = Ok.lc (s.drop q) by omega]
          have r2 : n = k := by rw [HF2.out]; exact hst
          subst r1 r2
          clear hst HL HA HF1 HF2
          go_wp2
          (try simp only [Exit.inBlock, Exit.then])
          refine bodyPost_ret (by simp [results, Tryd.results10, go_sem]; rfl) rfl ?_
          exact ⟨rfl, HB.out⟩
    · clear h46
      go_enter Tryd.func10, Tryd.ntmps10
      go_wp2_with (go_at_call 18; refine HD.out.mono ?_; rintro e w1 ⟨rfl, b1⟩; (have HB := hidA b1); clear b1)
      go_loop [7, 11] (fun s7 s11 => ∃ (k : Nat) (A : Int), q ≤ k ∧ k ≤ s.length ∧ s7 = .int .i64 k ∧ s11 = .int .i64 A ∧ Hid (A = Ok.fl ((s.drop q).take (k - q))) ∧ Hid (k - q ≤ Ok.lc (s.drop q))) (fun s7 _ => s.length - (intOf s7).toNat)
      case atStart => exact ⟨q, 0, Nat.le_refl _, HK.out, rfl, rfl, hidA (by rw [Nat.sub_self]; rfl), hidA (by rw [Nat.sub_self]; exact Nat.zero_le _)⟩
      case round =>
        obtain ⟨k, A, hk0, hk, rfl, rfl, HA, HL⟩ := hrel
        by_cases hlt : k < s.length
        · have hw1 : IntKind.i64.wrap ((k : Int) + 1) = ((k + 1 : Nat) : Int) := by rw [IntKind.wrap_i64]; omega
          have HE := hidA (Ok.fl_step hk0 hlt)
          rw [← HA.out] at HE
          have HY : Hid (Ok.lt s[k] = true → k + 1 - q ≤ Ok.lc (s.drop q)) := Ok.lc_yes hk0 HL.out hlt
          have HN : Hid (Ok.lt s[k] = false → q + Ok.lc (s.drop q) = k) := Ok.lc_stop hk0 HL.out hlt
          have hk1 : q ≤ k + 1 := by omega
          obtain ⟨x, Hx⟩ : ∃ x : UInt8, Hid (x = s[k]) := ⟨_, hidA rfl⟩
          rw [← Hx.out] at HE HY HN
          by_cases h110 : x = 110
          · have hxk : s[k] = 110 := by rw [← Hx.out]; exact h110
            subst h110
            clear Hx HL HA HN HF1 HF2
            go_wp2
            exact ⟨⟨k + 1, Ok.orI A (Ok.lf 110), hk1, hlt, by first | rfl | go_num, rfl, hidA HE.out.symm, hidA (HY.out rfl)⟩, by simp [intOf]; omega⟩
          have e110 := byte_no s[k] 110 110 rfl (by rw [← Hx.out]; exact h110)
          by_cases h114 : x = 114
          · have hxk : s[k] = 114 := by rw [← Hx.out]; exact h114
            subst h114
            clear Hx HL HA HN HF1 HF2
            go_wp2
            exact ⟨⟨k + 1, Ok.orI A (Ok.lf 114), hk1, hlt, by first | rfl | go_num, rfl, hidA HE.out.symm, hidA (HY.out rfl)⟩, by simp [intOf]; omega⟩
          have e114 := byte_no s[k] 114 114 rfl (by rw [← Hx.out]; exact h114)
          by_cases h102 : x = 102
          · have hxk : s[k] = 102 := by rw [← Hx.out]; exact h102
            subst h102
            clear Hx HL HA HN HF1 HF2
            go_wp2
            exact ⟨⟨k + 1, Ok.orI A (Ok.lf 102), hk1, hlt, by first | rfl | go_num, rfl, hidA HE.out.symm, hidA (HY.out rfl)⟩, by simp [intOf]; omega⟩
          have e102 := byte_no s[k] 102 102 rfl (by rw [← Hx.out]; exact h102)
          by_cases h98 : x = 98
          · have hxk : s[k] = 98 := by rw [← Hx.out]; exact h98
            subst h98
            clear Hx HL HA HN HF1 HF2
            go_wp2
            exact ⟨⟨k + 1, Ok.orI A (Ok.lf 98), hk1, hlt, by first | rfl | go_num, rfl, hidA HE.out.symm, hidA (HY.out rfl)⟩, by simp [intOf]; omega⟩
          have e98 := byte_no s[k] 98 98 rfl (by rw [← Hx.out]; exact h98)
          by_cases h100 : x = 100
          · have hxk : s[k] = 100 := by rw [← Hx.out]; exact h100
            subst h100
            clear Hx HL HA HN HF1 HF2
            go_wp2
            exact ⟨⟨k + 1, Ok.orI A (Ok.lf 100), hk1, hlt, by first | rfl | go_num, rfl, hidA HE.out.symm, hidA (HY.out rfl)⟩, by simp [intOf]; omega⟩
          have e100 := byte_no s[k] 100 100 rfl (by rw [← Hx.out]; exact h100)
          have hlf : Ok.lt x = false := by
            unfold Ok.lt
            rw [decide_eq_false h110, decide_eq_false h114, decide_eq_false h102, decide_eq_false h98, decide_eq_false h100]; rfl
          have hst := HN.out hlf
          have r1 : F = A := by
            rw [HF1.out, HA.out, show k - q = Ok.lc (s.drop q) by omega]
          have r2 : n = k := by rw [HF2.out]; exact hst
          subst r1 r2
          clear hst HL HA HF1 HF2
          clear hlf h110 h114 h102 h98 h100 HE HY HN Hx
          go_wp2
          (try simp only [Exit.inBlock, Exit.then])
          refine bodyPost_ret (by simp [results, Tryd.results10, go_sem]; rfl) rfl ?_
          exact ⟨rfl, HB.out⟩
        · have hst := Ok.lc_end hk0 HL.out hk hlt
          have r1 : F = A := by
            rw [HF1.out, HA.out, show k - q = Ok.lc (s.drop q) by omega]
          have r2 : n = k := by rw [HF2.out]; exact hst
          subst r1 r2
          clear hst HL HA HF1 HF2
          go_wp2
          (try simp only [Exit.inBlock, Exit.then])
          refine bodyPost_ret (by simp [results, Tryd.results10, go_sem]; rfl) rfl ?_
          exact ⟨rfl, HB.out⟩
end Go.Proofs.YtladflfdpfpbpaaDoor
