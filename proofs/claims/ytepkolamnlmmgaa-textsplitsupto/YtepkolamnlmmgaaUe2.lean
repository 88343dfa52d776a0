/- The program's pieces, with either closure that tells where a piece ends. Condition: lengths that fit. -/
import Derived.Test.YtepkolamnlmmgaaM9
namespace Go.Proofs.Ytepkolamnlmmgaa
open Go.RowKit
attribute [local go_sem] ext_eq app_eq get_eq
set_option maxRecDepth 100000 in
set_option maxHeartbeats 4000000 in
theorem oPieces2 (l p : List UInt8) (a : Option Addr) (c s u : Nat) (E : Nat → Nat) (hs : 0 < s) (hs2 : s < 2 ^ 63) (hu : u ≤ 1048577) (hE : ∀ k, E k ≤ l.length) (hEm : ∀ i j, i ≤ j → E i ≤ E j) (hl : l.length ≤ 1048577) (hp : p.length ≤ 1048577) (w : World) (hS : Sr w a c l) (hC : ∀ (W : World) (m : Nat), Below w.heap.size w W → m ≤ u → Calls Try.prog 12 #[.int .i64 m] W fun e w' => e = .returned (.int .i64 (E m)) ∧ w' = W) : Calls Try.prog 10 #[.slice a l.length c, .int .i64 u, .int .i64 s, .string ⟨p.toArray⟩, .func (.func 12) #[] #[]] w fun e w' => Below w.heap.size w w' ∧ ((676 < Tl.kk s u ∧ e = .returned (.tuple #[.slice none 0 0, .slice none 0 0, .int .i64 34])) ∨ (Tl.kk s u ≤ 676 ∧ ∃ v1 v2, e = .returned (.tuple #[v1, v2, .int .i64 0]) ∧ SRow w.heap.size w' v1 (Tl.NM p (Tl.kk s u)) ∧ RR w.heap.size w' v2 (Tl.SP l E s u (Tl.kk s u)))) := by
  obtain ⟨iR, hiR, hr0, hr1, hr2⟩ := infoRR
  obtain ⟨iS, hiS, hs0, hs1, hs3⟩ := infoStr
  have HS := hidA hS
  have HC := hidA hC
  have hsub : IntKind.i64.wrap ((u : Int) - 1) = (u : Int) - 1 := by rw [IntKind.wrap_i64]; omega
  have hsn : ((s : Int) == 0) = false := beq_eq_false_iff_ne.2 (by omega)
  have hsn2 : ¬ (s : Int) = 0 := by omega
  have hbig : decide ((676 : Int) ≤ ((u : Int) - 1).tdiv (s : Int)) = decide (676 < Tl.kk s u) := by
    rcases Tl.kk_big hs u 676 with h | h
    · exact h
    · exact absurd h (by decide)
  have hqw : IntKind.i64.wrap (((u : Int) - 1).tdiv (s : Int)) = ((u : Int) - 1).tdiv (s : Int) := by
    rw [IntKind.wrap_i64]
    have h1 : (((u : Int) - 1).tdiv (s : Int)).natAbs ≤ ((u : Int) - 1).natAbs := Int.natAbs_tdiv_le_natAbs _ _
    omega
  clear hC hS
  by_cases hb : 676 < Tl.kk s u
  · rw [decide_eq_true hb] at hbig
    have hbig2 := of_decide_eq_true hbig
    have hbig3 : ¬ ((u : Int) - 1).tdiv (s : Int) < 676 := by omega
    go_enter Try.func10, Try.ntmps10
    go_wp2_with fail
    go_ret3
    exact ⟨Below.refl _ _, .inl rfl⟩
  · rw [decide_eq_false hb] at hbig
    have hbig2 := of_decide_eq_false hbig
    have hkk : Tl.kk s u ≤ 676 := by omega
    have hbig3 : ((u : Int) - 1).tdiv (s : Int) < 676 := by omega
    go_enter Try.func10, Try.ntmps10
    go_upto_region 6 with fail
    go_loopw [13, 14, 15] (fun s13 s14 s15 W => ∃ (k : Nat), s15 = .int .i64 (Tl.cu s u k) ∧ k ≤ Tl.kk s u ∧ Hid (SRow w.heap.size W s13 (Tl.NM p k)) ∧ Hid (RR w.heap.size W s14 (Tl.SP l E s u k)) ∧ Hid (Below w.heap.size w W)) (fun _ _ s15 _ => u - (intOf s15).toNat)
    case atStart => exact ⟨0, by rw [Tl.cu_zero]; rfl, Nat.zero_le _, hidA (SRow.nil _ _), hidA (RR.nil _ _), hidA (Below.refl _ _)⟩
    case round =>
      obtain ⟨k, rfl, hk, HN, HR, HB⟩ := hrel
      have hcl := Tl.cu_lt hs u k
      have hDu := Tl.cu_le s u (k + 1)
      have hCD := Tl.cu_mono s u k
      have hcs := Tl.cu_succ s u k
      have hlen := Tl.SP_len l E s u k
      have hnl := Tl.NM_len p k
      have hRs := hidA (Tl.SP_succ l E s u k)
      have hNs := hidA (Tl.NM_succ p k)
      by_cases hlt : k < Tl.kk s u
      · have hCu := hcl.2 hlt
        have hk6 : k < 676 := by omega
        have HLt := hidA (oLetters k hk6)
        obtain ⟨a', c', hsl, hsp⟩ := sl_mid HS.out (E (Tl.cu s u k)) (E (Tl.cu s u (k + 1))) (hEm _ _ hCD) (hE _)
        have hpl : ((l.take (E (Tl.cu s u (k + 1)))).drop (E (Tl.cu s u k))).length ≤ 1048577 := by rw [List.length_drop, List.length_take]; omega
        have HCl := hidA (fun W (b : Below w.heap.size w W) => oClone ((l.take (E (Tl.cu s u (k + 1)))).drop (E (Tl.cu s u k))) a' c' (by omega) W (hsp.grow b))
        have HC1 := hidA (fun W (b : Below w.heap.size w W) => HC.out W (Tl.cu s u k) b (by omega))
        have HC2 := hidA (fun W (b : Below w.heap.size w W) => HC.out W (Tl.cu s u (k + 1)) b hDu)
        have hnm : Hid (Tl.nm p k = p ++ lt2 k) := rfl
        have hspe : Hid (Tl.sp l E s u k = (l.take (E (Tl.cu s u (k + 1)))).drop (E (Tl.cu s u k))) := rfl
        clear hsp HC hcl
        generalize (l.take (E (Tl.cu s u (k + 1)))).drop (E (Tl.cu s u k)) = x at *
        generalize E (Tl.cu s u (k + 1)) = ED at *
        generalize E (Tl.cu s u k) = EC at *
        generalize hD : Tl.cu s u (k + 1) = D at *
        have HD := hidA hD
        clear hD
        generalize Tl.cu s u k = C at *
        have hyl : (lt2 k).length = 2 := rfl
        have hpy : p.length + (lt2 k).length ≤ 9223372036854775807 := by omega
        generalize lt2 k = y at *
        rw [hnm.out] at hNs
        rw [hspe.out] at hRs
        clear hnm hspe
        generalize Tl.NM p k = N0 at *
        generalize Tl.SP l E s u k = R0 at *
        obtain ⟨a14, c14, hv14⟩ := HR.out.slice
        subst hv14
        have hsz := hidA HB.out.size
        have hsubC : IntKind.i64.wrap ((u : Int) - (C : Int)) = (u : Int) - (C : Int) := by rw [IntKind.wrap_i64]; omega
        have hminI : min (s : Int) ((u : Int) - (C : Int)) = (D : Int) - (C : Int) := by omega
        have haddC : IntKind.i64.wrap ((C : Int) + ((D : Int) - (C : Int))) = (D : Int) := by rw [IntKind.wrap_i64]; omega
        clear hcs
        subst hlen
        go_wp2_with (first
          | (go_at_call 22; with_reducible refine (HLt.out _).mono ?_; rintro e w2 ⟨rfl, b1⟩; have HN2 := hidA (HN.out.grow b1).own; have HR2 := hidA (HR.out.grow b1); have HB2 := hidA (HB.out.trans (b1.mono HB.out.size)); have hs2 := hidA HB2.out.size; clear b1)
          | (go_at_call 12; (first | with_reducible refine (HC1.out _ HB3.out).mono ?_ | with_reducible refine (HC2.out _ HB3.out).mono ?_); rintro e w4 ⟨rfl, hw4⟩; rw [hw4]; clear hw4 w4)
          | (go_at_call 23; (with_reducible refine (HCl.out _ HB3.out).mono ?_); rintro e w5 ⟨v5, rfl, h1, b1⟩; obtain ⟨vs, o1, o2, o3, o4⟩ := HR3.out.grow b1; have HO5 := hidA o1; have HP := hidA (fun (v' : Value) (w' : World) (ob : Obj) hown hg => RR.push (v' := v') (w' := w') (u := v5) o1 o2 o3 o4 (Sq.of_by h1) h1.one ob hown hg); have HN5 := hidA (HN3.out.grow b1); have HB5 := hidA (HB3.out.trans (b1.mono HB3.out.size)); have hs5 := hidA HB5.out.size; obtain ⟨a5, c5, hv5⟩ := h1.slice; subst hv5; clear o1 o2 o3 o4 h1 b1)
          | (at_builtin; refine wpList_append_own_at _ rfl _ _ 25 rfl w.heap.size 9 iS (.string ⟨#[]⟩) 1 16 Try.underlying25 hiS hs0 hs1 hs3 rfl (by decide) _ _ _ rfl (HN2.out.alloc _) ⟨w2.heap.size, 0, none⟩ 1 1 [.string ⟨(p ++ y).toArray⟩] rfl rfl (cell_one_new _ _ _) (one_str _) (by unfold maxLen; omega) (by omega) (by have := hs2.out; simp; omega) ?_; intro v3 w3 hown hg2 _ hat; have HN3 := hidA (SRow.push (x := p ++ y) hown); have HR3 := hidA ((HR2.out.grow ((Below.refl _ _).alloc (Nat.le_refl _) _)).other hg2 (HN2.out.alloc _) (Nat.le_refl _)); have HB3 : Hid (Below w.heap.size w w3) := (HB2.out.alloc hs2.out _).grown hg2 (by have := hs2.out; simp; omega) (fun k hk => (HN2.out.lt k hk).1); clear hown hg2 hat)
          | (at_builtin; refine wpList_append_own_at _ rfl _ _ 26 rfl w.heap.size 22 iR (.slice none 0 0) 1 24 Try.underlying26 hiR hr0 hr1 hr2 rfl (by decide) _ _ _ rfl (HO5.out.alloc _) ⟨w5.heap.size, 0, none⟩ 1 1 [.slice a5 x.length c5] rfl rfl (cell_one_new _ _ _) (by intro u hu; simp at hu; subst hu; rfl) (by unfold maxLen; omega) (by omega) (by have := hs5.out; simp; omega) ?_; intro v6 w6 hown hg2 _ hat; have HR6 := hidA (HP.out v6 w6 _ hown hg2); have HN6 := hidA ((HN5.out.grow ((Below.refl _ _).alloc (Nat.le_refl _) _)).other hg2 (HO5.out.alloc _)); have HB6 : Hid (Below w.heap.size w w6) := (HB5.out.alloc hs5.out _).grown hg2 (by have := hs5.out; simp; omega) (fun k hk => (HO5.out.lt k hk).1); clear hown hg2 hat))
        exact ⟨⟨R0.length + 1, by rw [HD.out], hlt, by rw [hNs.out]; exact HN6, by rw [hRs.out]; exact HR6, HB6⟩, by simp [intOf]; omega⟩
      · have ek : k = Tl.kk s u := by omega
        have hCu : ¬ Tl.cu s u k < u := fun h => hlt (hcl.1 h)
        have EK := hidA ek
        clear hcl hcs ek
        go_wp2_with fail
        go_ret3
        exact ⟨HB.out, .inr ⟨hkk, _, _, rfl, by rw [← EK.out]; exact HN.out, by rw [← EK.out]; exact HR.out⟩⟩
set_option maxRecDepth 100000 in
set_option maxHeartbeats 4000000 in
theorem oPieces1 (l p : List UInt8) (a : Option Addr) (c s u : Nat) (E : Nat → Nat) (gp : Nat) (hs : 0 < s) (hs2 : s < 2 ^ 63) (hu : u ≤ 1048577) (hE : ∀ k, E k ≤ l.length) (hEm : ∀ i j, i ≤ j → E i ≤ E j) (hl : l.length ≤ 1048577) (hp : p.length ≤ 1048577) (w : World) (hS : Sr w a c l) (hC : ∀ (W : World) (m : Nat), Below w.heap.size w W → m ≤ u → Calls Try.prog 11 #[.int .i64 m, .pointer (some ⟨gp, 0, none⟩)] W fun e w' => e = .returned (.int .i64 (E m)) ∧ w' = W) : Calls Try.prog 10 #[.slice a l.length c, .int .i64 u, .int .i64 s, .string ⟨p.toArray⟩, .func (.func 11) #[] #[.pointer (some ⟨gp, 0, none⟩)]] w fun e w' => Below w.heap.size w w' ∧ ((676 < Tl.kk s u ∧ e = .returned (.tuple #[.slice none 0 0, .slice none 0 0, .int .i64 34])) ∨ (Tl.kk s u ≤ 676 ∧ ∃ v1 v2, e = .returned (.tuple #[v1, v2, .int .i64 0]) ∧ SRow w.heap.size w' v1 (Tl.NM p (Tl.kk s u)) ∧ RR w.heap.size w' v2 (Tl.SP l E s u (Tl.kk s u)))) := by
  obtain ⟨iR, hiR, hr0, hr1, hr2⟩ := infoRR
  obtain ⟨iS, hiS, hs0, hs1, hs3⟩ := infoStr
  have HS := hidA hS
  have HC := hidA hC
  have hsub : IntKind.i64.wrap ((u : Int) - 1) = (u : Int) - 1 := by rw [IntKind.wrap_i64]; omega
  have hsn : ((s : Int) == 0) = false := beq_eq_false_iff_ne.2 (by omega)
  have hsn2 : ¬ (s : Int) = 0 := by omega
  have hbig : decide ((676 : Int) ≤ ((u : Int) - 1).tdiv (s : Int)) = decide (676 < Tl.kk s u) := by
    rcases Tl.kk_big hs u 676 with h | h
    · exact h
    · exact absurd h (by decide)
  have hqw : IntKind.i64.wrap (((u : Int) - 1).tdiv (s : Int)) = ((u : Int) - 1).tdiv (s : Int) := by
    rw [IntKind.wrap_i64]
    have h1 : (((u : Int) - 1).tdiv (s : Int)).natAbs ≤ ((u : Int) - 1).natAbs := Int.natAbs_tdiv_le_natAbs _ _
    omega
  clear hC hS
  by_cases hb : 676 < Tl.kk s u
  · rw [decide_eq_true hb] at hbig
    have hbig2 := of_decide_eq_true hbig
    have hbig3 : ¬ ((u : Int) - 1).tdiv (s : Int) < 676 := by omega
    go_enter Try.func10, Try.ntmps10
    go_wp2_with fail
    go_ret3
    exact ⟨Below.refl _ _, .inl rfl⟩
  · rw [decide_eq_false hb] at hbig
    have hbig2 := of_decide_eq_false hbig
    have hkk : Tl.kk s u ≤ 676 := by omega
    have hbig3 : ((u : Int) - 1).tdiv (s : Int) < 676 := by omega
    go_enter Try.func10, Try.ntmps10
    go_upto_region 6 with fail
    go_loopw [13, 14, 15] (fun s13 s14 s15 W => ∃ (k : Nat), s15 = .int .i64 (Tl.cu s u k) ∧ k ≤ Tl.kk s u ∧ Hid (SRow w.heap.size W s13 (Tl.NM p k)) ∧ Hid (RR w.heap.size W s14 (Tl.SP l E s u k)) ∧ Hid (Below w.heap.size w W)) (fun _ _ s15 _ => u - (intOf s15).toNat)
    case atStart => exact ⟨0, by rw [Tl.cu_zero]; rfl, Nat.zero_le _, hidA (SRow.nil _ _), hidA (RR.nil _ _), hidA (Below.refl _ _)⟩
    case round =>
      obtain ⟨k, rfl, hk, HN, HR, HB⟩ := hrel
      have hcl := Tl.cu_lt hs u k
      have hDu := Tl.cu_le s u (k + 1)
      have hCD := Tl.cu_mono s u k
      have hcs := Tl.cu_succ s u k
      have hlen := Tl.SP_len l E s u k
      have hnl := Tl.NM_len p k
      have hRs := hidA (Tl.SP_succ l E s u k)
      have hNs := hidA (Tl.NM_succ p k)
      by_cases hlt : k < Tl.kk s u
      · have hCu := hcl.2 hlt
        have hk6 : k < 676 := by omega
        have HLt := hidA (oLetters k hk6)
        obtain ⟨a', c', hsl, hsp⟩ := sl_mid HS.out (E (Tl.cu s u k)) (E (Tl.cu s u (k + 1))) (hEm _ _ hCD) (hE _)
        have hpl : ((l.take (E (Tl.cu s u (k + 1)))).drop (E (Tl.cu s u k))).length ≤ 1048577 := by rw [List.length_drop, List.length_take]; omega
        have HCl := hidA (fun W (b : Below w.heap.size w W) => oClone ((l.take (E (Tl.cu s u (k + 1)))).drop (E (Tl.cu s u k))) a' c' (by omega) W (hsp.grow b))
        have HC1 := hidA (fun W (b : Below w.heap.size w W) => HC.out W (Tl.cu s u k) b (by omega))
        have HC2 := hidA (fun W (b : Below w.heap.size w W) => HC.out W (Tl.cu s u (k + 1)) b hDu)
        have hnm : Hid (Tl.nm p k = p ++ lt2 k) := rfl
        have hspe : Hid (Tl.sp l E s u k = (l.take (E (Tl.cu s u (k + 1)))).drop (E (Tl.cu s u k))) := rfl
        clear hsp HC hcl
        generalize (l.take (E (Tl.cu s u (k + 1)))).drop (E (Tl.cu s u k)) = x at *
        generalize E (Tl.cu s u (k + 1)) = ED at *
        generalize E (Tl.cu s u k) = EC at *
        generalize hD : Tl.cu s u (k + 1) = D at *
        have HD := hidA hD
        clear hD
        generalize Tl.cu s u k = C at *
        have hyl : (lt2 k).length = 2 := rfl
        have hpy : p.length + (lt2 k).length ≤ 9223372036854775807 := by omega
        generalize lt2 k = y at *
        rw [hnm.out] at hNs
        rw [hspe.out] at hRs
        clear hnm hspe
        generalize Tl.NM p k = N0 at *
        generalize Tl.SP l E s u k = R0 at *
        obtain ⟨a14, c14, hv14⟩ := HR.out.slice
        subst hv14
        have hsz := hidA HB.out.size
        have hsubC : IntKind.i64.wrap ((u : Int) - (C : Int)) = (u : Int) - (C : Int) := by rw [IntKind.wrap_i64]; omega
        have hminI : min (s : Int) ((u : Int) - (C : Int)) = (D : Int) - (C : Int) := by omega
        have haddC : IntKind.i64.wrap ((C : Int) + ((D : Int) - (C : Int))) = (D : Int) := by rw [IntKind.wrap_i64]; omega
        clear hcs
        subst hlen
        go_wp2_with (first
          | (go_at_call 22; with_reducible refine (HLt.out _).mono ?_; rintro e w2 ⟨rfl, b1⟩; have HN2 := hidA (HN.out.grow b1).own; have HR2 := hidA (HR.out.grow b1); have HB2 := hidA (HB.out.trans (b1.mono HB.out.size)); have hs2 := hidA HB2.out.size; clear b1)
          | (go_at_call 11; (first | with_reducible refine (HC1.out _ HB3.out).mono ?_ | with_reducible refine (HC2.out _ HB3.out).mono ?_); rintro e w4 ⟨rfl, hw4⟩; rw [hw4]; clear hw4 w4)
          | (go_at_call 23; (with_reducible refine (HCl.out _ HB3.out).mono ?_); rintro e w5 ⟨v5, rfl, h1, b1⟩; obtain ⟨vs, o1, o2, o3, o4⟩ := HR3.out.grow b1; have HO5 := hidA o1; have HP := hidA (fun (v' : Value) (w' : World) (ob : Obj) hown hg => RR.push (v' := v') (w' := w') (u := v5) o1 o2 o3 o4 (Sq.of_by h1) h1.one ob hown hg); have HN5 := hidA (HN3.out.grow b1); have HB5 := hidA (HB3.out.trans (b1.mono HB3.out.size)); have hs5 := hidA HB5.out.size; obtain ⟨a5, c5, hv5⟩ := h1.slice; subst hv5; clear o1 o2 o3 o4 h1 b1)
          | (at_builtin; refine wpList_append_own_at _ rfl _ _ 25 rfl w.heap.size 9 iS (.string ⟨#[]⟩) 1 16 Try.underlying25 hiS hs0 hs1 hs3 rfl (by decide) _ _ _ rfl (HN2.out.alloc _) ⟨w2.heap.size, 0, none⟩ 1 1 [.string ⟨(p ++ y).toArray⟩] rfl rfl (cell_one_new _ _ _) (one_str _) (by unfold maxLen; omega) (by omega) (by have := hs2.out; simp; omega) ?_; intro v3 w3 hown hg2 _ hat; have HN3 := hidA (SRow.push (x := p ++ y) hown); have HR3 := hidA ((HR2.out.grow ((Below.refl _ _).alloc (Nat.le_refl _) _)).other hg2 (HN2.out.alloc _) (Nat.le_refl _)); have HB3 : Hid (Below w.heap.size w w3) := (HB2.out.alloc hs2.out _).grown hg2 (by have := hs2.out; simp; omega) (fun k hk => (HN2.out.lt k hk).1); clear hown hg2 hat)
          | (at_builtin; refine wpList_append_own_at _ rfl _ _ 26 rfl w.heap.size 22 iR (.slice none 0 0) 1 24 Try.underlying26 hiR hr0 hr1 hr2 rfl (by decide) _ _ _ rfl (HO5.out.alloc _) ⟨w5.heap.size, 0, none⟩ 1 1 [.slice a5 x.length c5] rfl rfl (cell_one_new _ _ _) (by intro u hu; simp at hu; subst hu; rfl) (by unfold maxLen; omega) (by omega) (by have := hs5.out; simp; omega) ?_; intro v6 w6 hown hg2 _ hat; have HR6 := hidA (HP.out v6 w6 _ hown hg2); have HN6 := hidA ((HN5.out.grow ((Below.refl _ _).alloc (Nat.le_refl _) _)).other hg2 (HO5.out.alloc _)); have HB6 : Hid (Below w.heap.size w w6) := (HB5.out.alloc hs5.out _).grown hg2 (by have := hs5.out; simp; omega) (fun k hk => (HO5.out.lt k hk).1); clear hown hg2 hat))
        exact ⟨⟨R0.length + 1, by rw [HD.out], hlt, by rw [hNs.out]; exact HN6, by rw [hRs.out]; exact HR6, HB6⟩, by simp [intOf]; omega⟩
      · have ek : k = Tl.kk s u := by omega
        have hCu : ¬ Tl.cu s u k < u := fun h => hlt (hcl.1 h)
        have EK := hidA ek
        clear hcl hcs ek
        go_wp2_with fail
        go_ret3
        exact ⟨HB.out, .inr ⟨hkk, _, _, rfl, by rw [← EK.out]; exact HN.out, by rw [← EK.out]; exact HR.out⟩⟩
end Go.Proofs.Ytepkolamnlmmgaa
