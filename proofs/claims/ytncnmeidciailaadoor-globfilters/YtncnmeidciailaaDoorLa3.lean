/- The walk of the program's matches: of the stars only the last one is gone back to. Conditions: a text and a row that fit; the pieces lie in memory. -/
import Derived.Test.YtncnmeidciailaaDoorLa2
namespace Go.Proofs.YtncnmeidciailaaDoor
open Go.RowKit
attribute [local go_sem] ext_eq app_eq get_eq
/-- As Q; by a goto to a label: J of it. -/
def jumps (J : Nat → Act → World → Prop) (Q : Exit → Act → World → Prop) : Exit → Act → World → Prop
  | .goto l, a, w => J l a w
  | e, a, w => Q e a w
theorem wp_scope_any {P : Program} {a : Act} {w : World} {Q : Exit → Act → World → Prop} {c : Code} (J : Nat → Act → World → Prop) (μ : Nat → Act → World → Nat)
    (first : c.wp P (jumps J Q) a w)
    (pass : ∀ l a w, J l a w → ∃ rest, findLabel c l = some rest ∧ rest.wp P (jumps (fun l' a' w' => J l' a' w' ∧ μ l' a' w' < μ l a w) Q) a w) : (Code.scope c).wp P Q a w := by
  intro b k cs
  have hg : ∀ l rest, findLabel c l = some rest → gotoIn l (.inScope c :: k) = some (.code rest :: .inScope c :: k) := fun l rest hf => by simp [gotoIn, hf]
  have key : ∀ n l rest a w, findLabel c l = some rest → μ l a w = n → J l a w → ∃ e a' w', Q e a' w' ∧ Arrives P (lone (b.at a (.code rest :: .inScope c :: k)) cs w) b k cs e a' w' := by
    intro n
    induction n using Nat.strongRecOn with
    | _ n ih =>
      intro l rest a w hf hn hJ
      obtain ⟨rest', hf', hp⟩ := pass l a w hJ
      obtain rfl : rest' = rest := Option.some.inj (hf'.symm.trans hf)
      obtain ⟨e, a₁, w₁, hq, harr⟩ := hp b (.inScope c :: k) cs
      cases e with
      | normal => exact ⟨.normal, a₁, w₁, hq, Steps.trans harr (.one step_inScope)⟩
      | exit id => exact ⟨.exit id, a₁, w₁, hq, fun k' hk => harr k' (by simp [exitTo, hk])⟩
      | goto l' =>
        obtain ⟨hJ', hlt⟩ := hq
        obtain ⟨rest2, hf2, _⟩ := pass l' a₁ w₁ hJ'
        obtain ⟨e₂, a₂, w₂, hq₂, harr₂⟩ := ih _ (by omega) l' rest2 a₁ w₁ hf2 rfl hJ'
        exact ⟨e₂, a₂, w₂, hq₂, .of_steps (harr _ (hg _ _ hf2)) harr₂⟩
      | ret => exact ⟨_, a₁, w₁, hq, harr⟩
      | panic ch => exact ⟨_, a₁, w₁, hq, harr⟩
      | outgrown => exact ⟨_, a₁, w₁, hq, harr⟩
  obtain ⟨e, a₁, w₁, hq, harr⟩ := first b (.inScope c :: k) cs
  cases e with
  | normal => exact ⟨.normal, a₁, w₁, hq, .head step_scope (Steps.trans harr (.one step_inScope))⟩
  | exit id => exact ⟨.exit id, a₁, w₁, hq, fun k' hk => .head step_scope (harr k' (by simp [exitTo, hk]))⟩
  | goto l' =>
    obtain ⟨rest2, hf2, _⟩ := pass l' a₁ w₁ hq
    obtain ⟨e₂, a₂, w₂, hq₂, harr₂⟩ := key _ l' rest2 a₁ w₁ hf2 rfl hq
    exact ⟨e₂, a₂, w₂, hq₂, .of_steps (.head step_scope (harr _ (hg _ _ hf2))) harr₂⟩
  | ret => exact ⟨_, a₁, w₁, hq, .of_steps (.one step_scope) harr⟩
  | panic ch => exact ⟨_, a₁, w₁, hq, .of_steps (.one step_scope) harr⟩
  | outgrown => exact ⟨_, a₁, w₁, hq, .of_steps (.one step_scope) harr⟩
theorem wp_scope_ih {P : Program} {a : Act} {w : World} {Q : Exit → Act → World → Prop} {c : Code} (J : Nat → Act → World → Prop) (μ : Nat → Act → World → Nat)
    (pass : ∀ l a w, J l a w → (∀ l' a' w', J l' a' w' → μ l' a' w' < μ l a w → ∃ rest, findLabel c l' = some (.seq .skip rest) ∧ rest.wp P (jumps (fun l'' a'' w'' => J l'' a'' w'' ∧ μ l'' a'' w'' < μ l a w) Q) a' w') → ∃ rest, findLabel c l = some (.seq .skip rest) ∧ rest.wp P (jumps (fun l' a' w' => J l' a' w' ∧ μ l' a' w' < μ l a w) Q) a w)
    (first : (∀ l a w, J l a w → ∃ rest, findLabel c l = some (.seq .skip rest) ∧ rest.wp P (jumps J Q) a w) → c.wp P (jumps J Q) a w) : (Code.scope c).wp P Q a w := by
  have key : ∀ n l a w, μ l a w = n → J l a w → ∃ rest, findLabel c l = some (.seq .skip rest) ∧ rest.wp P (jumps (fun l' a' w' => J l' a' w' ∧ μ l' a' w' < μ l a w) Q) a w := by
    intro n
    induction n using Nat.strongRecOn with
    | _ n ih =>
      intro l a w hn hJ
      refine pass l a w hJ (fun l' a' w' hJ' hlt => ?_)
      obtain ⟨rest, hf, hw⟩ := ih _ (by omega) l' a' w' rfl hJ'
      refine ⟨rest, hf, wp_mono hw fun e a w h => ?_⟩
      cases e with
      | goto l2 => exact ⟨h.1, Nat.lt_trans h.2 hlt⟩
      | _ => exact h
  refine wp_scope_any J μ (first fun l a w hJ => ?_) (fun l a w hJ => ?_)
  · obtain ⟨rest, hf, hw⟩ := key _ l a w rfl hJ
    refine ⟨rest, hf, wp_mono hw fun e a w h => ?_⟩
    cases e with
    | goto l2 => exact h.1
    | _ => exact h
  · obtain ⟨rest, hf, hw⟩ := key _ l a w rfl hJ
    exact ⟨_, hf, wp_seq (wp_skip hw)⟩
/-- The cells behind a slice's address hold these pieces. -/
def Pcs (W : World) (a : Option Addr) (ps : List Gl.Pc) : Prop := ∀ (j : Nat) x, ps[j]? = some x → ∃ bk o p, a = some ⟨bk, o, none⟩ ∧ bk < W.heap.size ∧ W.cell? ⟨bk, o + j * 3, none⟩ = some (.int .i64 x.kd) ∧ W.cell? ⟨bk, o + j * 3 + 1, none⟩ = some (.int .u8 x.by_) ∧ W.cell? ⟨bk, o + j * 3 + 2, none⟩ = some (.pointer p) ∧ PcRep W x p
theorem Pcs.grow {W W' : World} {a : Option Addr} {ps : List Gl.Pc} (h : Pcs W a ps) (hB : Below W.heap.size W W') : Pcs W' a ps := by
  intro j x hx
  obtain ⟨bk, o, p, rfl, hlt, h1, h2, h3, h4⟩ := h j x hx
  exact ⟨bk, o, p, rfl, by have := hB.size; omega, (hB.cell (p := ⟨bk, o + j * 3, none⟩) hlt).trans h1, (hB.cell (p := ⟨bk, o + j * 3 + 1, none⟩) hlt).trans h2, (hB.cell (p := ⟨bk, o + j * 3 + 2, none⟩) hlt).trans h3, h4.grow hB⟩
theorem bl2' {w W W' : World} (b : Below w.heap.size w W) (h : w.heap.size < W.heap.size) (b2 : Below W.heap.size W W') : Below w.heap.size w W' := b.trans (b2.mono (by omega))
/-- The pattern's own box. -/
structure MS (w : World) (a : Option Addr) (n c : Nat) (fl : Int) (W : World) : Prop where
  below : Below w.heap.size w W
  sz : w.heap.size < W.heap.size
  c0 : W.cell? ⟨w.heap.size, 0, none⟩ = some (.slice a n c)
  c1 : W.cell? ⟨w.heap.size, 1, none⟩ = some (.int .i64 fl)
theorem MS.grow {w : World} {a : Option Addr} {n c : Nat} {fl : Int} {W W' : World} (h : MS w a n c fl W) (hB : Below W.heap.size W W') : MS w a n c fl W' :=
  ⟨bl2' h.below h.sz hB, by have := hB.size; have := h.sz; omega, (hB.cell (p := ⟨w.heap.size, 0, none⟩) h.sz).trans h.c0, (hB.cell (p := ⟨w.heap.size, 1, none⟩) h.sz).trans h.c1⟩
namespace Gl
def encB : Option (Nat × Nat) → Int
  | none => -1
  | some (b, _) => b
def encT : Option (Nat × Nat) → Int
  | none => 0
  | some (_, t) => t
def Xi (m n : Nat) (b t : Int) : Nat := if b < 0 then (m + 1) * (n + 2) + (n + 1) else (m - b.toNat) * (n + 2) + (n + 1 - t.toNat)
theorem Xi_star {m n at_ i : Nat} {o : Option (Nat × Nat)} (h : ∀ b t, o = some (b, t) → b ≤ at_ ∧ t ≤ i) : Xi m n (encB (some (at_ + 1, i))) (encT (some (at_ + 1, i))) ≤ Xi m n (encB o) (encT o) := by
  cases o with
  | none =>
    have h1 : (m - (at_ + 1)) * (n + 2) ≤ (m + 1) * (n + 2) := Nat.mul_le_mul_right _ (by omega)
    show Xi m n ((at_ + 1 : Nat) : Int) (i : Int) ≤ Xi m n (-1) 0
    unfold Xi
    rw [if_neg (by omega), if_pos (by decide)]
    simp only [Int.toNat_natCast]
    omega
  | some p =>
    obtain ⟨b, t⟩ := p
    obtain ⟨h1, h2⟩ := h b t rfl
    have h3 : (m - (at_ + 1)) * (n + 2) ≤ (m - b) * (n + 2) := Nat.mul_le_mul_right _ (by omega)
    show Xi m n ((at_ + 1 : Nat) : Int) (i : Int) ≤ Xi m n (b : Int) (t : Int)
    unfold Xi
    rw [if_neg (by omega), if_neg (by omega)]
    simp only [Int.toNat_natCast]
    omega
theorem Xi_back {m n b t : Nat} (h : t < n) : Xi m n (b : Int) ((t + 1 : Nat) : Int) < Xi m n (b : Int) (t : Int) := by
  simp only [Xi]
  rw [if_neg (by omega), if_neg (by omega)]
  simp only [Int.toNat_natCast]
  omega
theorem kd_star {x : Pc} (h : x.isStar = true) : x = .star := by cases x <;> simp_all [Pc.isStar]
theorem kd_no {x : Pc} (h : x.isStar = false) : (x.kd == 0) = false := by cases x <;> simp_all [Pc.isStar, Pc.kd]
end Gl
/-- What holds at the labels: at 1 (the loop's begin), at 0 (going back). -/
def MJ (w : World) (ps : List Gl.Pc) (a : Option Addr) (c : Nat) (fl : Int) (s : List UInt8) (l : Nat) (A : Act) (W : World) : Prop :=
  MS w a ps.length c fl W ∧ ∃ (at_ i : Nat) (o : Option (Nat × Nat)) (u4 u9 u10 u11 u12 u13 u14 u15 u16 u17 u18 u19 u20 u21 u22 u23 u24 u25 u26 u27 u28 u29 u30 u31 u32 u33 u34 u35 u36 u37 u38 u39 u40 u41 u42 u43 u44 u45 u46 u47 u48 u49 u50 u51 u52 u53 u54 u55 u56 u57 u58 : Value), A = { tmps := #[.agg #[.slice a ps.length c, .int .i64 fl], .string ⟨s.toArray⟩, .pointer (some ⟨w.heap.size, 0, none⟩), undef, u4, .int .i64 at_, .int .i64 i, .int .i64 (Gl.encB o), .int .i64 (Gl.encT o), u9, u10, u11, u12, u13, u14, u15, u16, u17, u18, u19, u20, u21, u22, u23, u24, u25, u26, u27, u28, u29, u30, u31, u32, u33, u34, u35, u36, u37, u38, u39, u40, u41, u42, u43, u44, u45, u46, u47, u48, u49, u50, u51, u52, u53, u54, u55, u56, u57, u58], defers := [] } ∧ at_ ≤ ps.length ∧ i ≤ s.length ∧ l ≤ 1 ∧
    Hid (l = 1 → Gl.Way (Gl.flOf fl) s ps o at_ i ∧ (Gl.Mt (Gl.flOf fl) s ps 0 ↔ Gl.Mt (Gl.flOf fl) s (ps.drop at_) i ∨ Gl.Left (Gl.flOf fl) s ps o)) ∧
    Hid (l = 0 → (Gl.Mt (Gl.flOf fl) s ps 0 ↔ Gl.Left (Gl.flOf fl) s ps o) ∧ ∀ b t, o = some (b, t) → b ≤ ps.length ∧ t < s.length)
def Mμ (m n : Nat) (l : Nat) (A : Act) (_ : World) : Nat := 2 * Gl.Xi m n (intOf (A.tmps.getD 7 undef)) (intOf (A.tmps.getD 8 undef)) + l
set_option maxRecDepth 100000 in
set_option maxHeartbeats 4000000 in
theorem gMatches (ps : List Gl.Pc) (a : Option Addr) (c : Nat) (fl : Int) (s : List UInt8) (hl : s.length ≤ 2 ^ 47) (hn : ps.length ≤ 2 ^ 47) (w : World) (hp : Pcs w a ps) : Calls Tryd.prog 37 #[.agg #[.slice a ps.length c, .int .i64 fl], .string ⟨s.toArray⟩] w fun e w' => ∃ b, e = .returned (.bool b) ∧ (b = true ↔ Gl.Mt (Gl.flOf fl) s ps 0) ∧ Below w.heap.size w w' := by
  have hs : (⟨s.toArray⟩ : ByteArray).size = s.length := str_size s
  have HG := hidA (fun i hi W => gGuarded (.slice a ps.length c) fl s i hi hl W)
  have HT := hidA (fun x p i hi W hp => gTakes (.slice a ps.length c) fl x p s i hi hl W hp)
  have HP := hidA (fun W (b : Below w.heap.size w W) => hp.grow b)
  have HM0 : Hid (MS w a ps.length c fl (w.alloc (.cells #[.slice a ps.length c, .int .i64 fl] 52))) := ⟨(Below.refl _ _).alloc (Nat.le_refl _) _, by simp, by simp, by simp⟩
  clear hp
  go_enter Tryd.func37, Tryd.ntmps37
  go_wp2
  refine wp_scope_ih (MJ w ps a c fl s) (Mμ ps.length s.length) ?_ ?_
  · rintro l A W ⟨M, at_, i, o, u4, u9, u10, u11, u12, u13, u14, u15, u16, u17, u18, u19, u20, u21, u22, u23, u24, u25, u26, u27, u28, u29, u30, u31, u32, u33, u34, u35, u36, u37, u38, u39, u40, u41, u42, u43, u44, u45, u46, u47, u48, u49, u50, u51, u52, u53, u54, u55, u56, u57, u58, rfl, hat, hi, hl1, H1, H0⟩ IH
    have HM := hidA M
    obtain ⟨-, hsz, c0, c1⟩ := M
    obtain rfl | rfl : l = 0 ∨ l = 1 := by omega
    · refine ⟨_, rfl, ?_⟩
      obtain ⟨hm, ht⟩ := H0.out rfl
      have HMt := hidA hm
      clear H0 H1 IH hm
      cases o with
      | none =>
        clear ht
        dsimp only [Gl.encB, Gl.encT]
        go_wp2
        simp only [jumps]
        go_ret
        exact ⟨_, rfl, by rw [HMt.out]; simp [Gl.Left], HM.out.below⟩
      | some p =>
        obtain ⟨b, t⟩ := p
        obtain ⟨hb, ht⟩ := ht b t rfl
        dsimp only [Gl.encB, Gl.encT]
        have hb0 : ¬ (b : Int) < 0 := by omega
        have HG1 := hidA (HG.out t ht)
        have hwt : IntKind.i64.wrap ((t : Int) + 1) = ((t + 1 : Nat) : Int) := by rw [IntKind.wrap_i64]; omega
        cases hg : Gl.guard (Gl.flOf fl) s t with
        | true =>
          rw [hg] at HG1
          have HE := hidA (Gl.left_guard (ps := ps) (behind := b) hg)
          clear hg
          go_wp2_with (go_at_call 58; refine (HG1.out _).mono ?_; rintro e w1 ⟨rfl, b1⟩)
          simp only [jumps]
          go_ret
          exact ⟨_, rfl, by rw [HMt.out]; simp [HE.out], (HM.out.grow b1).below⟩
        | false =>
          rw [hg] at HG1
          have HE := hidA (Gl.step_back (ps := ps) (behind := b) ht hg)
          have HW := hidA (Gl.Way.back (f := Gl.flOf fl) (ps := ps) (behind := b) ht)
          have HX := hidA (Gl.Xi_back (m := ps.length) (b := b) ht)
          clear hg
          go_wp2_with (go_at_call 58; refine (HG1.out _).mono ?_; rintro e w1 ⟨rfl, b1⟩)
          go_step3
          refine ⟨⟨HM.out.grow b1, b, t + 1, some (b, t + 1), _, _, _, _, _, _, _, _, _, _, _, _, _, _, _, _, _, _, _, _, _, _, _, _, _, _, _, _, _, _, _, _, _, _, _, _, _, _, _, _, _, _, _, _, _, _, _, _, _, _, _, rfl, hb, ht, Nat.le_refl _, fun _ => ⟨HW.out, HMt.out.trans HE.out⟩, fun h => by cases h⟩, ?_⟩
          have := HX.out
          show 2 * Gl.Xi ps.length s.length (b : Int) ((t + 1 : Nat) : Int) + 1 < 2 * Gl.Xi ps.length s.length (b : Int) (t : Int) + 0
          omega
    · refine ⟨_, rfl, ?_⟩
      obtain ⟨hw, hm⟩ := H1.out rfl
      have HW0 := hidA hw
      have HMt0 := hidA hm
      have HIH := hidA IH
      clear H0 H1 hw hm IH
      go_wp2
      go_loopw [5, 6, 7, 8] (fun s5 s6 s7 s8 W' => ∃ (at2 i2 : Nat) (o2 : Option (Nat × Nat)), s5 = .int .i64 at2 ∧ s6 = .int .i64 i2 ∧ s7 = .int .i64 (Gl.encB o2) ∧ s8 = .int .i64 (Gl.encT o2) ∧ at2 ≤ ps.length ∧ i2 ≤ s.length ∧ Hid (MS w a ps.length c fl W') ∧ Hid (Gl.Way (Gl.flOf fl) s ps o2 at2 i2) ∧ Hid (Gl.Mt (Gl.flOf fl) s ps 0 ↔ Gl.Mt (Gl.flOf fl) s (ps.drop at2) i2 ∨ Gl.Left (Gl.flOf fl) s ps o2) ∧ Hid (Gl.Xi ps.length s.length (Gl.encB o2) (Gl.encT o2) ≤ Gl.Xi ps.length s.length (Gl.encB o) (Gl.encT o))) (fun s5 _ _ _ _ => ps.length - (intOf s5).toNat)
      case atStart => exact ⟨at_, i, o, rfl, rfl, rfl, rfl, hat, hi, HM, HW0, HMt0, Nat.le_refl _⟩
      case round =>
        obtain ⟨at2, i2, o2, rfl, rfl, rfl, rfl, hat2, hi2, HM2, HW2, HMt2, HX2⟩ := hrel
        rename_i wr
        obtain ⟨-, hsz2, d0, d1⟩ := HM2.out
        clear HM HW0 HMt0 c0 c1 hsz HM0
        have hwa : IntKind.i64.wrap ((at2 : Int) + 1) = ((at2 + 1 : Nat) : Int) := by rw [IntKind.wrap_i64]; omega
        have hwi : IntKind.i64.wrap ((i2 : Int) + 1) = ((i2 + 1 : Nat) : Int) := by rw [IntKind.wrap_i64]; omega
        by_cases hlt : at2 < ps.length
        · obtain ⟨x, hx⟩ : ∃ x, ps[at2]? = some x := ⟨_, List.getElem?_eq_getElem hlt⟩
          obtain ⟨bk, of, p, rfl, hbk, e0, e1, e2, hrep⟩ := (HP.out wr HM2.out.below) at2 x hx
          have HR := hidA hrep
          clear hrep HIH
          cases hst : x.isStar with
          | true =>
            obtain rfl := Gl.kd_star hst
            have HS := hidA ((HMt2.out).trans (Gl.step_star HW2.out hx))
            have HW3 := hidA (Gl.Way.star (f := Gl.flOf fl) (ps := ps) (at_ := at2) hi2)
            have HX3 := hidA (Nat.le_trans (Gl.Xi_star (m := ps.length) (n := s.length) (at_ := at2) (i := i2) (o := o2) (fun b t h => by have h3 := HW2.out; rw [h] at h3; exact h3.rng)) HX2.out)
            dsimp only [Gl.Pc.kd] at e0
            clear HG HT HP HR hx hst
            go_wp2
            exact ⟨⟨at2 + 1, i2, some (at2 + 1, i2), rfl, rfl, rfl, rfl, hlt, hi2, HM2, HW3, HS, HX3⟩, by simp [intOf]; omega⟩
          | false =>
            have hk := Gl.kd_no hst
            by_cases hie : i2 = s.length
            · have HE := hidA (Gl.left_end HW2.out hx hst hie)
              have hie' : ((i2 : Int) == (s.length : Int)) = true := by simp [hie]
              clear HG HT HP HR hx hst
              go_wp2
              simp only [jumps]
              go_ret
              exact ⟨_, rfl, by rw [HMt2.out]; simp only [Bool.false_eq_true, false_iff]; exact HE.out, HM2.out.below⟩
            · have hie' : ((i2 : Int) == (s.length : Int)) = false := by simp; omega
              have hi3 : i2 < s.length := by omega
              have HT1 := hidA (fun W hp => HT.out x p i2 hi3 W hp)
              cases ht : Gl.takes (Gl.flOf fl) s x i2 with
              | true =>
                rw [ht] at HT1
                have HS := hidA (HMt2.out.trans (or_congr (Gl.hit hx hst hi3 ht) Iff.rfl))
                have HW3 := hidA (Gl.Way.one HW2.out hx hst hi3 ht)
                clear HG HT HP hx hst ht hie
                go_wp2_with (go_region_with ((go_at_call 57; with_reducible refine Calls.mono (HT1.out _ (HR.out.grow (bl_drew _ 1))) ?_; rintro e w1 ⟨rfl, b1⟩)))
                all_goals exact ⟨⟨at2 + 1, i2 + 1, o2, rfl, rfl, rfl, rfl, hlt, hi3, HM2.out.grow (bl2 (bl_drew _ 1) b1), HW3, HS, HX2⟩, by simp [intOf]; omega⟩
              | false =>
                rw [ht] at HT1
                have HS := hidA (HMt2.out.trans (or_iff_right (Gl.miss hx hst ht)))
                clear HG HT HP hx hst ht hie
                go_wp2_with (go_region_with ((go_at_call 57; with_reducible refine Calls.mono (HT1.out _ (HR.out.grow (bl_drew _ 1))) ?_; rintro e w1 ⟨rfl, b1⟩)))
                all_goals
                  go_step3
                  refine ⟨⟨HM2.out.grow (bl2 (bl_drew _ 1) b1), at2, i2, o2, _, _, _, _, _, _, _, _, _, _, _, _, _, _, _, _, _, _, _, _, _, _, _, _, _, _, _, _, _, _, _, _, _, _, _, _, _, _, _, _, _, _, _, _, _, _, _, _, _, _, _, rfl, hat2, hi2, Nat.zero_le _, fun h => (by cases h), fun _ => ⟨HS.out, fun b t h => by have h3 := HW2.out; rw [h] at h3; have h4 := h3.rng; omega⟩⟩, ?_⟩
                  have := HX2.out
                  show 2 * Gl.Xi ps.length s.length (Gl.encB o2) (Gl.encT o2) + 0 < 2 * Gl.Xi ps.length s.length (Gl.encB o) (Gl.encT o) + 1
                  omega
        · obtain rfl : at2 = ps.length := by omega
          have hdr : ps.drop ps.length = [] := by simp
          by_cases hie : i2 = s.length
          · have hie' : ((i2 : Int) == (s.length : Int)) = true := by simp [hie]
            have HE : Hid (Gl.Mt (Gl.flOf fl) s ps 0) := HMt2.out.2 (.inl (by rw [hdr, hie]; exact .nil))
            clear HG HT HP HIH hdr
            go_wp2
            simp only [jumps]
            go_ret
            exact ⟨_, rfl, by simp [HE.out], HM2.out.below⟩
          · have hie' : ((i2 : Int) == (s.length : Int)) = false := by simp; omega
            have HS : Hid (Gl.Mt (Gl.flOf fl) s ps 0 ↔ Gl.Left (Gl.flOf fl) s ps o2) := HMt2.out.trans (or_iff_right (by rw [hdr, Gl.mt_nil]; exact hie))
            clear HG HT HP hdr
            go_wp2
            go_step3
            rename_i K hK
            refine hK _ _ ?_
            obtain ⟨rest, hf, hw⟩ := HIH.out 0 _ _ ⟨HM2.out, ps.length, i2, o2, _, _, _, _, _, _, _, _, _, _, _, _, _, _, _, _, _, _, _, _, _, _, _, _, _, _, _, _, _, _, _, _, _, _, _, _, _, _, _, _, _, _, _, _, _, _, _, _, _, _, _, rfl, Nat.le_refl _, hi2, Nat.zero_le _, fun h => (by cases h), fun _ => ⟨HS.out, fun b t h => by have h3 := HW2.out; rw [h] at h3; have h4 := h3.rng; omega⟩⟩ (by
              have := HX2.out
              show 2 * Gl.Xi ps.length s.length (Gl.encB o2) (Gl.encT o2) + 0 < 2 * Gl.Xi ps.length s.length (Gl.encB o) (Gl.encT o) + 1
              omega)
            obtain ⟨_, rfl⟩ := Code.seq.inj (Option.some.inj (hf.symm.trans rfl))
            exact hw
  · intro H
    have HJ := hidA (H 1)
    clear H
    go_wp2
    go_step3
    rename_i K hK
    refine hK _ _ ?_
    obtain ⟨rest, hf, hw⟩ := HJ.out _ _ ⟨HM0.out, 0, 0, none, _, _, _, _, _, _, _, _, _, _, _, _, _, _, _, _, _, _, _, _, _, _, _, _, _, _, _, _, _, _, _, _, _, _, _, _, _, _, _, _, _, _, _, _, _, _, _, _, _, _, _, rfl, Nat.zero_le _, Nat.zero_le _, Nat.le_refl _, fun _ => ⟨⟨by simp, rfl⟩, by simp [Gl.Left]⟩, fun h => by cases h⟩
    obtain ⟨_, rfl⟩ := Code.seq.inj (Option.some.inj (hf.symm.trans rfl))
    exact hw
end Go.Proofs.YtncnmeidciailaaDoor
