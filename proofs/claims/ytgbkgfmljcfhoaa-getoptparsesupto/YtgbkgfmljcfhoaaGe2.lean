/- The walk of the plain answer's Parse. Conditions: lengths that fit. -/
import Derived.Test.YtgbkgfmljcfhoaaGe1
import Derived.Deep.DeepCutAuto
namespace Go.Proofs.Ytgbkgfmljcfhoaa
open Go.RowKit
attribute [local go_sem] ext_eq app_eq get_eq
def finR (st : Bool) (k : UInt8 → Option Bool) (m : Nat) : Sum Bad Sta → Ga.Res
  | .inl b => .bad b.1 b.2
  | .inr x => Ga.prs st k m x.2.1 x.1 x.2.2
def tkC (r : List (List UInt8)) : Sum Bad (List Ga.Opt × List (List UInt8)) → Sum Bad Sta
  | .inl b => .inl b
  | .inr x => .inr (x.1, x.2, r)
theorem tkR_clu (st : Bool) (k : UInt8 → Option Bool) (s : List UInt8) (l : List (List UInt8)) (o : List Ga.Opt) (r : List (List UInt8)) (h1 : ¬ s = [45, 45]) (h2 : 1 < s.length ∧ s.head? = some 45) : tkR st k s l o r = tkC r (Ga.clu k s.tail l o) := by
  rw [tkR, if_neg h1, if_pos h2]
  cases Ga.clu k s.tail l o <;> rfl
def cluT (k : UInt8 → Option Bool) (x : UInt8) (r : List UInt8) (l : List (List UInt8)) (o : List Ga.Opt) : Sum Bad (List Ga.Opt × List (List UInt8)) := match k x with
  | none => .inl ([x], false)
  | some false => Ga.clu k r l (o ++ [([x], [])])
  | some true => twa [x] r l o
theorem clu_T (k : UInt8 → Option Bool) (x : UInt8) (r : List UInt8) (l : List (List UInt8)) (o : List Ga.Opt) : Ga.clu k (x :: r) l o = cluT k x r l o := by
  rw [clu_cons, cluT]
  cases k x with
  | none => rfl
  | some b => cases b <;> rfl
theorem cell_later {B : Nat} {w V : World} {p : Addr} {v : Value} (h : Below B w V) (hp : p.block < B) (hc : w.cell? p = some v) : V.cell? p = some v := (h.cell hp).trans hc
theorem prs_fin (st : Bool) (k : UInt8 → Option Bool) (n : Nat) (s : List UInt8) (l : List (List UInt8)) (o : List Ga.Opt) (r : List (List UInt8)) : Ga.prs st k (n + 1) (s :: l) o r = finR st k n (tkR st k s l o r) := by
  rw [prs_step]
  cases tkR st k s l o r <;> rfl
set_option maxRecDepth 100000 in
set_option maxHeartbeats 8000000 in
theorem rParse (spec : List UInt8) (args : List (List UInt8)) (a : Option Addr) (c : Nat) (w : World) (hs : spec.length ≤ 2 ^ 47) (hS : Strs w a args) (hc : args.length ≤ c) (hm : c < 2 ^ 63) (hM : wt args ≤ 2 ^ 40) :
    Calls Try.prog 9 #[.string ⟨spec.toArray⟩, .slice a args.length c] w fun e W => OutP w W e (parseR spec args) ∧ Below w.heap.size w W := by
  obtain ⟨i0, hi, hz0, hz1, hz2⟩ := infoS
  obtain ⟨iO, oi, oz0, oz1, oz2⟩ := infoO
  have HS : Hid (Strs w a args) := hS
  clear hS
  have HSp : Hid (∀ W, Calls Try.prog 29 #[.string ⟨spec.toArray⟩] W fun e w' => e = .returned (.bool (Ga.specB (Ga.bare spec))) ∧ ∃ m, w' = W.drewN m) := fun W => rSpec spec W hs
  cases hsp : Ga.specB (Ga.bare spec) with
  | false =>
    rw [hsp] at HSp
    have HX : Hid (∀ W e, OutP w W e (parseR spec args) = (e = .returned (.tuple #[.slice none 0 0, .slice none 0 0, .agg #[.string ⟨#[]⟩, .bool false], .int .i64 22]))) := fun _ _ => by rw [parseR, hsp]; rfl
    generalize parseR spec args = R at *
    clear hsp
    have HB : Hid (∀ o, Below w.heap.size w (w.alloc o)) := fun o => (Below.refl _ _).alloc (Nat.le_refl _) o
    go_enter Try.func9, Try.ntmps9
    go_wp2_with fail
    refine (HSp.out _).mono ?_
    rintro e w1 ⟨rfl, m, hw1⟩
    rw [hw1]
    clear hw1 w1
    go_wp2
    go_returns
    exact ⟨by rw [HX.out], by first | exact below_drewN (HB.out _) _ | exact below_drewN (((HB.out _).setCell (Nat.le_refl _) _).setCell (Nat.le_refl _) _) _⟩
  | true =>
    rw [hsp] at HSp
    have HK : Hid (parseR spec args = some (Ga.prs (Ga.plus spec) (Ga.tks (Ga.bare spec)) args.length args [] [])) := by show _ = _; rw [parseR, if_pos hsp, Ga.parse]
    have HT : Hid (∀ (b : UInt8) (W : World), Calls Try.prog 30 #[.string ⟨spec.toArray⟩, .int .u8 b.toNat] W fun e w' => e = .returned (.tuple #[.bool (knownB (Ga.tks (Ga.bare spec) b)), .bool (withB (Ga.tks (Ga.bare spec) b))]) ∧ ∃ m, w' = W.drewN m) := fun b W => rTakes spec b W hs
    have HPL : Hid ((Ga.plus spec = true ∧ ∃ t, spec = 43 :: t) ∨ (Ga.plus spec = false ∧ (spec = [] ∨ ∃ x t, spec = x :: t ∧ ¬ x = 43))) := by
      cases spec with
      | nil => exact .inr ⟨rfl, .inl rfl⟩
      | cons x t =>
        by_cases hx : x = 43
        · exact .inl ⟨by simp [Ga.plus, hx], t, by rw [hx]⟩
        · exact .inr ⟨by simp [Ga.plus, hx], .inr ⟨x, t, rfl, hx⟩⟩
    generalize parseR spec args = R at *
    clear hsp
    go_enter Try.func9, Try.ntmps9
    go_wp2_with fail
    refine (HSp.out _).mono ?_
    rintro e w1 ⟨rfl, m, hw1⟩
    have hB1 : Below (w.heap.size + 1) (w.alloc (.cells #[.string ⟨#[]⟩, .bool false] 25)) w1 := by rw [hw1]; exact ⟨rfl, rfl, rfl, Nat.le_refl _, fun _ _ => rfl⟩
    have hsz : w1.heap.size = w.heap.size + 1 := by rw [hw1]; show (w.alloc _).heap.size = _; simp
    have HC : Hid (∀ V, Below (w.heap.size + 1) w1 V → V.cell? ⟨w.heap.size, 0, none⟩ = some (.string ⟨#[]⟩) ∧ V.cell? ⟨w.heap.size, 1, none⟩ = some (.bool false) ∧ (∀ o, V.frozen? ⟨w.heap.size, o, none⟩ = false) ∧ Strs V a args ∧ Below w.heap.size w V) := by
      intro V hV
      have h1 := hB1.trans hV
      have h2 : Below w.heap.size w V := ((Below.refl w.heap.size w).alloc (Nat.le_refl _) _).trans (h1.mono (by omega))
      exact ⟨(h1.cell (p := ⟨w.heap.size, 0, none⟩) (by simp)).trans (World.cell?_alloc_at _ _ _ _ rfl), (h1.cell (p := ⟨w.heap.size, 1, none⟩) (by simp)).trans (World.cell?_alloc_at _ _ _ _ rfl), fun o => (h1.frozen (p := ⟨w.heap.size, o, none⟩) (by simp)).trans (World.frozen?_alloc_at _ _ _ _ rfl), HS.out.grow h2, h2⟩
    have HR0 : Hid (Rp w1 w1 (w.heap.size + 1) (.slice none 0 0) (.slice none 0 0) [] []) := ⟨Below.refl _ _, by omega, World.ownsRow_nil _ _ _ _, World.ownsRow_nil _ _ _ _, .inl rfl⟩
    clear hw1 hB1
    have HSZ : Hid (w1.heap.size = w.heap.size + 1) := hsz
    clear hsz
    go_wp2_with fail
    go_loopg [8, 9, 10] args.length (fun gh v8 v9 i V => ∃ (k n : Nat) (o : List Ga.Opt) (r : List (List UInt8)), i = .int .i64 k ∧ k ≤ args.length ∧ gh = args.length - k ∧ args.length - k ≤ n ∧ o.length + r.length + wt (args.drop k) ≤ 2 ^ 40 ∧ Hid (Rp w1 V (w.heap.size + 1) v8 v9 o r) ∧ Hid (R = some (Ga.prs (Ga.plus spec) (Ga.tks (Ga.bare spec)) n (args.drop k) o r)))
    case atStart => exact ⟨0, args.length, [], [], rfl, Nat.zero_le _, rfl, Nat.le_refl _, by simpa using hM, HR0, HK⟩
    case round =>
      obtain ⟨k, n, o, r, rfl, hk, rfl, hn, hw, HP, HE⟩ := hrel
      by_cases hlt : k < args.length
      · obtain ⟨r0, r1, fr, hSV, hBw⟩ := HC.out wr HP.out.bel
        have HBw : Hid (Below w.heap.size w wr) := hBw
        obtain ⟨bk, off, ha, hbk, hcs⟩ := hSV k args[k] (List.getElem?_eq_getElem hlt)
        subst ha
        have HSV : Hid (Strs wr (some ⟨bk, off, none⟩) args) := hSV
        obtain ⟨m, rfl⟩ : ∃ m, n = m + 1 := ⟨n - 1, by omega⟩
        have HD : Hid (args.drop k = args[k] :: args.drop (k + 1)) := List.drop_eq_getElem_cons hlt
        obtain ⟨l, hl⟩ : ∃ l, l = args.drop (k + 1) := ⟨_, rfl⟩
        obtain ⟨s, hs'⟩ : ∃ s, s = args[k] := ⟨_, rfl⟩
        have HLD : Hid (l = args.drop (k + 1)) := hl
        have hll : l.length = args.length - (k + 1) := by rw [hl]; simp
        rw [← hl, ← hs'] at HD
        rw [HD.out] at hw HE
        rw [← hs'] at hcs
        have HSl : Hid (Strs wr (some ⟨bk, off + (k + 1), none⟩) l) := by rw [hl]; exact hSV.drop _
        have HSk : Hid (Strs wr (some ⟨bk, off + k, none⟩) (s :: l)) := by rw [← HD.out]; exact hSV.drop _
        have HE2 : Hid (R = some (finR (Ga.plus spec) (Ga.tks (Ga.bare spec)) m (tkR (Ga.plus spec) (Ga.tks (Ga.bare spec)) s l o r))) := by show _ = _; rw [HE.out, prs_fin]
        have hwl := wt_len l
        rw [wt_cons] at hw
        clear hs' hl HE hSV hBw
        have hbs : w.heap.size + 1 ≤ wr.heap.size := HP.out.hB
        by_cases h1 : s = [45, 45]
        · have HX0 : Hid (R = some (.ok o (r ++ l))) := by show _ = _; rw [HE2.out, tkR, if_pos h1, finR, prs_nil]
          subst h1
          obtain ⟨oa, on, oc, hvo⟩ := own_slice HP.out.oo
          subst hvo
          by_cases hkc : k + 1 = c
          · have hl0 : l = [] := List.length_eq_zero_iff.1 (by omega)
            have HX : Hid (R = some (.ok o (r ++ []))) := by show _ = _; rw [HX0.out, hl0]
            have hwr : IntKind.i64.wrap ((k : Int) + 1) = ((k + 1 : Nat) : Int) := by rw [IntKind.wrap_i64]; omega
            have HSn : Hid (Strs wr (some ⟨bk, off, none⟩) []) := Strs.nil _ _
            subst hkc
            clear hl0 hll
            go_wp2_with (at_builtin; refine wpList_append_own_at _ rfl _ _ 22 rfl (w.heap.size + 1) 9 i0 (.string ⟨#[]⟩) 1 16 Try.underlying22 hi hz0 hz1 hz2 rfl (by decide) _ _ _ rfl HP.out.ro ⟨bk, off, none⟩ 0 0 (([]).map sv) rfl (by first | (simp; done) | (simp; omega)) (strs_news HSn.out) (one_cells _) (by unfold maxLen; omega) (by omega) (by omega) ?_; intro v5 w5 hown hg _ hat; obtain ⟨ra, rn, rc, hvr⟩ := own_slice hown; subst hvr; have HP2 : Hid (Rp w1 w5 (w.heap.size + 1) (.slice oa on oc) (.slice ra rn rc) o (r ++ [])) := HP.out.putR (Below.refl _ _) hg hat (own_app' hown (by first | omega | (simp; omega) | simp)); obtain ⟨r0', r1', fr', _, hBw2⟩ := HC.out w5 HP2.out.bel; have HBw2 : Hid (Below w.heap.size w w5) := hBw2; clear hown hg hat hBw2)
            (try simp only [Exit.inBlock, Exit.then])
            refine bodyPost_ret (by simp [results, Try.results9, go_sem, r0', r1']; rfl) rfl ?_
            refine ⟨?_, ?_⟩
            · rw [HX.out]
              have hB1 : w.heap.size < w.heap.size + 1 := by omega
              exact ⟨_, _, rfl, own_end2 HP2.out.oo hB1 _ _, own_end2 HP2.out.ro hB1 _ _, HP2.out.orr⟩
            · exact (HBw2.out.setCell (Nat.le_refl _) _).setCell (Nat.le_refl _) _
          · have HX : Hid (R = some (.ok o (r ++ l))) := HX0
            have hwr : IntKind.i64.wrap ((k : Int) + 1) = ((k + 1 : Nat) : Int) := by rw [IntKind.wrap_i64]; omega
            have hkc' : k + 1 < c := by omega
            have HLL : Hid (l.length = args.length - (k + 1)) := hll
            have hl1 : l.length ≤ args.length - (k + 1) := by omega
            have hl2 : args.length - (k + 1) ≤ l.length := by omega
            clear hll hkc
            go_wp2_with (at_builtin; refine wpList_append_own_at _ rfl _ _ 22 rfl (w.heap.size + 1) 9 i0 (.string ⟨#[]⟩) 1 16 Try.underlying22 hi hz0 hz1 hz2 rfl (by decide) _ _ _ rfl HP.out.ro ⟨bk, off + (k + 1), none⟩ (args.length - (k + 1)) (c - (k + 1)) ((l).map sv) rfl (by first | (simp; done) | (simp; omega)) (strs_news HSl.out) (one_cells _) (by unfold maxLen; omega) (by omega) (by omega) ?_; intro v5 w5 hown hg _ hat; obtain ⟨ra, rn, rc, hvr⟩ := own_slice hown; subst hvr; have HP2 : Hid (Rp w1 w5 (w.heap.size + 1) (.slice oa on oc) (.slice ra rn rc) o (r ++ l)) := HP.out.putR (Below.refl _ _) hg hat (own_app' hown (by first | omega | (simp; omega) | simp)); obtain ⟨r0', r1', fr', _, hBw2⟩ := HC.out w5 HP2.out.bel; have HBw2 : Hid (Below w.heap.size w w5) := hBw2; clear hown hg hat hBw2)
            (try simp only [Exit.inBlock, Exit.then])
            refine bodyPost_ret (by simp [results, Try.results9, go_sem, r0', r1']; rfl) rfl ?_
            refine ⟨?_, ?_⟩
            · rw [HX.out]
              have hB1 : w.heap.size < w.heap.size + 1 := by omega
              exact ⟨_, _, rfl, own_end2 HP2.out.oo hB1 _ _, own_end2 HP2.out.ro hB1 _ _, HP2.out.orr⟩
            · exact (HBw2.out.setCell (Nat.le_refl _) _).setCell (Nat.le_refl _) _
        · have h1' := dd_not h1
          by_cases h2 : 1 < s.length ∧ s.head? = some 45
          · have HE3 : Hid (R = some (finR (Ga.plus spec) (Ga.tks (Ga.bare spec)) m (tkC r (Ga.clu (Ga.tks (Ga.bare spec)) s.tail l o)))) := by show _ = _; rw [HE2.out, tkR_clu _ _ _ _ _ _ h1 h2]
            have HS0 : Hid (s.drop 1 = s.tail) := by show _ = _; cases s <;> rfl
            have HGd : Hid (decide ((s.length : Int) < 2) = false ∧ ∃ h0 : 0 < s.length, ((((s[0]'h0).toNat : Int)) != 45) = false) := by
              obtain ⟨h2a, h2b⟩ := h2
              cases s with
              | nil => simp at h2a
              | cons x t => simp at h2b; subst h2b; exact ⟨by simp at h2a ⊢; omega, by simp, by simp⟩
            obtain ⟨hg1, hg0, hg2⟩ := HGd.out
            have hsl : 1 < s.length := h2.1
            clear h1 h2 HE2
            obtain ⟨X, hX⟩ : ∃ X, X = Ga.clu (Ga.tks (Ga.bare spec)) s.tail l o := ⟨_, rfl⟩
            have HXX : Hid (Ga.clu (Ga.tks (Ga.bare spec)) s.tail l o = X) := hX.symm
            rw [← hX] at HE3
            clear hX
            obtain ⟨ra9, rn9, rc9, hvr9⟩ := own_slice HP.out.ro
            subst hvr9
            go_wp2_with fail
            go_loopg [8, 10, 12] (s.length - 1) (fun gh v8 i10 i12 V => ∃ (j : Nat) (o' : List Ga.Opt), i10 = .int .i64 k ∧ i12 = .int .i64 j ∧ 1 ≤ j ∧ j ≤ s.length ∧ gh = s.length - j ∧ o'.length + (s.length - j) ≤ o.length + s.length ∧ Hid (Rp w1 V (w.heap.size + 1) v8 (.slice ra9 rn9 rc9) o' r) ∧ Hid (Ga.clu (Ga.tks (Ga.bare spec)) (s.drop j) l o' = X))
            case atStart => exact ⟨1, o, rfl, rfl, Nat.le_refl _, by omega, by first | rfl | omega, by omega, HP, by rw [HS0.out]; exact HXX.out⟩
            case round =>
              obtain ⟨j, o', rfl, rfl, hj1, hj2, rfl, hol, HPj, HX⟩ := hrel
              by_cases hjl : j < s.length
              · obtain ⟨ch, hch⟩ : ∃ ch, ch = s[j] := ⟨_, rfl⟩
                have HQ : Hid (∀ W : World, Calls Try.prog 30 #[.string ⟨spec.toArray⟩, .int .u8 s[j].toNat] W fun e w' => e = .returned (.tuple #[.bool (knownB (Ga.tks (Ga.bare spec) ch)), .bool (withB (Ga.tks (Ga.bare spec) ch))]) ∧ ∃ m, w' = W.drewN m) := fun W => by rw [hch]; exact HT.out _ W
                have HO : Hid (∀ W : World, Calls Try.prog 31 #[.int .u8 s[j].toNat] W fun e w' => e = .returned (.string ⟨#[ch]⟩) ∧ Below W.heap.size W w') := fun W => by rw [hch]; exact rOne _ W
                have HD2 : Hid (s.drop j = ch :: s.drop (j + 1)) := by show _ = _; rw [hch]; exact List.drop_eq_getElem_cons hjl
                have HCC : Hid (X = cluT (Ga.tks (Ga.bare spec)) ch (s.drop (j + 1)) l o') := by show _ = _; rw [← HX.out, HD2.out, clu_T]
                have hol2 : o'.length ≤ 2 ^ 40 - 1 := by omega
                clear hch
                cases hk : Ga.tks (Ga.bare spec) ch with
                | none =>
                  rw [hk] at HQ
                  have HR5 : Hid (R = some (.bad [ch] false)) := by show _ = _; rw [HE3.out, HCC.out, cluT, hk]; rfl
                  clear hk
                  go_wp2_with (first
                    | (go_at_call 30; refine (HQ.out _).mono ?_; rintro e w4 ⟨rfl, m4, hw4⟩; have HP4 : Hid (Rp w1 w4 (w.heap.size + 1) u8 (.slice ra9 rn9 rc9) o' r) := (by rw [hw4]; exact HPj.out.grow ⟨rfl, rfl, rfl, Nat.le_refl _, fun _ _ => rfl⟩); clear hw4)
                    | (go_at_call 31; refine (HO.out _).mono ?_; rintro e w5 ⟨rfl, hB5⟩; have HP5 : Hid (Rp w1 w5 (w.heap.size + 1) u8 (.slice ra9 rn9 rc9) o' r) := HP4.out.grow hB5; obtain ⟨r0', r1', fr', _, hBw2⟩ := HC.out w5 HP5.out.bel; have HBw2 : Hid (Below w.heap.size w w5) := hBw2; clear hB5 hBw2))
                  (try simp only [Exit.inBlock, Exit.then])
                  refine bodyPost_ret (by simp [results, Try.results9, go_sem, r0', r1']; rfl) rfl ?_
                  refine ⟨?_, ?_⟩
                  · rw [HR5.out]; rfl
                  · exact (HBw2.out.setCell (Nat.le_refl _) _).setCell (Nat.le_refl _) _
                | some b =>
                  cases b with
                  | false =>
                    rw [hk] at HQ
                    have HX2 : Hid (Ga.clu (Ga.tks (Ga.bare spec)) (s.drop (j + 1)) l (o' ++ [([ch], [])]) = X) := by show _ = _; rw [HCC.out, cluT, hk]
                    clear hk
                    go_wp2_with (first
                      | (go_at_call 30; refine (HQ.out _).mono ?_; rintro e w4 ⟨rfl, m4, hw4⟩; have HP4 : Hid (Rp w1 w4 (w.heap.size + 1) u8 (.slice ra9 rn9 rc9) o' r) := (by rw [hw4]; exact HPj.out.grow ⟨rfl, rfl, rfl, Nat.le_refl _, fun _ _ => rfl⟩); clear hw4)
                      | (go_at_call 31; refine (HO.out _).mono ?_; rintro e w5 ⟨rfl, hB5⟩; have HP5 : Hid (Rp w1 w5 (w.heap.size + 1) u8 (.slice ra9 rn9 rc9) o' r) := HP4.out.grow hB5; have hb5 : w.heap.size + 1 ≤ w5.heap.size := HP5.out.hB; clear hB5)
                      | (at_builtin; refine wpList_append_own_at _ rfl _ _ 23 rfl (w.heap.size + 1) 67 iO (.agg #[.string ⟨#[]⟩, .string ⟨#[]⟩]) 2 32 Try.underlying23 oi oz0 oz1 oz2 rfl (by decide) _ _ _ rfl (HP5.out.oo.alloc _) ⟨w5.heap.size, 0, none⟩ 1 1 [.string ⟨#[ch]⟩, .string ⟨#[]⟩] rfl rfl (cell_two_new _ _ _ _) (two_cell [ch] []) (by unfold maxLen; omega) (by omega) (by simp; omega) ?_; intro v6 w6 hown hg _ hat; have HP6 : Hid (Rp w1 w6 (w.heap.size + 1) v6 (.slice ra9 rn9 rc9) (o' ++ [([ch], [])]) r) := HP5.out.putO ((Below.refl _ _).alloc (Nat.le_refl _) _) hg hat (own_optsnoc hown); clear hown hg hat))
                    go_roundg (s.length - (j + 1))
                    case measure => omega
                    case rel => exact ⟨j + 1, o' ++ [([ch], [])], rfl, by go_num, by omega, by omega, rfl, by simp; omega, HP6, HX2⟩
                  | true =>
                    rw [hk] at HQ
                    have HX2 : Hid (X = twa [ch] (s.drop (j + 1)) l o') := by show _ = _; rw [HCC.out, cluT, hk]
                    clear hk
                    obtain ⟨jj, hjj⟩ : ∃ jj, jj = j + 1 := ⟨_, rfl⟩
                    have hwr : IntKind.i64.wrap ((j : Int) + 1) = (jj : Int) := by rw [IntKind.wrap_i64]; omega
                    have hj0 : (0 : Int) ≤ (j : Int) := by omega
                    have hj0' : (j : Int) < (s.length : Int) := by omega
                    rw [← hjj] at HX2
                    by_cases hj3 : jj < s.length
                    · have hd : decide ((jj : Int) < (s.length : Int)) = true := by simp; omega
                      have hjj0 : (0 : Int) ≤ (jj : Int) := by omega
                      have hjj1 : (jj : Int) ≤ (s.length : Int) := by omega
                      have HR5 : Hid (R = some (Ga.prs (Ga.plus spec) (Ga.tks (Ga.bare spec)) m l (o' ++ [([ch], s.drop jj)]) r)) := by
                        show _ = _
                        rw [HE3.out, HX2.out, show twa [ch] (s.drop jj) l o' = .inr (o' ++ [([ch], s.drop jj)], l) from if_neg (fun e => by have := congrArg List.length e; simp at this; omega)]; rfl
                      clear hjj
                      go_wp2_with (go_at_call 30; refine (HQ.out _).mono ?_; rintro e w4 ⟨rfl, m4, hw4⟩; have HP4 : Hid (Rp w1 w4 (w.heap.size + 1) u8 (.slice ra9 rn9 rc9) o' r) := (by rw [hw4]; exact HPj.out.grow ⟨rfl, rfl, rfl, Nat.le_refl _, fun _ _ => rfl⟩); clear hw4)
                      go_region_held3 (fun _ => True) (trivial)
                        (first
                          | (go_at_call 31; go_loud (with_reducible refine Calls.mono (HO.out _) ?_); go_loud (rintro e w5 ⟨rfl, hB5⟩); go_loud (have HP5 : Hid (Rp w1 w5 (w.heap.size + 1) u8 (.slice ra9 rn9 rc9) o' r) := HP4.out.drew.grow hB5); go_loud (have hb5 : w.heap.size + 1 ≤ w5.heap.size := HP5.out.hB); go_loud (clear hB5))
                          | (refine step_append_at (by rfl) (.tmp 104) (.tmp 114) 23 (by rfl) (w.heap.size + 1) 67 iO (.agg #[.string ⟨#[]⟩, .string ⟨#[]⟩]) 2 32 Try.underlying23 oi oz0 oz1 oz2 rfl (by decide) u8 o'.length (opCs o') (by simp [Act.eval]) (HP5.out.oo.alloc _) ⟨w5.heap.size, 0, none⟩ 1 1 [.string ⟨#[ch]⟩, .string ⟨(s.drop jj).toArray⟩] (by simp [Act.eval]) rfl (cell_two_new _ _ _ _) (two_cell [ch] (s.drop jj)) (by unfold maxLen; omega) (by omega) (by simp; omega) ?_; intro v6 w6 hown hg hat; have HP6 : Hid (Rp w1 w6 (w.heap.size + 1) v6 (.slice ra9 rn9 rc9) (o' ++ [([ch], s.drop jj)]) r) := HP5.out.putO ((Below.refl _ _).alloc (Nat.le_refl _) _) hg hat (own_optsnoc hown);  clear hown hg hat)
                          | fail)
                      go_wp2
                      go_roundg (args.length - (k + 1))
                      case measure => omega
                      case rel => exact ⟨k + 1, m, o' ++ [([ch], s.drop jj)], r, by go_num, by omega, rfl, by omega, by rw [← HLD.out]; simp; omega, HP6, by rw [← HLD.out]; exact HR5⟩
                    · have hd : decide ((jj : Int) < (s.length : Int)) = false := by simp; omega
                      have HDJ : Hid (s.drop jj = []) := List.drop_of_length_le (by omega)
                      obtain ⟨kk, hkk⟩ : ∃ kk, kk = k + 1 := ⟨_, rfl⟩
                      have hwk : IntKind.i64.wrap ((k : Int) + 1) = (kk : Int) := by rw [IntKind.wrap_i64]; omega
                      have HKK : Hid (kk = k + 1) := hkk
                      cases l with
                      | nil =>
                        have hke : ((kk : Int) == (args.length : Int)) = true := by simp at hll ⊢; omega
                        have HR5 : Hid (R = some (.bad [ch] true)) := by show _ = _; rw [HE3.out, HX2.out, HDJ.out]; rfl
                        clear hjj hkk
                        go_wp2_with (first
                          | (go_at_call 30; refine (HQ.out _).mono ?_; rintro e w4 ⟨rfl, m4, hw4⟩; have HP4 : Hid (Rp w1 w4 (w.heap.size + 1) u8 (.slice ra9 rn9 rc9) o' r) := (by rw [hw4]; exact HPj.out.grow ⟨rfl, rfl, rfl, Nat.le_refl _, fun _ _ => rfl⟩); clear hw4)
                          | (go_at_call 31; refine (HO.out _).mono ?_; rintro e w5 ⟨rfl, hB5⟩; have HP5 : Hid (Rp w1 w5 (w.heap.size + 1) u8 (.slice ra9 rn9 rc9) o' r) := HP4.out.grow hB5; obtain ⟨r0', r1', fr', _, hBw2⟩ := HC.out w5 HP5.out.bel; have HBw2 : Hid (Below w.heap.size w w5) := hBw2; clear hB5 hBw2))
                        (try simp only [Exit.inBlock, Exit.then])
                        refine bodyPost_ret (by simp [results, Try.results9, go_sem, r0', r1']; rfl) rfl ?_
                        refine ⟨?_, ?_⟩
                        · rw [HR5.out]; rfl
                        · exact (HBw2.out.setCell (Nat.le_refl _) _).setCell (Nat.le_refl _) _
                      | cons x l2 =>
                        simp only [List.length_cons] at hll
                        have hke : ((kk : Int) == (args.length : Int)) = false := by simp; omega
                        have HR5 : Hid (R = some (Ga.prs (Ga.plus spec) (Ga.tks (Ga.bare spec)) m l2 (o' ++ [([ch], x)]) r)) := by show _ = _; rw [HE3.out, HX2.out, HDJ.out]; rfl
                        have hkl : kk < args.length := by omega
                        have HLD2 : Hid (args.drop (k + 2) = l2) := by
                          show _ = _
                          have h9 := HLD.out
                          rw [show k + 2 = (k + 1) + 1 by omega, ← List.drop_drop, ← h9]; rfl
                        have HX0 : Hid (w1.cell? ⟨bk, off + kk, none⟩ = some (.string ⟨x.toArray⟩)) := by
                          obtain ⟨bk', off', he, _, hcc⟩ := (HC.out w1 (Below.refl _ _)).2.2.2.1 kk x (by
                            have h9 := HLD.out
                            rw [hkk, ← Nat.add_zero (k + 1), ← List.getElem?_drop, ← h9]; rfl)
                          cases he
                          exact hcc
                        have hbk0 : bk < w.heap.size + 1 := by
                          obtain ⟨bk', off', he, hb9, _⟩ := HS.out k args[k] (List.getElem?_eq_getElem hlt)
                          cases he
                          omega
                        have hk0 : (0 : Int) ≤ (kk : Int) := by omega
                        have hk1 : (kk : Int) < (args.length : Int) := by omega
                        have hwt := wt_cons x l2
                        have hwtl := wt_len l2
                        have HWT : Hid (o'.length + r.length + wt l2 + 1 ≤ 2 ^ 40) := by show _ ≤ _; omega
                        clear hjj hkk hll hwt
                        go_wp2_with (go_at_call 30; refine (HQ.out _).mono ?_; rintro e w4 ⟨rfl, m4, hw4⟩; have HP4 : Hid (Rp w1 w4 (w.heap.size + 1) u8 (.slice ra9 rn9 rc9) o' r) := (by rw [hw4]; exact HPj.out.grow ⟨rfl, rfl, rfl, Nat.le_refl _, fun _ _ => rfl⟩); clear hw4)
                        have hS4 : w4.drew.cell? ⟨bk, off + kk, none⟩ = some (.string ⟨x.toArray⟩) := cell_later HP4.out.drew.bel hbk0 HX0.out
                        go_region_held3 (fun W' => W'.cell? ⟨bk, off + kk, none⟩ = some (.string ⟨x.toArray⟩)) (first | with_reducible exact hS6 | with_reducible exact hS5 | with_reducible exact hS4 | (rw [World.cell?_alloc_past _ _ _ hbk5]; exact hS5))
                          (first
                            | (go_at_call 31; go_loud (with_reducible refine Calls.mono (HO.out _) ?_); go_loud (rintro e w5 ⟨rfl, hB5⟩); go_loud (have HP5 : Hid (Rp w1 w5 (w.heap.size + 1) u8 (.slice ra9 rn9 rc9) o' r) := HP4.out.drew.grow hB5); go_loud (have hb5 : w.heap.size + 1 ≤ w5.heap.size := HP5.out.hB); go_loud (have hS5 : w5.cell? ⟨bk, off + kk, none⟩ = some (.string ⟨x.toArray⟩) := cell_later HP5.out.bel hbk0 HX0.out); go_loud (have hbk5 : bk < w5.heap.size := Nat.lt_of_lt_of_le hbk0 HP5.out.hB); go_loud (clear hB5))
                            | (refine step_append_at (by rfl) (.tmp 128) (.tmp 138) 23 (by rfl) (w.heap.size + 1) 67 iO (.agg #[.string ⟨#[]⟩, .string ⟨#[]⟩]) 2 32 Try.underlying23 oi oz0 oz1 oz2 rfl (by decide) u8 o'.length (opCs o') (by simp [Act.eval]) (HP5.out.oo.alloc _) ⟨w5.heap.size, 0, none⟩ 1 1 [.string ⟨#[ch]⟩, .string ⟨(x).toArray⟩] (by simp [Act.eval]) rfl (cell_two_new _ _ _ _) (two_cell [ch] (x)) (by unfold maxLen; omega) (by omega) (by simp; omega) ?_; intro v6 w6 hown hg hat; have HP6 : Hid (Rp w1 w6 (w.heap.size + 1) v6 (.slice ra9 rn9 rc9) (o' ++ [([ch], x)]) r) := HP5.out.putO ((Below.refl _ _).alloc (Nat.le_refl _) _) hg hat (own_optsnoc hown);  have hS6 : w6.cell? ⟨bk, off + kk, none⟩ = some (.string ⟨x.toArray⟩) := cell_later HP6.out.bel hbk0 HX0.out; clear hown hg hat)
                            | fail)
                        go_wp2
                        go_roundg (args.length - (k + 2))
                        case measure => omega
                        case rel => exact ⟨k + 2, m, o' ++ [([ch], x)], r, by rw [show (k + 2 : Nat) = kk + 1 by have := HKK.out; omega]; go_num, by have := HKK.out; omega, rfl, by omega, by rw [HLD2.out]; have := HWT.out; simp; omega, HP6, by rw [HLD2.out]; exact HR5⟩
              · have HR5 : Hid (R = some (Ga.prs (Ga.plus spec) (Ga.tks (Ga.bare spec)) m l o' r)) := by
                  show _ = _
                  rw [HE3.out, ← HX.out, List.drop_of_length_le (by omega)]; rfl
                go_wp2
                go_roundg (args.length - (k + 1))
                case measure => omega
                case rel => exact ⟨k + 1, m, o', r, by go_num, by omega, rfl, by omega, by rw [← HLD.out]; omega, HPj, by rw [← HLD.out]; exact HR5⟩
          · have HZ : Hid (tkR (Ga.plus spec) (Ga.tks (Ga.bare spec)) s l o r = if Ga.plus spec then .inr (o, [], r ++ (s :: l)) else .inr (o, l, r ++ [s])) := by show _ = _; rw [tkR, if_neg h1, if_neg h2]
            have HS2 : Hid (s.length ≤ 1 ∨ (∃ x t, s = x :: t ∧ x ≠ 45 ∧ 0 < t.length)) := by
              cases s with
              | nil => exact .inl (by simp)
              | cons x t =>
                cases t with
                | nil => exact .inl (by simp)
                | cons y t => exact .inr ⟨x, y :: t, rfl, fun e => h2 ⟨by simp, by simp [e]⟩, by simp⟩
            clear h1 h2
            have HGd : Hid (decide ((s.length : Int) < 2) = true ∨ (decide ((s.length : Int) < 2) = false ∧ ∃ h0 : 0 < s.length, ((((s[0]'h0).toNat : Int)) != 45) = true)) := by
              rcases HS2.out with h | ⟨x, t, rfl, hx, ht⟩
              · exact .inl (by simp; omega)
              · exact .inr ⟨by simp <;> omega, by simp, by simp; exact fun e => hx (by rw [← UInt8.toNat_inj]; exact Int.ofNat.inj e)⟩
            rcases HPL.out with ⟨hpl, t, hst⟩ | ⟨hpl, hst⟩
            · have hs0 : decide ((0 : Int) < (spec.length : Int)) = true := by rw [hst]; simp <;> omega
              have hs0' : 0 < spec.length := by rw [hst]; simp
              have hs43 : (((spec[0]'hs0').toNat : Int) == 43) = true := by simp [hst]
              have HX : Hid (R = some (.ok o (r ++ (s :: l)))) := by show _ = _; rw [HE2.out, HZ.out, if_pos hpl, finR, prs_nil]
              obtain ⟨oa, on, oc, hvo⟩ := own_slice HP.out.oo
              subst hvo
              have hl1 : l.length + 1 ≤ args.length - k := by omega
              have hl2 : args.length - k ≤ l.length + 1 := by omega
              clear hll hst HZ HS2
              rcases HGd.out with hg1 | ⟨hg1, hg0, hg2⟩
              · clear HGd
                go_wp2_with (at_builtin; refine wpList_append_own_at _ rfl _ _ 22 rfl (w.heap.size + 1) 9 i0 (.string ⟨#[]⟩) 1 16 Try.underlying22 hi hz0 hz1 hz2 rfl (by decide) _ _ _ rfl HP.out.ro ⟨bk, off + k, none⟩ (args.length - k) (c - k) (((s :: l)).map sv) rfl (by first | (simp; done) | (simp; omega)) (strs_news HSk.out) (one_cells _) (by unfold maxLen; omega) (by omega) (by omega) ?_; intro v5 w5 hown hg _ hat; obtain ⟨ra, rn, rc, hvr⟩ := own_slice hown; subst hvr; have HP2 : Hid (Rp w1 w5 (w.heap.size + 1) (.slice oa on oc) (.slice ra rn rc) o (r ++ (s :: l))) := HP.out.putR (Below.refl _ _) hg hat (own_app' hown (by first | omega | (simp; omega) | simp)); obtain ⟨r0', r1', fr', _, hBw2⟩ := HC.out w5 HP2.out.bel; have HBw2 : Hid (Below w.heap.size w w5) := hBw2; clear hown hg hat hBw2)
                (try simp only [Exit.inBlock, Exit.then])
                refine bodyPost_ret (by simp [results, Try.results9, go_sem, r0', r1']; rfl) rfl ?_
                refine ⟨?_, ?_⟩
                · rw [HX.out]
                  have hB1 : w.heap.size < w.heap.size + 1 := by omega
                  exact ⟨_, _, rfl, own_end2 HP2.out.oo hB1 _ _, own_end2 HP2.out.ro hB1 _ _, HP2.out.orr⟩
                · exact (HBw2.out.setCell (Nat.le_refl _) _).setCell (Nat.le_refl _) _
              · clear HGd
                go_wp2_with (at_builtin; refine wpList_append_own_at _ rfl _ _ 22 rfl (w.heap.size + 1) 9 i0 (.string ⟨#[]⟩) 1 16 Try.underlying22 hi hz0 hz1 hz2 rfl (by decide) _ _ _ rfl HP.out.ro ⟨bk, off + k, none⟩ (args.length - k) (c - k) (((s :: l)).map sv) rfl (by first | (simp; done) | (simp; omega)) (strs_news HSk.out) (one_cells _) (by unfold maxLen; omega) (by omega) (by omega) ?_; intro v5 w5 hown hg _ hat; obtain ⟨ra, rn, rc, hvr⟩ := own_slice hown; subst hvr; have HP2 : Hid (Rp w1 w5 (w.heap.size + 1) (.slice oa on oc) (.slice ra rn rc) o (r ++ (s :: l))) := HP.out.putR (Below.refl _ _) hg hat (own_app' hown (by first | omega | (simp; omega) | simp)); obtain ⟨r0', r1', fr', _, hBw2⟩ := HC.out w5 HP2.out.bel; have HBw2 : Hid (Below w.heap.size w w5) := hBw2; clear hown hg hat hBw2)
                (try simp only [Exit.inBlock, Exit.then])
                refine bodyPost_ret (by simp [results, Try.results9, go_sem, r0', r1']; rfl) rfl ?_
                refine ⟨?_, ?_⟩
                · rw [HX.out]
                  have hB1 : w.heap.size < w.heap.size + 1 := by omega
                  exact ⟨_, _, rfl, own_end2 HP2.out.oo hB1 _ _, own_end2 HP2.out.ro hB1 _ _, HP2.out.orr⟩
                · exact (HBw2.out.setCell (Nat.le_refl _) _).setCell (Nat.le_refl _) _
            · have HX : Hid (R = some (Ga.prs (Ga.plus spec) (Ga.tks (Ga.bare spec)) m l o (r ++ [s]))) := by show _ = _; rw [HE2.out, HZ.out, if_neg (by rw [hpl]; simp), finR]
              clear hll HZ HS2
              rcases HGd.out with hg1 | ⟨hg1, hg0, hg2⟩ <;> rcases hst with hst | ⟨x, t, hst, hx⟩
              all_goals
                clear HGd
                subst hst
                (try have hx' : ((x.toNat : Int) == 43) = false := (by rw [byte43]; simpa using hx))
                (try clear hx)
                go_wp2_with (at_builtin; refine wpList_append_own_at _ rfl _ _ 22 rfl (w.heap.size + 1) 9 i0 (.string ⟨#[]⟩) 1 16 Try.underlying22 hi hz0 hz1 hz2 rfl (by decide) _ _ _ rfl (HP.out.ro.alloc _) ⟨wr.heap.size, 0, none⟩ 1 1 [.string ⟨s.toArray⟩] rfl rfl (cell_one_new _ _ _) (one_cell s) (by unfold maxLen; omega) (by omega) (by simp; omega) ?_; intro v5 w5 hown hg _ hat; have HP2 : Hid (Rp w1 w5 (w.heap.size + 1) u8 v5 o (r ++ [s])) := HP.out.putR ((Below.refl _ _).alloc (Nat.le_refl _) _) hg hat (own_snoc hown); clear hown hg hat)
                go_roundg (args.length - (k + 1))
                case measure => omega
                case rel => exact ⟨k + 1, m, o, r ++ [s], by go_num, by omega, rfl, by omega, by rw [← HLD.out]; simp; omega, HP2, by rw [← HLD.out]; exact HX⟩
      · obtain ⟨r0, r1, fr, _, hBw⟩ := HC.out wr HP.out.bel
        have HBw : Hid (Below w.heap.size w wr) := hBw
        have HX : Hid (R = some (.ok o r)) := by show _ = _; rw [HE.out, List.drop_of_length_le (by omega), prs_nil]
        obtain ⟨oa, on, oc, hvo⟩ := own_slice HP.out.oo
        obtain ⟨ra, rn, rc, hvr⟩ := own_slice HP.out.ro
        subst hvo
        subst hvr
        clear hBw
        go_wp2
        (try simp only [Exit.inBlock, Exit.then])
        refine bodyPost_ret (by simp [results, Try.results9, go_sem, r0, r1]; rfl) rfl ?_
        refine ⟨?_, ?_⟩
        · rw [HX.out]
          have hB1 : w.heap.size < w.heap.size + 1 := by omega
          exact ⟨_, _, rfl, own_end2 HP.out.oo hB1 _ _, own_end2 HP.out.ro hB1 _ _, HP.out.orr⟩
        · exact (HBw.out.setCell (Nat.le_refl _) _).setCell (Nat.le_refl _) _
end Go.Proofs.Ytgbkgfmljcfhoaa
