/- The walk of the program's Parse. Conditions: lengths that fit. -/
import Derived.Test.YtgbkgfmljcfhoaaGa8
import Derived.Laws.EntriesVeiled
namespace Go.Proofs.Ytgbkgfmljcfhoaa
open Go.RowKit
attribute [local go_sem] ext_eq app_eq get_eq
def parseR (spec : List UInt8) (args : List (List UInt8)) : Option Ga.Res := if Ga.specB (Ga.bare spec) then some (Ga.parse spec args) else none
/-- What Parse tells. -/
def OutP (w W : World) (e : Ending) : Option Ga.Res → Prop
  | none => e = .returned (.tuple #[.slice none 0 0, .slice none 0 0, .agg #[.string ⟨#[]⟩, .bool false], .int .i64 22])
  | some (.bad n m) => e = .returned (.tuple #[.slice none 0 0, .slice none 0 0, .agg #[.string ⟨n.toArray⟩, .bool m], .int .i64 100])
  | some (.ok o r) => ∃ vo vr, e = .returned (.tuple #[vo, vr, .agg #[.string ⟨#[]⟩, .bool false], .int .i64 0]) ∧ W.ownsRow w.heap.size 67 2 vo o.length (opCs o) ∧ W.ownsRow w.heap.size 9 1 vr r.length (r.map sv) ∧ (vo.ownBlock = none ∨ vo.ownBlock ≠ vr.ownBlock)
theorem low_of (l : List UInt8) (h : Ga.specB l = true) : ∀ x, Ga.knd (Ga.alP l l.length) (Ga.tkP l l.length) x ≠ none → x.toNat < 128 := by
  intro x hx
  rw [Ga.knd_tks l h] at hx
  cases ht : Ga.tks l x with
  | none => exact absurd ht hx
  | some b =>
    obtain ⟨j, h1, h2, _⟩ := Ga.tks_some l x b ht
    have := (Ga.ok_at h h1 h2).1
    have hb := x.toNat_lt
    by_cases hh : 128 ≤ x.toNat
    · rw [letB_high (by omega)] at this; cases this
    · omega
theorem own_end {W : World} {B b0 k n : Nat} {T : TypeId} {v : Value} {xs : List Value} (h : W.ownsRow B T k v n xs) (hb : b0 < B) (x y : Value) : ((W.setCell ⟨b0, 0, none⟩ x).setCell ⟨b0, 1, none⟩ y).drew.ownsRow b0 T k v n xs := by
  have hne : ∀ g, v.ownBlock = some g → g ≠ b0 := fun g hg e => by have := (h.lt g hg).1; omega
  refine ⟨h.1, ?_⟩
  rcases h.2 with h2 | ⟨g, cap, cur, rfl, hb', hg, r⟩
  · exact .inl h2
  · refine .inr ⟨g, cap, cur, rfl, by omega, ?_, r⟩
    have := hne g rfl
    show ((W.setCell ⟨b0, 0, none⟩ x).setCell ⟨b0, 1, none⟩ y).heap[g]? = _
    rw [Below.heap_setCell _ _ _ _ this, Below.heap_setCell _ _ _ _ this]
    exact hg
theorem Pt.start (w2 : World) (B : Nat) (hB : w2.heap.size = B) (st : Bool) (al tk : List UInt8) (a : Option Addr) (c : Nat) (args : List (List UInt8)) (hS : Strs w2 a args) (hc : args.length ≤ c) (hm : c < 2 ^ 63) :
    Pt w2 ((w2.alloc (.cells #[.slice a args.length c] 59)).alloc (.cells #[.bool st, .string ⟨al.toArray⟩, .string ⟨tk.toArray⟩, .func (.func 27) #[.pointer (some ⟨B, 0, none⟩)] #[], .slice none 0 0, .slice none 0 0, .string ⟨#[]⟩, .bool false] 61)) B (B + 1) B st al tk a c args (.slice none 0 0) (.slice none 0 0) [] [] := by
  subst hB
  have hs1 : ∀ o, (w2.alloc o).heap.size = w2.heap.size + 1 := fun o => by simp
  have hB2 : ∀ o1 o2, Below w2.heap.size w2 ((w2.alloc o1).alloc o2) := fun o1 o2 => ((Below.refl _ _).alloc (Nat.le_refl _) _).alloc (by simp) _
  have cP : ∀ (o : Obj) (L : Array Value) (T : TypeId) (i : Nat), ((w2.alloc o).alloc (.cells L T)).cell? ⟨w2.heap.size + 1, i, none⟩ = L[i]? := fun o L T i => World.cell?_alloc_at _ _ _ _ (hs1 o).symm
  exact {
    bel := hB2 _ _, hB := by simp; omega, p1 := by omega, q1 := Nat.le_refl _, pq := by omega
    c0 := cP _ _ _ 0, c1 := cP _ _ _ 1, c2 := cP _ _ _ 2, c3 := cP _ _ _ 3, c4 := cP _ _ _ 4, c5 := cP _ _ _ 5, c6 := cP _ _ _ 6, c7 := cP _ _ _ 7
    fp := fun i => World.frozen?_alloc_at _ _ _ _ (hs1 _).symm
    q0 := by rw [World.cell?_alloc_past _ _ _ (by simp), World.cell?_alloc_at _ _ _ _ rfl]; rfl
    fq := by rw [World.frozen?_alloc_past _ _ _ (by simp), World.frozen?_alloc_at _ _ _ _ rfl]
    cl := hc, cm := hm, strs := hS.grow (hB2 _ _)
    aB := fun hne b hb => by
      cases args with
      | nil => exact absurd rfl hne
      | cons x r =>
        obtain ⟨bk, o, rfl, hlt, _⟩ := hS.first
        simp at hb; subst hb; exact hlt
    oo := World.ownsRow_nil _ _ _ _, ro := World.ownsRow_nil _ _ _ _
    op := by simp [Value.ownBlock], oq := by simp [Value.ownBlock], rp := by simp [Value.ownBlock], rq := by simp [Value.ownBlock], orr := .inl rfl }
set_option maxRecDepth 100000 in
set_option maxHeartbeats 4000000 in
theorem gParse (spec : List UInt8) (args : List (List UInt8)) (a : Option Addr) (c : Nat) (w : World) (hs : spec.length ≤ 2 ^ 47) (hS : Strs w a args) (hc : args.length ≤ c) (hm : c < 2 ^ 63) (hM : wt args ≤ 2 ^ 40) :
    Calls Try.prog 8 #[.string ⟨spec.toArray⟩, .slice a args.length c] w fun e W => OutP w W e (parseR spec args) ∧ Below w.heap.size w W := by
  have HS : Hid (Strs w a args) := hS
  clear hS
  have HRd : Hid (∀ W, Calls Try.prog 26 #[.string ⟨spec.toArray⟩] W fun e w' => e = .returned (.tuple #[rdV (Ga.plus spec) (Ga.bare spec), .bool (Ga.specB (Ga.bare spec))]) ∧ Below W.heap.size W w') := fun W => gRead spec W hs
  cases hsp : Ga.specB (Ga.bare spec) with
  | false =>
    rw [hsp, rdV_no hsp] at HRd
    have HX : Hid (∀ W e, OutP w W e (parseR spec args) = (e = .returned (.tuple #[.slice none 0 0, .slice none 0 0, .agg #[.string ⟨#[]⟩, .bool false], .int .i64 22]))) := fun _ _ => by rw [parseR, hsp]; rfl
    generalize parseR spec args = R at *
    clear hsp
    go_enter Try.func8, Try.ntmps8
    go_wp2_with fail
    refine (HRd.out _).mono ?_
    rintro e w1 ⟨rfl, hB1⟩
    have hsz : w.heap.size < w1.heap.size := by have := hB1.size; simp at this; omega
    have r0 : w1.cell? ⟨w.heap.size, 0, none⟩ = some (.string ⟨#[]⟩) := (hB1.cell (p := ⟨w.heap.size, 0, none⟩) (by simp)).trans (World.cell?_alloc_at _ _ _ _ rfl)
    have r1 : w1.cell? ⟨w.heap.size, 1, none⟩ = some (.bool false) := (hB1.cell (p := ⟨w.heap.size, 1, none⟩) (by simp)).trans (World.cell?_alloc_at _ _ _ _ rfl)
    have fr : ∀ o, w1.frozen? ⟨w.heap.size, o, none⟩ = false := fun o => (hB1.frozen (p := ⟨w.heap.size, o, none⟩) (by simp)).trans (World.frozen?_alloc_at _ _ _ _ rfl)
    have HB : Hid (Below w.heap.size w w1) := ((Below.refl _ _).alloc (Nat.le_refl _) _).trans (hB1.mono (by simp))
    clear hB1
    go_wp2
    (try simp only [Exit.inBlock, Exit.then])
    refine bodyPost_ret (by simp [results, Try.results8, go_sem, r0, r1, hsz]; rfl) rfl ?_
    refine ⟨by rw [HX.out], ?_⟩
    exact ((HB.out.setCell (Nat.le_refl _) _).setCell (Nat.le_refl _) _).alloc (by simp [World.setCell]; omega) _
  | true =>
    rw [hsp, rdV_ok hsp] at HRd
    have HA := low_of _ hsp
    have HK : Hid (parseR spec args = some (Ga.prs (Ga.plus spec) (Ga.knd (Ga.alP (Ga.bare spec) (Ga.bare spec).length) (Ga.tkP (Ga.bare spec) (Ga.bare spec).length)) args.length args [] [])) := by
      show _ = _
      rw [parseR, if_pos hsp, Ga.parse]
      congr 2
      funext x
      exact (Ga.knd_tks _ hsp x).symm
    generalize Ga.alP (Ga.bare spec) (Ga.bare spec).length = al at *
    generalize Ga.tkP (Ga.bare spec) (Ga.bare spec).length = tk at *
    generalize Ga.plus spec = st at *
    have HA : Hid (∀ x, Ga.knd al tk x ≠ none → x.toNat < 128) := HA
    generalize parseR spec args = R at *
    clear hsp
    go_enter Try.func8, Try.ntmps8
    go_wp2_with fail
    refine (HRd.out _).mono ?_
    rintro e w1 ⟨rfl, hB1⟩
    have hsz : w.heap.size < w1.heap.size := by have := hB1.size; simp at this; omega
    have r0 : w1.cell? ⟨w.heap.size, 0, none⟩ = some (.string ⟨#[]⟩) := (hB1.cell (p := ⟨w.heap.size, 0, none⟩) (by simp)).trans (World.cell?_alloc_at _ _ _ _ rfl)
    have r1 : w1.cell? ⟨w.heap.size, 1, none⟩ = some (.bool false) := (hB1.cell (p := ⟨w.heap.size, 1, none⟩) (by simp)).trans (World.cell?_alloc_at _ _ _ _ rfl)
    have fr : ∀ o, w1.frozen? ⟨w.heap.size, o, none⟩ = false := fun o => (hB1.frozen (p := ⟨w.heap.size, o, none⟩) (by simp)).trans (World.frozen?_alloc_at _ _ _ _ rfl)
    have HB : Hid (Below w.heap.size w w1) := ((Below.refl _ _).alloc (Nat.le_refl _) _).trans (hB1.mono (by simp))
    have HP0 : Hid (Pt (w1.alloc (.cells #[.bool st, .string ⟨al.toArray⟩, .string ⟨tk.toArray⟩] 53)) (((w1.alloc (.cells #[.bool st, .string ⟨al.toArray⟩, .string ⟨tk.toArray⟩] 53)).alloc (.cells #[.slice a args.length c] 59)).alloc (.cells #[.bool st, .string ⟨al.toArray⟩, .string ⟨tk.toArray⟩, .func (.func 27) #[.pointer (some ⟨w1.heap.size + 1, 0, none⟩)] #[], .slice none 0 0, .slice none 0 0, .string ⟨#[]⟩, .bool false] 61)) (w1.heap.size + 1) (w1.heap.size + 1 + 1) (w1.heap.size + 1) st al tk a c args (.slice none 0 0) (.slice none 0 0) [] []) :=
      Pt.start _ _ (by simp) st al tk a c args ((HS.out.grow HB.out).grow ((Below.refl _ _).alloc (Nat.le_refl _) _)) hc hm
    clear hB1
    go_wp2_with fail
    refine (gNextP HP0.out).mono ?_
    rintro e w3 ⟨rfl, a3, c3, hP3⟩
    have HP3 : Hid (Pt (w1.alloc (.cells #[.bool st, .string ⟨al.toArray⟩, .string ⟨tk.toArray⟩] 53)) w3 (w1.heap.size + 1) (w1.heap.size + 1 + 1) (w1.heap.size + 1) st al tk a3 c3 args.tail (.slice none 0 0) (.slice none 0 0) [] []) := hP3
    clear hP3 HP0
    have HW2 : Hid ((w1.alloc (.cells #[.bool st, .string ⟨al.toArray⟩, .string ⟨tk.toArray⟩] 53)).heap.size = w1.heap.size + 1) := by show _ = _; simp
    have HR2 : Hid (∀ V, Below (w1.heap.size + 1) (w1.alloc (.cells #[.bool st, .string ⟨al.toArray⟩, .string ⟨tk.toArray⟩] 53)) V → V.cell? ⟨w.heap.size, 0, none⟩ = some (.string ⟨#[]⟩) ∧ V.cell? ⟨w.heap.size, 1, none⟩ = some (.bool false) ∧ (∀ o, V.frozen? ⟨w.heap.size, o, none⟩ = false) ∧ Below w.heap.size w V) := by
      intro V hV
      refine ⟨?_, ?_, fun o => ?_, ?_⟩
      · rw [hV.cell (p := ⟨w.heap.size, 0, none⟩) (by simp; omega), World.cell?_alloc_past _ _ _ hsz]; exact r0
      · rw [hV.cell (p := ⟨w.heap.size, 1, none⟩) (by simp; omega), World.cell?_alloc_past _ _ _ hsz]; exact r1
      · rw [hV.frozen (p := ⟨w.heap.size, o, none⟩) (by simp; omega), World.frozen?_alloc_past _ _ _ hsz]; exact fr o
      · exact (HB.out.alloc (by omega) _).trans (hV.mono (by omega))
    generalize w1.alloc (.cells #[.bool st, .string ⟨al.toArray⟩, .string ⟨tk.toArray⟩] 53) = w2 at *
    clear r0 r1 fr
    go_wp2_with fail
    go_loopw [11, 12] (fun x y V => ∃ (lf : List (List UInt8)) (o : List Ga.Opt) (r : List (List UInt8)) (a : Option Addr) (c : Nat) (vo vr : Value) (n : Nat), x = .string ⟨(lf.head?.getD []).toArray⟩ ∧ y = .bool (!lf.isEmpty) ∧ lf.length ≤ n ∧ o.length + r.length + wt lf ≤ 2 ^ 40 ∧ Hid (Pt w2 V (w1.heap.size + 1) (w1.heap.size + 1 + 1) (w1.heap.size + 1) st al tk a c lf.tail vo vr o r) ∧ Hid (R = some (Ga.prs st (Ga.knd al tk) n lf o r))) (fun _ y V => qLen V (w1.heap.size + 1) + bN y)
    case atStart => exact ⟨args, [], [], a3, c3, _, _, args.length, rfl, rfl, Nat.le_refl _, by simpa using hM, HP3, HK⟩
    case round =>
      obtain ⟨lf, o, r, a, c, vo, vr, n, rfl, rfl, hn, hw, HP, HE⟩ := hrel
      have HQ : Hid (qLen wr (w1.heap.size + 1) = lf.tail.length) := HP.out.qlen
      cases lf with
      | nil =>
        obtain ⟨r0, r1, fr, HBw⟩ := HR2.out wr HP.out.bel
        have HBw : Hid (Below w.heap.size w wr) := HBw
        have HX : Hid (R = some (.ok o r)) := by show _ = _; rw [HE.out, prs_nil]
        have c4 := HP.out.c4
        have c5 := HP.out.c5
        obtain ⟨oa, on, oc, hvo⟩ := own_slice HP.out.oo
        obtain ⟨ra, rn, rc, hvr⟩ := own_slice HP.out.ro
        subst hvo
        subst hvr
        go_wp2_with (go_region)
        (try simp only [Exit.inBlock, Exit.then])
        refine bodyPost_ret (by simp [results, Try.results8, go_sem, r0, r1]; rfl) rfl ?_
        refine ⟨?_, ?_⟩
        · rw [HX.out]
          have hB1 : w.heap.size < w1.heap.size + 1 := by omega
          exact ⟨_, _, rfl, own_end HP.out.oo hB1 _ _, own_end HP.out.ro hB1 _ _, HP.out.orr⟩
        · exact ((HBw.out.setCell (Nat.le_refl _) _).setCell (Nat.le_refl _) _).drew
      | cons s l =>
        obtain ⟨n, rfl⟩ : ∃ m, n = m + 1 := ⟨n - 1, by simp at hn; omega⟩
        have HT : Hid (Calls Try.prog 28 #[.pointer (some ⟨w1.heap.size + 1 + 1, 0, none⟩), .string ⟨s.toArray⟩] wr fun e W' => OutT w2 W' (w1.heap.size + 1) (w1.heap.size + 1 + 1) (w1.heap.size + 1) st al tk e (tkR st (Ga.knd al tk) s l o r)) := gTake HP.out s HA.out hw
        have HE2 : Hid (Ga.prs st (Ga.knd al tk) (n + 1) (s :: l) o r = match tkR st (Ga.knd al tk) s l o r with
          | .inl b => .bad b.1 b.2
          | .inr x => Ga.prs st (Ga.knd al tk) n x.2.1 x.1 x.2.2) := prs_step _ _ _ _ _ _ _
        cases ht : tkR st (Ga.knd al tk) s l o r with
        | inl b =>
          obtain ⟨nm, ms⟩ := b
          rw [ht] at HT HE2
          have HX : Hid (R = some (.bad nm ms)) := by show _ = _; rw [HE.out, HE2.out]
          clear ht HE HE2
          go_wp2_with (first
            | (go_at_call 28; refine HT.out.mono ?_; rintro e w4 ⟨rfl, hb1, hb2, hb3, hb4⟩; obtain ⟨r0, r1, fr, HBw⟩ := HR2.out w4 hb1; have HBw : Hid (Below w.heap.size w w4) := HBw; clear hb1)
            | go_region)
          (try simp only [Exit.inBlock, Exit.then])
          refine bodyPost_ret (by simp [results, Try.results8, go_sem, r0, r1]; rfl) rfl ?_
          refine ⟨?_, ?_⟩
          · rw [HX.out]; rfl
          · exact ((HBw.out.setCell (Nat.le_refl _) _).setCell (Nat.le_refl _) _).drew
        | inr x =>
          obtain ⟨o', l', r'⟩ := x
          have hle := tkR_le ht
          dsimp only at hle
          rw [ht] at HT HE2
          have HX : Hid (R = some (Ga.prs st (Ga.knd al tk) n l' o' r')) := by show _ = _; rw [HE.out, HE2.out]
          clear ht HE HE2
          go_wp2_with (first
            | (go_at_call 28; refine HT.out.mono ?_; rintro e w4 ⟨rfl, a4, c4, vo4, vr4, hP4⟩; have HP4 : Hid (Pt w2 w4 (w1.heap.size + 1) (w1.heap.size + 1 + 1) (w1.heap.size + 1) st al tk a4 c4 l' vo4 vr4 o' r') := hP4; have cc3 := HP4.out.c3; clear hP4)
            | (go_at_call 27; refine (gNextP HP4.out).mono ?_; rintro e w5 ⟨rfl, a5, c5, hP5⟩; have HP5 : Hid (Pt w2 w5 (w1.heap.size + 1) (w1.heap.size + 1 + 1) (w1.heap.size + 1) st al tk a5 c5 l'.tail vo4 vr4 o' r') := hP5; clear hP5))
          refine ⟨⟨l', o', r', a5, c5, vo4, vr4, n, rfl, rfl, by simp at hn; omega, by omega, HP5, HX⟩, ?_⟩
          rw [HQ.out, HP5.out.qlen]
          have := hle.1
          cases l' with
          | nil => simp [bN]
          | cons x t => simp [bN] at *; omega
end Go.Proofs.Ytgbkgfmljcfhoaa
