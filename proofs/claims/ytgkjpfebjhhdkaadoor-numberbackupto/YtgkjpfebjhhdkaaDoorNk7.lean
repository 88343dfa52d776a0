/- The walk of NumberBack. Conditions: a text of at most 1048575 letters; the tables read as their texts lay them. -/
import Derived.Test.YtgkjpfebjhhdkaaDoorNk6
import Derived.Test.YtgkjpfebjhhdkaaDoorNl1
import Derived.Test.YtgkjpfebjhhdkaaDoorNd7
namespace Go.Proofs.YtgkjpfebjhhdkaaDoor
open Go.RowKit Go.Sort
/-- What the law learns of a moment's text. -/
def StK (n t : Int) (w : World) (st : List UInt8) : Prop :=
  st = [63] ∨ ∃ dg : List UInt8, (st == [63]) = false ∧ st.length = 19 ∧ Hid (∀ W, Calls Tryd.prog 30 #[.string ⟨st.toArray⟩] W fun e w' => e = .returned (.string ⟨dg.toArray⟩) ∧ w' = W) ∧
    Hid (∀ W, Below w.heap.size w W → Calls Tryd.prog 26 #[.string ⟨dg.toArray⟩, .int .i64 n] W fun e w' => e = .returned (.tuple #[.int .i64 t, .int .i64 0]) ∧ Below w.heap.size w w')
theorem stamp_told (n t : Int) (n0 : -9223372036854775808 ≤ n) (n1 : n ≤ 9223372036854775807) (h0 : -9223372036854775808 ≤ t) (h1 : t ≤ 9223372036854775807) (w : World) (hd : DT w) (hp : P10 w) (W : World) (b : Below w.heap.size w W) :
    Calls Tryd.prog 28 #[.int .i64 t] W fun e w' => (∃ st : List UInt8, e = .returned (.string ⟨st.toArray⟩) ∧ StK n t w st) ∧ Below w.heap.size w w' := by
  refine (nStamp t h0 h1 W (hd.on b) (hp.on b)).mono ?_
  rintro e w' ⟨ho, hb⟩
  refine ⟨?_, bl2 b hb⟩
  unfold OutS at ho
  by_cases hr : t < -62167219200 ∨ 253402300800 ≤ t
  · rw [if_pos hr] at ho
    exact ⟨[63], ho, .inl rfl⟩
  · rw [if_neg hr] at ho
    obtain ⟨y, j, hc, he⟩ := ho
    obtain ⟨g0, g1⟩ := day_rng hc
    have y0 := hc.y0
    have y1 := hc.y1
    have j1 := hc.j1
    have hl := Na.stampT_len y ((j : Int) + 1) ((t + 62167219200) / 86400 - Na.yb y - Na.mb y j + 1) ((t + 62167219200) % 86400 / 3600) ((t + 62167219200) % 86400 / 60 % 60) ((t + 62167219200) % 86400 % 60)
    have hg := Na.digP_stamp (y := y) (m := (j : Int) + 1) (d := (t + 62167219200) / 86400 - Na.yb y - Na.mb y j + 1) (h := (t + 62167219200) % 86400 / 3600) (mi := (t + 62167219200) % 86400 / 60 % 60) (s := (t + 62167219200) % 86400 % 60) ⟨by omega, by omega⟩ ⟨by omega, by omega⟩ ⟨by omega, by omega⟩ ⟨by omega, by omega⟩ ⟨by omega, by omega⟩
    refine ⟨_, he, .inr ⟨Na.digP (Na.stampT y ((j : Int) + 1) ((t + 62167219200) / 86400 - Na.yb y - Na.mb y j + 1) ((t + 62167219200) % 86400 / 3600) ((t + 62167219200) % 86400 / 60 % 60) ((t + 62167219200) % 86400 % 60)), ?_, hl, fun W => ?_, fun W bW => ?_⟩⟩
    · rw [beq_eq_false_iff_ne]
      intro e2
      have e3 := congrArg List.length e2
      have e4 : (Na.stampT y ((j : Int) + 1) ((t + 62167219200) / 86400 - Na.yb y - Na.mb y j + 1) ((t + 62167219200) % 86400 / 3600) ((t + 62167219200) % 86400 / 60 % 60) ((t + 62167219200) % 86400 % 60)).length = 1 := by simpa using e3
      omega
    · exact lDigits _ (by omega) (by omega) W
    · rw [hg]
      have hdl : (Na.dgs y ((j : Int) + 1) ((t + 62167219200) / 86400 - Na.yb y - Na.mb y j + 1) ((t + 62167219200) % 86400 / 3600) ((t + 62167219200) % 86400 / 60 % 60) ++ 46 :: Na.two ((t + 62167219200) % 86400 % 60)).length = 15 := by simp [Na.dgs, Na.two]
      refine (nDate _ n n0 n1 W (hd.on bW) (by omega)).mono ?_
      rintro e w' ⟨⟨v, hv, he⟩, hb⟩
      have := date_back hc hv
      subst this
      exact ⟨he, bl2 bW hb⟩
set_option maxRecDepth 100000 in
set_option maxHeartbeats 4000000 in
theorem back_walk (l : List UInt8) (n t : Int) (hl : l.length ≤ 1048575) (n0 : -9223372036854775808 ≤ n) (n1 : n ≤ 9223372036854775807) (h0 : -9223372036854775808 ≤ t) (h1 : t ≤ 9223372036854775807) (w : World) (hd : DT w) (hp : P10 w) :
    Calls Tryd.prog 7 #[.string ⟨l.toArray⟩, .int .i64 n, .int .i64 t] w fun e w' => e = .returned (.bool true) ∧ Below w.heap.size w w' := by
  have HR := hidA (ranges_told l w hl)
  have HS := hidA (fun W b => stamp_told n t n0 n1 h0 h1 w hd hp W b)
  have HL := hidA (fun w' (b : Below w.heap.size w w') => lives11 w' (hd.on b) (hp.on b))
  have HN := hidA (fun W => lN64 n n0 n1 W)
  have HT := hidA (fun w' b => hp.on (w' := w') b)
  have HPr : Hid (∀ (L : List Na.Rg) (a : Option Addr) (c : Nat) (W : World), Below w.heap.size w W → Na.Can L → Rgs W a L → L.length ≤ 1048576 → Calls Tryd.prog 24 #[.slice a L.length c] W fun e w' => e = .returned (.string ⟨(Na.printP L).toArray⟩) ∧ Below W.heap.size W w') := fun L a c W b hc hr hn => nPrint L a c W hr (fun x hx => by
    obtain ⟨a1, a2, a3⟩ := hc.1 x hx
    have hm : Na.mx = 999999999999999999 := rfl
    refine ⟨⟨by omega, by omega⟩, ?_⟩
    rcases a3 with e | e
    · exact ⟨by omega, by omega⟩
    · exact ⟨by omega, by omega⟩) hn (HT.out _ b)
  have HRa := hidA ranges_again
  have HSm := hidA rSame
  have HHs := hidA nHas
  clear hd hp n0 n1 h0 h1 hl HT
  unfold StK at HS
  go_enter Tryd.func7, Tryd.ntmps7
  go_wp2_with fail
  go_at_call 19
  refine HR.out.mono ?_
  rintro e w1 ⟨h, b1⟩
  have B1 := hidA b1
  clear b1 HR
  rcases h with ⟨ec, hec, rfl⟩ | ⟨L, a, c, hc, hl0, hl1, rfl, hrg⟩
  · clear HPr HRa HSm HHs
    go_wp2_with fail
    go_at_call 28
    refine (HS.out _ B1.out).mono ?_
    rintro e wS ⟨⟨st, rfl, hst⟩, BS0⟩
    have BS := hidA BS0
    clear BS0
    rcases hst with rfl | ⟨dg, hq, hl19, HDg, HDt⟩
    · go_wp2_with (go_at_call 16; refine (HL.out _ BS.out).mono ?_; rintro e w9 ⟨rfl, b9⟩)
      go_ret
      exact ⟨rfl, bl2 BS.out b9⟩
    · go_wp2_with (first | (go_at_call 30; refine (HDg.out _).mono ?_; rintro e w6 ⟨rfl, h6⟩; rw [h6]; clear h6 w6) | (go_at_call 31; refine (HN.out _).mono ?_; rintro e w7 ⟨rfl, h7⟩; rw [h7]; clear h7 w7) | (go_at_call 26; refine (HDt.out _ BS.out).mono ?_; rintro e w8 ⟨rfl, B8⟩; have BD := hidA B8; clear B8) | (go_at_call 16; refine (HL.out _ BD.out).mono ?_; rintro e w9 ⟨rfl, b9⟩))
      go_ret
      exact ⟨rfl, bl2 BD.out b9⟩
  · have HC := hidA hc
    have HG := hidA hrg
    have HL0 := hidA hl0
    clear hc hrg hl0
    go_wp2_with (first | (go_at_call 24; refine (HPr.out _ _ _ _ B1.out HC.out HG.out hl1).mono ?_; rintro e w2 ⟨rfl, b2⟩) | (go_at_call 19; refine (HRa.out _ _ HC.out HL0.out hl1).mono ?_; rintro e w3 ⟨⟨a3, c3, rfl, hrg3⟩, b3⟩; have HG3 := hidA hrg3; clear hrg3; have B3 := hidA (bl2 B1.out (bl2 b2 b3)); have HGa := hidA (HG.out.grow (bl2 b2 b3)); clear b2 b3) | (go_at_call 21; refine (HSm.out _ _ _ _ _ _ HGa.out HG3.out (by omega)).mono ?_; rintro e w4 ⟨rfl, m4, h4⟩; rw [h4]; clear h4 w4))
    have HB3 : Hid (∀ W, Below w3.heap.size w3 W → Below w.heap.size w W) := fun W b => bl2 B3.out b
    have HD3 : Hid (∀ m, Below w3.heap.size w3 (w3.drewN m)) := fun m => bl_drew w3 m
    clear HPr HRa HSm B3 HG HG3 B1
    go_loopw [11] (fun i W => ∃ q : Nat, q + 1 ≤ L.length ∧ i = .int .i64 ((q : Int) + 1) ∧ Hid (Below w3.heap.size w3 W)) (fun i _ => L.length + 1 - (intOf i).toNat)
    case atStart => exact ⟨0, HL0.out, rfl, HD3.out _⟩
    case round =>
      obtain ⟨q, hq1, rfl, HB⟩ := hrel
      rename_i wr
      by_cases hlt : q + 1 < L.length
      · obtain ⟨bk, o, e1, hbk, -, hd1⟩ := HGa.out q (L[q]'(by omega)) (List.getElem?_eq_getElem (by omega))
        obtain ⟨bk2, o2, e2, -, hc2, -⟩ := HGa.out (q + 1) L[q + 1] (List.getElem?_eq_getElem hlt)
        subst e1
        cases e2
        obtain ⟨s1, s2⟩ := Na.steps HC.out q hlt
        have hgp := Na.gap HC.out (q + 1) hlt
        obtain ⟨v1, v2, v3⟩ := HC.out.1 _ (List.getElem_mem hlt)
        obtain ⟨u1, u2, u3⟩ := HC.out.1 _ (List.getElem_mem (show q < L.length by omega))
        have HHq : Hid (∀ W, Below w3.heap.size w3 W → Calls Tryd.prog 22 #[.slice (some ⟨bk, o, none⟩) L.length c, .int .i64 (L[q + 1].1 - 1)] W fun e w' => e = .returned (.bool false) ∧ Hid (Below w3.heap.size w3 w') ∧ (w'.cell? ⟨bk, o + q * 2 + 1, none⟩ = some (.int .i64 (L[q]'(by omega)).2) ∧ w'.cell? ⟨bk, o + (q + 1) * 2, none⟩ = some (.int .i64 L[q + 1].1))) := fun W b =>
          (HHs.out L (L[q + 1].1 - 1) _ c W (HGa.out.grow b) (by omega)).mono fun e w' h => ⟨by rw [h.1, hgp], bl2 b h.2, ((bl2 b h.2).cell (p := ⟨bk, o + q * 2 + 1, none⟩) hbk).trans hd1, ((bl2 b h.2).cell (p := ⟨bk, o + (q + 1) * 2, none⟩) hbk).trans hc2⟩
        have d0 : wr.cell? ⟨bk, o + q * 2 + 1, none⟩ = some (.int .i64 (L[q]'(by omega)).2) := (HB.out.cell (p := ⟨bk, o + q * 2 + 1, none⟩) hbk).trans hd1
        have d1 : wr.cell? ⟨bk, o + (q + 1) * 2, none⟩ = some (.int .i64 L[q + 1].1) := (HB.out.cell (p := ⟨bk, o + (q + 1) * 2, none⟩) hbk).trans hc2
        have hm : Na.mx = 999999999999999999 := rfl
        generalize L[q + 1] = y at *
        generalize (L[q]'(by omega)) = x at *
        obtain ⟨y1, y2⟩ := y
        obtain ⟨x1, x2⟩ := x
        dsimp only at *
        have f1 : (x2 == -1) = false := by simpa using s1
        have f2 : IntKind.i64.wrap (x2 + 1) = x2 + 1 := by rw [IntKind.wrap_i64]; omega
        have f3 : decide (y1 ≤ x2 + 1) = false := by simp; omega
        have f4 : IntKind.i64.wrap (y1 - 1) = y1 - 1 := by rw [IntKind.wrap_i64]; omega
        have f5 : IntKind.i64.wrap ((q : Int) + 1 - 1) = q := by rw [IntKind.wrap_i64]; omega
        have f6 : IntKind.i64.wrap ((q : Int) + 1 + 1) = q + 1 + 1 := by rw [IntKind.wrap_i64]; omega
        have f7 : ((q : Int) + 1).toNat = q + 1 := by omega
        have f8 : (q : Int) + 1 < L.length := by omega
        have f9 : IntKind.i64.wrap (q : Int) = q := by rw [IntKind.wrap_i64]; omega
        have f10 : (q : Int) < L.length := by omega
        have f11 : (0 : Int) ≤ q := by omega
        have f12 : (0 : Int) ≤ (q : Int) + 1 := by omega
        have f13 : q < L.length := by omega
        have f14 : ¬ (q : Int) + 1 < 0 := by omega
        have HBd : Hid (Below w3.heap.size w3 wr.drew) := bl2 HB.out (bl_drew wr 1)
        clear s1 s2 hgp v1 v2 v3 u1 u2 u3 hm HHs hc2 hd1
        go_wp2_with fail
        go_region_held3 (fun W' => W'.cell? ⟨bk, o + q * 2 + 1, none⟩ = some (.int .i64 x2) ∧ W'.cell? ⟨bk, o + (q + 1) * 2, none⟩ = some (.int .i64 y1)) (first | with_reducible exact hS1 | go_keep) (first | (go_at_call 22; with_reducible refine Calls.mono (HHq.out wr.drew HBd.out) ?_; rintro e w5 ⟨rfl, B5, hS1⟩) | fail)
        go_wp2
        exact ⟨⟨q + 1, by omega, by go_num, B5⟩, by simp [intOf]; omega⟩
      · have f8 : ¬ (q : Int) + 1 < L.length := by omega
        have BE := hidA (HB3.out _ HB.out)
        clear HHs HB3 HD3
        go_wp2_with fail
        go_at_call 28
        refine (HS.out _ BE.out).mono ?_
        rintro e wS ⟨⟨st, rfl, hst⟩, BS0⟩
        have BS := hidA BS0
        clear BS0
        rcases hst with rfl | ⟨dg, hq, hl19, HDg, HDt⟩
        · go_wp2_with (go_at_call 16; refine (HL.out _ BS.out).mono ?_; rintro e w9 ⟨rfl, b9⟩)
          go_ret
          exact ⟨rfl, bl2 BS.out b9⟩
        · go_wp2_with (first | (go_at_call 30; refine (HDg.out _).mono ?_; rintro e w6 ⟨rfl, h6⟩; rw [h6]; clear h6 w6) | (go_at_call 31; refine (HN.out _).mono ?_; rintro e w7 ⟨rfl, h7⟩; rw [h7]; clear h7 w7) | (go_at_call 26; refine (HDt.out _ BS.out).mono ?_; rintro e w8 ⟨rfl, B8⟩; have BD := hidA B8; clear B8) | (go_at_call 16; refine (HL.out _ BD.out).mono ?_; rintro e w9 ⟨rfl, b9⟩))
          go_ret
          exact ⟨rfl, bl2 BD.out b9⟩
end Go.Proofs.YtgkjpfebjhhdkaaDoor
