/- The plain answer's place and Part. Condition: lengths that fit. -/
import Derived.Test.YtdjefinehabifaaDoorOa6
namespace Go.Proofs.YtdjefinehabifaaDoor
open Go.RowKit
attribute [local go_sem] ext_eq app_eq get_eq
namespace Od
/-- A span that lies at a block. -/
structure Xs (b : Nat) (p q : Nat) (W : World) : Prop where
  lt : b < W.heap.size
  c0 : W.cell? ⟨b, 0, none⟩ = some (.int .i64 p)
  c1 : W.cell? ⟨b, 1, none⟩ = some (.int .i64 q)
  fr : ∀ o, W.frozen? ⟨b, o, none⟩ = false
theorem Xs.made (W : World) (p q : Nat) (T : TypeId) : Xs W.heap.size p q (W.alloc (.cells #[.int .i64 p, .int .i64 q] T)) where
  lt := by simp
  c0 := World.cell?_alloc_at _ _ _ _ rfl
  c1 := World.cell?_alloc_at _ _ _ _ rfl
  fr := fun o => World.frozen?_alloc_at _ _ _ _ rfl
theorem cset {W : World} {p q : Addr} {v x : Value} (h : W.cell? q = some x) : (W.setCell p v).cell? q = some (if p = q then v else x) := by
  by_cases e : p = q
  · subst e; rw [if_pos rfl]; exact World.cell?_setCell_same _ _ _ h
  · rw [if_neg e, World.cell?_setCell_other _ _ _ _ e]; exact h
theorem Xs.set {b p q : Nat} {W : World} (h : Xs b p q W) (p' : Nat) : Xs b p' q (W.setCell ⟨b, 0, none⟩ (.int .i64 p')) where
  lt := by simpa using h.lt
  c0 := by rw [cset h.c0]; simp
  c1 := by rw [cset h.c1]; simp
  fr := fun o => by rw [World.frozen?_setCell]; exact h.fr o
/-- The fields' row, where there is one at a number. -/
theorem Sp.at {B : Nat} {W : World} {v : Value} {F : List (Nat × Nat)} (h : Sp B W v F) {j : Nat} (hj : j < F.length) : ∃ g cap, v = .slice (some ⟨g, 0, none⟩) F.length cap ∧ W.cell? ⟨g, j * 2, none⟩ = some (.int .i64 F[j].1) ∧ W.cell? ⟨g, j * 2 + 1, none⟩ = some (.int .i64 F[j].2) ∧ F.length ≤ cap := by
  rcases h.2 with ⟨_, h0⟩ | ⟨g, cap, cur, rfl, hb, hg, hnc, hcm, hsz, ht⟩
  · omega
  · refine ⟨g, cap, rfl, ?_, ?_, hnc⟩
    · have h1 := (sC_get F j hj).1
      rw [cell_heap hg, ← h1, ← ht, List.getElem?_take_of_lt (by omega)]; simp
    · have h1 := (sC_get F j hj).2
      rw [cell_heap hg, ← h1, ← ht, List.getElem?_take_of_lt (by omega)]; simp
theorem ends_len (sep : UInt8) : ∀ (r : List UInt8) (p : Option UInt8) (pos fr : Nat), (ends sep p pos fr r).length ≤ r.length + 1
  | [], _, _, _ => by simp [ends]
  | c :: r, p, pos, fr => by
    have h1 := ends_len sep r (some c) (pos + 1) (if sep = 0 then pos else pos + 1)
    have h2 := ends_len sep r (some c) (pos + 1) fr
    simp only [ends]
    split
    · simp only [List.length_cons]; omega
    · simp only [List.length_cons]; omega
end Od
/-- The number in a block's first cell. -/
def cellN (b : Nat) (W : World) : Nat := match W.cell? ⟨b, 0, none⟩ with | some (.int _ i) => i.toNat | _ => 0
set_option maxRecDepth 100000 in
set_option maxHeartbeats 4000000 in
theorem rPlace (l : List UInt8) (a : Option Addr) (c : Nat) (n : Int) (sep : UInt8) (sk : Bool) (hl : l.length ≤ 1048577) (h1 : 1 ≤ n) (h2 : n < 2 ^ 63) (w : World) (hS : Src w a l) : Calls Tryd.prog 35 #[.slice a l.length c, .int .i64 n, .int .u8 sep.toNat, .bool sk] w fun e w' => e = .returned (.tuple #[.int .i64 (((Od.fd sep l n).1 + if sk then Od.lead Od.bl ((l.take (Od.fd sep l n).2).drop (Od.fd sep l n).1) else 0 : Nat) : Int), .int .i64 ((Od.fd sep l n).2 : Int)]) ∧ Below w.heap.size w w' := by
  obtain ⟨R1, HR1⟩ : ∃ r : Nat, Hid (r = (Od.fd sep l n).1 + if sk then Od.lead Od.bl ((l.take (Od.fd sep l n).2).drop (Od.fd sep l n).1) else 0) := ⟨_, hidA rfl⟩
  obtain ⟨R2, HR2⟩ : ∃ r : Nat, Hid (r = (Od.fd sep l n).2) := ⟨_, hidA rfl⟩
  rw [← HR1.out, ← HR2.out]
  have HS := hidA hS
  have HA := hidA (rFields l a c sep hl w hS)
  have HFD := hidA (show Od.fd sep l n = (Od.fs sep l).getD (n - 1).toNat (l.length, l.length) from rfl)
  have hin := Od.fd_in sep l n
  have hfl : (Od.fs sep l).length ≤ l.length + 1 := Od.ends_len sep l none 0 0
  generalize Od.fs sep l = F at *
  rcases hfd : Od.fd sep l n with ⟨x, y⟩
  rw [hfd] at HR1 HR2 HFD hin
  dsimp only at HR1 HR2 hin
  clear hfd hS
  go_enter Tryd.func35, Tryd.ntmps35
  go_wp2_with fail
  refine HA.out.mono ?_
  rintro e w1 ⟨v, rfl, hv, b1⟩
  have HV := hidA hv
  have HB1 := hidA b1
  clear hv b1 HA
  by_cases hbig : (F.length : Int) < n
  · have hxy : x = l.length ∧ y = l.length := by
      have h := HFD.out
      rw [List.getD_eq_getElem?_getD, List.getElem?_eq_none (by omega)] at h
      cases h; exact ⟨rfl, rfl⟩
    obtain ⟨av, cv, hvv⟩ := own_slice HV.out
    subst hvv
    have h3 := HR1.out
    rw [hxy.1, hxy.2, List.take_length, List.drop_length] at h3
    have h4 : R1 = l.length := by rw [h3]; cases sk <;> simp [Od.lead]
    have H4 := hidA h4
    have H5 := hidA (HR2.out.trans hxy.2)
    clear HS HR1 HR2 HFD HV h3 h4 hxy hin
    go_wp2_with (go_quiet (fail))
    go_ret2
    exact ⟨by rw [H4.out, H5.out]; rfl, HB1.out⟩
  · obtain ⟨j, Hj⟩ : ∃ j : Nat, Hid ((j : Int) = n - 1) := ⟨(n - 1).toNat, hidA (by omega)⟩
    have hjF : j < F.length := by have := Hj.out; omega
    have hws : IntKind.i64.wrap (n - 1) = (j : Int) := by have := Hj.out; rw [IntKind.wrap_i64]; omega
    have hws2 : n - 1 = (j : Int) := Hj.out.symm
    have hxy : F[j]'hjF = (x, y) := by
      have h := HFD.out
      rw [← Hj.out, Int.toNat_natCast, List.getD_eq_getElem?_getD, List.getElem?_eq_getElem hjF] at h
      exact h.symm
    obtain ⟨g, cap, hvv, r0, r1, hcap⟩ := HV.out.at hjF
    rw [hxy] at r0 r1
    dsimp only at r0 r1
    subst hvv
    clear HFD Hj hxy HV
    have HX := hidA (Od.Xs.made w1 x y 89)
    have hb := HB1.out.size
    have HB2 : Hid (Below w.heap.size w (w1.alloc (.cells #[.int .i64 x, .int .i64 y] 89))) := HB1.out.alloc hb _
    go_wp2
    clear r0 r1
    generalize w1.alloc (.cells #[.int .i64 x, .int .i64 y] 89) = W0 at *
    obtain ⟨r, Hr⟩ : ∃ r, Hid (r = (l.take y).drop x) := ⟨_, hidA rfl⟩
    rw [← Hr.out] at HR1
    have hrl : r.length = y - x := by rw [Hr.out]; simp; omega
    have Hrl := hidA hrl
    have Hget : Hid (∀ k (h : k < r.length), ∃ h2 : x + k < l.length, r[k] = l[x + k]) := fun k h => by
      have e := Hr.out
      subst e
      exact ⟨by omega, by simp⟩
    generalize w1.heap.size = b at *
    have hbb := hb
    clear Hr hrl HB1 hfl
    go_loopw [28] (fun _ W => ∃ (k : Nat), k ≤ r.length ∧ Hid (k ≤ Od.lead Od.bl r) ∧ Hid (sk = false → k = 0) ∧ Hid (Od.Xs b (x + k) y W) ∧ Hid (Below w.heap.size w W)) (fun _ W => y + 1 - cellN b W)
    case atStart => exact ⟨0, Nat.zero_le _, hidA (Nat.zero_le _), hidA (fun _ => rfl), HX, HB2⟩
    case round =>
      obtain ⟨k, hk, HC, HK0, HX, HB⟩ := hrel
      have r0 := HX.out.c0
      have r1 := HX.out.c1
      have fr := HX.out.fr
      have hsz := HX.out.lt
      obtain ⟨p, Hp⟩ : ∃ p, Hid (p = x + k) := ⟨_, hidA rfl⟩
      rw [← Hp.out] at r0
      have hmeas : cellN b wr = p := by unfold cellN; rw [r0]; simp
      cases sk with
      | false =>
        have h3 := HR1.out
        have hk0 := HK0.out rfl
        simp only [Bool.false_eq_true, if_false] at h3
        have H4 := hidA (show R1 = p by have := Hp.out; omega)
        have H5 := HR2
        clear HS HR1 HC HK0 HX Hrl Hget h3 hk0 Hp hmeas HR2
        go_wp2_with (go_quiet (fail))
        go_ret2
        exact ⟨by rw [H4.out, H5.out]; rfl, HB.out.trans ((bl_drew wr _).mono HB.out.size)⟩
      | true =>
        have h3 := HR1.out
        rw [if_pos rfl] at h3
        have H3 := hidA h3
        clear HR1 h3
        by_cases hlt : k < r.length
        · obtain ⟨hxk, hget⟩ := Hget.out k hlt
          obtain ⟨gl, ol, rfl, hgl, hc0⟩ := HS.out (x + k) hxk
          have hc : wr.cell? ⟨gl, ol + p, none⟩ = some (.int .u8 (r[k]'hlt).toNat) := by
            rw [Hp.out, hget]; exact (HB.out.cell (p := ⟨gl, ol + (x + k), none⟩) hgl).trans hc0
          have hpl : p < l.length := by have := Hp.out; omega
          have hpy : (p : Int) < (y : Int) := by have h1 := Hp.out; have h2 := Hrl.out; omega
          have hw1 : IntKind.i64.wrap ((p : Int) + 1) = ((p + 1 : Nat) : Int) := by rw [IntKind.wrap_i64]; omega
          have HX2 := hidA (rBlank (r[k]'hlt) wr)
          have HP1 := hidA (show p + 1 = x + (k + 1) by have := Hp.out; omega)
          cases hd : Od.bl (r[k]'hlt) with
          | true =>
            rw [hd] at HX2
            have HC2 := hidA (Od.lead_yes HC.out hlt hd)
            have HX3 := hidA (HX.out.set (p + 1))
            have HB3 := hidA (HB.out.setCell (p := ⟨b, 0, none⟩) hbb (.int .i64 ((p + 1 : Nat) : Int)))
            have hpy2 : p < y := by omega
            clear HC HK0 HX hc0 hget hd HS Hget Hrl H3 Hp HR2
            generalize r[k]'hlt = u at *
            go_wp2_with (go_at_call 33; with_reducible refine HX2.out.mono ?_; rintro e w2 ⟨rfl, hw1⟩; rw [hw1]; clear hw1 w2)
            refine ⟨⟨k + 1, hlt, HC2, hidA (fun h => by cases h), ?_, HB3⟩, ?_⟩
            · rw [← HP1.out]; exact HX3
            · rw [hmeas, show cellN b (wr.setCell ⟨b, 0, none⟩ (.int .i64 ((p : Int) + 1))) = p + 1 by have h := HX3.out.c0; unfold cellN; rw [show ((p : Int) + 1) = ((p + 1 : Nat) : Int) from rfl, h]; simp]; omega
          | false =>
            rw [hd] at HX2
            have H4 := hidA (show R1 = p by have h1 := H3.out; rw [Od.lead_stop HC.out hlt hd] at h1; have := Hp.out; omega)
            clear HC HK0 HX hc0 hget hd HS Hget Hrl H3 Hp hmeas
            generalize r[k]'hlt = u at *
            go_wp2_with (first | (go_at_call 33; with_reducible refine HX2.out.mono ?_; rintro e w2 ⟨rfl, hw1⟩; rw [hw1]; clear hw1 w2) | (go_quiet (fail)))
            go_ret2
            exact ⟨by rw [H4.out, HR2.out]; rfl, HB.out.trans ((bl_drew wr _).mono HB.out.size)⟩
        · have H4 := hidA (show R1 = p by have h1 := H3.out; rw [Od.lead_end HC.out hlt] at h1; have := Hp.out; omega)
          have hpy : ¬ ((p : Int) < (y : Int)) := by have h1 := Hp.out; have h2 := Hrl.out; omega
          clear HC HK0 HX HS Hget Hrl H3 Hp hmeas
          go_wp2_with (go_quiet (fail))
          go_ret2
          exact ⟨by rw [H4.out, HR2.out]; rfl, HB.out.trans ((bl_drew wr _).mono HB.out.size)⟩
end Go.Proofs.YtdjefinehabifaaDoor
