/- The walk of GlobTurns. Conditions: the rows' cells are as said; lengths that fit; the table of names; a number where a library's variable lies. -/
import Derived.Test.YtncnmeidciailabDoorLt1
import Derived.Test.YtncnmeidciailabDoorLq4
import Derived.Test.YtncnmeidciailabDoorLq5
import Derived.Test.YtncnmeidciailabDoorLc0
namespace Go.Proofs.YtncnmeidciailabDoor
open Go.RowKit
attribute [local go_sem] ext_eq app_eq get_eq
namespace Gl
theorem cc_all (l : List UInt8) : ∃ C D, C = compl l ∧ D = compl C ∧ C.length + D.length = 256 ∧ (∀ x ∈ D, has l x = true) ∧ (∀ x ∈ l, has D x = true) ∧ (∀ i (h : i + 1 < D.length), (D[i]).toNat < (D[i + 1]).toNat) ∧ (∀ i j (hi : i < D.length) (hj : j < D.length), D[i] = D[j] → i = j) := by
  have hp : (compl (compl l)).Pairwise (fun a b => a.toNat < b.toNat) := lst_sorted _ 256 (Nat.le_refl _)
  have hm : ∀ x, has (compl (compl l)) x = has l x := fun x => by rw [compl_compl, has_lst]
  have hl := compl_len l
  obtain ⟨C, hC⟩ : ∃ C, C = compl l := ⟨_, rfl⟩
  rw [← hC] at hp hm hl
  obtain ⟨D, hD⟩ : ∃ D, D = compl C := ⟨_, rfl⟩
  rw [← hD] at hp hm hl
  refine ⟨C, D, hC, hD, hl, fun x hx => ?_, fun x hx => ?_, fun i h => List.pairwise_iff_getElem.1 hp i (i + 1) (by omega) h (by omega), fun i j hi hj h => ?_⟩
  · rw [← hm]; exact decide_eq_true hx
  · rw [hm]; exact decide_eq_true hx
  · have hq := List.pairwise_iff_getElem.1 hp
    rcases Nat.lt_trichotomy i j with h1 | h1 | h1
    · have := hq i j hi hj h1; rw [h] at this; omega
    · exact h1
    · have := hq j i hj hi h1; rw [h] at this; omega
theorem turn_take (D : List UInt8) (k : Nat) (h : k < D.length) : (turn D).take (k + 1) = (turn D).take k ++ [D.getD ((k + 1) % D.length) 0] := by
  have hk : k < (turn D).length := by rw [turn_len]; exact h
  rw [List.take_succ_eq_append_getElem hk]
  have := turn_at D k h
  rw [List.getElem?_eq_getElem hk] at this
  rw [Option.some.inj this]
end Gl
/-- Rows that are read, and all that was there. -/
def KB (w W : World) (rows : List (Option Addr × List UInt8)) : Prop := Below w.heap.size w W ∧ ∀ q ∈ rows, Src W q.1 q.2
theorem KB.at {w W : World} {rows : List (Option Addr × List UInt8)} (h : KB w W rows) (a : Option Addr) (l : List UInt8) (hm : (a, l) ∈ rows) : Src W a l := h.2 (a, l) hm
theorem KB.grow {w W W' : World} {rows : List (Option Addr × List UInt8)} (h : KB w W rows) (b : Below W.heap.size W W') : KB w W' rows := ⟨bl2 h.1 b, fun q hq => (h.2 q hq).grow b (Nat.le_refl _)⟩
theorem KB.add {w W : World} {rows : List (Option Addr × List UInt8)} (h : KB w W rows) {a : Option Addr} {l : List UInt8} (hs : Src W a l) : KB w W ((a, l) :: rows) := ⟨h.1, fun q hq => by
  rcases List.mem_cons.1 hq with rfl | hq
  · exact hs
  · exact h.2 q hq⟩
theorem trans_there (b D : List UInt8) (a a4 a5 : Option Addr) (c c4 c5 : Nat) (hb : b.length ≤ 140737488355328) (hD : D.length ≤ 2 ^ 62) (T : List UInt8) (hT : T = b.map (Gl.tr D (Gl.turn D))) : ∀ W, Src W a b → Src W a4 D → Src W a5 (Gl.turn D) →
    Calls Tryd.prog 10 #[.slice a b.length c, .slice a4 D.length c4, .slice a5 D.length c5] W fun e w' => ∃ a6 c6, e = .returned (.tuple #[.slice a6 b.length c6, .int .i64 0]) ∧ Src w' a6 T ∧ Below W.heap.size W w' := fun W h1 h2 h3 => by
  have h := gTranslate b D (Gl.turn D) a a4 a5 c c4 c5 hb hD (by rw [Gl.turn_len]; exact hD) W h1 h2 h3
  rw [Gl.turn_len] at h
  refine h.mono ?_
  rintro e w' ⟨hB, h | ⟨_, v, rfl, hy⟩⟩
  · exfalso
    refine h.2.1 (List.length_eq_zero_iff.1 ?_)
    rw [← Gl.turn_len, h.1]; rfl
  · rw [← hT] at hy
    obtain ⟨a6, c6, rfl, hs⟩ := hy.src
    refine ⟨a6, c6, ?_, hs, hB⟩
    rw [hT, List.length_map]
theorem trans_back (b D : List UInt8) (a4 a5 : Option Addr) (c4 c5 : Nat) (hb : b.length ≤ 140737488355328) (hD : D.length ≤ 2 ^ 62) (T : List UInt8) (hT : T = b.map (Gl.tr D (Gl.turn D))) (hi : ∀ i j (hi : i < D.length) (hj : j < D.length), D[i] = D[j] → i = j) : ∀ W a6 c6, Src W a6 T → Src W a5 (Gl.turn D) → Src W a4 D →
    Calls Tryd.prog 10 #[.slice a6 b.length c6, .slice a5 D.length c5, .slice a4 D.length c4] W fun e w' => ∃ a7 c7, e = .returned (.tuple #[.slice a7 b.length c7, .int .i64 0]) ∧ Src w' a7 b ∧ Below W.heap.size W w' := fun W a6 c6 h1 h2 h3 => by
  have hl : T.length = b.length := by rw [hT, List.length_map]
  have h := gTranslate T (Gl.turn D) D a6 a5 a4 c6 c5 c4 (by omega) (by rw [Gl.turn_len]; exact hD) hD W h1 h2 h3
  rw [Gl.turn_len, hl] at h
  refine h.mono ?_
  rintro e w' ⟨hB, h | ⟨_, v, rfl, hy⟩⟩
  · exfalso
    refine h.2.1 (List.length_eq_zero_iff.1 ?_)
    rw [Gl.turn_len, h.1]; rfl
  · have e : T.map (Gl.tr (Gl.turn D) D) = b := by
      rw [hT, List.map_map]
      exact (List.map_congr_left (fun x _ => Gl.tr_back hi x)).trans (List.map_id _)
    rw [e] at hy
    obtain ⟨a7, c7, rfl, hs⟩ := hy.src
    exact ⟨a7, c7, rfl, hs, hB⟩
theorem sq_row (b l S : List UInt8) (a a2 : Option Addr) (c c2 : Nat) (hb : b.length ≤ 2 ^ 47) (hl : l.length ≤ 2 ^ 62) (hS : S = Gl.sqR (Gl.has l) none b) : ∀ W, Src W a b → Src W a2 l →
    Calls Tryd.prog 13 #[.slice a b.length c, .slice a2 l.length c2] W fun e w' => ∃ a6 c6, e = .returned (.slice a6 S.length c6) ∧ Src w' a6 S ∧ Below W.heap.size W w' := fun W h1 h2 => by
  refine (gSqueeze b l a a2 c c2 hb hl W h1 h2).mono ?_
  rintro e w' ⟨v, rfl, hy, hB⟩
  rw [← hS] at hy
  obtain ⟨a6, c6, rfl, hs⟩ := hy.src
  exact ⟨a6, c6, rfl, hs, hB⟩
theorem del_row (b l S : List UInt8) (a a2 : Option Addr) (c c2 : Nat) (hb : b.length ≤ 2 ^ 47) (hl : l.length ≤ 2 ^ 62) (hS : S = Gl.del (Gl.has l) b) : ∀ W, Src W a b → Src W a2 l →
    Calls Tryd.prog 14 #[.slice a b.length c, .slice a2 l.length c2] W fun e w' => ∃ a6 c6, e = .returned (.slice a6 S.length c6) ∧ Src w' a6 S ∧ Below W.heap.size W w' := fun W h1 h2 => by
  refine (gDelete b l a a2 c c2 hb hl W h1 h2).mono ?_
  rintro e w' ⟨v, rfl, hy, hB⟩
  rw [← hS] at hy
  obtain ⟨a6, c6, rfl, hs⟩ := hy.src
  exact ⟨a6, c6, rfl, hs, hB⟩
theorem same_row (l : List UInt8) (a a2 : Option Addr) (c c2 : Nat) : ∀ W, Src W a l → Src W a2 l → Calls Tryd.prog 12 #[.slice a l.length c, .slice a2 l.length c2] W fun e w' => e = .returned (.bool true) ∧ w' = W := fun W h1 h2 => by
  have := gSame l l a a2 c c2 W h1 h2
  rwa [show (l == l) = true by simp] at this
set_option maxRecDepth 100000 in
set_option maxHeartbeats 8000000 in
theorem turns_walk (b l : List UInt8) (a a2 : Option Addr) (c c2 : Nat) (hb : b.length ≤ 140737488355328) (hl : l.length ≤ 140737488355328) (w : World) (hS : Src w a b) (hS2 : Src w a2 l) (hc : CN w) (hm : ML w) : Calls Tryd.prog 4 #[.slice a b.length c, .slice a2 l.length c2] w fun e w' => e = .returned (.bool true) ∧ Below w.heap.size w w' := by
  obtain ⟨iB, hiB, hz0, hz1, hz2⟩ := infoB
  have HL := hidA (fun W (b : Below w.heap.size w W) => lives12 W (hc.grow b (Nat.le_refl _)) (hm.grow b (Nat.le_refl _)))
  have HN := hidA (fun e W => gNum e W)
  have HS := hidA hS
  have HS2 := hidA hS2
  obtain ⟨C, D, hC, hD, hcl, hDm, hDl, hDr, hDi⟩ := Gl.cc_all l
  have HC1 := hidA (gComplement l a2 c2 (by omega) w hS2)
  rw [← hC] at HC1
  have HC2 := hidA (fun a c W h => gComplement C a c (by omega) W h)
  rw [← hD] at HC2
  have HDm := hidA hDm
  have HDl := hidA hDl
  have HDr := hidA hDr
  have HDi := hidA hDi
  clear hC hD hDm hDl hDr hDi
  clear hS hS2 hc hm
  go_enter Tryd.func4, Tryd.ntmps4
  go_wp2_with (go_at_call 8; first | (with_reducible refine Calls.mono HC1.out ?_; rintro e w1 ⟨v, rfl, hy, b1⟩; (obtain ⟨a3, c3, hv, hs3⟩ := hy.src); subst hv; (have HSC := hidA hs3); (have B1 := hidA b1); clear hy b1 hs3 HC1) | (with_reducible refine Calls.mono (HC2.out _ _ _ HSC.out) ?_; rintro e w2 ⟨v, rfl, hy, b2⟩; (obtain ⟨a4, c4, hv, hs4⟩ := hy.src); subst hv; (have HSD := hidA hs4); (have B2 := hidA (bl2 B1.out b2)); clear hy b2 hs4 HC2 HSC))
  have hwc : IntKind.i64.wrap ((C.length : Int) + (D.length : Int)) = 256 := by rw [IntKind.wrap_i64]; omega
  have hD256 : D.length ≤ 256 := by omega
  clear hcl B1 w1
  go_loopw [24] (fun s24 W => ∃ (k : Nat), s24 = .int .i64 k ∧ k ≤ D.length ∧ Hid (Below w2.heap.size w2 W)) (fun s24 _ => D.length - (intOf s24).toNat)
  case atStart => exact ⟨0, rfl, Nat.zero_le _, Below.refl _ _⟩
  case round =>
    obtain ⟨k, rfl, hk, HB⟩ := hrel
    by_cases hlt : k < D.length
    · have hw1 : IntKind.i64.wrap ((k : Int) + 1) = ((k + 1 : Nat) : Int) := by rw [IntKind.wrap_i64]; omega
      have HSr := hidA (HSD.out.grow HB.out (Nat.le_refl _))
      obtain ⟨g, o, rfl, hg, hcc⟩ := HSr.out k hlt
      have HHas : Hid (∀ W : World, W.heap = wr.heap → Calls Tryd.prog 9 #[.slice a2 l.length c2, .int .u8 D[k].toNat] W fun e w' => e = .returned (.bool true) ∧ w' = W) := fun W hW => by
        have := gHas l D[k] a2 c2 (by omega) W ((HS2.out.grow (B2.out.trans (HB.out.mono B2.out.size)) (Nat.le_refl _)).heap hW)
        rwa [HDm.out _ (List.getElem_mem hlt)] at this
      by_cases hk0 : k = 0
      · have h0 : decide ((0 : Int) < (k : Int)) = false := decide_eq_false (by omega)
        have h0' : decide (0 < k) = false := decide_eq_false (by omega)
        clear hk0
        generalize D[k] = x at *
        clear HSr HDm HDl HDr HDi HSD HS HS2 HL HN hwc
        go_wp2_with (go_quiet ((go_at_call 9; exact Calls.quiet_of_same (HHas.out _ rfl))))
        exact ⟨⟨k + 1, by first | rfl | go_num, hlt, hidA (HB.out.trans ((bl_drew wr _).mono HB.out.size))⟩, by simp [intOf]; omega⟩
      · have h0 : decide ((0 : Int) < (k : Int)) = true := decide_eq_true (by omega)
        have h0' : decide (0 < k) = true := decide_eq_true (by omega)
        obtain ⟨j, HJ⟩ : ∃ j, Hid (k = j + 1) := ⟨k - 1, by show k = k - 1 + 1; omega⟩
        have hwj : IntKind.i64.wrap ((k : Int) - 1) = (j : Int) := by have := HJ.out; rw [IntKind.wrap_i64]; omega
        have hjl : j < D.length := by have := HJ.out; omega
        obtain ⟨g', o', e', hg', hcj⟩ := HSr.out j hjl
        cases e'
        have hrise : D[j].toNat < D[k].toNat := by
          have hj := HJ.out
          subst hj
          exact HDr.out j hlt
        clear hk0
        generalize D[k] = x at *
        generalize D[j] = y at *
        have h1 : decide ((x.toNat : Int) ≤ (y.toNat : Int)) = false := decide_eq_false (by omega)
        have h1' : decide (x.toNat ≤ y.toNat) = false := decide_eq_false (by omega)
        clear HSr HDm HDl HDr HDi HSD HS HS2 HL HN hwc hg'
        go_wp2_with (go_quiet ((go_at_call 9; exact Calls.quiet_of_same (HHas.out _ rfl))))
        exact ⟨⟨k + 1, by first | rfl | go_num, hlt, hidA (HB.out.trans ((bl_drew wr _).mono HB.out.size))⟩, by simp [intOf]; omega⟩
    · have HSr := hidA (HSD.out.grow HB.out (Nat.le_refl _))
      have HB3 := hidA (B2.out.trans (HB.out.mono B2.out.size))
      have hDk := hlt
      clear HSD HDm HDr B2 HB
      rename World => w3
      go_wp2
      go_loop [53] (fun s53 => ∃ (j : Nat), s53 = .int .i64 j ∧ j ≤ l.length) (fun s53 => l.length - (intOf s53).toNat)
      case atStart => exact ⟨0, rfl, Nat.zero_le _⟩
      case round =>
        obtain ⟨j, rfl, hj⟩ := hrel
        by_cases hlj : j < l.length
        · have hw1 : IntKind.i64.wrap ((j : Int) + 1) = ((j + 1 : Nat) : Int) := by rw [IntKind.wrap_i64]; omega
          obtain ⟨g, o, rfl, hg, hcc⟩ := (HS2.out.grow HB3.out (Nat.le_refl _)) j hlj
          have HHas : Hid (Calls Tryd.prog 9 #[.slice a4 D.length c4, .int .u8 l[j].toNat] w3 fun e w' => e = .returned (.bool true) ∧ w' = w3) := by
            have := gHas D l[j] a4 c4 (by omega) w3 HSr.out
            rwa [HDl.out _ (List.getElem_mem hlj)] at this
          generalize l[j] = x at *
          clear HDl HDi HSr HS HS2 HL HN hwc hlt hDk
          go_wp2_with (go_at_call 9; refine HHas.out.mono ?_; rintro e w4 ⟨rfl, hw'⟩; rw [hw']; clear hw' w4)
          exact ⟨⟨j + 1, by first | rfl | go_num, hlj⟩, by simp [intOf]; omega⟩
        · clear HDl
          go_wp2
          go_loopw [10, 70] (fun v s70 W => ∃ (j : Nat), s70 = .int .i64 j ∧ j ≤ D.length ∧ Hid (By w3.heap.size W v ((Gl.turn D).take j)) ∧ Hid (Below w3.heap.size w3 W)) (fun _ s70 _ => D.length - (intOf s70).toNat)
          case atStart => exact ⟨0, rfl, Nat.zero_le _, By.nil _ _, Below.refl _ _⟩
          case round =>
            obtain ⟨j, rfl, hj, HY, HB⟩ := hrel
            have hsz : w3.heap.size ≤ wr.heap.size := HB.out.size
            by_cases hlj : j < D.length
            · obtain ⟨m, HM⟩ : ∃ m, Hid (m = j + 1) := ⟨_, rfl⟩
              have hw1 : IntKind.i64.wrap ((j : Int) + 1) = (m : Int) := by have := HM.out; rw [IntKind.wrap_i64]; omega
              obtain ⟨r, HR⟩ : ∃ r, Hid (r = m % D.length) := ⟨_, rfl⟩
              have hrl : r < D.length := by have := HR.out; rw [this]; exact Nat.mod_lt _ (by omega)
              have hrem : (m : Int).tmod (D.length : Int) = (r : Int) := by rw [HR.out, Int.tmod_eq_emod_of_nonneg (by omega)]; rfl
              obtain ⟨g, o, rfl, hg, hcc⟩ := (HSr.out.grow HB.out (Nat.le_refl _)) r hrl
              have HE : Hid ((Gl.turn D).take m = (Gl.turn D).take j ++ [D[r]]) := by
                show _ = _
                rw [HM.out, Gl.turn_take D j hlj, ← HM.out, ← HR.out, Gl.getD_at hrl]
              have hll : ((Gl.turn D).take j).length ≤ j := by rw [List.length_take]; omega
              have hm1 : m ≤ D.length := by have := HM.out; omega
              have hm2 : D.length - m < D.length - j := by have := HM.out; omega
              generalize D[r] = x at *
              generalize (Gl.turn D).take j = PK at *
              clear HDi HSr HS HS2 HL HN hwc hlt hDk HR HM
              go_wp2_with (at_builtin; refine wpList_append_own_at _ rfl _ _ 26 rfl w3.heap.size 5 iB (.int .u8 0) 1 1 Tryd.underlying26 hiB hz0 hz1 hz2 rfl (by decide) _ _ _ rfl (HY.out.alloc _) ⟨wr.heap.size, 0, none⟩ 1 1 [.int .u8 x.toNat] rfl rfl (cell_one_new _ _ _) (one_u8 _) (by unfold maxLen; omega) (by omega) (by simp; omega) ?_; intro v2 w5 hown hg2 _ hat; obtain ⟨y2, b2, k2⟩ := HY.out.add (c := x) HB.out hsz _ hown hg2; have Y2 := hidA y2; have B2 := hidA b2; clear hown hg2 hat y2 b2 k2)
              exact ⟨⟨m, by first | rfl | go_num, hm1, hidA (by rw [HE.out]; exact Y2.out), B2⟩, by simp [intOf]; omega⟩
            · obtain rfl : j = D.length := by omega
              have hY := HY.out
              rw [List.take_of_length_le (by rw [Gl.turn_len]; exact Nat.le_refl _)] at hY
              obtain ⟨a5, c5, hv, hs5⟩ := hY.src
              rw [Gl.turn_len] at hv
              subst hv
              rename World => w6
              have K6 : Hid (KB w w6 [(a5, Gl.turn D), (a4, D), (a2, l), (a, b)]) := by
                have hB := HB3.out.trans (HB.out.mono HB3.out.size)
                refine ⟨hB, fun q hq => ?_⟩
                simp only [List.mem_cons, List.not_mem_nil, or_false] at hq
                rcases hq with rfl | rfl | rfl | rfl
                · exact hs5
                · exact HSr.out.grow HB.out (Nat.le_refl _)
                · exact HS2.out.grow hB (Nat.le_refl _)
                · exact HS.out.grow hB (Nat.le_refl _)
              obtain ⟨T, HT⟩ : ∃ T, Hid (T = b.map (Gl.tr D (Gl.turn D)) ∧ T.length = b.length) := ⟨_, rfl, by simp⟩
              have H1 := hidA (trans_there b D a a4 a5 c c4 c5 hb (by omega) T HT.out.1)
              have H2 := hidA (trans_back b D a4 a5 c4 c5 hb (by omega) T HT.out.1 HDi.out)
              obtain ⟨Sq, HSq⟩ : ∃ S, Hid (S = Gl.sqR (Gl.has l) none b ∧ S.length ≤ b.length) := ⟨_, rfl, Gl.sq_len _ _ _⟩
              obtain ⟨X, HX⟩ : ∃ X, Hid (X = Gl.del (Gl.has l) b ∧ X.length ≤ b.length) := ⟨_, rfl, Gl.del_len _ _⟩
              have HQ1 := hidA (sq_row b l Sq a a2 c c2 (by omega) (by omega) HSq.out.1)
              have HQ2 := hidA (sq_row Sq l Sq · a2 · c2 (by have := HSq.out.2; omega) (by omega) (by rw [HSq.out.1, Gl.sq_again]))
              have HX1 := hidA (del_row b l X a a2 c c2 (by omega) (by omega) HX.out.1)
              have HX2 := hidA (del_row X l X · a2 · c2 (by have := HX.out.2; omega) (by omega) (by rw [HX.out.1, Gl.del_again]))
              have HM1 := hidA (fun a7 c7 => same_row b a7 a c7 c)
              have HM2 := hidA (fun a7 c7 a8 c8 => same_row Sq a7 a8 c7 c8)
              have HM3 := hidA (fun a7 c7 a8 c8 => same_row X a7 a8 c7 c8)
              clear HS HS2 HSr HDi HB3 HB hs5 HY hY HT HSq HX hlt hDk hlj
              generalize Gl.turn D = E at *
              go_wp2_with (first
                | (go_at_call 10; first | (with_reducible refine Calls.mono (H2.out _ _ _ (K7.out.at a6 T (by simp)) (K7.out.at a5 E (by simp)) (K7.out.at a4 D (by simp))) ?_; rintro e w8 ⟨a7, c7, rfl, hs7, b7⟩; (have K8 := hidA ((K7.out.grow b7).add hs7)); clear hs7 b7) | (with_reducible refine Calls.mono (H1.out _ (K6.out.at a b (by simp)) (K6.out.at a4 D (by simp)) (K6.out.at a5 E (by simp))) ?_; rintro e w7 ⟨a6, c6, rfl, hs6, b6⟩; (have K7 := hidA ((K6.out.grow b6).add hs6)); clear hs6 b6))
                | (go_at_call 11; refine (HN.out _ _).mono ?_; rintro e w1 ⟨rfl, hw'⟩; rw [hw']; clear hw' w1)
                | (go_at_call 13; first | (with_reducible refine Calls.mono (HQ2.out _ _ _ (K10.out.at a8 Sq (by simp)) (K10.out.at a2 l (by simp))) ?_; rintro e w11 ⟨a10, c10, rfl, hs10, b10⟩; (have K11 := hidA ((K10.out.grow b10).add hs10)); clear hs10 b10) | (with_reducible refine Calls.mono (HQ1.out _ (K8.out.at a b (by simp)) (K8.out.at a2 l (by simp))) ?_; rintro e w9 ⟨a8, c8, rfl, hs8, b8⟩; (have K9 := hidA ((K8.out.grow b8).add hs8)); clear hs8 b8))
                | (go_at_call 14; first | (with_reducible refine Calls.mono (HX2.out _ _ _ (K11.out.at a9 X (by simp)) (K11.out.at a2 l (by simp))) ?_; rintro e w12 ⟨a11, c11, rfl, hs11, b11⟩; (have K12 := hidA ((K11.out.grow b11).add hs11)); clear hs11 b11) | (with_reducible refine Calls.mono (HX1.out _ (K9.out.at a b (by simp)) (K9.out.at a2 l (by simp))) ?_; rintro e w10 ⟨a9, c9, rfl, hs9, b9⟩; (have K10 := hidA ((K9.out.grow b9).add hs9)); clear hs9 b9))
                | (go_at_call 12; first | (with_reducible refine Calls.mono (HM3.out _ _ _ _ _ (K12.out.at a11 X (by simp)) (K12.out.at a9 X (by simp))) ?_; rintro e w1 ⟨rfl, hw'⟩; rw [hw']; clear hw' w1) | (with_reducible refine Calls.mono (HM2.out _ _ _ _ _ (K11.out.at a10 Sq (by simp)) (K11.out.at a8 Sq (by simp))) ?_; rintro e w1 ⟨rfl, hw'⟩; rw [hw']; clear hw' w1) | (with_reducible refine Calls.mono (HM1.out _ _ _ (K8.out.at a7 b (by simp)) (K8.out.at a b (by simp))) ?_; rintro e w1 ⟨rfl, hw'⟩; rw [hw']; clear hw' w1))
                | (go_at_call 6; refine (HL.out _ K12.out.1).mono ?_; rintro e w13 ⟨rfl, b13⟩))
              go_ret
              exact ⟨rfl, bl2 K12.out.1 b13⟩
end Go.Proofs.YtncnmeidciailabDoor
