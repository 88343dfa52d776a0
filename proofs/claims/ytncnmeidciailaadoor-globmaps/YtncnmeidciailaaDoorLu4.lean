/- The walk of GlobMaps. Conditions: the rows' cells are as said; lengths that fit; the table of names; a number where a library's variable lies. -/
import Derived.Test.YtncnmeidciailaaDoorLu1
import Derived.Test.YtncnmeidciailaaDoorLu2
import Derived.Test.YtncnmeidciailaaDoorLu3
import Derived.Test.YtncnmeidciailaaDoorLc0
namespace Go.Proofs.YtncnmeidciailaaDoor
open Go.RowKit
attribute [local go_sem] ext_eq app_eq get_eq
/-- Rows that are read, rows that may be written, and all that was there. -/
structure MB (w2 W : World) (rows : List (Option Addr × List UInt8)) (wrs : List (Option Addr × Nat)) : Prop where
  bel : Below w2.heap.size w2 W
  src : ∀ q ∈ rows, Src W q.1 q.2
  wr : ∀ q ∈ wrs, Wr W w2.heap.size q.1 q.2
section
variable {w2 W W' : World} {rows : List (Option Addr × List UInt8)} {wrs : List (Option Addr × Nat)}
theorem MB.nil (w2 : World) : MB w2 w2 [] [] := ⟨Below.refl _ _, fun q hq => by simp at hq, fun q hq => by simp at hq⟩
theorem MB.at (h : MB w2 W rows wrs) (a : Option Addr) (l : List UInt8) (hm : (a, l) ∈ rows) : Src W a l := h.src (a, l) hm
theorem MB.atW (h : MB w2 W rows wrs) (a : Option Addr) (n : Nat) (hm : (a, n) ∈ wrs) : Wr W w2.heap.size a n := h.wr (a, n) hm
theorem MB.old (h : MB w2 W rows wrs) {a : Option Addr} {l : List UInt8} (hs : Src w2 a l) : Src W a l := hs.grow h.bel (Nat.le_refl _)
theorem MB.grow (h : MB w2 W rows wrs) (b : Below W.heap.size W W') : MB w2 W' rows wrs :=
  ⟨h.bel.trans (b.mono h.bel.size), fun q hq => (h.src q hq).grow b (Nat.le_refl _), fun q hq => (h.wr q hq).grow b (Nat.le_refl _)⟩
theorem MB.add (h : MB w2 W rows wrs) {a : Option Addr} {l : List UInt8} (hs : Src W a l) : MB w2 W ((a, l) :: rows) wrs := ⟨h.bel, fun q hq => by
  rcases List.mem_cons.1 hq with rfl | hq
  · exact hs
  · exact h.src q hq, h.wr⟩
theorem MB.addW (h : MB w2 W rows wrs) {a : Option Addr} {n : Nat} (hs : Wr W w2.heap.size a n) : MB w2 W rows ((a, n) :: wrs) := ⟨h.bel, h.src, fun q hq => by
  rcases List.mem_cons.1 hq with rfl | hq
  · exact hs
  · exact h.wr q hq⟩
theorem MB.spoiled (h : MB w2 W rows wrs) (b : Below w2.heap.size W W') (k : ∀ B a n, Wr W B a n → Wr W' B a n) : MB w2 W' [] wrs :=
  ⟨h.bel.trans b, fun q hq => by simp at hq, fun q hq => k _ _ _ (h.wr q hq)⟩
end
/-- What a call that tells a new row tells. -/
def RowOut (R : List UInt8) (W : World) (e : Ending) (w' : World) : Prop := ∃ a c, e = .returned (.slice a R.length c) ∧ Src w' a R ∧ Wr w' W.heap.size a R.length ∧ Below W.heap.size W w'
theorem row_out {R : List UInt8} {W : World} {e : Ending} {w' : World} (h : ∃ v, e = .returned v ∧ By W.heap.size w' v R ∧ Below W.heap.size W w') : RowOut R W e w' := by
  obtain ⟨v, rfl, hy, hB⟩ := h
  obtain ⟨a, c, rfl, hs⟩ := hy.src
  exact ⟨a, c, rfl, hs, hy.wr, hB⟩
def TrRow (T : List UInt8) (cd : Int) (W : World) (e : Ending) (w' : World) : Prop := ∃ a c, e = .returned (.tuple #[.slice a T.length c, .int .i64 cd]) ∧ Src w' a T ∧ Wr w' W.heap.size a T.length ∧ Below W.heap.size W w'
theorem tr_row (b fr to : List UInt8) : ∃ (T : List UInt8) (cd : Int), T.length ≤ b.length ∧ ∀ W e w', TrOut b fr to W e w' → TrRow T cd W e w' := by
  by_cases h : to = [] ∧ fr ≠ []
  · refine ⟨[], 22, Nat.zero_le _, fun W e w' hT => ?_⟩
    obtain ⟨hB, h1 | ⟨h1, _⟩⟩ := hT
    · exact ⟨none, 0, h1.2.2, Src.nil _ _, fun j hj => by simp at hj, hB⟩
    · exact absurd h h1
  · refine ⟨b.map (Gl.tr fr to), 0, by simp, fun W e w' hT => ?_⟩
    obtain ⟨hB, h1 | ⟨_, v, rfl, hy⟩⟩ := hT
    · exact absurd ⟨h1.1, h1.2.1⟩ h
    · obtain ⟨a, c, rfl, hs⟩ := hy.src
      exact ⟨a, c, rfl, hs, hy.wr, hB⟩
theorem sameR (l : List UInt8) : ∀ (a a2 : Option Addr) (c c2 : Nat) W, Src W a l → Src W a2 l → Calls Tryd.prog 22 #[.slice a l.length c, .slice a2 l.length c2] W fun e w' => e = .returned (.bool true) ∧ w' = W := fun a a2 c c2 W h1 h2 => by
  have := gSame l l a a2 c c2 W h1 h2
  rwa [show (l == l) = true by simp] at this
set_option maxRecDepth 100000 in
set_option maxHeartbeats 4000000 in
theorem maps_walk (b fr to : List UInt8) (a a1 a2 : Option Addr) (c c1 c2 : Nat) (hb : b.length + 2 ≤ 140737488355328) (hf : fr.length + 2 ≤ 140737488355328) (ht : to.length ≤ 2 ^ 62) (w : World) (hS : Src w a b) (hS1 : Src w a1 fr) (hS2 : Src w a2 to) (hc : CN w) (hm : ML w) : Calls Tryd.prog 7 #[.slice a b.length c, .slice a1 fr.length c1, .slice a2 to.length c2] w fun e w' => e = .returned (.bool true) ∧ Below w.heap.size w w' := by
  have HL := hidA (fun W (b : Below w.heap.size w W) => lives12 W (hc.grow b (Nat.le_refl _)) (hm.grow b (Nat.le_refl _)))
  have HN := hidA (fun e W => gNum e W)
  have HL1 := hidA (gLend b a c hb w hS)
  have HL2 := hidA (fun W (h : Below w.heap.size w W) => gLend fr a1 c1 hf W (hS1.grow h (Nat.le_refl _)))
  obtain ⟨T, cd, hTl, hT⟩ := tr_row b fr to
  have HT1 := hidA (fun a a1 c c1 W h1 h2 h3 => (gTranslate b fr to a a1 a2 c c1 c2 (by omega) (by omega) ht W h1 h2 h3).mono (fun e w' h => hT W e w' h))
  have HT2 := hidA (fun W h1 h2 h3 => (rTranslate b fr to a a1 a2 c c1 c2 (by omega) (by omega) ht W h1 h2 h3).mono (fun e w' h => hT W e w' h))
  have HD1 := hidA (fun a a1 c c1 W h1 h2 => (gDelete b fr a a1 c c1 (by omega) (by omega) W h1 h2).mono (fun e w' h => row_out h))
  have HD2 := hidA (fun W h1 h2 => (rDelete b fr a a1 c c1 (by omega) (by omega) W h1 h2).mono (fun e w' h => row_out h))
  have HQ1 := hidA (fun a a1 c c1 W h1 h2 => (gSqueeze b fr a a1 c c1 (by omega) (by omega) W h1 h2).mono (fun e w' h => row_out h))
  have HQ2 := hidA (fun W h1 h2 => (rSqueeze b fr a a1 c c1 (by omega) (by omega) W h1 h2).mono (fun e w' h => row_out h))
  have HC1 := hidA (fun a1 c1 W h1 => (gComplement fr a1 c1 (by omega) W h1).mono (fun e w' h => row_out h))
  have HC2 := hidA (fun W h1 => (rComplement fr a1 c1 (by omega) W h1).mono (fun e w' h => row_out h))
  have hdl := Gl.del_len (Gl.has fr) b
  have hql := Gl.sq_len (Gl.has fr) b none
  generalize Gl.del (Gl.has fr) b = D at *
  generalize Gl.sqR (Gl.has fr) none b = Sq at *
  generalize Gl.compl fr = C at *
  have HM1 := hidA (sameR T)
  have HM2 := hidA (sameR D)
  have HM3 := hidA (sameR Sq)
  have HM4 := hidA (sameR C)
  have HP := hidA (fun a n c B (h : n ≤ b.length) W hW => gSpoil a n c B (by omega) W hW)
  have HK1 := hidA (fun W h1 h2 => gKept b a c w.heap.size hb W h1 h2)
  have HK2 := hidA (fun wb W h1 h2 => gKept fr a1 c1 wb hf W h1 h2)
  have hcc : (cd != cd) = false := by simp
  have HS := hidA (And.intro hS (And.intro hS1 hS2))
  clear hS hS1 hS2 hc hm hT
  unfold TrRow at HT1 HT2
  unfold RowOut at HD1 HD2 HQ1 HQ2 HC1 HC2
  go_enter Tryd.func7, Tryd.ntmps7
  go_wp2_with (first
    | (go_at_call 26; first
      | (with_reducible refine Calls.mono (HL2.out _ B1.out) ?_; rintro e w2 ⟨rfl, hl2, b2⟩; (have B2 := hidA (bl2 B1.out b2)); (have R2 := hidA (R1.out.grow b2 R1.out.lt)); (have R3 := hidA hl2); (have M2 := hidA ((((((MB.nil w2).add (HS.out.1.grow B2.out (Nat.le_refl _))).add (HS.out.2.1.grow B2.out (Nat.le_refl _))).add (HS.out.2.2.grow B2.out (Nat.le_refl _))).add R2.out.src).add R3.out.src)); clear hl2 b2)
      | (with_reducible refine Calls.mono HL1.out ?_; rintro e w1 ⟨rfl, hl1, b1⟩; (have B1 := hidA b1); (have R1 := hidA hl1); clear hl1 b1))
    | (go_at_call 27; with_reducible refine Calls.mono (HT1.out _ _ _ _ _ (M2.out.at (some ⟨w.heap.size, 1, none⟩) b (by simp)) (M2.out.at (some ⟨w1.heap.size, 1, none⟩) fr (by simp)) (M2.out.at a2 to (by simp))) ?_; rintro e w3 ⟨a3, c3, rfl, hs3, hw3, b3⟩; (have M3 := hidA (((M2.out.grow b3).add hs3).addW hw3)); clear hs3 hw3 b3)
    | (go_at_call 28; with_reducible refine Calls.mono (HT2.out _ (M3.out.at a b (by simp)) (M3.out.at a1 fr (by simp)) (M3.out.at a2 to (by simp))) ?_; rintro e w4 ⟨a4, c4, rfl, hs4, hw4, b4⟩; (have M4 := hidA ((M3.out.grow b4).add hs4)); clear hs4 hw4 b4)
    | (go_at_call 29; with_reducible refine Calls.mono (HD1.out _ _ _ _ _ (M4.out.at (some ⟨w.heap.size, 1, none⟩) b (by simp)) (M4.out.at (some ⟨w1.heap.size, 1, none⟩) fr (by simp))) ?_; rintro e w5 ⟨a5, c5, rfl, hs5, hw5, b5⟩; (have M5 := hidA (((M4.out.grow b5).add hs5).addW (hw5.grow (Below.refl _ _) M4.out.bel.size))); clear hs5 hw5 b5)
    | (go_at_call 30; with_reducible refine Calls.mono (HQ1.out _ _ _ _ _ (M5.out.at (some ⟨w.heap.size, 1, none⟩) b (by simp)) (M5.out.at (some ⟨w1.heap.size, 1, none⟩) fr (by simp))) ?_; rintro e w6 ⟨a6, c6, rfl, hs6, hw6, b6⟩; (have M6 := hidA (((M5.out.grow b6).add hs6).addW (hw6.grow (Below.refl _ _) M5.out.bel.size))); clear hs6 hw6 b6)
    | (go_at_call 9; refine (HN.out _ _).mono ?_; rintro e w0 ⟨rfl, hw'⟩; rw [hw']; clear hw' w0)
    | (go_at_call 31; with_reducible refine Calls.mono (HD2.out _ (M6.out.at a b (by simp)) (M6.out.at a1 fr (by simp))) ?_; rintro e w7 ⟨a7, c7, rfl, hs7, hw7, b7⟩; (have M7 := hidA ((M6.out.grow b7).add hs7)); clear hs7 hw7 b7)
    | (go_at_call 32; with_reducible refine Calls.mono (HQ2.out _ (M7.out.at a b (by simp)) (M7.out.at a1 fr (by simp))) ?_; rintro e w8 ⟨a8, c8, rfl, hs8, hw8, b8⟩; (have M8 := hidA ((M7.out.grow b8).add hs8)); clear hs8 hw8 b8)
    | (go_at_call 33; with_reducible refine Calls.mono (HC1.out _ _ _ (M8.out.at (some ⟨w1.heap.size, 1, none⟩) fr (by simp))) ?_; rintro e w9 ⟨a9, c9, rfl, hs9, hw9, b9⟩; (have M9 := hidA ((M8.out.grow b9).add hs9)); clear hs9 hw9 b9)
    | (go_at_call 34; with_reducible refine Calls.mono (HC2.out _ (M9.out.at a1 fr (by simp))) ?_; rintro e w10 ⟨a10, c10, rfl, hs10, hw10, b10⟩; (have M10 := hidA ((M9.out.grow b10).add hs10)); clear hs10 hw10 b10)
    | (go_at_call 22; first
      | (with_reducible refine Calls.mono (HM4.out _ _ _ _ _ (M10.out.at a9 C (by simp)) (M10.out.at a10 C (by simp))) ?_; rintro e w0 ⟨rfl, hw'⟩; rw [hw']; clear hw' w0)
      | (with_reducible refine Calls.mono (HM3.out _ _ _ _ _ (M8.out.at a6 Sq (by simp)) (M8.out.at a8 Sq (by simp))) ?_; rintro e w0 ⟨rfl, hw'⟩; rw [hw']; clear hw' w0)
      | (with_reducible refine Calls.mono (HM2.out _ _ _ _ _ (M7.out.at a5 D (by simp)) (M7.out.at a7 D (by simp))) ?_; rintro e w0 ⟨rfl, hw'⟩; rw [hw']; clear hw' w0)
      | (with_reducible refine Calls.mono (HM1.out _ _ _ _ _ (M6.out.at a3 T (by simp)) (M6.out.at a4 T (by simp))) ?_; rintro e w0 ⟨rfl, hw'⟩; rw [hw']; clear hw' w0))
    | (go_at_call 23; first
      | (with_reducible refine Calls.mono (HP.out _ _ _ w2.heap.size hql _ (M12.out.atW a6 Sq.length (by simp))) ?_; rintro e w13 ⟨rfl, b13, k13⟩; (have M13 := hidA (M12.out.spoiled b13 k13)); clear b13 k13)
      | (with_reducible refine Calls.mono (HP.out _ _ _ w2.heap.size hdl _ (M11.out.atW a5 D.length (by simp))) ?_; rintro e w12 ⟨rfl, b12, k12⟩; (have M12 := hidA (M11.out.spoiled b12 k12)); clear b12 k12)
      | (with_reducible refine Calls.mono (HP.out _ _ _ w2.heap.size hTl _ (M10.out.atW a3 T.length (by simp))) ?_; rintro e w11 ⟨rfl, b11, k11⟩; (have M11 := hidA (M10.out.spoiled b11 k11)); clear b11 k11))
    | (go_at_call 35; first
      | (with_reducible refine Calls.mono (HK2.out _ _ (R3.out.grow (M13.out.bel.trans (B14.out.mono M13.out.bel.size)) R3.out.lt) ((M2.out.at a1 fr (by simp)).grow (M13.out.bel.trans (B14.out.mono M13.out.bel.size)) (Nat.le_refl _))) ?_; rintro e w15 ⟨rfl, b15⟩; (have B15 := hidA (B2.out.trans ((M13.out.bel.trans ((bl2 B14.out b15).mono M13.out.bel.size)).mono B2.out.size))); clear b15)
      | (with_reducible refine Calls.mono (HK1.out _ (R2.out.grow M13.out.bel R2.out.lt) ((M2.out.at a b (by simp)).grow M13.out.bel (Nat.le_refl _))) ?_; rintro e w14 ⟨rfl, b14⟩; (have B14 := hidA b14); clear b14))
    | (go_at_call 10; refine (HL.out _ B15.out).mono ?_; rintro e w16 ⟨rfl, b16⟩))
  go_ret
  exact ⟨rfl, bl2 B15.out b16⟩
end Go.Proofs.YtncnmeidciailaaDoor
