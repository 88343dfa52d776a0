/- Several texts of this claim, one behind the other, in their order. -/
import Derived.Test.YtpcbpikhiooafaaGreatDoorCut
import Derived.Deep.RegionWith
import Derived.Test.YtpcbpikhiooafaaGreatDoorM6
/- The walk of gather: an inode's blocks, each ahead of those that it leads to. Conditions: the store lies in memory as 'St' says, the table's first cell leads to it, the list is new memory. -/
namespace Go.Proofs.YtpcbpikhiooafaaGreatDoor
open Go.RowKit
/-- The blocks below ref r, l levels down. -/
def gth : Nat → (Nat → Bool) → (Nat → Nat) → Nat → List Nat
  | 0, _, _, r => if r = 0 then [] else [r - 1]
  | l + 1, u, D, r => if r = 0 then [] else (r - 1) :: (List.range 16).flatMap fun j => gth l u D (ptr u D r j)
/-- The first i of them. -/
def gthTo (l : Nat) (u : Nat → Bool) (D : Nat → Nat) (r i : Nat) : List Nat := (r - 1) :: (List.range i).flatMap fun j => gth l u D (ptr u D r j)
theorem gthTo_next (l : Nat) (u : Nat → Bool) (D : Nat → Nat) (r i : Nat) : gthTo l u D r (i + 1) = gthTo l u D r i ++ gth l u D (ptr u D r i) := by
  simp [gthTo, List.range_succ]
theorem gth_len : ∀ (l : Nat) (u : Nat → Bool) (D : Nat → Nat) (r : Nat), (gth l u D r).length ≤ 17 ^ l
  | 0, u, D, r => by rw [gth]; split <;> simp
  | l + 1, u, D, r => by
    rw [gth]; split
    · simp
    · have h : ∀ i, ((List.range i).flatMap fun j => gth l u D (ptr u D r j)).length ≤ i * 17 ^ l := by
        intro i
        induction i with
        | zero => simp
        | succ i ih =>
          rw [List.range_succ, List.flatMap_append, List.length_append, Nat.succ_mul]
          have := gth_len l u D (ptr u D r i)
          simp only [List.flatMap_cons, List.flatMap_nil, List.append_nil]
          omega
      have h1 := h 16
      have h2 : 0 < 17 ^ l := Nat.pos_of_ne_zero (by simp)
      rw [List.length_cons, Nat.pow_succ]
      omega
theorem gthTo_len (l : Nat) (u : Nat → Bool) (D : Nat → Nat) (r i : Nat) : (gthTo l u D r i).length ≤ 1 + i * 17 ^ l := by
  induction i with
  | zero => simp [gthTo]
  | succ i ih =>
    rw [gthTo_next, List.length_append, Nat.succ_mul]
    have := gth_len l u D (ptr u D r i)
    omega
theorem St.below {w w' : World} {b c n B : Nat} {u : Nat → Bool} {D : Nat → Nat} (S : St w b c n u D) (h : Below B w w') (hb : b < B) (hc : c < B) : St w' b c n u D :=
  S.keep (h.block 1 (by have := S.bc; have := S.b0; have := S.c0; omega)) (h.block b hb) (h.block c hc)
theorem Mod.belowB {w w' : World} (h : Mod (fun _ => False) w w') {B : Nat} (hB : B ≤ w.heap.size) : Below B w w' := h.below hB (fun _ _ h => h)
theorem Below.grownB {B : Nat} {a w w' : World} {row : Option Nat} (h : Below B a w) (hB : B ≤ w.heap.size) (hg : w.grownBy w' row) (hr : ∀ k, row = some k → B ≤ k) : Below B a w' :=
  ⟨hg.os.trans h.os, hg.tape.trans h.tape, hg.output.trans h.output, Nat.le_trans h.size hg.size, fun k hk => (hg.block k (by omega) (fun e => by have := hr k e.symm; omega)).trans (h.block k hk)⟩
theorem Hid.intrG {p : Prop} (h : p) : Hid p := h
/-- What gather makes of the list v. -/
def GPost (B : Nat) (w : World) (xs : List Nat) (e : Ending) (w' : World) : Prop := ∃ v', e = .returned v' ∧ w'.ownsRow B 3 1 v' xs.length (xs.map intV) ∧ Below B w w'
section
variable {w : World} {b c n : Nat} {u : Nat → Bool} {D : Nat → Nat}
theorem gather_hole (t B p : Nat) (v : Value) (xs : List Nat) (hO : w.ownsRow B 3 1 v xs.length (xs.map intV)) :
    Calls Tryz.prog 89 #[.pointer (some ⟨t, 0, none⟩), v, .int .i64 0, .int .i64 p] w (GPost B w xs) := by
  have HO : Hid (w.ownsRow B 3 1 v xs.length (xs.map intV)) := hO
  clear hO
  go_enter Tryz.func89, Tryz.ntmps89
  go_wp2
  go_ret
  exact ⟨_, by simp, HO.out, Below.refl _ _⟩
set_option maxHeartbeats 1000000 in
theorem gather0 (t B r : Nat) (v : Value) (xs : List Nat) (hr : r < 4294967296) (hB : B ≤ w.heap.size) (hO : w.ownsRow B 3 1 v xs.length (xs.map intV)) (hl : xs.length ≤ 1000000) (u : Nat → Bool) (D : Nat → Nat) :
    Calls Tryz.prog 89 #[.pointer (some ⟨t, 0, none⟩), v, .int .i64 r, .int .i64 1] w (GPost B w (xs ++ gth 0 u D r)) := by
  rw [gth]
  by_cases hr0 : r = 0
  · subst hr0
    rw [if_pos rfl, List.append_nil]; exact gather_hole t B 1 v xs hO
  rw [if_neg hr0]
  obtain ⟨i3, hi, hz0, hz1, hz2⟩ := info3
  have HI : Hid (Tryz.prog.info? 3 = some i3 ∧ i3.zero = some (.int .i64 0) ∧ i3.size = 1 ∧ i3.bytes = 8) := ⟨hi, hz0, hz1, hz2⟩
  have hrb : ((r : Int) == 0) = false := by simpa using hr0
  have HO1 : Hid ((w.alloc (.cells #[.int .i64 ((r : Int) - 1)] 3)).ownsRow B 3 1 v xs.length (xs.map intV)) := hO.alloc _
  have HOr : Hid (w.ownsRow B 3 1 v xs.length (xs.map intV)) := hO
  have hlen : xs.length ≤ 1000000 := hl
  have HB : Hid (B ≤ w.heap.size) := hB
  have HR0 : Hid (r ≠ 0) := hr0
  clear hi hz0 hz1 hz2 hO hr0 hB hl
  go_enter Tryz.func89, Tryz.ntmps89
  go_wp2_with (first | (go_at_call 103; refine (block_any r _ (by omega)).mono ?_; rintro e w' ⟨rfl, hw'⟩; rw [hw']; clear hw' w') | (at_builtin; refine wpList_append_own _ rfl _ _ 31 rfl B 3 i3 (.int .i64 0) 1 8 und43 HI.out.1 HI.out.2.1 HI.out.2.2.1 HI.out.2.2.2 rfl (by decide) _ _ _ rfl HO1.out ⟨w.heap.size, 0, none⟩ 1 1 [.int .i64 ((r : Int) - 1)] rfl rfl ?c1 ?c2 ?c3 ?c4 ?c5 ?_))
  case c1 =>
    intro j x hj
    match j, hj with
    | 0, hj =>
      simp at hj; subst hj
      rw [Addr.add_mid, World.cell?_alloc_at _ _ _ _ rfl]; rfl
  case c2 => intro x hx; simp at hx; subst hx; rfl
  case c3 => unfold maxLen; omega
  case c4 => omega
  case c5 => have := HB.out; simp; omega
  intro v' w2 hown' hgrow _
  have HO2 : Hid (w2.ownsRow B 3 1 v' (xs ++ [r - 1]).length ((xs ++ [r - 1]).map intV)) := by
    show World.ownsRow _ _ _ _ _ _ _
    rw [List.length_append, List.map_append, show [r - 1].map intV = [.int .i64 ((r : Int) - 1)] by simp [intV]; have := HR0.out; omega]
    exact hown'
  have HB2 : Hid (Below B w w2) := Below.grownB ((Below.refl B w).alloc HB.out _) (by have := HB.out; simp; omega) hgrow (fun k hk => (HOr.out.lt k hk).1)
  clear hown' hgrow
  go_wp2
  go_ret
  exact ⟨_, by simp, HO2.out, HB2.out⟩
set_option maxRecDepth 8000 in
set_option maxHeartbeats 4000000 in
theorem gather1 (S : St w b c n u D) (t B r : Nat) (v : Value) (xs : List Nat) (hr : r < 4294967296) (hB : B ≤ w.heap.size) (hO : w.ownsRow B 3 1 v xs.length (xs.map intV)) (hl : xs.length ≤ 1000000 - 500) (ht : w.cell? ⟨t, 0, none⟩ = some (.pointer (some ⟨b, 0, none⟩))) (hbB : b < B) (hcB : c < B) (htB : t < B) :
    Calls Tryz.prog 89 #[.pointer (some ⟨t, 0, none⟩), v, .int .i64 r, .int .i64 16] w (GPost B w (xs ++ gth 1 u D r)) := by
  rw [gth]
  by_cases hr0 : r = 0
  · subst hr0
    rw [if_pos rfl, List.append_nil]; exact gather_hole t B 16 v xs hO
  rw [if_neg hr0]
  have HS : Hid (St w b c n u D) := S
  have HD : Hid (∀ j, D j < 256) := S.dl
  have HT : Hid (w.cell? ⟨t, 0, none⟩ = some (.pointer (some ⟨b, 0, none⟩))) := ht
  clear S ht
  obtain ⟨i3, hi, hz0, hz1, hz2⟩ := info3
  have HI : Hid (Tryz.prog.info? 3 = some i3 ∧ i3.zero = some (.int .i64 0) ∧ i3.size = 1 ∧ i3.bytes = 8) := ⟨hi, hz0, hz1, hz2⟩
  have hrb : ((r : Int) == 0) = false := by simpa using hr0
  have HO1 : Hid ((w.alloc (.cells #[.int .i64 ((r : Int) - 1)] 3)).ownsRow B 3 1 v xs.length (xs.map intV)) := hO.alloc _
  have HOr : Hid (w.ownsRow B 3 1 v xs.length (xs.map intV)) := hO
  have hlen : xs.length ≤ 1000000 - 500 := hl
  have HB : Hid (B ≤ w.heap.size) := hB
  have HR0 : Hid (r ≠ 0) := hr0
  clear hi hz0 hz1 hz2 hO hr0 hB hl
  go_enter Tryz.func89, Tryz.ntmps89
  go_wp2_with (first | (go_at_call 103; refine (block_any r _ (by omega)).mono ?_; rintro e w' ⟨rfl, hw'⟩; rw [hw']; clear hw' w') | (at_builtin; refine wpList_append_own _ rfl _ _ 31 rfl B 3 i3 (.int .i64 0) 1 8 und43 HI.out.1 HI.out.2.1 HI.out.2.2.1 HI.out.2.2.2 rfl (by decide) _ _ _ rfl HO1.out ⟨w.heap.size, 0, none⟩ 1 1 [.int .i64 ((r : Int) - 1)] rfl rfl ?c1 ?c2 ?c3 ?c4 ?c5 ?_))
  case c1 =>
    intro j x hj
    match j, hj with
    | 0, hj =>
      simp at hj; subst hj
      rw [Addr.add_mid, World.cell?_alloc_at _ _ _ _ rfl]; rfl
  case c2 => intro x hx; simp at hx; subst hx; rfl
  case c3 => unfold maxLen; omega
  case c4 => omega
  case c5 => have := HB.out; simp; omega
  intro v' w2 hown' hgrow _
  have HO2 : Hid (w2.ownsRow B 3 1 v' (xs ++ [r - 1]).length ((xs ++ [r - 1]).map intV)) := by
    show World.ownsRow _ _ _ _ _ _ _
    rw [List.length_append, List.map_append, show [r - 1].map intV = [.int .i64 ((r : Int) - 1)] by simp [intV]; have := HR0.out; omega]
    exact hown'
  have HB2 : Hid (Below B w w2) := Below.grownB ((Below.refl B w).alloc HB.out _) (by have := HB.out; simp; omega) hgrow (fun k hk => (HOr.out.lt k hk).1)
  clear hown' hgrow
  go_wp2_with (go_at_call 106; refine (load_row (HS.out.below HB2.out hbB hcB) t r ((HB2.out.cell (p := ⟨t, 0, none⟩) htB).trans HT.out) hr).mono ?_; rintro e w3 ⟨A, rfl, hsz, -, -, HJ, HM3⟩; have HB3 : Hid (Below B w w3) := HB2.out.trans (HM3.out.belowB (Nat.le_trans HB.out HB2.out.size)); have HO3 : Hid (w3.ownsRow B 3 1 v' (xs ++ [r - 1]).length ((xs ++ [r - 1]).map intV)) := owns_mod HO2.out HM3.out)
  go_loopw [1, 24] (fun vv x wx => ∃ i : Nat, i ≤ 16 ∧ x = .int .i64 i ∧ Hid (wx.ownsRow B 3 1 vv (xs ++ gthTo 0 u D r i).length ((xs ++ gthTo 0 u D r i).map intV)) ∧ Hid (Below B w wx)) (fun _ x _ => 16 - (intOf x).toNat)
  case atStart => exact ⟨0, by omega, rfl, HO3, HB3⟩
  case round =>
    obtain ⟨i, hi, rfl, HOi', HBw⟩ := hrel
    by_cases hlt : i < 16
    · have hix := run_indexP A (i : Int) i (ptr u D r i) rfl hlt (HJ.out i hlt)
      have hgl := gthTo_len 0 u D r i
      obtain ⟨ys, hys⟩ : ∃ ys, ys = xs ++ gthTo 0 u D r i := ⟨_, rfl⟩
      have hyl : ys.length ≤ 1000000 - 0 := by rw [hys, List.length_append]; simp at hgl; omega
      have HOi : Hid (wr.ownsRow B 3 1 u1 ys.length (ys.map intV)) := by rw [hys]; exact HOi'
      have HBi : Hid (B ≤ wr.heap.size) := Nat.le_trans HB.out HBw.out.size
      have HYs : Hid (ys ++ gth 0 u D (ptr u D r i) = xs ++ gthTo 0 u D r (i + 1)) := by show _ = _; rw [hys, gthTo_next, List.append_assoc]
      clear hys hgl HOi'
      go_wp2_with (go_at_call 89; refine (gather0 t B (ptr u D r i) u1 ys (ptr_lt _ _ HD.out _ _) HBi.out HOi.out (by omega) u D).mono ?_; rintro e w4 ⟨v4, rfl, O4, B4⟩; rw [HYs.out] at O4; have HO4 := Hid.intrG O4; have HB4 : Hid (Below B w w4) := HBw.out.trans B4; clear O4 B4)
      exact ⟨⟨i + 1, by omega, by go_num, HO4, HB4⟩, by simp [intOf]; omega⟩
    · have HE : Hid (gthTo 0 u D r i = (r - 1) :: (List.range 16).flatMap fun j => gth 0 u D (ptr u D r j)) := by show _ = _; rw [show i = 16 by omega]; rfl
      go_wp2
      go_ret
      refine ⟨_, rfl, ?_, HBw.out⟩
      rw [← HE.out]; exact HOi'.out
set_option maxRecDepth 8000 in
set_option maxHeartbeats 4000000 in
theorem gather2 (S : St w b c n u D) (t B r : Nat) (v : Value) (xs : List Nat) (hr : r < 4294967296) (hB : B ≤ w.heap.size) (hO : w.ownsRow B 3 1 v xs.length (xs.map intV)) (hl : xs.length ≤ 1000000 - 1000) (ht : w.cell? ⟨t, 0, none⟩ = some (.pointer (some ⟨b, 0, none⟩))) (hbB : b < B) (hcB : c < B) (htB : t < B) :
    Calls Tryz.prog 89 #[.pointer (some ⟨t, 0, none⟩), v, .int .i64 r, .int .i64 256] w (GPost B w (xs ++ gth 2 u D r)) := by
  rw [gth]
  by_cases hr0 : r = 0
  · subst hr0
    rw [if_pos rfl, List.append_nil]; exact gather_hole t B 256 v xs hO
  rw [if_neg hr0]
  have HS : Hid (St w b c n u D) := S
  have HD : Hid (∀ j, D j < 256) := S.dl
  have HT : Hid (w.cell? ⟨t, 0, none⟩ = some (.pointer (some ⟨b, 0, none⟩))) := ht
  clear S ht
  obtain ⟨i3, hi, hz0, hz1, hz2⟩ := info3
  have HI : Hid (Tryz.prog.info? 3 = some i3 ∧ i3.zero = some (.int .i64 0) ∧ i3.size = 1 ∧ i3.bytes = 8) := ⟨hi, hz0, hz1, hz2⟩
  have hrb : ((r : Int) == 0) = false := by simpa using hr0
  have HO1 : Hid ((w.alloc (.cells #[.int .i64 ((r : Int) - 1)] 3)).ownsRow B 3 1 v xs.length (xs.map intV)) := hO.alloc _
  have HOr : Hid (w.ownsRow B 3 1 v xs.length (xs.map intV)) := hO
  have hlen : xs.length ≤ 1000000 - 1000 := hl
  have HB : Hid (B ≤ w.heap.size) := hB
  have HR0 : Hid (r ≠ 0) := hr0
  clear hi hz0 hz1 hz2 hO hr0 hB hl
  go_enter Tryz.func89, Tryz.ntmps89
  go_wp2_with (first | (go_at_call 103; refine (block_any r _ (by omega)).mono ?_; rintro e w' ⟨rfl, hw'⟩; rw [hw']; clear hw' w') | (at_builtin; refine wpList_append_own _ rfl _ _ 31 rfl B 3 i3 (.int .i64 0) 1 8 und43 HI.out.1 HI.out.2.1 HI.out.2.2.1 HI.out.2.2.2 rfl (by decide) _ _ _ rfl HO1.out ⟨w.heap.size, 0, none⟩ 1 1 [.int .i64 ((r : Int) - 1)] rfl rfl ?c1 ?c2 ?c3 ?c4 ?c5 ?_))
  case c1 =>
    intro j x hj
    match j, hj with
    | 0, hj =>
      simp at hj; subst hj
      rw [Addr.add_mid, World.cell?_alloc_at _ _ _ _ rfl]; rfl
  case c2 => intro x hx; simp at hx; subst hx; rfl
  case c3 => unfold maxLen; omega
  case c4 => omega
  case c5 => have := HB.out; simp; omega
  intro v' w2 hown' hgrow _
  have HO2 : Hid (w2.ownsRow B 3 1 v' (xs ++ [r - 1]).length ((xs ++ [r - 1]).map intV)) := by
    show World.ownsRow _ _ _ _ _ _ _
    rw [List.length_append, List.map_append, show [r - 1].map intV = [.int .i64 ((r : Int) - 1)] by simp [intV]; have := HR0.out; omega]
    exact hown'
  have HB2 : Hid (Below B w w2) := Below.grownB ((Below.refl B w).alloc HB.out _) (by have := HB.out; simp; omega) hgrow (fun k hk => (HOr.out.lt k hk).1)
  clear hown' hgrow
  go_wp2_with (go_at_call 106; refine (load_row (HS.out.below HB2.out hbB hcB) t r ((HB2.out.cell (p := ⟨t, 0, none⟩) htB).trans HT.out) hr).mono ?_; rintro e w3 ⟨A, rfl, hsz, -, -, HJ, HM3⟩; have HB3 : Hid (Below B w w3) := HB2.out.trans (HM3.out.belowB (Nat.le_trans HB.out HB2.out.size)); have HO3 : Hid (w3.ownsRow B 3 1 v' (xs ++ [r - 1]).length ((xs ++ [r - 1]).map intV)) := owns_mod HO2.out HM3.out)
  go_loopw [1, 24] (fun vv x wx => ∃ i : Nat, i ≤ 16 ∧ x = .int .i64 i ∧ Hid (wx.ownsRow B 3 1 vv (xs ++ gthTo 1 u D r i).length ((xs ++ gthTo 1 u D r i).map intV)) ∧ Hid (Below B w wx)) (fun _ x _ => 16 - (intOf x).toNat)
  case atStart => exact ⟨0, by omega, rfl, HO3, HB3⟩
  case round =>
    obtain ⟨i, hi, rfl, HOi', HBw⟩ := hrel
    by_cases hlt : i < 16
    · have hix := run_indexP A (i : Int) i (ptr u D r i) rfl hlt (HJ.out i hlt)
      have hgl := gthTo_len 1 u D r i
      obtain ⟨ys, hys⟩ : ∃ ys, ys = xs ++ gthTo 1 u D r i := ⟨_, rfl⟩
      have hyl : ys.length ≤ 1000000 - 500 := by rw [hys, List.length_append]; have : i * 17 ^ 1 ≤ 16 * 17 := Nat.mul_le_mul_right _ hi; omega
      have HOi : Hid (wr.ownsRow B 3 1 u1 ys.length (ys.map intV)) := by rw [hys]; exact HOi'
      have HBi : Hid (B ≤ wr.heap.size) := Nat.le_trans HB.out HBw.out.size
      have HYs : Hid (ys ++ gth 1 u D (ptr u D r i) = xs ++ gthTo 1 u D r (i + 1)) := by show _ = _; rw [hys, gthTo_next, List.append_assoc]
      clear hys hgl HOi'
      go_wp2_with (go_at_call 89; refine (gather1 (HS.out.below HBw.out hbB hcB) t B (ptr u D r i) u1 ys (ptr_lt _ _ HD.out _ _) HBi.out HOi.out (by omega) ((HBw.out.cell (p := ⟨t, 0, none⟩) htB).trans HT.out) hbB hcB htB).mono ?_; rintro e w4 ⟨v4, rfl, O4, B4⟩; rw [HYs.out] at O4; have HO4 := Hid.intrG O4; have HB4 : Hid (Below B w w4) := HBw.out.trans B4; clear O4 B4)
      exact ⟨⟨i + 1, by omega, by go_num, HO4, HB4⟩, by simp [intOf]; omega⟩
    · have HE : Hid (gthTo 1 u D r i = (r - 1) :: (List.range 16).flatMap fun j => gth 1 u D (ptr u D r j)) := by show _ = _; rw [show i = 16 by omega]; rfl
      go_wp2
      go_ret
      refine ⟨_, rfl, ?_, HBw.out⟩
      rw [← HE.out]; exact HOi'.out
end
end Go.Proofs.YtpcbpikhiooafaaGreatDoor
/- The walks of owned and Owned. Condition: the table lies in memory as 'Tb' says. -/
namespace Go.Proofs.YtpcbpikhiooafaaGreatDoor
open Go.RowKit
/-- The blocks of an inode's first j roots. -/
def ownL (u : Nat → Bool) (D : Nat → Nat) (R : Nat → Nat) : Nat → List Nat
  | 0 => []
  | j + 1 => ownL u D R j ++ gth (lwOf j) u D (R j)
theorem ownL_len (u : Nat → Bool) (D : Nat → Nat) (R : Nat → Nat) : ∀ j, (ownL u D R j).length ≤ j * 289
  | 0 => by simp [ownL]
  | j + 1 => by
    have h1 := ownL_len u D R j
    have h2 := gth_len (lwOf j) u D (R j)
    have h3 : 17 ^ lwOf j ≤ 17 ^ 2 := Nat.pow_le_pow_right (by omega) (by unfold lwOf; split; omega; split <;> omega)
    rw [ownL, List.length_append]
    omega
section
variable {w : World} {t q b c n N : Nat} {clk : Int} {F : Nat → Nat → Int} {R : Nat → Nat → Nat} {u : Nat → Bool} {D : Nat → Nat}
theorem gatherAt (T : Tb w t q b c n N clk F R u D) (i j B : Nat) (v : Value) (xs : List Nat) (hB : B ≤ w.heap.size) (hO : w.ownsRow B 3 1 v xs.length (xs.map intV)) (hl : xs.length ≤ 900000) (hbB : b < B) (hcB : c < B) (htB : t < B) :
    Calls Tryz.prog 89 #[.pointer (some ⟨t, 0, none⟩), v, .int .i64 (R i j : Nat), .int .i64 (plOf j : Nat)] w (GPost B w (xs ++ gth (lwOf j) u D (R i j))) := by
  by_cases h1 : j < 6
  · have e1 : plOf j = 1 := by simp [plOf, h1]
    have e2 : lwOf j = 0 := by simp [lwOf, h1]
    rw [e1, e2]; exact gather0 t B _ v xs (T.rl _ _) hB hO (by omega) u D
  · by_cases h2 : j = 6
    · have e1 : plOf j = 16 := by simp [plOf, h2]
      have e2 : lwOf j = 1 := by simp [lwOf, h2]
      rw [e1, e2]; exact gather1 T.S t B _ v xs (T.rl _ _) hB hO (by omega) T.c0 hbB hcB htB
    · have e1 : plOf j = 256 := by simp [plOf, h1, h2]
      have e2 : lwOf j = 2 := by simp [lwOf, h1, h2]
      rw [e1, e2]; exact gather2 T.S t B _ v xs (T.rl _ _) hB hO (by omega) T.c0 hbB hcB htB
theorem mod_of_belowB {w w1 wx : World} (h : Mod (fun _ => False) w w1) (k : Below w1.heap.size w1 wx) : Mod (fun _ => False) w wx :=
  h.trans ⟨k.os, k.tape, k.output, k.size, fun i hi _ => k.block i hi⟩
set_option maxRecDepth 8000 in
set_option maxHeartbeats 4000000 in
theorem owned_any (T : Tb w t q b c n N clk F R u D) (i : Nat) (hi : i < N) :
    Calls Tryz.prog 66 #[.pointer (some ⟨t, 0, none⟩), .pointer (some ⟨q, i * 17, none⟩)] w fun e w' => ∃ v, e = .returned v ∧ w'.ownsRow w.heap.size 3 1 v (ownL u D (R i) 8).length ((ownL u D (R i) 8).map intV) ∧ Mod (fun _ => False) w w' := by
  have HT : Hid (Tb w t q b c n N clk F R u D) := T
  have HL : Hid (b < w.heap.size ∧ c < w.heap.size ∧ t < w.heap.size ∧ q < w.heap.size) := ⟨T.S.lt_b, T.S.lt_c, T.lt_t, T.lt_q⟩
  clear T
  go_enter Tryz.func66, Tryz.ntmps66
  go_wp2_with (go_at_call 87; refine (roots_any w q (i * 17)).mono ?_; rintro e w1 ⟨v, rfl, O1, M1⟩; obtain ⟨g, cap, rfl, hg, hcell, hcap⟩ := owns_cells (n := 7) O1; have HC : Hid (∀ j, j < 8 → w1.cell? ⟨g, j * 2, none⟩ = some (.pointer (some ⟨q, i * 17 + 9 + j, none⟩)) ∧ w1.cell? ⟨g, j * 2 + 1, none⟩ = some (.int .i64 (plOf j : Nat))) := fun j hj => ⟨hcell _ _ (rootsL_at q (i * 17) 8 j hj).1, hcell _ _ (rootsL_at q (i * 17) 8 j hj).2⟩; have HM1 : Hid (Mod (fun _ => False) w w1) := M1; clear O1 M1 hcell hg)
  have hgl : g < w1.heap.size := block_lt_of_cell (HC.out 0 (by omega)).1
  have HW1 : Hid (w.heap.size ≤ w1.heap.size) := HM1.out.size
  go_loopw [5, 11] (fun vv x wx => ∃ j : Nat, j ≤ 8 ∧ x = .int .i64 j ∧ Hid (wx.ownsRow w1.heap.size 3 1 vv (ownL u D (R i) j).length ((ownL u D (R i) j).map intV)) ∧ Hid (Below w1.heap.size w1 wx)) (fun _ x _ => 8 - (intOf x).toNat)
  case atStart => exact ⟨0, by omega, rfl, World.ownsRow_nil _ _ _ _, Below.refl _ _⟩
  case round =>
    obtain ⟨j, hj, rfl, HO, HB⟩ := hrel
    by_cases hlt : j < 8
    · have hc0 := (HB.out.cell (p := ⟨g, j * 2, none⟩) hgl).trans (HC.out j hlt).1
      have hc1 := (HB.out.cell (p := ⟨g, j * 2 + 1, none⟩) hgl).trans (HC.out j hlt).2
      have HTj : Hid (Tb (wr.alloc (.cells #[.pointer (some ⟨q, i * 17 + 9 + j, none⟩), .int .i64 (plOf j : Nat)] 171)).drew t q b c n N clk F R u D) := (HT.out.new (mod_of_belowB HM1.out HB.out)).new (((Mod.refl _ wr).alloc _).drewN 1)
      have HBj : Hid (w1.heap.size ≤ (wr.alloc (.cells #[.pointer (some ⟨q, i * 17 + 9 + j, none⟩), .int .i64 (plOf j : Nat)] 171)).drew.heap.size) := by have := HB.out.size; show _ ≤ (wr.alloc _).heap.size; simp; omega
      have HOj : Hid ((wr.alloc (.cells #[.pointer (some ⟨q, i * 17 + 9 + j, none⟩), .int .i64 (plOf j : Nat)] 171)).drew.ownsRow w1.heap.size 3 1 u5 (ownL u D (R i) j).length ((ownL u D (R i) j).map intV)) := owns_mod HO.out (((Mod.refl _ wr).alloc _).drewN 1)
      have hll := ownL_len u D (R i) j
      have HLL : Hid ((ownL u D (R i) j).length ≤ 900000) := by show _ ≤ _; omega
      have HS : Hid ((wr.alloc (.cells #[.pointer (some ⟨q, i * 17 + 9 + j, none⟩), .int .i64 (plOf j : Nat)] 171)).drew.cell? ⟨wr.heap.size, 0, none⟩ = some (.pointer (some ⟨q, i * 17 + 9 + j, none⟩)) ∧ (wr.alloc (.cells #[.pointer (some ⟨q, i * 17 + 9 + j, none⟩), .int .i64 (plOf j : Nat)] 171)).drew.cell? ⟨wr.heap.size, 1, none⟩ = some (.int .i64 (plOf j : Nat)) ∧ (wr.alloc (.cells #[.pointer (some ⟨q, i * 17 + 9 + j, none⟩), .int .i64 (plOf j : Nat)] 171)).drew.cell? ⟨q, i * 17 + 9 + j, none⟩ = some (.int .i64 (R i j : Nat))) := by
        refine ⟨?_, ?_, HTj.out.cr i j hi hlt⟩
        · show (wr.alloc _).cell? _ = _
          rw [World.cell?_alloc_at _ _ _ _ rfl]; rfl
        · show (wr.alloc _).cell? _ = _
          rw [World.cell?_alloc_at _ _ _ _ rfl]; rfl
      clear hll
      go_wp2_with fail
      have hql : q < wr.heap.size := by have := HL.out.2.2.2; have := HW1.out; have := HB.out.size; omega
      have hq9 : wr.cell? ⟨q, i * 17 + 9 + j, none⟩ = some (.int .i64 (R i j : Nat)) := (HT.out.new (mod_of_belowB HM1.out HB.out)).cr i j hi hlt
      go_region_with (first | (go_at_call 89; refine (gatherAt HTj.out i j w1.heap.size u5 (ownL u D (R i) j) HBj.out HOj.out HLL.out (Nat.lt_of_lt_of_le HL.out.1 HW1.out) (Nat.lt_of_lt_of_le HL.out.2.1 HW1.out) (Nat.lt_of_lt_of_le HL.out.2.2.1 HW1.out)).mono ?_; rintro e w4 ⟨v4, rfl, O4, B4⟩; have HO4 : Hid (w4.ownsRow w1.heap.size 3 1 v4 (ownL u D (R i) (j + 1)).length ((ownL u D (R i) (j + 1)).map intV)) := O4; have HB4 : Hid (Below w1.heap.size w1 w4) := HB.out.trans ((((Mod.refl (fun _ => False) wr).alloc _).drewN 1).belowB HB.out.size |>.trans B4); clear O4 B4))
      all_goals go_wp2
      all_goals exact ⟨⟨j + 1, by omega, by go_num, HO4, HB4⟩, by simp [intOf]; omega⟩
    · obtain rfl : j = 8 := by omega
      go_wp2
      go_ret
      exact ⟨_, by simp, ⟨HO.out.1, HO.out.2.imp id (fun ⟨g', c', cur, h1, h2, h3⟩ => ⟨g', c', cur, h1, Nat.le_trans HW1.out h2, h3⟩)⟩, mod_of_belowB HM1.out HB.out⟩
end
end Go.Proofs.YtpcbpikhiooafaaGreatDoor
/- The walks of Owned, Is and Clock. Condition: the table lies in memory as 'Tb' says. -/
namespace Go.Proofs.YtpcbpikhiooafaaGreatDoor
open Go.RowKit
section
variable {w : World} {t q b c n N : Nat} {clk : Int} {F : Nat → Nat → Int} {R : Nat → Nat → Nat} {u : Nat → Bool} {D : Nat → Nat}
theorem tis_yes (T : Tb w t q b c n N clk F R u D) (i : Nat) (hi : i < N) (hz : F i 0 ≠ 0) : Calls Tryz.prog 34 #[.pointer (some ⟨t, 0, none⟩), .int .i64 ((i : Int) + 1)] w fun e w' => e = .returned (.bool true) ∧ w' = w := by
  have HF : Hid (Calls Tryz.prog 37 #[.pointer (some ⟨t, 0, none⟩), .int .i64 ((i : Int) + 1)] w fun e w' => e = .returned (.tuple #[.pointer (some ⟨q, i * 17, none⟩), .int .i64 0]) ∧ w' = w) := find_ok T i hi hz
  clear T hz
  go_enter Tryz.func34, Tryz.ntmps34
  go_wp2_with (go_at_call 37; refine HF.out.mono ?_; rintro e w1 ⟨rfl, hw1⟩; rw [hw1]; clear hw1 w1)
  go_ret
  exact ⟨by simp, rfl⟩
theorem tis_not (T : Tb w t q b c n N clk F R u D) (i : Int) (hi : i < 1 ∨ N < i ∨ F (i - 1).toNat 0 = 0) : Calls Tryz.prog 34 #[.pointer (some ⟨t, 0, none⟩), .int .i64 i] w fun e w' => e = .returned (.bool false) ∧ w' = w := by
  have HF : Hid (Calls Tryz.prog 37 #[.pointer (some ⟨t, 0, none⟩), .int .i64 i] w fun e w' => e = .returned (.tuple #[.pointer none, .int .i64 2]) ∧ w' = w) := find_not T i hi
  clear T hi
  go_enter Tryz.func34, Tryz.ntmps34
  go_wp2_with (go_at_call 37; refine HF.out.mono ?_; rintro e w1 ⟨rfl, hw1⟩; rw [hw1]; clear hw1 w1)
  go_ret
  exact ⟨by simp, rfl⟩
end
end Go.Proofs.YtpcbpikhiooafaaGreatDoor
/- The walks of leave, Links and Release. Condition: the table lies in memory as 'Tb' says. -/
namespace Go.Proofs.YtpcbpikhiooafaaGreatDoor
open Go.RowKit
theorem zvN (w : World) : (zeroValue 92).run Tryz.prog w = .ok (.agg zeroN) w := by kernel_rfl
theorem oneN : zeroN.all (·.oneCell') = true := by kernel_rfl
section
variable {w : World} {t q b c n N : Nat} {clk : Int} {F : Nat → Nat → Int} {R : Nat → Nat → Nat} {u : Nat → Bool} {D : Nat → Nat}
set_option maxHeartbeats 1000000 in
theorem leave_keeps (T : Tb w t q b c n N clk F R u D) (i : Nat) (hi : i < N) (h : 0 < F i 3 ∨ 0 < F i 4) : Calls Tryz.prog 38 #[.pointer (some ⟨t, 0, none⟩), .pointer (some ⟨q, i * 17, none⟩)] w fun e w' => e = .returned (.tuple #[]) ∧ w' = w := by
  have k3 := T.cf i 3 hi (by omega)
  have k4 := T.cf i 4 hi (by omega)
  clear T
  by_cases h3 : 0 < F i 3
  · clear h
    go_enter Tryz.func38, Tryz.ntmps38
    go_wp2
    exact bodyPost_ret (results_none rfl _ _ _) rfl ⟨rfl, rfl⟩
  · have h4 : 0 < F i 4 := by omega
    clear h
    go_enter Tryz.func38, Tryz.ntmps38
    go_wp2
    exact bodyPost_ret (results_none rfl _ _ _) rfl ⟨rfl, rfl⟩
set_option maxRecDepth 8000 in
set_option maxHeartbeats 2000000 in
theorem leave_ends (T : Tb w t q b c n N clk F R u D) (i : Nat) (hi : i < N) (h3 : ¬ 0 < F i 3) (h4 : ¬ 0 < F i 4) (y : (Nat → Bool) × (Nat → Nat) × (Nat → Nat)) (hy : cutS 0 u D (R i) 8 = y) :
    Calls Tryz.prog 38 #[.pointer (some ⟨t, 0, none⟩), .pointer (some ⟨q, i * 17, none⟩)] w fun e w' => e = .returned (.tuple #[]) ∧ Tb w' t q b c n N clk (setN F i (fun _ => 0)) (setN R i (fun _ => 0)) y.1 y.2.1 ∧ Mod (fun k => k = b ∨ k = c ∨ k = q) w w' := by
  have HT : Hid (Tb w t q b c n N clk F R u D) := T
  have HY : Hid (cutS 0 u D (R i) 8 = y) := hy
  have k3 := T.cf i 3 hi (by omega)
  have k4 := T.cf i 4 hi (by omega)
  have hz := zvN
  clear T hy
  go_enter Tryz.func38, Tryz.ntmps38
  go_wp2_with (first | (go_at_call 65; refine (cut_any HT.out i 0 hi (by omega) (by omega) y HY.out).mono ?_; rintro e w1 ⟨rfl, T1, M1⟩; have HT1 : Hid (Tb w1 t q b c n N clk F (setN R i y.2.2) y.1 y.2.1) := T1; have HM1 : Hid (Mod (fun k => k = b ∨ k = c ∨ k = q) w w1) := M1; clear T1 M1) | (refine wpList_store_mid rfl 92 _ _ rfl q (i * 17) zeroN rfl rfl (HT1.out.there i hi) infN17 oneN ?_))
  refine ⟨rfl, _, results_none rfl _ _ _, rfl, ?_, Mod.setCells (s := fun k => k = b ∨ k = c ∨ k = q) q (.inr (.inr rfl)) zeroN.toList _ HM1.out⟩
  have h := HT1.out.setNode i hi (fun _ => 0) (fun _ => 0) (fun _ => by omega) (by omega) zeroN.toList rfl
    (fun o ho => by match o, ho with | 0, _ => rfl | 1, _ => rfl | 2, _ => rfl | 3, _ => rfl | 4, _ => rfl | 5, _ => rfl | 6, _ => rfl | 7, _ => rfl | 8, _ => rfl)
    (fun o ho => by match o, ho with | 0, _ => rfl | 1, _ => rfl | 2, _ => rfl | 3, _ => rfl | 4, _ => rfl | 5, _ => rfl | 6, _ => rfl | 7, _ => rfl)
  rwa [setN_setN] at h
end
end Go.Proofs.YtpcbpikhiooafaaGreatDoor
/- The walks of Links and Release. Condition: the table lies in memory as 'Tb' says. -/
namespace Go.Proofs.YtpcbpikhiooafaaGreatDoor
open Go.RowKit
theorem Hid.intrL {p : Prop} (h : p) : Hid p := h
section
variable {w : World} {t q b c n N : Nat} {clk : Int} {F : Nat → Nat → Int} {R : Nat → Nat → Nat} {u : Nat → Bool} {D : Nat → Nat}
set_option maxRecDepth 8000 in
set_option maxHeartbeats 2000000 in
theorem tlinks_low (T : Tb w t q b c n N clk F R u D) (i : Nat) (by_ : Int) (hi : i < N) (hz : F i 0 ≠ 0) (hl : 0 ≤ F i 3 ∧ F i 3 ≤ 16) (hb : by_ < - F i 3) :
    Calls Tryz.prog 16 #[.pointer (some ⟨t, 0, none⟩), .int .i64 ((i : Int) + 1), .int .i64 by_] w fun e w' => e = .returned (.int .i64 22) ∧ w' = w := by
  have HT : Hid (Tb w t q b c n N clk F R u D) := T
  have HZ : Hid (F i 0 ≠ 0) := hz
  have h2 := T.c2
  have htq := T.tq
  have hlq := T.lt_q
  have k3 := T.cf i 3 hi (by omega)
  have f3 := T.fq (i * 17 + 3)
  clear T hz
  go_enter Tryz.func16, Tryz.ntmps16
  go_wp2_with (go_at_call 37; refine (find_ok HT.out i hi HZ.out).mono ?_; rintro e w1 ⟨rfl, hw1⟩; rw [hw1]; clear hw1 w1)
  go_ret
  exact ⟨by simp, rfl⟩
set_option maxRecDepth 8000 in
set_option maxHeartbeats 2000000 in
theorem tlinks_high (T : Tb w t q b c n N clk F R u D) (i : Nat) (by_ : Int) (hi : i < N) (hz : F i 0 ≠ 0) (hl : 0 ≤ F i 3 ∧ F i 3 ≤ 16) (_hb : ¬ by_ < - F i 3) (hh : 16 - F i 3 < by_) :
    Calls Tryz.prog 16 #[.pointer (some ⟨t, 0, none⟩), .int .i64 ((i : Int) + 1), .int .i64 by_] w fun e w' => e = .returned (.int .i64 31) ∧ w' = w := by
  have HT : Hid (Tb w t q b c n N clk F R u D) := T
  have HZ : Hid (F i 0 ≠ 0) := hz
  have h2 := T.c2
  have htq := T.tq
  have hlq := T.lt_q
  have k3 := T.cf i 3 hi (by omega)
  have f3 := T.fq (i * 17 + 3)
  clear T hz
  go_enter Tryz.func16, Tryz.ntmps16
  go_wp2_with (go_at_call 37; refine (find_ok HT.out i hi HZ.out).mono ?_; rintro e w1 ⟨rfl, hw1⟩; rw [hw1]; clear hw1 w1)
  go_ret
  exact ⟨by simp, rfl⟩
set_option maxRecDepth 8000 in
set_option maxHeartbeats 2000000 in
theorem tlinks_keep (T : Tb w t q b c n N clk F R u D) (i : Nat) (by_ : Int) (hi : i < N) (hz : F i 0 ≠ 0) (hl : 0 ≤ F i 3 ∧ F i 3 ≤ 16) (hb : ¬ by_ < - F i 3) (hh : ¬ 16 - F i 3 < by_) (hk : 0 < F i 3 + by_ ∨ 0 < F i 4) :
    Calls Tryz.prog 16 #[.pointer (some ⟨t, 0, none⟩), .int .i64 ((i : Int) + 1), .int .i64 by_] w fun e w' => e = .returned (.int .i64 0) ∧ Tb w' t q b c n N clk (upd2 (upd2 F i 3 (F i 3 + by_)) i 8 clk) R u D ∧ Mod (fun k => k = q) w w' := by
  have HT1 : Hid (Tb ((w.setCell ⟨q, i * 17 + 3, none⟩ (.int .i64 (F i 3 + by_))).setCell ⟨q, i * 17 + 8, none⟩ (.int .i64 clk)) t q b c n N clk (upd2 (upd2 F i 3 (F i 3 + by_)) i 8 clk) R u D) := (T.setF i 3 (by omega) _ (by omega)).setF i 8 (by omega) clk (by omega)
  have HK : Hid (0 < (upd2 (upd2 F i 3 (F i 3 + by_)) i 8 clk) i 3 ∨ 0 < (upd2 (upd2 F i 3 (F i 3 + by_)) i 8 clk) i 4) := by (show _ ∨ _; rw [show upd2 (upd2 F i 3 (F i 3 + by_)) i 8 clk i 3 = F i 3 + by_ by simp [upd2], show upd2 (upd2 F i 3 (F i 3 + by_)) i 8 clk i 4 = F i 4 by simp [upd2]]; exact hk)
  have HT : Hid (Tb w t q b c n N clk F R u D) := T
  have HZ : Hid (F i 0 ≠ 0) := hz
  have h2 := T.c2
  have htq := T.tq
  have hlq := T.lt_q
  have k3 := T.cf i 3 hi (by omega)
  have f3 := T.fq (i * 17 + 3)
  have k8 := T.cf i 8 hi (by omega)
  have f8 := T.fq (i * 17 + 8)
  clear T hz
  clear hk
  go_enter Tryz.func16, Tryz.ntmps16
  go_wp2_with (first | (go_at_call 37; refine (find_ok HT.out i hi HZ.out).mono ?_; rintro e w1 ⟨rfl, hw1⟩; rw [hw1]; clear hw1 w1) | (go_at_call 38; refine (leave_keeps HT1.out i hi HK.out).mono ?_; rintro e w2 ⟨rfl, hw2⟩; rw [hw2]; clear hw2 w2))
  go_ret
  exact ⟨by simp, HT1.out, ((Mod.refl (fun k => k = q) w).setCell _ _ rfl).setCell _ _ rfl⟩
set_option maxRecDepth 8000 in
set_option maxHeartbeats 2000000 in
theorem tlinks_end (T : Tb w t q b c n N clk F R u D) (i : Nat) (by_ : Int) (hi : i < N) (hz : F i 0 ≠ 0) (hl : 0 ≤ F i 3 ∧ F i 3 ≤ 16) (hb : ¬ by_ < - F i 3) (hh : ¬ 16 - F i 3 < by_) (hk : ¬ 0 < F i 3 + by_ ∧ ¬ 0 < F i 4) (y : (Nat → Bool) × (Nat → Nat) × (Nat → Nat)) (hy : cutS 0 u D (R i) 8 = y) :
    Calls Tryz.prog 16 #[.pointer (some ⟨t, 0, none⟩), .int .i64 ((i : Int) + 1), .int .i64 by_] w fun e w' => e = .returned (.int .i64 0) ∧ Tb w' t q b c n N clk (setN (upd2 (upd2 F i 3 (F i 3 + by_)) i 8 clk) i (fun _ => 0)) (setN R i (fun _ => 0)) y.1 y.2.1 ∧ Mod (fun k => k = b ∨ k = c ∨ k = q) w w' := by
  have HT1 : Hid (Tb ((w.setCell ⟨q, i * 17 + 3, none⟩ (.int .i64 (F i 3 + by_))).setCell ⟨q, i * 17 + 8, none⟩ (.int .i64 clk)) t q b c n N clk (upd2 (upd2 F i 3 (F i 3 + by_)) i 8 clk) R u D) := (T.setF i 3 (by omega) _ (by omega)).setF i 8 (by omega) clk (by omega)
  have HK : Hid (¬ 0 < (upd2 (upd2 F i 3 (F i 3 + by_)) i 8 clk) i 3 ∧ ¬ 0 < (upd2 (upd2 F i 3 (F i 3 + by_)) i 8 clk) i 4) := by (show _ ∧ _; rw [show upd2 (upd2 F i 3 (F i 3 + by_)) i 8 clk i 3 = F i 3 + by_ by simp [upd2], show upd2 (upd2 F i 3 (F i 3 + by_)) i 8 clk i 4 = F i 4 by simp [upd2]]; exact hk)
  have HY : Hid (cutS 0 u D (R i) 8 = y) := hy
  have HT : Hid (Tb w t q b c n N clk F R u D) := T
  have HZ : Hid (F i 0 ≠ 0) := hz
  have h2 := T.c2
  have htq := T.tq
  have hlq := T.lt_q
  have k3 := T.cf i 3 hi (by omega)
  have f3 := T.fq (i * 17 + 3)
  have k8 := T.cf i 8 hi (by omega)
  have f8 := T.fq (i * 17 + 8)
  clear T hz
  clear hk hy
  go_enter Tryz.func16, Tryz.ntmps16
  go_wp2_with (first | (go_at_call 37; refine (find_ok HT.out i hi HZ.out).mono ?_; rintro e w1 ⟨rfl, hw1⟩; rw [hw1]; clear hw1 w1) | (go_at_call 38; refine (leave_ends HT1.out i hi (by first | exact HK.out.1 | exact Int.not_lt.mpr HK.out.1) (by first | exact HK.out.2 | exact Int.not_lt.mpr HK.out.2) y HY.out).mono ?_; rintro e w2 ⟨rfl, T2, M2⟩; have HT2 := Hid.intrL T2; have HM2 := Hid.intrL M2; clear T2 M2))
  go_ret
  exact ⟨by simp, HT2.out, ((((Mod.refl (fun k => k = q) w).setCell _ _ rfl).setCell _ _ rfl).mono (fun _ _ h => .inr (.inr h))).trans HM2.out⟩
end
end Go.Proofs.YtpcbpikhiooafaaGreatDoor
/- The walks of SetMode, SetTimes, SetOwner and Hold. Condition: the table lies in memory as 'Tb' says. -/
namespace Go.Proofs.YtpcbpikhiooafaaGreatDoor
open Go.RowKit
section
variable {w : World} {t q b c n N : Nat} {clk : Int} {F : Nat → Nat → Int} {R : Nat → Nat → Nat} {u : Nat → Bool} {D : Nat → Nat}
set_option maxRecDepth 8000 in
set_option maxHeartbeats 2000000 in
theorem thold (T : Tb w t q b c n N clk F R u D) (i : Nat)  (hi : i < N) (hz : F i 0 ≠ 0) (hh : -1000000000 ≤ F i 4 ∧ F i 4 ≤ 9223372036854775806) : Calls Tryz.prog 43 #[.pointer (some ⟨t, 0, none⟩), .int .i64 ((i : Int) + 1)] w fun e w' => e = .returned (.int .i64 0) ∧ Tb w' t q b c n N clk (upd2 F i 4 (F i 4 + 1)) R u D ∧ Mod (fun k => k = q) w w' := by
  have HT : Hid (Tb w t q b c n N clk F R u D) := T
  have HZ : Hid (F i 0 ≠ 0) := hz
  have h2 := T.c2
  have htq := T.tq
  have hlq := T.lt_q
  have hlt := T.lt_t
  have k4 := T.cf i 4 hi (by omega)
  have f4 := T.fq (i * 17 + 4)
  clear T hz
  go_enter Tryz.func43, Tryz.ntmps43
  go_wp2_with (go_at_call 37; refine (find_ok HT.out i hi HZ.out).mono ?_; rintro e w1 ⟨rfl, hw1⟩; rw [hw1]; clear hw1 w1)
  all_goals try go_region
  all_goals try go_wp2
  all_goals try go_region
  all_goals try go_wp2
  all_goals go_ret
  all_goals first | exact ⟨by simp, (HT.out.setF i 4 (by omega) (F i 4 + 1) (by omega)), (Mod.refl (fun k => k = q) w).setCell _ _ rfl⟩ | exact ⟨by simp, (HT.out.setF i 4 (by omega) (F i 4 + 1) (by omega)).drewN _, ((Mod.refl (fun k => k = q) w).setCell _ _ rfl).drewN _⟩
end
end Go.Proofs.YtpcbpikhiooafaaGreatDoor
