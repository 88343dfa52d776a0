/- A pipe's read end: read. Conditions: the pipe lies in memory, its bytes in a row of their own; there are some, or nobody writes. -/
import Derived.Test.YtkokejgaclabdaaGreatDoorM26
namespace Go.Proofs.YtkokejgaclabdaaGreatDoor
open Go.RowKit
theorem row_mod9 {w w' : World} {base e n : Nat} {v : Value} {xs : List Value} {s : Nat → Prop} (h : w.ownsRow base e 1 v n xs) (hM : Mod s w w') (hs : ∀ y, v.ownBlock = some y → ¬ s y) : w'.ownsRow base e 1 v n xs := by
  refine ⟨h.1, ?_⟩
  rcases h.2 with h0 | ⟨g, cap, cur, hv, hb, hg, r⟩
  · exact .inl h0
  · exact .inr ⟨g, cap, cur, hv, hb, (hM.block g (Array.getElem?_eq_some_iff.1 hg).1 (hs g (by rw [hv]; rfl))).trans hg, r⟩
theorem sDeleteB0 (w : World) : Calls Tryz.prog 201 #[.slice none 0 0, .int .i64 0, .int .i64 0] w fun e w' => e = .returned (.slice none 0 0) ∧ w' = w := by
  go_enter Tryz.func201, Tryz.ntmps201
  go_wp2
  all_goals (go_ret; exact ⟨rfl, rfl⟩)
set_option maxHeartbeats 4000000 in
set_option maxRecDepth 100000 in
/-- Of a pipe that nothing was ever written to, and nobody writes to. -/
theorem eRead0 {w : World} {q : Nat} {rd : Bool} (hp : PiAt w q (.slice none 0 0) rd false) (k : Nat) (hk : 0 < k ∧ k ≤ 300) :
    Calls Tryz.prog 198 #[.agg #[.pointer (some ⟨q, 0, none⟩)], .int .i64 k] w fun e w' => e = .returned (.tuple #[.slice none 0 0, .int .i64 0]) ∧ PiAt w' q (.slice none 0 0) rd false ∧ Mod (fun y => y = q) w w' := by
  have HP := hid6 hp
  have hM0 : Mod (fun _ => False) w (w.alloc (.cells #[.pointer (some ⟨q, 0, none⟩)] 80)) := (Mod.refl _ w).alloc _
  have HM0 := hid6 hM0
  obtain ⟨p0, p1, p2, pf⟩ := hp.mod hM0 (fun e => e)
  have hql := block_lt_of_cell hp.c0
  have b0 : (w.alloc (.cells #[.pointer (some ⟨q, 0, none⟩)] 80)).cell? ⟨w.heap.size, 0, none⟩ = some (.pointer (some ⟨q, 0, none⟩)) := by simp [go_sem]
  have hk0 : ¬ ((k : Int) < 0) := by omega
  have hmn : min (k : Int) 0 = 0 := by omega
  have HF := hid6 (show PiAt ((w.setCell ⟨q, 0, none⟩ (.slice none 0 0)).alloc (.cells #[.pointer (some ⟨q, 0, none⟩)] 80)).drew q (.slice none 0 0) rd false ∧ Mod (fun y => y = q) w ((w.setCell ⟨q, 0, none⟩ (.slice none 0 0)).alloc (.cells #[.pointer (some ⟨q, 0, none⟩)] 80)).drew from
    ⟨(HP.out.set _).mod (((Mod.refl (fun _ => False) _).alloc _).drewN 1) (fun e => e), (((Mod.refl (fun y => y = q) w).setCell _ _ rfl).alloc _).drewN 1⟩)
  clear hM0 hp
  go_enter Tryz.func198, Tryz.ntmps198
  go_wp2_with (first | (go_at_call 200; refine (sCloneB0 _).mono ?_; rintro e w3 ⟨rfl, hw3⟩; rw [hw3]; clear hw3 w3))
  go_region_with (first | (go_at_call 201; refine (sDeleteB0 _).mono ?_; rintro e w3 ⟨rfl, hw3⟩; rw [hw3]; clear hw3 w3))
  all_goals
    go_wp2
    go_ret2
    exact ⟨rfl, HF.out⟩
set_option maxHeartbeats 4000000 in
set_option maxRecDepth 100000 in
theorem eReadS {w : World} {q base g n cap : Nat} {rd wr : Bool} (hp : PiAt w q (.slice (some ⟨g, 0, none⟩) n cap) rd wr) (xs : List UInt8) (hn : xs.length = n) (ho : w.ownsRow base 5 1 (.slice (some ⟨g, 0, none⟩) n cap) n (xs.map bV)) (hq : q < base) (hx : n ≤ 256) (k m : Nat) (hk : 0 < k ∧ k ≤ 300) (hm : m = min k n) (hne : 0 < n ∨ wr = false) :
    Calls Tryz.prog 198 #[.agg #[.pointer (some ⟨q, 0, none⟩)], .int .i64 k] w fun e w' => ∃ v1, e = .returned (.tuple #[v1, .int .i64 0]) ∧ w'.ownsRow (w.heap.size + 1) 5 1 v1 m ((xs.take m).map bV) ∧ PiAt w' q (.slice (some ⟨g, 0, none⟩) (n - m) cap) rd wr ∧ w'.ownsRow base 5 1 (.slice (some ⟨g, 0, none⟩) (n - m) cap) (n - m) ((xs.drop m).map bV) ∧ Mod (fun y => y = q ∨ y = g) w w' := by
  have hgl := own_lt8 ho g rfl
  have hM0 : Mod (fun _ => False) w (w.alloc (.cells #[.pointer (some ⟨q, 0, none⟩)] 80)) := (Mod.refl _ w).alloc _
  have hql := hp.lt
  have hc : (∀ j x, xs[j]? = some x → w.cell? ⟨g, j, none⟩ = some (bV x)) ∧ n ≤ cap ∧ cap ≤ 9223372036854775807 := by
    obtain ⟨_, h | ⟨g', cap', cur, hv, _, hh, h1, h2, _, h3⟩⟩ := ho
    · cases h.1
    · cases hv
      unfold maxLen at h2
      exact ⟨own_cells hh h3, h1, h2⟩
  have HC := hid6 (sCloneB g 0 m cap (xs.take m) (w.alloc (.cells #[.pointer (some ⟨q, 0, none⟩)] 80)) (by simp; omega) (by omega) (fun j x hj => by
    rw [List.getElem?_take] at hj
    split at hj
    · rw [Nat.zero_add]; exact (hM0.cell (p := ⟨g, j, none⟩) hgl.2 (fun e => e)).trans (hc.1 j x hj)
    · cases hj))
  have HDl : Hid (∀ W, Mod (fun _ => False) w W → _) := fun W hM => sDeleteB base g n cap m xs W (row_mod8 ho hM (fun _ _ e => e)) (by omega)
  have HP := hid6 hp
  have HM0 := hid6 hM0
  have b0 : (w.alloc (.cells #[.pointer (some ⟨q, 0, none⟩)] 80)).cell? ⟨w.heap.size, 0, none⟩ = some (.pointer (some ⟨q, 0, none⟩)) := by simp [go_sem]
  have HB0 := hid6 b0
  obtain ⟨p0, p1, p2, pf⟩ := hp.mod hM0 (fun e => e)
  have hk0 : ¬ ((k : Int) < 0) := by omega
  have hmn : min (k : Int) (n : Int) = (m : Int) := by omega
  have hmc : (m : Int) ≤ (cap : Int) := by omega
  have hmcN : m ≤ cap := by omega
  have HE : Hid (0 < n ∨ wr = false) := hne
  have HMm := hid6 hm
  have hmn' : min k n = m := hm.symm
  clear hM0 hp ho hc hne hm
  have hgq : g ≠ q := by omega
  have hz : ((n : Int) = 0 → wr = false) := fun h => by rcases HE.out with e | e; omega; exact e
  by_cases h0 : n = 0
  · have hwr : wr = false := hz (by omega)
    subst hwr
    subst h0
    obtain rfl : m = 0 := by have := HMm.out; omega
    replace hmn : min (k : Int) 0 = 0 := by omega
    clear hmn' hmc
    go_enter Tryz.func198, Tryz.ntmps198
    go_wp2_with fail
    refine Calls.mono HC.out ?_
    rintro e w1 ⟨v1, rfl, O1, M1⟩
    obtain ⟨a1, c1, hv1⟩ := row_sl8 O1
    subst hv1
    have HO1 := hid6 O1
    have HM1 := hid6 (HM0.out.trans M1)
    have b1 := (M1.cell (p := ⟨w.heap.size, 0, none⟩) (block_lt_of_cell b0) (fun e => e)).trans b0
    have HP1 := hid6 (HP.out.mod HM1.out (fun e => e))
    clear p0 p1 p2 pf b0
    obtain ⟨p0, p1, p2, pf⟩ := HP1.out
    clear O1 M1
    go_upto_region 7 with fail
    go_region_with (first | (go_at_call 201; refine Calls.mono (HDl.out _ (by first | exact HM1.out | exact HM1.out.drewN 1)) ?_; rintro e w3 ⟨rfl, O3, M3⟩; have e0 := (M3.cell (p := ⟨w.heap.size, 0, none⟩) (block_lt_of_cell b1) (fun e => by have h9 : w.heap.size = g := e; omega)).trans b1; have HP3 := hid6 ((HP1.out.mod ((Mod.refl (fun _ => False) w1).drewN 1) (fun e => e)).mod M3 (fun e => hgq e.symm)); have HR3 := hid6 (And.intro O3 M3); obtain ⟨f0, f1, f2, ff⟩ := HP3.out; clear O3 M3))
    all_goals
      have HF := hid6 (show PiAt (w3.setCell ⟨q, 0, none⟩ (.slice (some ⟨g, 0, none⟩) (0 - 0) cap)) q (.slice (some ⟨g, 0, none⟩) (0 - 0) cap) rd false ∧ Mod (fun y => y = q ∨ y = g) w (w3.setCell ⟨q, 0, none⟩ (.slice (some ⟨g, 0, none⟩) (0 - 0) cap)) from
        ⟨HP3.out.set _, ((HM1.out.drewN 1).mono (fun _ _ e => e.elim)).trans ((HR3.out.2.mono (fun _ _ e => .inr e)).trans (((Mod.refl (fun y => y = q) w3).setCell _ _ rfl).mono (fun _ _ e => .inl e)))⟩)
      have hgne : ∀ y, (Value.slice a1 0 c1).ownBlock = some y → ¬ (y = q ∨ y = g) := fun y hy e => by
        have h8 := (own_lt8 HO1.out y hy).1
        rw [World.size_alloc] at h8
        omega
      have HRows := hid6 (And.intro (row_mod9 (row_mod9 HO1.out (((Mod.refl (fun _ => False) w1).drewN 1).mono (fun _ _ e => e.elim) |>.trans HR3.out.2) (fun y hy e => hgne y hy (.inr e))) ((Mod.refl (fun y => y = q) w3).setCell ⟨q, 0, none⟩ (.slice (some ⟨g, 0, none⟩) (0 - 0) cap) rfl) (fun y hy e => hgne y hy (.inl e))) (row_mod8 HR3.out.1 ((Mod.refl (fun y => y = q) w3).setCell ⟨q, 0, none⟩ (.slice (some ⟨g, 0, none⟩) (0 - 0) cap) rfl) (fun y hy e => by have h8 : y = q := e; omega)))
      clear hgne
      go_wp2
      go_ret2
      exact ⟨_, rfl, by simpa [World.size_alloc] using HRows.out.1, HF.out.1, HRows.out.2, HF.out.2⟩
  · have hz' : ¬ (n : Int) = 0 := by omega
    go_enter Tryz.func198, Tryz.ntmps198
    go_wp2_with fail
    refine Calls.mono HC.out ?_
    rintro e w1 ⟨v1, rfl, O1, M1⟩
    obtain ⟨a1, c1, hv1⟩ := row_sl8 O1
    subst hv1
    have HO1 := hid6 O1
    have HM1 := hid6 (HM0.out.trans M1)
    have b1 := (M1.cell (p := ⟨w.heap.size, 0, none⟩) (block_lt_of_cell b0) (fun e => e)).trans b0
    have HP1 := hid6 (HP.out.mod HM1.out (fun e => e))
    clear p0 p1 p2 pf b0
    obtain ⟨p0, p1, p2, pf⟩ := HP1.out
    clear O1 M1
    go_upto_region 7 with fail
    go_region_with (first | (go_at_call 201; refine Calls.mono (HDl.out _ (by first | exact HM1.out | exact HM1.out.drewN 1)) ?_; rintro e w3 ⟨rfl, O3, M3⟩; have e0 := (M3.cell (p := ⟨w.heap.size, 0, none⟩) (block_lt_of_cell b1) (fun e => by have h9 : w.heap.size = g := e; omega)).trans b1; have HP3 := hid6 ((HP1.out.mod ((Mod.refl (fun _ => False) w1).drewN 1) (fun e => e)).mod M3 (fun e => hgq e.symm)); have HR3 := hid6 (And.intro O3 M3); obtain ⟨f0, f1, f2, ff⟩ := HP3.out; clear O3 M3))
    all_goals
      have HF := hid6 (show PiAt (w3.setCell ⟨q, 0, none⟩ (.slice (some ⟨g, 0, none⟩) (n - m) cap)) q (.slice (some ⟨g, 0, none⟩) (n - m) cap) rd wr ∧ Mod (fun y => y = q ∨ y = g) w (w3.setCell ⟨q, 0, none⟩ (.slice (some ⟨g, 0, none⟩) (n - m) cap)) from
        ⟨HP3.out.set _, ((HM1.out.drewN 1).mono (fun _ _ e => e.elim)).trans ((HR3.out.2.mono (fun _ _ e => .inr e)).trans (((Mod.refl (fun y => y = q) w3).setCell _ _ rfl).mono (fun _ _ e => .inl e)))⟩)
      have hgne : ∀ y, (Value.slice a1 m c1).ownBlock = some y → ¬ (y = q ∨ y = g) := fun y hy e => by
        have h8 := (own_lt8 HO1.out y hy).1
        rw [World.size_alloc] at h8
        omega
      have HRows := hid6 (And.intro (row_mod9 (row_mod9 HO1.out (((Mod.refl (fun _ => False) w1).drewN 1).mono (fun _ _ e => e.elim) |>.trans HR3.out.2) (fun y hy e => hgne y hy (.inr e))) ((Mod.refl (fun y => y = q) w3).setCell ⟨q, 0, none⟩ (.slice (some ⟨g, 0, none⟩) (n - m) cap) rfl) (fun y hy e => hgne y hy (.inl e))) (row_mod8 HR3.out.1 ((Mod.refl (fun y => y = q) w3).setCell ⟨q, 0, none⟩ (.slice (some ⟨g, 0, none⟩) (n - m) cap) rfl) (fun y hy e => by have h8 : y = q := e; omega)))
      clear hgne
      go_wp2
      go_ret2
      exact ⟨_, rfl, by simpa [World.size_alloc] using HRows.out.1, HF.out.1, HRows.out.2, HF.out.2⟩
end Go.Proofs.YtkokejgaclabdaaGreatDoor
