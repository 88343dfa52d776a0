/- Several texts of this claim, one behind the other, in their order. -/
import Derived.Test.YtpcbpikhiooafaaGreatDoorM26
import Derived.Test.YtpcbpikhiooafaaGreatDoorM24
import Derived.Deep.LoopGhost
import Derived.Maps.AppendAt
/- A pipe's read end: read. Conditions: the pipe lies in memory, its bytes in a row of their own; there are some, or nobody writes. -/
namespace Go.Proofs.YtpcbpikhiooafaaGreatDoor
open Go.RowKit
theorem row_mod9 {w w' : World} {base e n : Nat} {v : Value} {xs : List Value} {s : Nat → Prop} (h : w.ownsRow base e 1 v n xs) (hM : Mod s w w') (hs : ∀ y, v.ownBlock = some y → ¬ s y) : w'.ownsRow base e 1 v n xs := by
  refine ⟨h.1, ?_⟩
  rcases h.2 with h0 | ⟨g, cap, cur, hv, hb, hg, r⟩
  · exact .inl h0
  · exact .inr ⟨g, cap, cur, hv, hb, (hM.block g (Array.getElem?_eq_some_iff.1 hg).1 (hs g (by rw [hv]; rfl))).trans hg, r⟩
theorem sDeleteB0 (w : World) : Calls Tryz.prog 202 #[.slice none 0 0, .int .i64 0, .int .i64 0] w fun e w' => e = .returned (.slice none 0 0) ∧ w' = w := by
  go_enter Tryz.func202, Tryz.ntmps202
  go_wp2
  all_goals (go_ret; exact ⟨rfl, rfl⟩)
set_option maxHeartbeats 4000000 in
set_option maxRecDepth 100000 in
/-- Of a pipe that nothing was ever written to, and nobody writes to. -/
theorem eRead0 {w : World} {q : Nat} {rd : Bool} (hp : PiAt w q (.slice none 0 0) rd false) (k : Nat) (hk : 0 < k ∧ k ≤ 300) :
    Calls Tryz.prog 199 #[.agg #[.pointer (some ⟨q, 0, none⟩)], .int .i64 k] w fun e w' => e = .returned (.tuple #[.slice none 0 0, .int .i64 0]) ∧ PiAt w' q (.slice none 0 0) rd false ∧ Mod (fun y => y = q) w w' := by
  have HP := hid6 hp
  have hM0 : Mod (fun _ => False) w (w.alloc (.cells #[.pointer (some ⟨q, 0, none⟩)] 135)) := (Mod.refl _ w).alloc _
  have HM0 := hid6 hM0
  obtain ⟨p0, p1, p2, pf⟩ := hp.mod hM0 (fun e => e)
  have hql := block_lt_of_cell hp.c0
  have b0 : (w.alloc (.cells #[.pointer (some ⟨q, 0, none⟩)] 135)).cell? ⟨w.heap.size, 0, none⟩ = some (.pointer (some ⟨q, 0, none⟩)) := by simp [go_sem]
  have hk0 : ¬ ((k : Int) < 0) := by omega
  have hmn : min (k : Int) 0 = 0 := by omega
  have HF := hid6 (show PiAt ((w.setCell ⟨q, 0, none⟩ (.slice none 0 0)).alloc (.cells #[.pointer (some ⟨q, 0, none⟩)] 135)).drew q (.slice none 0 0) rd false ∧ Mod (fun y => y = q) w ((w.setCell ⟨q, 0, none⟩ (.slice none 0 0)).alloc (.cells #[.pointer (some ⟨q, 0, none⟩)] 135)).drew from
    ⟨(HP.out.set _).mod (((Mod.refl (fun _ => False) _).alloc _).drewN 1) (fun e => e), (((Mod.refl (fun y => y = q) w).setCell _ _ rfl).alloc _).drewN 1⟩)
  clear hM0 hp
  go_enter Tryz.func199, Tryz.ntmps199
  go_wp2_with (first | (go_at_call 201; refine (sCloneB0 _).mono ?_; rintro e w3 ⟨rfl, hw3⟩; rw [hw3]; clear hw3 w3))
  go_region_with (first | (go_at_call 202; refine (sDeleteB0 _).mono ?_; rintro e w3 ⟨rfl, hw3⟩; rw [hw3]; clear hw3 w3))
  all_goals
    go_wp2
    go_ret2
    exact ⟨rfl, HF.out⟩
set_option maxHeartbeats 4000000 in
set_option maxRecDepth 100000 in
theorem eReadS {w : World} {q base g n cap : Nat} {rd wr : Bool} (hp : PiAt w q (.slice (some ⟨g, 0, none⟩) n cap) rd wr) (xs : List UInt8) (hn : xs.length = n) (ho : w.ownsRow base 5 1 (.slice (some ⟨g, 0, none⟩) n cap) n (xs.map bV)) (hq : q < base) (hx : n ≤ 256) (k m : Nat) (hk : 0 < k ∧ k ≤ 300) (hm : m = min k n) (hne : 0 < n ∨ wr = false) :
    Calls Tryz.prog 199 #[.agg #[.pointer (some ⟨q, 0, none⟩)], .int .i64 k] w fun e w' => ∃ v1, e = .returned (.tuple #[v1, .int .i64 0]) ∧ w'.ownsRow (w.heap.size + 1) 5 1 v1 m ((xs.take m).map bV) ∧ PiAt w' q (.slice (some ⟨g, 0, none⟩) (n - m) cap) rd wr ∧ w'.ownsRow base 5 1 (.slice (some ⟨g, 0, none⟩) (n - m) cap) (n - m) ((xs.drop m).map bV) ∧ Mod (fun y => y = q ∨ y = g) w w' := by
  have hgl := own_lt8 ho g rfl
  have hM0 : Mod (fun _ => False) w (w.alloc (.cells #[.pointer (some ⟨q, 0, none⟩)] 135)) := (Mod.refl _ w).alloc _
  have hql := hp.lt
  have hc : (∀ j x, xs[j]? = some x → w.cell? ⟨g, j, none⟩ = some (bV x)) ∧ n ≤ cap ∧ cap ≤ 9223372036854775807 := by
    obtain ⟨_, h | ⟨g', cap', cur, hv, _, hh, h1, h2, _, h3⟩⟩ := ho
    · cases h.1
    · cases hv
      unfold maxLen at h2
      exact ⟨own_cells hh h3, h1, h2⟩
  have HC := hid6 (sCloneB g 0 m cap (xs.take m) (w.alloc (.cells #[.pointer (some ⟨q, 0, none⟩)] 135)) (by simp; omega) (by omega) (fun j x hj => by
    rw [List.getElem?_take] at hj
    split at hj
    · rw [Nat.zero_add]; exact (hM0.cell (p := ⟨g, j, none⟩) hgl.2 (fun e => e)).trans (hc.1 j x hj)
    · cases hj))
  have HDl : Hid (∀ W, Mod (fun _ => False) w W → _) := fun W hM => sDeleteB base g n cap m xs W (row_mod8 ho hM (fun _ _ e => e)) (by omega)
  have HP := hid6 hp
  have HM0 := hid6 hM0
  have b0 : (w.alloc (.cells #[.pointer (some ⟨q, 0, none⟩)] 135)).cell? ⟨w.heap.size, 0, none⟩ = some (.pointer (some ⟨q, 0, none⟩)) := by simp [go_sem]
  have HB0 := hid6 b0
  obtain ⟨p0, p1, p2, pf⟩ := hp.mod hM0 (fun e => e)
  have hk0 : ¬ ((k : Int) < 0) := by omega
  have hmn : min (k : Int) (n : Int) = (m : Int) := by omega
  have hmc : (m : Int) ≤ (cap : Int) := by omega
  have hmcN : m ≤ cap := by omega
  have HE : Hid (0 < n ∨ wr = false) := hne
  have HMm := hid6 hm
  have hmn' : min k n = m := hm.symm
  clear hM0 hp ho hc hne hm
  have hgq : g ≠ q := by omega
  have hz : ((n : Int) = 0 → wr = false) := fun h => by rcases HE.out with e | e; omega; exact e
  by_cases h0 : n = 0
  · have hwr : wr = false := hz (by omega)
    subst hwr
    subst h0
    obtain rfl : m = 0 := by have := HMm.out; omega
    replace hmn : min (k : Int) 0 = 0 := by omega
    clear hmn' hmc
    go_enter Tryz.func199, Tryz.ntmps199
    go_wp2_with fail
    refine Calls.mono HC.out ?_
    rintro e w1 ⟨v1, rfl, O1, M1⟩
    obtain ⟨a1, c1, hv1⟩ := row_sl8 O1
    subst hv1
    have HO1 := hid6 O1
    have HM1 := hid6 (HM0.out.trans M1)
    have b1 := (M1.cell (p := ⟨w.heap.size, 0, none⟩) (block_lt_of_cell b0) (fun e => e)).trans b0
    have HP1 := hid6 (HP.out.mod HM1.out (fun e => e))
    clear p0 p1 p2 pf b0
    obtain ⟨p0, p1, p2, pf⟩ := HP1.out
    clear O1 M1
    go_upto_region 7 with fail
    go_region_with (first | (go_at_call 202; refine Calls.mono (HDl.out _ (by first | exact HM1.out | exact HM1.out.drewN 1)) ?_; rintro e w3 ⟨rfl, O3, M3⟩; have e0 := (M3.cell (p := ⟨w.heap.size, 0, none⟩) (block_lt_of_cell b1) (fun e => by have h9 : w.heap.size = g := e; omega)).trans b1; have HP3 := hid6 ((HP1.out.mod ((Mod.refl (fun _ => False) w1).drewN 1) (fun e => e)).mod M3 (fun e => hgq e.symm)); have HR3 := hid6 (And.intro O3 M3); obtain ⟨f0, f1, f2, ff⟩ := HP3.out; clear O3 M3))
    all_goals
      have HF := hid6 (show PiAt (w3.setCell ⟨q, 0, none⟩ (.slice (some ⟨g, 0, none⟩) (0 - 0) cap)) q (.slice (some ⟨g, 0, none⟩) (0 - 0) cap) rd false ∧ Mod (fun y => y = q ∨ y = g) w (w3.setCell ⟨q, 0, none⟩ (.slice (some ⟨g, 0, none⟩) (0 - 0) cap)) from
        ⟨HP3.out.set _, ((HM1.out.drewN 1).mono (fun _ _ e => e.elim)).trans ((HR3.out.2.mono (fun _ _ e => .inr e)).trans (((Mod.refl (fun y => y = q) w3).setCell _ _ rfl).mono (fun _ _ e => .inl e)))⟩)
      have hgne : ∀ y, (Value.slice a1 0 c1).ownBlock = some y → ¬ (y = q ∨ y = g) := fun y hy e => by
        have h8 := (own_lt8 HO1.out y hy).1
        rw [World.size_alloc] at h8
        omega
      have HRows := hid6 (And.intro (row_mod9 (row_mod9 HO1.out (((Mod.refl (fun _ => False) w1).drewN 1).mono (fun _ _ e => e.elim) |>.trans HR3.out.2) (fun y hy e => hgne y hy (.inr e))) ((Mod.refl (fun y => y = q) w3).setCell ⟨q, 0, none⟩ (.slice (some ⟨g, 0, none⟩) (0 - 0) cap) rfl) (fun y hy e => hgne y hy (.inl e))) (row_mod8 HR3.out.1 ((Mod.refl (fun y => y = q) w3).setCell ⟨q, 0, none⟩ (.slice (some ⟨g, 0, none⟩) (0 - 0) cap) rfl) (fun y hy e => by have h8 : y = q := e; omega)))
      clear hgne
      go_wp2
      go_ret2
      exact ⟨_, rfl, by simpa [World.size_alloc] using HRows.out.1, HF.out.1, HRows.out.2, HF.out.2⟩
  · have hz' : ¬ (n : Int) = 0 := by omega
    go_enter Tryz.func199, Tryz.ntmps199
    go_wp2_with fail
    refine Calls.mono HC.out ?_
    rintro e w1 ⟨v1, rfl, O1, M1⟩
    obtain ⟨a1, c1, hv1⟩ := row_sl8 O1
    subst hv1
    have HO1 := hid6 O1
    have HM1 := hid6 (HM0.out.trans M1)
    have b1 := (M1.cell (p := ⟨w.heap.size, 0, none⟩) (block_lt_of_cell b0) (fun e => e)).trans b0
    have HP1 := hid6 (HP.out.mod HM1.out (fun e => e))
    clear p0 p1 p2 pf b0
    obtain ⟨p0, p1, p2, pf⟩ := HP1.out
    clear O1 M1
    go_upto_region 7 with fail
    go_region_with (first | (go_at_call 202; refine Calls.mono (HDl.out _ (by first | exact HM1.out | exact HM1.out.drewN 1)) ?_; rintro e w3 ⟨rfl, O3, M3⟩; have e0 := (M3.cell (p := ⟨w.heap.size, 0, none⟩) (block_lt_of_cell b1) (fun e => by have h9 : w.heap.size = g := e; omega)).trans b1; have HP3 := hid6 ((HP1.out.mod ((Mod.refl (fun _ => False) w1).drewN 1) (fun e => e)).mod M3 (fun e => hgq e.symm)); have HR3 := hid6 (And.intro O3 M3); obtain ⟨f0, f1, f2, ff⟩ := HP3.out; clear O3 M3))
    all_goals
      have HF := hid6 (show PiAt (w3.setCell ⟨q, 0, none⟩ (.slice (some ⟨g, 0, none⟩) (n - m) cap)) q (.slice (some ⟨g, 0, none⟩) (n - m) cap) rd wr ∧ Mod (fun y => y = q ∨ y = g) w (w3.setCell ⟨q, 0, none⟩ (.slice (some ⟨g, 0, none⟩) (n - m) cap)) from
        ⟨HP3.out.set _, ((HM1.out.drewN 1).mono (fun _ _ e => e.elim)).trans ((HR3.out.2.mono (fun _ _ e => .inr e)).trans (((Mod.refl (fun y => y = q) w3).setCell _ _ rfl).mono (fun _ _ e => .inl e)))⟩)
      have hgne : ∀ y, (Value.slice a1 m c1).ownBlock = some y → ¬ (y = q ∨ y = g) := fun y hy e => by
        have h8 := (own_lt8 HO1.out y hy).1
        rw [World.size_alloc] at h8
        omega
      have HRows := hid6 (And.intro (row_mod9 (row_mod9 HO1.out (((Mod.refl (fun _ => False) w1).drewN 1).mono (fun _ _ e => e.elim) |>.trans HR3.out.2) (fun y hy e => hgne y hy (.inr e))) ((Mod.refl (fun y => y = q) w3).setCell ⟨q, 0, none⟩ (.slice (some ⟨g, 0, none⟩) (n - m) cap) rfl) (fun y hy e => hgne y hy (.inl e))) (row_mod8 HR3.out.1 ((Mod.refl (fun y => y = q) w3).setCell ⟨q, 0, none⟩ (.slice (some ⟨g, 0, none⟩) (n - m) cap) rfl) (fun y hy e => by have h8 : y = q := e; omega)))
      clear hgne
      go_wp2
      go_ret2
      exact ⟨_, rfl, by simpa [World.size_alloc] using HRows.out.1, HF.out.1, HRows.out.2, HF.out.2⟩
end Go.Proofs.YtpcbpikhiooafaaGreatDoor
/- Pipe, with what it lays; Dup, Close, Fds with its values. Conditions: the process lies in memory as 'PAt' says; descriptors are free. -/
namespace Go.Proofs.YtpcbpikhiooafaaGreatDoor
open Go.RowKit
set_option maxRecDepth 100000 in
set_option maxHeartbeats 2000000 in
theorem pFdsV {w : World} {P fb : Nat} {u g : Int} {ga : Option Addr} {gc : Nat} {um cw : Int} {d : Nat → Option Addr} (h : PAt w P fb u g ga gc um cw d) : Calls Tryz.prog 45 #[.pointer (some ⟨P, 0, none⟩)] w fun e w' => ∃ a c, e = .returned (.slice a (fdN d) c) ∧ w'.ownsRow w.heap.size 3 1 (.slice a (fdN d) c) (fdN d) ((usedL (fun j => (d j).isSome) 16).map intV) ∧ Mod (fun _ => False) w w' := by
  have HF := hid6 (pMade h)
  have HR := hid6 h.range
  have HI : Hid (∀ (k : Nat) W, k < 16 → (Instr.index 61 (.agg (fdV d).toArray) (.int .i64 k)).run Tryz.prog W = .ok (.pointer (d k)) W) := fun k W hk => fdV_ix d k hk W
  clear h
  obtain ⟨i0, hi0, hz0, hs0, hb0⟩ := infInt
  have HIn := hid6 (show Tryz.prog.info? 3 = some i0 ∧ i0.zero = some (.int .i64 0) ∧ i0.size = 1 ∧ i0.bytes = 8 from ⟨hi0, hz0, hs0, hb0⟩)
  clear hi0 hz0 hs0 hb0
  go_enter Tryz.func45, Tryz.ntmps45
  go_wp2_with (first | (go_at_call 21; refine Calls.mono HF.out ?_; rintro e w3 ⟨rfl, hw3⟩; rw [hw3]; clear hw3 w3) | (refine wpList_load_mid rfl 61 _ rfl P 6 rfl (fdV d) _ HR.out Tryz.underlying61 rfl infFd ?_))
  go_loopg [3, 14] 16 (fun gh v i wr => ∃ k : Nat, k ≤ 16 ∧ gh = 16 - k ∧ i = .int .i64 k ∧ Hid (wr.ownsRow w.heap.size 3 1 v (usedL (fun j => (d j).isSome) k).length ((usedL (fun j => (d j).isSome) k).map intV)) ∧ Hid (Mod (fun _ => False) w wr))
  case atStart => exact ⟨0, Nat.zero_le _, rfl, rfl, World.ownsRow_nil _ _ _ _, Mod.refl _ _⟩
  case round =>
    obtain ⟨k, hk, rfl, rfl, hown, hmod⟩ := hrel
    by_cases hlt : k < 16
    · have hlt' : (k : Int) < 16 := by omega
      have hix := fun W => HI.out k W hlt
      cases hd : d k with
      | none =>
        rw [hd] at hix
        have HU := hid6 (usedL_no (fun j => (d j).isSome) k (by show (d k).isSome = false; rw [hd]; rfl))
        clear hd
        go_wp2_with fail
        go_roundg (16 - (k + 1))
        case measure => omega
        case rel => exact ⟨k + 1, hlt, rfl, by go_num, by rw [HU.out]; exact hown, hmod⟩
      | some ad =>
        rw [hd] at hix
        have HU := hid6 (usedL_yes (fun j => (d j).isSome) k (by show (d k).isSome = true; rw [hd]; rfl))
        clear hd
        have hle := used_le16 (fun j => (d j).isSome) k
        have hO := hid6 (hown.out.alloc (.cells #[.int .i64 k] 3))
        have hsz := hmod.out.size
        go_wp2_with (first | (at_builtin; refine wpList_append_own _ rfl _ _ 31 rfl w.heap.size 3 i0 (.int .i64 0) 1 8 undInts HIn.out.1 HIn.out.2.1 HIn.out.2.2.1 HIn.out.2.2.2 rfl (by decide) _ _ _ rfl hO.out ⟨wr.heap.size, 0, none⟩ 1 1 [intV k] rfl rfl ?c1 ?c2 ?c3 ?c4 ?c5 ?_))
        case c1 =>
          intro j x hj
          match j, hj with
          | 0, hj =>
            simp at hj; subst hj
            show ((wr.alloc (.cells #[.int .i64 k] 3)).cell? _) = _
            rw [show (⟨wr.heap.size, 0, none⟩ : Addr).add 0 = ⟨wr.heap.size, 0, none⟩ from rfl, World.cell?_alloc_at _ _ _ _ rfl]; rfl
        case c2 => intro x hx; simp at hx; subst hx; rfl
        case c3 => unfold maxLen; omega
        case c4 => omega
        case c5 => simp; omega
        intro v' w1 hown' hgrow _
        have hO' : Hid (w1.ownsRow w.heap.size 3 1 v' (usedL (fun j => (d j).isSome) (k + 1)).length ((usedL (fun j => (d j).isSome) (k + 1)).map intV)) := by
          show w1.ownsRow _ _ _ _ _ _
          rw [HU.out, List.length_append, List.map_append]; exact hown'
        have hM' : Hid (Mod (fun _ => False) w w1) := ((hmod.out.alloc (.cells #[.int .i64 k] 3)).grown hgrow (fun j hj => (hown.out.lt j hj).1))
        clear hown' hgrow
        go_wp2_with fail
        go_roundg (16 - (k + 1))
        case measure => omega
        case rel => exact ⟨k + 1, hlt, rfl, by go_num, hO', hM'⟩
    · obtain rfl : k = 16 := by omega
      go_wp2_with fail
      go_ret
      obtain ⟨a, c, hv⟩ := row_sl8 hown.out
      refine ⟨a, c, by rw [hv]; rfl, ?_, hmod⟩
      have h9 := hown.out
      rw [hv] at h9
      exact h9
section
variable {w : World} {P fb : Nat} {u g : Int} {ga : Option Addr} {gc : Nat} {um cw : Int} {d : Nat → Option Addr}
set_option maxRecDepth 100000 in
set_option maxHeartbeats 2000000 in
theorem pPipe2 (h : PAt w P fb u g ga gc um cw d) (j i2 : Nat) (hj : j < i2) (hj2 : i2 < 16) (h0 : d j = none) (h1 : ∀ i, i < j → ∃ B : Nat, d i = some ⟨B, 0, none⟩) (h2 : d i2 = none) (h3 : ∀ i, i < i2 → i ≠ j → ∃ B : Nat, d i = some ⟨B, 0, none⟩) (hr : fdN d + 2 ≤ 16) :
    Calls Tryz.prog 28 #[.pointer (some ⟨P, 0, none⟩)] w fun e w' => e = .returned (.tuple #[.int .i64 j, .int .i64 i2, .int .i64 0]) ∧ Mod (fun x => x = P) w w' ∧ ∃ q D0 D1, w.heap.size ≤ q ∧ q < D0 ∧ D0 < D1 ∧ D1 < w'.heap.size ∧ PiAt w' q (.slice none 0 0) true true ∧ DAt w' D0 (.iface 135 (.agg #[.pointer (some ⟨q, 0, none⟩)])) 1 ∧ DAt w' D1 (.iface 136 (.agg #[.pointer (some ⟨q, 0, none⟩)])) 1 ∧ PAt w' P fb u g ga gc um cw (fun i => if i = i2 then some ⟨D1, 0, none⟩ else if i = j then some ⟨D0, 0, none⟩ else d i) := by
  have HR := hid6 (pRoom h 2 (by omega) (by omega))
  have HH := hid6 h
  have H1 := hid6 h1
  have H3 := hid6 h3
  clear h h1 h3
  go_enter Tryz.func28, Tryz.ntmps28
  go_wp2_with fail
  refine Calls.mono HR.out ?_
  rintro e w1 ⟨rfl, M1⟩
  have HM1 := hid6 M1
  have HH1 := hid6 (HH.out.new M1)
  have hPl := HH1.out.lt
  clear M1 HH HR
  go_wp2_with fail
  have M5 : Mod (fun _ => False) w1 ((w1.alloc (.cells #[.slice none 0 0, .bool true, .bool true] 133)).alloc (.cells #[.iface 135 (.agg #[.pointer (some ⟨w1.heap.size, 0, none⟩)]), .int .i64 0] 73)) := ((Mod.refl _ _).alloc _).alloc _
  have k0 : ((w1.alloc (.cells #[.slice none 0 0, .bool true, .bool true] 133)).alloc (.cells #[.iface 135 (.agg #[.pointer (some ⟨w1.heap.size, 0, none⟩)]), .int .i64 0] 73)).cell? ⟨w1.heap.size + 1, 0, none⟩ = some (.iface 135 (.agg #[.pointer (some ⟨w1.heap.size, 0, none⟩)])) := by simp [go_sem]
  have k1 : ((w1.alloc (.cells #[.slice none 0 0, .bool true, .bool true] 133)).alloc (.cells #[.iface 135 (.agg #[.pointer (some ⟨w1.heap.size, 0, none⟩)]), .int .i64 0] 73)).cell? ⟨w1.heap.size + 1, 1, none⟩ = some (.int .i64 0) := by simp [go_sem]
  have kf : ∀ o, ((w1.alloc (.cells #[.slice none 0 0, .bool true, .bool true] 133)).alloc (.cells #[.iface 135 (.agg #[.pointer (some ⟨w1.heap.size, 0, none⟩)]), .int .i64 0] 73)).frozen? ⟨w1.heap.size + 1, o, none⟩ = false := fun o => by simp [go_sem]
  have kq : PiAt ((w1.alloc (.cells #[.slice none 0 0, .bool true, .bool true] 133)).alloc (.cells #[.iface 135 (.agg #[.pointer (some ⟨w1.heap.size, 0, none⟩)]), .int .i64 0] 73)) w1.heap.size (.slice none 0 0) true true := ⟨by simp [go_sem], by simp [go_sem], by simp [go_sem], fun o => by simp [go_sem]⟩
  have HE := hid6 (low_end HH1.out j (by omega) M5 k0 k1 kf (by omega))
  have HLo := hid6 (pLowest (HH1.out.new M5) j (w1.heap.size + 1) (by omega) h0 H1.out (by omega) k1 kf)
  have HKq := hid6 kq
  clear k0 k1 kf M5 kq
  refine Calls.mono HLo.out ?_
  rintro e w7 ⟨rfl, hw7⟩
  have HF7 := hid6 (show Mod (fun x => x = P) w1 w7 ∧ PAt w7 P fb u g ga gc um cw (fun i => if i = j then some ⟨w1.heap.size + 1, 0, none⟩ else d i) ∧ DAt w7 (w1.heap.size + 1) (.iface 135 (.agg #[.pointer (some ⟨w1.heap.size, 0, none⟩)])) 1 ∧ PiAt w7 w1.heap.size (.slice none 0 0) true true from by
    rw [hw7]
    exact ⟨HE.out.2.2.1, HE.out.1, HE.out.2.1, HKq.out.mod HE.out.2.2.2 (fun e => by rcases e with e | e <;> omega)⟩)
  clear hw7 HE HLo HH1 HKq
  go_wp2_with fail
  have hPl7 := HF7.out.2.1.lt
  have hD7 := HF7.out.2.2.1.lt
  have M8 : Mod (fun _ => False) w7 (w7.alloc (.cells #[.iface 136 (.agg #[.pointer (some ⟨w1.heap.size, 0, none⟩)]), .int .i64 0] 73)) := (Mod.refl _ _).alloc _
  have k0 : (w7.alloc (.cells #[.iface 136 (.agg #[.pointer (some ⟨w1.heap.size, 0, none⟩)]), .int .i64 0] 73)).cell? ⟨w7.heap.size, 0, none⟩ = some (.iface 136 (.agg #[.pointer (some ⟨w1.heap.size, 0, none⟩)])) := by simp [go_sem]
  have k1 : (w7.alloc (.cells #[.iface 136 (.agg #[.pointer (some ⟨w1.heap.size, 0, none⟩)]), .int .i64 0] 73)).cell? ⟨w7.heap.size, 1, none⟩ = some (.int .i64 0) := by simp [go_sem]
  have kf : ∀ o, (w7.alloc (.cells #[.iface 136 (.agg #[.pointer (some ⟨w1.heap.size, 0, none⟩)]), .int .i64 0] 73)).frozen? ⟨w7.heap.size, o, none⟩ = false := fun o => by simp [go_sem]
  have HE := hid6 (low_end HF7.out.2.1 i2 hj2 M8 k0 k1 kf (Nat.le_refl _))
  have HLo := hid6 (pLowest (HF7.out.2.1.new M8) i2 w7.heap.size hj2 (by rw [if_neg (by omega)]; exact h2) (fun i hi => by
    by_cases e : i = j
    · exact ⟨w1.heap.size + 1, by rw [if_pos e]⟩
    · rw [if_neg e]; exact H3.out i hi e) (by omega) k1 kf)
  have HM8 := hid6 M8
  clear k0 k1 kf M8
  refine Calls.mono HLo.out ?_
  rintro e w9 ⟨rfl, hw9⟩
  have HF9 := hid6 (show Mod (fun x => x = P) w w9 ∧ ∃ q D0 D1, w.heap.size ≤ q ∧ q < D0 ∧ D0 < D1 ∧ D1 < w9.heap.size ∧ PiAt w9 q (.slice none 0 0) true true ∧ DAt w9 D0 (.iface 135 (.agg #[.pointer (some ⟨q, 0, none⟩)])) 1 ∧ DAt w9 D1 (.iface 136 (.agg #[.pointer (some ⟨q, 0, none⟩)])) 1 ∧ PAt w9 P fb u g ga gc um cw (fun i => if i = i2 then some ⟨D1, 0, none⟩ else if i = j then some ⟨D0, 0, none⟩ else d i) from by
    rw [hw9]
    have hs1 := HM1.out.size
    have hm : Mod (fun x => x = P ∨ x = w7.heap.size) w7 _ := (HM8.out.mono (fun _ _ e => e.elim)).trans HE.out.2.2.2
    exact ⟨((HM1.out.mono (fun _ _ e => e.elim)).trans HF7.out.1).trans HE.out.2.2.1, w1.heap.size, w1.heap.size + 1, w7.heap.size, hs1, by omega, hD7, HE.out.2.1.lt, HF7.out.2.2.2.mod hm (fun e => by rcases e with e | e <;> omega), HF7.out.2.2.1.mod hm (fun e => by rcases e with e | e <;> omega), HE.out.2.1, HE.out.1⟩)
  clear hw9 HE HLo HM8 HF7 HM1
  go_wp2
  go_ret3
  exact ⟨rfl, HF9.out⟩
/-- lowest, of a description that some lead to. -/
theorem pLowestN (h : PAt w P fb u g ga gc um cw d) (j D : Nat) (hj : j < 16) (h0 : d j = none) (h1 : ∀ i, i < j → ∃ B : Nat, d i = some ⟨B, 0, none⟩) (hDP : D ≠ P) (n : Int) (hn : 0 ≤ n ∧ n < 100) (hD : w.cell? ⟨D, 1, none⟩ = some (.int .i64 n)) (hf : ∀ o, w.frozen? ⟨D, o, none⟩ = false) :
    Calls Tryz.prog 24 #[.pointer (some ⟨P, 0, none⟩), .pointer (some ⟨D, 0, none⟩)] w fun e w' => e = .returned (.int .i64 j) ∧ w' = (w.setCell ⟨P, 6 + j, none⟩ (.pointer (some ⟨D, 0, none⟩))).setCell ⟨D, 1, none⟩ (.int .i64 (n + 1)) := by
  have HI := hid6 (sIndexFd h j hj h0 h1)
  have HA := hid6 (pAttach h j D hj hDP n hn hD hf)
  have c0 := h.fd 0 (by omega)
  clear h h1 h0
  go_enter Tryz.func24, Tryz.ntmps24
  go_wp2_with (first | (go_at_call 59; refine Calls.mono HI.out ?_; rintro e w3 ⟨rfl, hw3⟩; rw [hw3]; clear hw3 w3))
  refine Calls.mono HA.out ?_
  rintro e w1 ⟨rfl, hw1⟩
  rw [hw1]
  clear hw1 w1
  go_wp2
  go_ret
  exact ⟨rfl, rfl⟩
theorem DAt.count {w : World} {D : Nat} {v : Value} {n : Int} (h : DAt w D v n) (m : Int) : DAt (w.setCell ⟨D, 1, none⟩ (.int .i64 m)) D v m where
  c0 := (setCell_out _ _ _ _ _ (fun _ e => by cases e)).trans h.c0
  c1 := World.cell?_setCell_same _ _ _ h.c1
  fr := fun o => by have := h.fr o; simp [go_sem, this]
set_option maxRecDepth 100000 in
set_option maxHeartbeats 2000000 in
theorem pDup (h : PAt w P fb u g ga gc um cw d) (k D : Nat) (hk : k < 16) (hd : d k = some ⟨D, 0, none⟩) (v : Value) (n : Int) (hn : 0 ≤ n ∧ n < 100) (hD : DAt w D v n) (hDP : D ≠ P) (j : Nat) (hj : j < 16) (h0 : d j = none) (h1 : ∀ i, i < j → ∃ B : Nat, d i = some ⟨B, 0, none⟩) (hr : fdN d + 1 ≤ 16) :
    Calls Tryz.prog 7 #[.pointer (some ⟨P, 0, none⟩), .int .i64 k] w fun e w' => e = .returned (.tuple #[.int .i64 j, .int .i64 0]) ∧ PAt w' P fb u g ga gc um cw (fun i => if i = j then some ⟨D, 0, none⟩ else d i) ∧ DAt w' D v (n + 1) ∧ Mod (fun x => x = P ∨ x = D) w w' := by
  have HL := hid6 (pLead h k D hk hd)
  have HR := hid6 (pRoom h 1 (by omega) (by omega))
  have HH := hid6 h
  have H1 := hid6 h1
  have HD := hid6 hD
  clear h h1 hD hd
  go_enter Tryz.func7, Tryz.ntmps7
  go_wp2_with (first | (go_at_call 25; refine Calls.mono HL.out ?_; rintro e w3 ⟨rfl, hw3⟩; rw [hw3]; clear hw3 w3))
  refine Calls.mono HR.out ?_
  rintro e w1 ⟨rfl, M1⟩
  have HM1 := hid6 M1
  have HH1 := hid6 (HH.out.new M1)
  have HD1 := hid6 (HD.out.mod M1 (fun e => e))
  have HLo := hid6 (pLowestN HH1.out j D hj h0 H1.out hDP n hn HD1.out.c1 HD1.out.fr)
  clear M1 HR HL HH HD
  go_wp2_with fail
  refine Calls.mono HLo.out ?_
  rintro e w7 ⟨rfl, hw7⟩
  have HF := hid6 (show PAt w7 P fb u g ga gc um cw (fun i => if i = j then some ⟨D, 0, none⟩ else d i) ∧ DAt w7 D v (n + 1) ∧ Mod (fun x => x = P ∨ x = D) w w7 from by
    have m1 : Mod (fun x => x = P) w1 (w1.setCell ⟨P, 6 + j, none⟩ (.pointer (some ⟨D, 0, none⟩))) := (Mod.refl _ _).setCell _ _ rfl
    have m2 : Mod (fun x => x = D) (w1.setCell ⟨P, 6 + j, none⟩ (.pointer (some ⟨D, 0, none⟩))) ((w1.setCell ⟨P, 6 + j, none⟩ (.pointer (some ⟨D, 0, none⟩))).setCell ⟨D, 1, none⟩ (.int .i64 (n + 1))) := (Mod.refl _ _).setCell _ _ rfl
    rw [hw7]
    exact ⟨(HH1.out.set j hj _).mod m2 (fun e => hDP e.symm), (HD1.out.mod m1 hDP).count _, (HM1.out.mono (fun _ _ e => e.elim)).trans ((m1.mono (fun _ _ e => .inl e)).trans (m2.mono (fun _ _ e => .inr e)))⟩)
  clear hw7 HLo HH1 HD1 HM1 H1
  go_wp2
  go_ret2
  exact ⟨rfl, HF.out⟩
/-- A pipe's write end is gone. -/
theorem PiAt.shut {w : World} {q : Nat} {v : Value} {rd wr : Bool} (h : PiAt w q v rd wr) (x : Bool) : PiAt (w.setCell ⟨q, 2, none⟩ (.bool x)) q v rd x where
  c0 := (setCell_out _ _ _ _ _ (fun _ e => by cases e)).trans h.c0
  c1 := (setCell_out _ _ _ _ _ (fun _ e => by cases e)).trans h.c1
  c2 := World.cell?_setCell_same _ _ _ h.c2
  fr := fun o => by have := h.fr o; simp [go_sem, this]
set_option maxRecDepth 100000 in
set_option maxHeartbeats 2000000 in
/-- Read of a number that leads to a read end. -/
theorem pReadE (h : PAt w P fb u g ga gc um cw d) (j D q : Nat) (hj : j < 16) (hd : d j = some ⟨D, 0, none⟩) (cn n : Int) (hD : DAt w D (.iface 135 (.agg #[.pointer (some ⟨q, 0, none⟩)])) cn) (R : Option Addr → Nat → Nat → World → Prop)
    (hR : Calls Tryz.prog 199 #[.agg #[.pointer (some ⟨q, 0, none⟩)], .int .i64 n] w fun e w' => ∃ a l c, e = .returned (.tuple #[.slice a l c, .int .i64 0]) ∧ R a l c w') :
    Calls Tryz.prog 10 #[.pointer (some ⟨P, 0, none⟩), .int .i64 j, .int .i64 n] w fun e w' => ∃ a l c, e = .returned (.tuple #[.slice a l c, .int .i64 0]) ∧ R a l c w' := by
  have HL := hid6 (pLead h j D hj hd)
  have c0 := hD.c0
  have HR := hid6 hR
  clear h hD hd hR
  go_enter Tryz.func10, Tryz.ntmps10
  go_wp2_with (first | (go_at_call 25; refine Calls.mono HL.out ?_; rintro e w3 ⟨rfl, hw3⟩; rw [hw3]; clear hw3 w3))
  refine Calls.mono HR.out ?_
  rintro e w1 ⟨a, l, c, rfl, r1⟩
  have HK := hid6 r1
  clear r1
  go_wp2
  go_ret2
  exact ⟨a, l, c, rfl, HK.out⟩
set_option maxRecDepth 100000 in
set_option maxHeartbeats 2000000 in
/-- Write of a number that leads to a write end. -/
theorem pWriteE (h : PAt w P fb u g ga gc um cw d) (j D q : Nat) (hj : j < 16) (hd : d j = some ⟨D, 0, none⟩) (cn : Int) (hD : DAt w D (.iface 136 (.agg #[.pointer (some ⟨q, 0, none⟩)])) cn) (a : Option Addr) (l c : Nat) (r : Int) (R : World → Prop)
    (hR : Calls Tryz.prog 205 #[.agg #[.pointer (some ⟨q, 0, none⟩)], .slice a l c] w fun e w' => e = .returned (.tuple #[.int .i64 r, .int .i64 0]) ∧ R w') :
    Calls Tryz.prog 9 #[.pointer (some ⟨P, 0, none⟩), .int .i64 j, .slice a l c] w fun e w' => e = .returned (.tuple #[.int .i64 r, .int .i64 0]) ∧ R w' := by
  have HL := hid6 (pLead h j D hj hd)
  have c0 := hD.c0
  have HR := hid6 hR
  clear h hD hd hR
  go_enter Tryz.func9, Tryz.ntmps9
  go_wp2_with (first | (go_at_call 25; refine Calls.mono HL.out ?_; rintro e w3 ⟨rfl, hw3⟩; rw [hw3]; clear hw3 w3))
  refine Calls.mono HR.out ?_
  rintro e w1 ⟨rfl, r1⟩
  have HK := hid6 r1
  clear r1
  go_wp2
  go_ret2
  exact ⟨rfl, HK.out⟩
end
end Go.Proofs.YtpcbpikhiooafaaGreatDoor
