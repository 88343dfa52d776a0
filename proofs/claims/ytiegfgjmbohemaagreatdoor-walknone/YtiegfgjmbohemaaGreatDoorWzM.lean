/- WalkNone, walked: for whatever way and path the statement's function answers true and changes nothing. Conditions: the listed tables; the roots are a row of texts. Seat of WalkNone. -/
import Derived.Test.YtiegfgjmbohemaaGreatDoorWzRa
import Derived.Test.YtiegfgjmbohemaaGreatDoorWzRb
import Derived.Test.YtiegfgjmbohemaaGreatDoorWzRc
import Derived.Test.YtiegfgjmbohemaaGreatDoorWzRd
import Derived.Test.YtiegfgjmbohemaaGreatDoorWzRe
namespace Go.Proofs.YtiegfgjmbohemaaGreatDoor
open Go.ChangeShapes Go.WideShapes Go.ChangeAt Go.RowKit
open Ev
def One1 (r : Value) : Prop := (∀ a, r ≠ .agg a) ∧ ∀ a, r ≠ .tuple a
theorem wz_all (n : Nat) (h1 : 1 ≤ n) (h2 : n ≤ 40) (f d sk p : Value) (s : Nat → Value) (c : Nat) : callA Tryz.prog xA 5 hint 100000 3 (wzArgs (.opq f) (.opq d) (.slice 5 0 n (.k (Nat.succ c))) (.opq sk) (.opq p)) (hN s n) says5 = .ok := by
  obtain rfl | rfl | rfl | rfl | rfl | rfl | rfl | rfl | rfl | rfl | rfl | rfl | rfl | rfl | rfl | rfl | rfl | rfl | rfl | rfl | rfl | rfl | rfl | rfl | rfl | rfl | rfl | rfl | rfl | rfl | rfl | rfl | rfl | rfl | rfl | rfl | rfl | rfl | rfl | rfl := (by omega : n = 1 ∨ n = 2 ∨ n = 3 ∨ n = 4 ∨ n = 5 ∨ n = 6 ∨ n = 7 ∨ n = 8 ∨ n = 9 ∨ n = 10 ∨ n = 11 ∨ n = 12 ∨ n = 13 ∨ n = 14 ∨ n = 15 ∨ n = 16 ∨ n = 17 ∨ n = 18 ∨ n = 19 ∨ n = 20 ∨ n = 21 ∨ n = 22 ∨ n = 23 ∨ n = 24 ∨ n = 25 ∨ n = 26 ∨ n = 27 ∨ n = 28 ∨ n = 29 ∨ n = 30 ∨ n = 31 ∨ n = 32 ∨ n = 33 ∨ n = 34 ∨ n = 35 ∨ n = 36 ∨ n = 37 ∨ n = 38 ∨ n = 39 ∨ n = 40)
  · exact wz_1 f d sk p s c
  · exact wz_2 f d sk p s c
  · exact wz_3 f d sk p s c
  · exact wz_4 f d sk p s c
  · exact wz_5 f d sk p s c
  · exact wz_6 f d sk p s c
  · exact wz_7 f d sk p s c
  · exact wz_8 f d sk p s c
  · exact wz_9 f d sk p s c
  · exact wz_10 f d sk p s c
  · exact wz_11 f d sk p s c
  · exact wz_12 f d sk p s c
  · exact wz_13 f d sk p s c
  · exact wz_14 f d sk p s c
  · exact wz_15 f d sk p s c
  · exact wz_16 f d sk p s c
  · exact wz_17 f d sk p s c
  · exact wz_18 f d sk p s c
  · exact wz_19 f d sk p s c
  · exact wz_20 f d sk p s c
  · exact wz_21 f d sk p s c
  · exact wz_22 f d sk p s c
  · exact wz_23 f d sk p s c
  · exact wz_24 f d sk p s c
  · exact wz_25 f d sk p s c
  · exact wz_26 f d sk p s c
  · exact wz_27 f d sk p s c
  · exact wz_28 f d sk p s c
  · exact wz_29 f d sk p s c
  · exact wz_30 f d sk p s c
  · exact wz_31 f d sk p s c
  · exact wz_32 f d sk p s c
  · exact wz_33 f d sk p s c
  · exact wz_34 f d sk p s c
  · exact wz_35 f d sk p s c
  · exact wz_36 f d sk p s c
  · exact wz_37 f d sk p s c
  · exact wz_38 f d sk p s c
  · exact wz_39 f d sk p s c
  · exact wz_40 f d sk p s c
theorem true_of {v : V} {H : Hp} {rd wr : Nat} (h : saysTrue v H rd wr = .ok) : v = .bool true := by
  unfold saysTrue at h
  split at h
  · rfl
  · cases h
theorem true_of5 {v : V} {H : Hp} {rd wr : Nat} (h : says5 v H rd wr = .ok) : v = .bool true ∧ ¬ On wr 5 := by
  unfold says5 at h
  split at h
  · refine ⟨rfl, fun hon => ?_⟩
    rw [show wr.testBit 5 = true from hon] at h
    cases h
  · cases h
theorem vrs {ρ : Env} {f d R sk p : Value} {r : V} (hf : One1 f) (hd : One1 d) (hs : One1 sk) (hp : One1 p) (hr : VR ρ r R) : VRs ρ (wzArgs (.opq f) (.opq d) r (.opq sk) (.opq p)) [.agg #[f, d, R, sk], p] :=
  ⟨_, _, rfl, ⟨_, rfl, _, _, rfl, ⟨rfl, hf⟩, _, _, rfl, ⟨rfl, hd⟩, _, _, rfl, hr, _, _, rfl, ⟨rfl, hs⟩, rfl⟩, _, _, rfl, ⟨rfl, hp⟩, rfl⟩
theorem lk_get {s : Nat → Value} : ∀ {n i : Nat} {v : V}, (lk s n).get i = some v → v = .opq (s i)
  | 0, i, v, h => by
    have h' : (Tr.nil : Tr V).get i = some v := h
    rw [get_nil] at h'; cases h'
  | n + 1, i, v, h => by
    have h' : ((lk s n).put n (.opq (s n))).get i = some v := h
    rcases get_put h' with ⟨rfl, e⟩ | ⟨_, h''⟩
    · exact e.symm
    · exact lk_get h''
/-- Where the roots lead to a row that is there. -/
theorem st5 {W : World} (hL : laidMetH Tryz.prog laidL W) (hS : W.ShapedOpen Tryz.prog) {b o n : Nat} {s : Nat → Value} (hn : 1 ≤ n) (hc : ∀ j, j < n → W.cell? ⟨b, o + j, none⟩ = some (s j)) (ht : ∀ j, ∃ t, s j = .string t) :
    St 5 (fun _ => True) (fun x => if x = 5 then some ⟨b, o, 0⟩ else rho0 x) (hN s n) W := by
  have hst0 := st0 hL hS
  obtain ⟨hD, hP⟩ := of_laid hL
  obtain ⟨c0, a0, b0⟩ := at_shape hS (g := 1) (by decide +kernel) (by kernel_rfl)
  obtain ⟨c3, a3, b3⟩ := at_shape hS (g := 3) (by decide +kernel) (by kernel_rfl)
  rw [show (row0 1).1.size = 256 by kernel_rfl] at b0
  rw [show (row0 3).1.size = 64 by kernel_rfl] at b3
  have hc0 : W.cell? ⟨b, o, none⟩ = some (s 0) := hc 0 (by omega)
  obtain ⟨t0, ht0⟩ := ht 0
  obtain ⟨cc, el, fz, hb⟩ : ∃ cc el fz, W.heap[b]? = some (.cells cc el fz) := by
    cases h : W.heap[b]? with
    | none => simp [World.cell?, h] at hc0
    | some ob => cases ob with
      | cells cc el fz => exact ⟨cc, el, fz, rfl⟩
      | _ => simp [World.cell?, h] at hc0
  have hlt : b < W.heap.size := (Array.getElem?_eq_some_iff.1 hb).1
  have hne1 : b ≠ 1 := fun e => by
    subst e
    rw [a0] at hb
    injection hb with hb
    injection hb with hb1 hb2 hb3
    subst hb1
    have hc' := hc0
    rw [cell_of a0] at hc'
    have ho : o < 256 := by
      rw [← b0]
      exact (Array.getElem?_eq_some_iff.1 hc').1
    have := hP o ho
    rw [cell_of a0, hc', ht0] at this
    injection this with this
    cases this
  have hne3 : b ≠ 3 := fun e => by
    subst e
    rw [a3] at hb
    injection hb with hb
    injection hb with hb1 hb2 hb3
    subst hb1
    have hc' := hc0
    rw [cell_of a3] at hc'
    have ho : o < 64 := by
      rw [← b3]
      exact (Array.getElem?_eq_some_iff.1 hc').1
    have := hD o ho
    rw [cell_of a3, hc', ht0] at this
    injection this with this
    cases this
  have hget : ∀ x ob, (hN s n).tr.get x = some ob → (x = 5 ∧ ob = .look n (lk s n)) ∨ (x ≠ 5 ∧ h0.tr.get x = some ob) := fun x ob h => by
    have h : (h0.tr.put 5 (.look n (lk s n))).get x = some ob := h
    rcases get_put h with ⟨e1, e2⟩ | h
    · exact .inl ⟨e1, e2.symm⟩
    · exact .inr h
  have htab : ∀ x ob, Go.Proofs.YtiegfgjmbohemaaGreatDoor.h0.tr.get x = some ob → x = 1 ∨ x = 3 := fun x ob h => by
    have h : ((((Tr.nil : Tr O).put 3 ob3).put 1 ob0)).get x = some ob := by rw [h0_is] at h; exact h
    rcases get_put h with ⟨e1, e2⟩ | ⟨_, h⟩
    · exact .inl e1
    · rcases get_put h with ⟨e1, e2⟩ | ⟨_, h⟩
      · exact .inr e1
      · rw [get_nil] at h; cases h
  have hrho : ∀ x, x = 1 ∨ x = 3 → rho0 x = some ⟨x, 0, 0⟩ := fun x hx => by
    unfold rho0
    rw [if_pos (by omega)]
  refine ⟨fun x ob _ h => ?_, fun x y ob ob' k k' _ _ hx hy hk hk' e => ?_, fun g hg => ?_, fun x k h => ?_⟩
  · rcases hget x ob h with ⟨rfl, rfl⟩ | ⟨hne, h⟩
    · refine ⟨⟨b, o, 0⟩, _, by rw [if_pos rfl], hb, cc, el, fz, rfl, fun i v hi hv => ?_⟩
      have hv' : (lk s n).get i = some v := by rw [rget_no] at hv; exact hv
      have := lk_get hv'
      subst this
      have hci := hc i hi
      rw [cell_of hb] at hci
      obtain ⟨t, hts⟩ := ht i
      exact ⟨s i, hci, rfl, fun a h => (by rw [hts] at h; cases h), fun a h => (by rw [hts] at h; cases h)⟩
    · obtain ⟨k, ob2, e1, e2, e3⟩ := hst0.sat x ob trivial h
      obtain ⟨_, _, hpl⟩ := h0_tabs x ob h
      exact ⟨k, ob2, by rw [if_neg hne]; exact e1, e2, e3.plain hpl⟩
  · rcases hget x ob hx with ⟨rfl, rfl⟩ | ⟨hnx, hx⟩ <;> rcases hget y ob' hy with ⟨rfl, rfl⟩ | ⟨hny, hy⟩
    · rfl
    · rw [if_pos rfl] at hk
      rw [if_neg hny, hrho y (htab y ob' hy)] at hk'
      injection hk with hk
      injection hk' with hk'
      subst hk hk'
      have e' : b = y := e
      rcases htab y ob' hy with h | h
      · exact absurd (e'.trans h) hne1
      · exact absurd (e'.trans h) hne3
    · rw [if_pos rfl] at hk'
      rw [if_neg hnx, hrho x (htab x ob hx)] at hk
      injection hk with hk
      injection hk' with hk'
      subst hk hk'
      have e' : x = b := e
      rcases htab x ob hx with h | h
      · exact absurd (e'.symm.trans h) hne1
      · exact absurd (e'.symm.trans h) hne3
    · rw [if_neg hnx] at hk
      rw [if_neg hny] at hk'
      exact hst0.inj x y ob ob' k k' trivial trivial hx hy hk hk' e
  · obtain ⟨K, hK⟩ := hst0.glob g hg
    exact ⟨K, by rw [if_neg (by omega)]; exact hK⟩
  · by_cases hx : x = 5
    · rw [if_pos hx] at h
      injection h with h
      subst h
      exact hlt
    · rw [if_neg hx] at h
      exact hst0.low x k h
theorem far {x : Nat} (hx : 15 ≤ x) : rho0 x = none := by
  unfold rho0
  rw [if_neg (by omega)]
/-- The roots: none, or a row of texts. -/
def Roots (W : World) (R : Value) : Prop := R = .slice none 0 0 ∨ (∃ a c, R = .slice (some a) 0 c) ∨ ∃ (b o n c : Nat) (s : Nat → Value), R = .slice (some ⟨b, o, none⟩) n c ∧ 1 ≤ n ∧ n ≤ c ∧ b < W.heap.size ∧ (∀ j, j < n → W.cell? ⟨b, o + j, none⟩ = some (s j)) ∧ ∀ j, ∃ t, s j = .string t
theorem none_walk (f d R sk p : Value) (hf : One1 f) (hd : One1 d) (hs : One1 sk) (hp : One1 p) (W : World) (hR : Roots W R) (hL : laidMetH Tryz.prog laidL W) (hS : W.ShapedOpen Tryz.prog) : Calls Tryz.prog 3 #[.agg #[f, d, R, sk], p] W fun e w' => e = .returned (.bool true) ∧ Below W.heap.size W w' := by
  have fin : ∀ {v : V} {H' : Hp} {wr' : Nat} {ρ' : Env} {ρ : Env} {e : Ending} {w' : World} {r : Value}, v = .bool true → e = .returned r → VR ρ' v r → (∀ x, x ≠ 5 → 5 ≤ x → ρ x = none) → Goes 5 (fun _ => True) ρ h0 W wr' ρ' H' w' → e = .returned (.bool true) ∧ Below W.heap.size W w' := by
    intro v H' wr' ρ' ρ e w' r hv he hr hρ a2
    subst hv he
    refine ⟨by rw [show r = .bool true from hr], a2.rest.1, a2.rest.2.1, a2.rest.2.2, a2.size, fun b hb => a2.same b hb fun x o k hon hg hk e => ?_⟩
    have hG := (a2.own x hon).2
    have h5 := (h0_tabs x o hg).1
    omega
  rcases hR with rfl | ⟨a, c, rfl⟩ | ⟨b, o, n, c, s, rfl, h1, h2, hb, hc, ht⟩
  · obtain ⟨v, H', rd', wr', e1, e2⟩ := callA_ok xA_ok Tryz.checked.mixed (wz_nils f d sk p)
    refine (e2 rho0 W #[.agg #[f, d, .slice none 0 0, sk], p] (vrs hf hd hs hp rfl) (st0 hL hS) (fun x hx => far hx) (by show 5 ≤ 15; omega)).mono ?_
    rintro e w' ⟨r, ρ', he, a1, a2⟩
    exact fin (true_of e1) he a1 (fun x h _ => by unfold rho0; rw [if_neg (by omega)]) a2
  · obtain ⟨v, H', rd', wr', e1, e2⟩ := callA_ok xA_ok Tryz.checked.mixed (wz_mt f d sk p)
    refine (e2 rho0 W #[.agg #[f, d, .slice (some a) 0 c, sk], p] (vrs hf hd hs hp ⟨a, c, rfl⟩) (st0 hL hS) (fun x hx => far hx) (by show 5 ≤ 15; omega)).mono ?_
    rintro e w' ⟨r, ρ', he, a1, a2⟩
    exact fin (true_of e1) he a1 (fun x h _ => by unfold rho0; rw [if_neg (by omega)]) a2
  · have hfar : ∀ x, 15 ≤ x → (fun x => if x = 5 then some (⟨b, o, 0⟩ : Blk) else rho0 x) x = none := fun x hx => by
      show (if x = 5 then some (⟨b, o, 0⟩ : Blk) else rho0 x) = none
      rw [if_neg (by omega), far hx]
    by_cases hn : n ≤ 40
    · obtain ⟨c', rfl⟩ : ∃ c', c = Nat.succ c' := ⟨c - 1, by omega⟩
      obtain ⟨v, H', rd', wr', e1, e2⟩ := callA_ok xA_ok Tryz.checked.mixed (wz_all n h1 hn f d sk p s c')
      obtain ⟨hv, h5⟩ := true_of5 e1
      refine (e2 (fun x => if x = 5 then some ⟨b, o, 0⟩ else rho0 x) W #[.agg #[f, d, .slice (some ⟨b, o, none⟩) n (Nat.succ c'), sk], p] (vrs hf hd hs hp ⟨⟨b, o, 0⟩, if_pos rfl, rfl⟩) (st5 hL hS h1 hc ht) (fun x hx => hfar x hx) (by show 5 ≤ 15; omega)).mono ?_
      rintro e w' ⟨r, ρ', he, a1, a2⟩
      subst hv he
      refine ⟨by rw [show r = .bool true from a1], a2.rest.1, a2.rest.2.1, a2.rest.2.2, a2.size, fun b hb => a2.same b hb fun x o k hon hg hk e => ?_⟩
      have hG := (a2.own x hon).2
      have hg1 : (h0.tr.put 5 (.look n (lk s n))).get x = some o := hg
      rcases get_put hg1 with ⟨e1, _⟩ | ⟨_, hg⟩
      · subst e1; exact h5 hon
      · have h5 := (h0_tabs x o hg).1
        omega
    · obtain ⟨m, rfl⟩ : ∃ m, n = Nat.add m 41 := ⟨n - 41, by show n = n - 41 + 41; omega⟩
      obtain ⟨v, H', rd', wr', e1, e2⟩ := callA_ok xA_ok Tryz.checked.mixed (wz_many f d sk p m c)
      have hst : St 5 (fun _ => True) (fun x => if x = 5 then some ⟨b, o, 0⟩ else rho0 x) h0 W := by
        have h := st0 hL hS
        have hlt : ∀ x ob, h0.tr.get x = some ob → x ≠ 5 := fun x ob hx => by have := (h0_tabs x ob hx).1; omega
        refine ⟨fun x ob _ hg => ?_, fun x y ob ob' k k' _ _ hx hy hk hk' e => ?_, fun g hg => ?_, fun x k hk => ?_⟩
        · obtain ⟨k, ob2, q1, q2, q3⟩ := h.sat x ob trivial hg
          exact ⟨k, ob2, by rw [if_neg (hlt x ob hg)]; exact q1, q2, q3.plain (h0_tabs x ob hg).2.2⟩
        · rw [if_neg (hlt x ob hx)] at hk
          rw [if_neg (hlt y ob' hy)] at hk'
          exact h.inj x y ob ob' k k' trivial trivial hx hy hk hk' e
        · obtain ⟨K, hK⟩ := h.glob g hg
          exact ⟨K, by rw [if_neg (by omega)]; exact hK⟩
        · by_cases hx : x = 5
          · rw [if_pos hx] at hk
            injection hk with hk
            subst hk
            exact hb
          · rw [if_neg hx] at hk
            exact h.low x k hk
      refine (e2 (fun x => if x = 5 then some ⟨b, o, 0⟩ else rho0 x) W #[.agg #[f, d, .slice (some ⟨b, o, none⟩) (Nat.add m 41) c, sk], p] (vrs hf hd hs hp ⟨⟨b, o, 0⟩, if_pos rfl, rfl⟩) hst (fun x hx => hfar x hx) (by show 5 ≤ 15; omega)).mono ?_
      rintro e w' ⟨r, ρ', he, a1, a2⟩
      exact fin (true_of e1) he a1 (fun x h h' => by rw [if_neg h]; unfold rho0; rw [if_neg (by omega)]) a2
end Go.Proofs.YtiegfgjmbohemaaGreatDoor
