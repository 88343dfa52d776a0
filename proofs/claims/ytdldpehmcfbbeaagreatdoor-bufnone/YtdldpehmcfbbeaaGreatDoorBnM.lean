/- BufNone, walked: for whatever bytes and number the statement's function answers true and changes nothing. Conditions: the listed tables; the bytes are a row that can be read. Seat of BufNone. -/
import Derived.Test.YtdldpehmcfbbeaaGreatDoorBnRa
import Derived.Test.YtdldpehmcfbbeaaGreatDoorBnRb
import Derived.Test.YtdldpehmcfbbeaaGreatDoorBnRc
namespace Go.Proofs.YtdldpehmcfbbeaaGreatDoor
open Go.ChangeShapes Go.WideShapes Go.ChangeAt Go.RowKit
open Ev
def One1 (r : Value) : Prop := (∀ a, r ≠ .agg a) ∧ ∀ a, r ≠ .tuple a
theorem all_of {j L : Nat} {H : Hp} {fd : Value} {n : Nat} (hs : ∀ n, 1 ≤ n → n ≤ 63 → runB j n L H fd = .ok) (hb : ∀ m, runB j (Nat.add m 64) L H fd = .ok) (h1 : 1 ≤ n) : runB j n L H fd = .ok := by
  rcases Nat.lt_or_ge 63 n with h | h
  · have := hb (n - 64)
    rwa [show Nat.add (n - 64) 64 = n by show n - 64 + 64 = n; omega] at this
  · exact hs n h1 h
theorem a_of {fd : Value} {n : Nat} (h1 : 1 ≤ n) : runB 5 n n hA fd = .ok := by
  rcases Nat.lt_or_ge 63 n with h | h
  · have := ba_big (n - 64) fd
    rwa [show Nat.add (n - 64) 64 = n by show n - 64 + 64 = n; omega] at this
  · exact ba_all n h1 h fd
theorem true_of {v : V} {H : Hp} {rd wr : Nat} (h : saysTrue v H rd wr = .ok) : v = .bool true := by
  unfold saysTrue at h
  split at h
  · rfl
  · cases h
theorem true_of5 {v : V} {H : Hp} {rd wr : Nat} (h : says5 v H rd wr = .ok) : v = .bool true ∧ ¬ On wr 5 := by
  unfold says5 at h
  split at h
  · refine ⟨rfl, fun hon => ?_⟩
    rw [show wr.testBit 5 = true from hon] at h
    cases h
  · cases h
theorem vrs {ρ : Env} {R fd : Value} {r : V} (hf : One1 fd) (hr : VR ρ r R) : VRs ρ [r, .opq fd] [R, fd] := ⟨_, _, rfl, hr, _, _, rfl, ⟨rfl, hf⟩, rfl⟩
/-- Where the bytes stand in a block that is no table's. -/
theorem st5 {W : World} (hL : laidMetH Tryz.prog laidL W) (hS : W.ShapedOpen Tryz.prog) {b o n : Nat} (hn : 1 ≤ n) (hne1 : b ≠ 1) (hne3 : b ≠ 3) (hc : ∀ j, j < n → ∃ z, W.cell? ⟨b, o + j, none⟩ = some (.int .u8 z)) :
    St 5 (fun _ => True) (fun x => if x = 5 then some ⟨b, o, n⟩ else rho0 x) hA W := by
  have hst0 := st0 hL hS
  obtain ⟨z0, hc0⟩ := hc 0 (by omega)
  obtain ⟨cc, el, fz, hb⟩ : ∃ cc el fz, W.heap[b]? = some (.cells cc el fz) := by
    cases h : W.heap[b]? with
    | none => simp [World.cell?, h] at hc0
    | some ob => cases ob with
      | cells cc el fz => exact ⟨cc, el, fz, rfl⟩
      | _ => simp [World.cell?, h] at hc0
  have hlt : b < W.heap.size := (Array.getElem?_eq_some_iff.1 hb).1
  have hget : ∀ x ob, hA.tr.get x = some ob → (x = 5 ∧ ob = .ones) ∨ (x ≠ 5 ∧ h0.tr.get x = some ob) := fun x ob h => by
    have h : (h0.tr.put 5 .ones).get x = some ob := h
    rcases get_put h with ⟨e1, e2⟩ | h
    · exact .inl ⟨e1, e2.symm⟩
    · exact .inr h
  have htab : ∀ x ob, Go.Proofs.YtdldpehmcfbbeaaGreatDoor.h0.tr.get x = some ob → x = 1 ∨ x = 3 := fun x ob h => by
    have h : ((((Tr.nil : Tr O).put 3 ob3).put 1 ob0)).get x = some ob := by rw [h0_is] at h; exact h
    rcases get_put h with ⟨e1, e2⟩ | ⟨_, h⟩
    · exact .inl e1
    · rcases get_put h with ⟨e1, e2⟩ | ⟨_, h⟩
      · exact .inr e1
      · rw [get_nil] at h; cases h
  have hrho : ∀ x, x = 1 ∨ x = 3 → rho0 x = some ⟨x, 0, 256⟩ := fun x hx => by
    unfold rho0
    rw [if_pos (by omega)]
  refine ⟨fun x ob _ h => ?_, fun x y ob ob' k k' _ _ hx hy hk hk' e => ?_, fun g hg => ?_, fun x k h => ?_⟩
  · rcases hget x ob h with ⟨rfl, rfl⟩ | ⟨hne, h⟩
    · refine ⟨⟨b, o, n⟩, _, by rw [if_pos rfl], hb, cc, el, fz, rfl, ?_, fun i r hi hr => ?_⟩
      · obtain ⟨z, hz⟩ := hc (n - 1) (by omega)
        rw [cell_of hb] at hz
        have := (Array.getElem?_eq_some_iff.1 hz).1
        show o + n ≤ cc.size
        omega
      · obtain ⟨z, hz⟩ := hc i hi
        rw [cell_of hb, show cc[o + i]? = some r from hr] at hz
        injection hz with hz
        subst hz
        exact ⟨fun _ h => (by cases h), fun _ h => (by cases h)⟩
    · obtain ⟨k, ob2, e1, e2, e3⟩ := hst0.sat x ob trivial h
      obtain ⟨_, _, hpl⟩ := h0_tabs x ob h
      exact ⟨k, ob2, by rw [if_neg hne]; exact e1, e2, e3.plain hpl⟩
  · rcases hget x ob hx with ⟨rfl, rfl⟩ | ⟨hnx, hx⟩ <;> rcases hget y ob' hy with ⟨rfl, rfl⟩ | ⟨hny, hy⟩
    · rfl
    · rw [if_pos rfl] at hk
      rw [if_neg hny, hrho y (htab y ob' hy)] at hk'
      injection hk with hk
      injection hk' with hk'
      subst hk hk'
      have e' : b = y := e
      rcases htab y ob' hy with h | h
      · exact absurd (e'.trans h) hne1
      · exact absurd (e'.trans h) hne3
    · rw [if_pos rfl] at hk'
      rw [if_neg hnx, hrho x (htab x ob hx)] at hk
      injection hk with hk
      injection hk' with hk'
      subst hk hk'
      have e' : x = b := e
      rcases htab x ob hx with h | h
      · exact absurd (e'.symm.trans h) hne1
      · exact absurd (e'.symm.trans h) hne3
    · rw [if_neg hnx] at hk
      rw [if_neg hny] at hk'
      exact hst0.inj x y ob ob' k k' trivial trivial hx hy hk hk' e
  · obtain ⟨K, hK⟩ := hst0.glob g hg
    exact ⟨K, by rw [if_neg (by omega)]; exact hK⟩
  · by_cases hx : x = 5
    · rw [if_pos hx] at h
      injection h with h
      subst h
      exact hlt
    · rw [if_neg hx] at h
      exact hst0.low x k h
theorem far {x : Nat} (hx : 15 ≤ x) : rho0 x = none := by
  unfold rho0
  rw [if_neg (by omega)]
/-- The bytes: none, or a row that can be read. -/
def Bytes (W : World) (R : Value) : Prop := R = .slice none 0 0 ∨ (∃ a c, R = .slice (some a) 0 c) ∨ ∃ (b o n c : Nat), R = .slice (some ⟨b, o, none⟩) n c ∧ 1 ≤ n ∧ n ≤ c ∧ n + 1000 ≤ 140737488355328 ∧ ∀ j, j < n → ∃ z, W.cell? ⟨b, o + j, none⟩ = some (.int .u8 z)
theorem none_walk (R fd : Value) (hf : One1 fd) (W : World) (hR : Bytes W R) (hL : laidMetH Tryz.prog laidL W) (hS : W.ShapedOpen Tryz.prog) : Calls Tryz.prog 3 #[R, fd] W fun e w' => e = .returned (.bool true) ∧ Below W.heap.size W w' := by
  have fin : ∀ {v : V} {H' : Hp} {wr' : Nat} {ρ' : Env} {ρ : Env} {e : Ending} {w' : World} {r : Value}, v = .bool true → e = .returned r → VR ρ' v r → Goes 5 (fun _ => True) ρ h0 W wr' ρ' H' w' → e = .returned (.bool true) ∧ Below W.heap.size W w' := by
    intro v H' wr' ρ' ρ e w' r hv he hr a2
    subst hv he
    refine ⟨by rw [show r = .bool true from hr], a2.rest.1, a2.rest.2.1, a2.rest.2.2, a2.size, fun b hb => a2.same b hb fun x o k hon hg hk e => ?_⟩
    have hG := (a2.own x hon).2
    have h5 := (h0_tabs x o hg).1
    omega
  rcases hR with rfl | ⟨a, c, rfl⟩ | ⟨b, o, n, c, rfl, h1, h2, hbd, hc⟩
  · obtain ⟨v, H', rd', wr', e1, e2⟩ := callA_ok xA_ok Tryz.checked.mixed (b_nil fd)
    refine (e2 rho0 W #[.slice none 0 0, fd] (vrs hf rfl) (st0 hL hS) (fun x hx => far hx) (by show 5 ≤ 15; omega)).mono ?_
    rintro e w' ⟨r, ρ', he, a1, a2⟩
    exact fin (true_of e1) he a1 a2
  · obtain ⟨v, H', rd', wr', e1, e2⟩ := callA_ok xA_ok Tryz.checked.mixed (b_mt fd)
    refine (e2 rho0 W #[.slice (some a) 0 c, fd] (vrs hf ⟨a, c, rfl⟩) (st0 hL hS) (fun x hx => far hx) (by show 5 ≤ 15; omega)).mono ?_
    rintro e w' ⟨r, ρ', he, a1, a2⟩
    exact fin (true_of e1) he a1 a2
  · have tab : ∀ (g m : Nat), b = g → g < 5 → m ≤ 256 → (∀ cs, W.heap[g]? = some cs → ∃ l t, cs = .cells l t ∧ l.size = m) → runB g n m h0 fd = .ok → Calls Tryz.prog 3 #[.slice (some ⟨b, o, none⟩) n c, fd] W fun e w' => e = .returned (.bool true) ∧ Below W.heap.size W w' := by
      intro g m hbg hg hm hsz hrun
      subst hbg
      have hle : o + n ≤ m := by
        obtain ⟨z, hz⟩ := hc (n - 1) (by omega)
        cases hh : W.heap[b]? with
        | none => simp [World.cell?, hh] at hz
        | some ob =>
          obtain ⟨l, t, rfl, hl⟩ := hsz ob hh
          rw [cell_of hh] at hz
          have := (Array.getElem?_eq_some_iff.1 hz).1
          omega
      obtain ⟨v, H', rd', wr', e1, e2⟩ := callA_ok xA_ok Tryz.checked.mixed hrun
      have hrho : rho0 b = some ⟨b, 0, 256⟩ := by unfold rho0; rw [if_pos hg]
      refine (e2 rho0 W #[.slice (some ⟨b, o, none⟩) n c, fd] (vrs hf ⟨⟨b, 0, 256⟩, c, o, hrho, by show o + n ≤ 256; omega, hle, h2, hbd, by simp⟩) (st0 hL hS) (fun x hx => far hx) (by show 5 ≤ 15; omega)).mono ?_
      rintro e w' ⟨r, ρ', he, a1, a2⟩
      exact fin (true_of5 e1).1 he a1 a2
    by_cases hb1 : b = 1
    · obtain ⟨c1, a1, b1⟩ := at_shape hS (g := 1) (by decide +kernel) (by kernel_rfl)
      exact tab 1 256 hb1 (by omega) (by omega) (fun cs hcs => by rw [a1] at hcs; injection hcs with hcs; exact ⟨_, _, hcs.symm, by rw [b1]; kernel_rfl⟩) (all_of (bb_all · · · fd) (bb_big · fd) h1)
    · by_cases hb3 : b = 3
      · obtain ⟨c1, a1, b1⟩ := at_shape hS (g := 3) (by decide +kernel) (by kernel_rfl)
        exact tab 3 64 hb3 (by omega) (by omega) (fun cs hcs => by rw [a1] at hcs; injection hcs with hcs; exact ⟨_, _, hcs.symm, by rw [b1]; kernel_rfl⟩) (all_of (bc_all · · · fd) (bc_big · fd) h1)
      · obtain ⟨v, H', rd', wr', e1, e2⟩ := callA_ok xA_ok Tryz.checked.mixed (show callA _ _ _ _ _ _ _ _ _ = .ok from a_of (fd := fd) h1)
        obtain ⟨hv, h5⟩ := true_of5 e1
        refine (e2 (fun x => if x = 5 then some ⟨b, o, n⟩ else rho0 x) W #[.slice (some ⟨b, o, none⟩) n c, fd] (vrs hf ⟨⟨b, o, n⟩, c, 0, if_pos rfl, by simp, by simp, h2, hbd, by simp⟩) (st5 hL hS h1 hb1 hb3 hc) (fun x hx => by
          have hx' : 15 ≤ x := hx
          show (if x = 5 then some (⟨b, o, n⟩ : Blk) else rho0 x) = none
          rw [if_neg (by omega), far hx']) (by show 5 ≤ 15; omega)).mono ?_
        rintro e w' ⟨r, ρ', he, a1, a2⟩
        subst hv he
        refine ⟨by rw [show r = .bool true from a1], a2.rest.1, a2.rest.2.1, a2.rest.2.2, a2.size, fun b hb => a2.same b hb fun x o k hon hg hk e => ?_⟩
        have hG := (a2.own x hon).2
        have hg1 : (h0.tr.put 5 .ones).get x = some o := hg
        rcases get_put hg1 with ⟨e1, _⟩ | ⟨_, hg⟩
        · subst e1; exact h5 hon
        · have h5 := (h0_tabs x o hg).1
          omega
end Go.Proofs.YtdldpehmcfbbeaaGreatDoor
