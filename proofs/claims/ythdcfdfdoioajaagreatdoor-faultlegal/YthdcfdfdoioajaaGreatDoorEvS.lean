/- Closed runs that tell a row of texts, or a value that leads nowhere, as contracts in whatever memory that has the tables. No condition. -/
import Derived.Test.YthdcfdfdoioajaaGreatDoorEvX
import Derived.Below
namespace Go.Proofs.YthdcfdfdoioajaaGreatDoor.Ev
open Go.RowKit
variable {P : Program} {X : Ext} {G : Nat}
/-- A row of texts that is read. -/
def StrS (W : World) (a : Option Addr) (xs : List (List UInt8)) : Prop := ∀ j (_ : j < xs.length), ∃ g o, a = some ⟨g, o, none⟩ ∧ g < W.heap.size ∧ W.cell? ⟨g, o + j, none⟩ = some (.string ⟨(xs[j]).toArray⟩)
theorem StrS.grow {W W' : World} {a : Option Addr} {xs : List (List UInt8)} {B : Nat} (h : StrS W a xs) (hB : Below B W W') (hs : W.heap.size ≤ B) : StrS W' a xs := fun j hj => by
  obtain ⟨g, o, e, hg, hc⟩ := h j hj
  exact ⟨g, o, e, Nat.lt_of_lt_of_le hg hB.size, (World.cell?_of_block (w := W) (hB.block g (by omega))).trans hc⟩
/-- A memory that has the tables. -/
theorem St.grow {ρ : Env} {H : Hp} {W W' : World} (h : St G (fun _ => True) ρ H W) (hB : Below W.heap.size W W') : St G (fun _ => True) ρ H W' :=
  ⟨fun x o hx hg => let ⟨k, ob, a, b, c⟩ := h.sat x o hx hg; ⟨k, ob, a, (hB.block _ (h.low x k a)).trans b, c⟩, h.inj, h.glob, fun x k hk => Nat.lt_of_lt_of_le (h.low x k hk) hB.size⟩
noncomputable def tellsStrs (L : List (List UInt8)) : V → Hp → Nat → Nat → Ans := fun v H _ _ => match v with
  | .slice i off n _ => iff (Nat.beq n L.length) (get (H.get i) fun
    | .row _ _ m per tr _ => iff (Nat.ble (off + n) m) (get (readCells per tr n off) fun l => iff (eqL (eqV 3) l (L.map .str)) .ok .no) .no
    | _ => .no) .no
  | .nils => iff (Nat.beq L.length 0) .ok .no
  | .mt => iff (Nat.beq L.length 0) .ok .no
  | _ => .no
theorem strs_vrs {ρ : Env} : ∀ {L : List (List UInt8)} {rs : List Value}, VRs ρ (L.map .str) rs → ∀ j (h : j < L.length), rs[j]? = some (.string ⟨(L[j]).toArray⟩)
  | [], _, _, j, h => by simp at h
  | s :: L, _, ⟨r, rs', e, hv, hr⟩, 0, _ => by
    subst e
    rw [show r = .string ⟨s.toArray⟩ from hv]; rfl
  | s :: L, _, ⟨r, rs', e, hv, hr⟩, j + 1, h => by
    subst e
    simpa using strs_vrs hr j (by simpa using h)
theorem tellsStrs_ok {L : List (List UInt8)} {v : V} {H : Hp} {rd wr : Nat} {ρ : Env} {R : Nat → Prop} {W : World} {r : Value} (h : tellsStrs L v H rd wr = .ok) (hR : ∀ x, R x) (hs : St G R ρ H W) (hv : VR ρ v r) : ∃ a c, r = .slice a L.length c ∧ StrS W a L := by
  cases v with
  | slice i off n cp =>
    obtain ⟨h1, h2⟩ := iff_o h
    obtain ⟨ob, h3, h4⟩ := get_ok h2
    have hn := Nat.eq_of_beq_eq_true h1
    subst hn
    cases ob with
    | row e sz m per tr gr =>
      obtain ⟨h5, h6⟩ := iff_o h4
      obtain ⟨l, h7, h8⟩ := get_ok h6
      obtain ⟨h9, _⟩ := iff_o h8
      have hl := eqL_ok (eqV_ok 3) _ _ h9
      subst hl
      obtain ⟨kb, ob, c1, c2, c3⟩ := hs.sat i _ (hR i) h3
      obtain ⟨cc, fz, rfl, _, hcell, _, _⟩ := c3
      obtain ⟨rs, h14, h15, _, h16⟩ := readCells_ok hcell _ off _ h7 (Nat.le_of_ble_eq_true h5)
      obtain ⟨kb2, cap2, h19, h20⟩ : ∃ kb2 cap2, ρ i = some kb2 ∧ r = .slice (some ⟨kb2.b, kb2.o + off, none⟩) L.length cap2 := by
        cases cp with
        | k c => obtain ⟨kb, h9, h10⟩ := hv; exact ⟨kb, _, h9, h10⟩
        | g s => obtain ⟨kb, h9, _, h10⟩ := hv; exact ⟨kb, _, h9, h10⟩
      rw [c1] at h19
      injection h19 with h19
      subst h19 h20
      refine ⟨_, _, rfl, fun j hj => ⟨_, _, rfl, hs.low _ _ c1, ?_⟩⟩
      rw [cell_of c2]
      exact h16 j _ (strs_vrs h14 j hj)
    | _ => cases h4
  | nils =>
    obtain ⟨h1, _⟩ := iff_o h
    have hn := Nat.eq_of_beq_eq_true h1
    have hv' : r = .slice none 0 0 := hv
    subst hv'
    exact ⟨none, 0, by rw [hn], fun j hj => by omega⟩
  | mt =>
    obtain ⟨h1, _⟩ := iff_o h
    have hn := Nat.eq_of_beq_eq_true h1
    obtain ⟨a, c, rfl⟩ := hv
    exact ⟨some a, c, by rw [hn], fun j hj => by omega⟩
  | _ => cases h
theorem goes_below {ρ ρ' : Env} {h0 H' : Hp} {W w' : World} {wr : Nat} (ht : ∀ x o, h0.tr.get x = some o → x < G) (a2 : Goes G (fun _ => True) ρ h0 W wr ρ' H' w') : Below W.heap.size W w' :=
  ⟨a2.rest.1, a2.rest.2.1, a2.rest.2.2, a2.size, fun b hb => a2.same b hb fun x o k hon hg hk e => by have := (a2.own x hon).2; have := ht x o hg; omega⟩
theorem strs_of_run (hX : XOk P G X) (hM : P.follows .mixedOrders = true) {K : Hint} {n f : Nat} {args : List V} {ra : Array Value} {h0 : Hp} {L : List (List UInt8)} (hr : callA P X G K n f args h0 (tellsStrs L) = .ok) (ht : ∀ x o, h0.tr.get x = some o → x < G) (hG : G ≤ h0.next) {ρ : Env} (hf : ∀ x, h0.next ≤ x → ρ x = none) {W : World} (hst : St G (fun _ => True) ρ h0 W) (ha : VRs ρ args ra.toList) :
    Calls P f ra W fun e w' => ∃ a c, e = .returned (.slice a L.length c) ∧ StrS w' a L ∧ Below W.heap.size W w' := by
  obtain ⟨v, H', rd', wr', h1, h2⟩ := callA_ok hX hM hr
  refine (h2 ρ W ra ha hst hf hG).mono ?_
  rintro e w' ⟨r, ρ', rfl, a1, a2⟩
  obtain ⟨a, c, rfl, b1⟩ := tellsStrs_ok h1 (fun _ => .inl trivial) a2.st a1
  exact ⟨a, c, rfl, b1, goes_below ht a2⟩
end Go.Proofs.YthdcfdfdoioajaaGreatDoor.Ev
