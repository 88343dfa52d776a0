/- The statements' spoil: rows of bytes that are written over. Condition: lengths that fit. -/
import Derived.Test.YtdjefinehabifaaDoorOa9
namespace Go.Proofs.YtdjefinehabifaaDoor
open Go.RowKit
attribute [local go_sem] ext_eq app_eq get_eq
/-- Rows that can be written, told one behind the other in the block g: they lie in blocks from B on, ahead of g. -/
structure Sp3 (B g : Nat) (L : List (Option Addr × Nat × Nat)) (W : World) : Prop where
  lt : g < W.heap.size
  row : ∀ i (h : i < L.length), W.cell? ⟨g, i, none⟩ = some (.slice L[i].1 L[i].2.1 L[i].2.2)
  wr : ∀ i (h : i < L.length) j, j < L[i].2.1 → ∃ b o, L[i].1 = some ⟨b, o, none⟩ ∧ B ≤ b ∧ b < g ∧ (W.cell? ⟨b, o + j, none⟩).isSome = true ∧ W.frozen? ⟨b, o + j, none⟩ = false
theorem Sp3.set {B g : Nat} {L : List (Option Addr × Nat × Nat)} {W : World} (h : Sp3 B g L W) {p : Addr} (hp : p.block < g) (v : Value) : Sp3 B g L (W.setCell p v) where
  lt := by simpa using h.lt
  row := fun i hi => by rw [World.cell?_setCell_other _ _ _ _ (fun e => by subst e; simp at hp)]; exact h.row i hi
  wr := fun i hi j hj => by
    obtain ⟨b, o, e, hb, hbg, hs, hf⟩ := h.wr i hi j hj
    refine ⟨b, o, e, hb, hbg, ?_, by rw [World.frozen?_setCell]; exact hf⟩
    by_cases hpp : p = ⟨b, o + j, none⟩
    · subst hpp
      obtain ⟨u, hu⟩ := Option.isSome_iff_exists.1 hs
      rw [World.cell?_setCell_same _ _ _ hu]; rfl
    · rw [World.cell?_setCell_other _ _ _ _ hpp]; exact hs
set_option maxRecDepth 100000 in
set_option maxHeartbeats 4000000 in
theorem oSpoil (B g c : Nat) (L : List (Option Addr × Nat × Nat)) (hL : L.length ≤ 2 ^ 40) (hn : ∀ x ∈ L, x.2.1 ≤ 2 ^ 40) (w : World) (h : Sp3 B g L w) : Calls Tryd.prog 14 #[.slice (some ⟨g, 0, none⟩) L.length c] w fun e w' => e = .returned (.tuple #[]) ∧ Below B w w' := by
  have H0 := hidA h
  have HN := hidA hn
  clear h hn
  go_enter Tryd.func14, Tryd.ntmps14
  go_wp2
  go_loopw [7] (fun s7 W => ∃ k : Nat, s7 = .int .i64 k ∧ k ≤ L.length ∧ Hid (Sp3 B g L W) ∧ Hid (Below B w W)) (fun s7 _ => L.length - (intOf s7).toNat)
  case atStart => exact ⟨0, rfl, Nat.zero_le _, H0, hidA (Below.refl _ _)⟩
  case round =>
    obtain ⟨k, rfl, hk, HP, HB⟩ := hrel
    clear H0
    by_cases hlt : k < L.length
    · have hw1 : IntKind.i64.wrap ((k : Int) + 1) = ((k + 1 : Nat) : Int) := by rw [IntKind.wrap_i64]; omega
      have r0 := HP.out.row k hlt
      have hg := HP.out.lt
      have hln := HN.out _ (List.getElem_mem hlt)
      have HW := hidA (fun W (hW : Sp3 B g L W) j hj => hW.wr k hlt j hj)
      generalize L[k] = x at *
      obtain ⟨xa, xn, xc⟩ := x
      dsimp only at r0 hln HW
      go_wp2
      go_loopw [13] (fun s13 W => ∃ j : Nat, s13 = .int .i64 j ∧ j ≤ xn ∧ Hid (Sp3 B g L W) ∧ Hid (Below B w W)) (fun s13 _ => xn - (intOf s13).toNat)
      case atStart => exact ⟨0, rfl, Nat.zero_le _, HP, HB⟩
      case round =>
        obtain ⟨j, rfl, hj, HP, HB⟩ := hrel
        by_cases hjn : j < xn
        · have hw2 : IntKind.i64.wrap ((j : Int) + 1) = ((j + 1 : Nat) : Int) := by rw [IntKind.wrap_i64]; omega
          obtain ⟨b, o, rfl, hb, hbg, hs, hf⟩ := HW.out _ HP.out j hjn
          obtain ⟨u, hu⟩ := Option.isSome_iff_exists.1 hs
          have HP2 := hidA (HP.out.set (p := ⟨b, o + j, none⟩) hbg (.int .u8 1))
          have HB2 := hidA (HB.out.setCell (p := ⟨b, o + j, none⟩) hb (.int .u8 1))
          clear HP HB r0 hs HW
          go_wp2
          exact ⟨⟨j + 1, by first | rfl | go_num, hjn, HP2, HB2⟩, by simp [intOf]; omega⟩
        · clear HW r0
          go_wp2
          exact ⟨⟨k + 1, by first | rfl | go_num, hlt, HP, HB⟩, by simp [intOf]; omega⟩
    · go_wp2
      exact ⟨rfl, _, results_none rfl _ _ _, rfl, HB.out⟩
end Go.Proofs.YtdjefinehabifaaDoor
