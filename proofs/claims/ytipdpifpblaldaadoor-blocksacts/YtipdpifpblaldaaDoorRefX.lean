/- The walk of the plain list's Write: the bytes lie in the block's row behind it. Conditions: the cells are as said; the bytes that are written lie elsewhere. -/
import Derived.Test.YtipdpifpblaldaaDoorRefW
namespace Go.Proofs.YtipdpifpblaldaaDoor
open Go.RowKit
theorem setCells_snoc (b : Nat) (v : Value) : ∀ (vs : List Value) (o : Nat) (w : World), w.setCells b o (vs ++ [v]) = (w.setCells b o vs).setCell ⟨b, o + vs.length, none⟩ v
  | [], _, _ => rfl
  | x :: vs, o, w => by
    rw [List.cons_append, World.setCells, setCells_snoc b v vs, World.setCells, List.length_cons, show o + 1 + vs.length = o + (vs.length + 1) by omega]
theorem take_snoc_byte (bs : List Nat) (k : Nat) (hk : k < bs.length) : (bs.take (k + 1)).map byteV = (bs.take k).map byteV ++ [byteV bs[k]] := by
  rw [List.take_succ_eq_append_getElem hk, List.map_append]; rfl
set_option maxHeartbeats 1000000 in
theorem rwrite_in (w : World) (tb n ob co yb cy i t r rc cap : Nat) (a : Option Addr) (bs : List Nat) (hon : w.cell? ⟨tb, 0, none⟩ = some (.slice (some ⟨ob, 0, none⟩) n co)) (hyn : w.cell? ⟨tb, 1, none⟩ = some (.slice (some ⟨yb, 0, none⟩) n cy))
    (hi : i < n) (hc : w.cell? ⟨ob, i, none⟩ = some (.bool true)) (hcy : w.cell? ⟨yb, i, none⟩ = some (.slice (some ⟨r, 0, none⟩) 64 rc)) (ht : t + bs.length ≤ 64) (hth : w.there r 0 64) (hrt : tb ≠ r) (hry : yb ≠ r)
    (hsrc : ∀ j x, bs[j]? = some x → ∃ g o, a = some ⟨g, o, none⟩ ∧ g ≠ r ∧ w.cell? ⟨g, o + j, none⟩ = some (byteV x)) :
    Calls Tryd.prog 30 #[.pointer (some ⟨tb, 0, none⟩), .int .i64 i, .int .i64 t, .slice a bs.length cap] w fun e w' => e = .returned (.int .i64 0) ∧ w' = w.setCells r t (bs.map byteV) := by
  have HS : Hid (∀ j x, bs[j]? = some x → ∃ g o, a = some ⟨g, o, none⟩ ∧ g ≠ r ∧ w.cell? ⟨g, o + j, none⟩ = some (byteV x)) := hsrc
  have HT : Hid (w.there r 0 64) := hth
  have h0 : ¬ (t : Int) < 0 := by omega
  have h1 : ¬ (64 : Int) < t := by omega
  have h2 : ¬ (64 : Int) - t < bs.length := by omega
  have hi2 : (i : Int) < n := by omega
  have HYN : Hid (w.cell? ⟨tb, 1, none⟩ = some (.slice (some ⟨yb, 0, none⟩) n cy)) := hyn
  have HCY : Hid (w.cell? ⟨yb, i, none⟩ = some (.slice (some ⟨r, 0, none⟩) 64 rc)) := hcy
  clear hsrc hth hyn hcy
  go_enter Tryd.func30, Tryd.ntmps30
  go_wp2_with (go_at_call 32; refine (ris_in w tb n ob co i true hon hi hc).mono ?_; rintro e w' ⟨rfl, hw'⟩; rw [hw']; clear hw' w')
  go_loopw [32] (fun x wr => ∃ k : Nat, k ≤ bs.length ∧ x = .int .i64 k ∧ Hid (wr = w.setCells r t ((bs.take k).map byteV))) (fun x _ => bs.length - (intOf x).toNat)
  case atStart => exact ⟨0, Nat.zero_le _, rfl, by simp; rfl⟩
  case round =>
    obtain ⟨k, hk, rfl, hwr⟩ := hrel
    by_cases hlt : k < bs.length
    · obtain ⟨g, o, rfl, hgr, hcs⟩ := HS.out k bs[k] (List.getElem?_eq_getElem hlt)
      have hyn : wr.cell? ⟨tb, 1, none⟩ = some (.slice (some ⟨yb, 0, none⟩) n cy) := by rw [hwr.out, World.cell?_setCells_out _ _ _ _ _ (fun e => absurd e hrt)]; exact HYN.out
      have hcy : wr.cell? ⟨yb, i, none⟩ = some (.slice (some ⟨r, 0, none⟩) 64 rc) := by rw [hwr.out, World.cell?_setCells_out _ _ _ _ _ (fun e => absurd e hry)]; exact HCY.out
      have hcs' : wr.cell? ⟨g, o + k, none⟩ = some (.int .u8 (bs[k] : Nat)) := by rw [hwr.out, World.cell?_setCells_out _ _ _ _ _ (fun e => absurd e hgr)]; exact hcs
      have hTk : wr.there r 0 64 := by rw [hwr.out]; exact World.there_setCells HT.out r t _
      obtain ⟨hold, hfz⟩ := hTk (t + k) (by omega)
      rw [Nat.zero_add] at hold hfz
      obtain ⟨ov, hov⟩ := Option.isSome_iff_exists.1 hold
      have hlt' : (k : Int) < bs.length := by omega
      have htk : (t : Int) + k < 64 := by omega
      have HX : Hid (wr.setCell ⟨r, t + k, none⟩ (.int .u8 (bs[k] : Nat)) = w.setCells r t ((bs.take (k + 1)).map byteV)) := by
        show _ = _
        rw [take_snoc_byte bs k hlt, setCells_snoc, hwr.out, List.length_map, List.length_take, Nat.min_eq_left (by omega)]; rfl
      clear hTk hold hcs
      generalize bs[k] = x at *
      go_wp2
      exact ⟨⟨k + 1, hlt, by go_num, HX⟩, by simp [intOf]; omega⟩
    · obtain rfl : k = bs.length := by omega
      go_wp2
      go_ret
      exact ⟨rfl, by rw [hwr.out, List.take_length]⟩
end Go.Proofs.YtipdpifpblaldaaDoor
