/- Several texts of this claim, one behind the other, in their order. -/
import Derived.Test.YtpcbpikhiooafaaGreatDoorPz7
import Derived.Test.YtpcbpikhiooafaaGreatDoorM25
import Derived.Test.YtpcbpikhiooafaaGreatDoorCards
import Derived.Test.YtpcbpikhiooafaaGreatDoorTie
import Derived.ProofKit
import Derived.LaidMore
import Derived.OpenShut
import Derived.ChangeOld
import Derived.Stop.Joined
import Derived.SevenTiedAt
import Derived.Lib.LaidTab
/- DescPlaces' walk with what it starts from. Conditions: the library's table is as its initialiser lays it; the bytes can be read. -/
namespace Go.Proofs.YtpcbpikhiooafaaGreatDoor
open Go.RowKit
theorem places_true (a : Option Addr) (n0 cap g0 go s m0 : Nat) (l0 : List Nat) (w : World) (hT : TabIs w) (hl : l0.length = n0) (hl8 : ∀ x ∈ l0, x < 256) (hcap : n0 ≤ cap) (hcm : cap ≤ 9223372036854775807) (ha : 0 < n0 → a = some ⟨g0, go, none⟩ ∧ g0 < w.heap.size ∧ ∀ j x, l0[j]? = some x → w.cell? ⟨g0, go + j, none⟩ = some (byteV x)) :
    Calls Tryz.prog 3 #[.slice a n0 cap, .int .u64 s, .int .u64 m0] w fun e w' => e = .returned (.bool true) ∧ Mod (fun _ => False) w w' := by
  obtain ⟨n, hn⟩ : ∃ n, n = min n0 2000 := ⟨_, rfl⟩
  obtain ⟨l, hll⟩ : ∃ l, l = l0.take n := ⟨_, rfl⟩
  have hln : l.length = n := by rw [hll, List.length_take]; omega
  have hl8' : ∀ x ∈ l, x < 256 := fun x hx => hl8 x (by rw [hll] at hx; exact List.mem_of_mem_take hx)
  have ha' : 0 < n0 → a = some ⟨g0, go, none⟩ ∧ g0 < w.heap.size ∧ ∀ j x, l[j]? = some x → w.cell? ⟨g0, go + j, none⟩ = some (byteV x) := fun h => by
    obtain ⟨e1, e2, e3⟩ := ha h
    refine ⟨e1, e2, fun j x hj => e3 j x ?_⟩
    rw [hll, List.getElem?_take] at hj
    split at hj
    · exact hj
    · cases hj
  have hTN : Calls Tryz.prog 4 #[.int .i64 300, .int .i64 8] w fun e w1 => ∃ fb : Nat, e = .returned (.tuple #[.pointer (some ⟨fb, 0, none⟩), .int .i64 0]) ∧ (∃ t q b c, FsIn w w1 fb t q b c ∧ Tb w1 t q b c 300 8 0 rF rR (uK 1) rD) := by
    refine (treeNew 300 8 w (by omega) (by omega) (by omega) (by omega) hT).mono ?_
    rintro e w1 ⟨fb, t, q, b, c, rfl, I1, T1⟩
    exact ⟨fb, rfl, t, q, b, c, I1, T1⟩
  have hDN : ∀ fb w1, (∃ t q b c, FsIn w w1 fb t q b c ∧ Tb w1 t q b c 300 8 0 rF rR (uK 1) rD) → Calls Tryz.prog 5 #[.pointer (some ⟨fb, 0, none⟩), .agg #[.int .i64 0, .int .i64 0, .slice none 0 0, .int .i64 0, .int .i64 0]] w1 fun e w2 => ∃ P t q b c : Nat, e = .returned (.tuple #[.pointer (some ⟨P, 0, none⟩), .int .i64 0]) ∧ PAt w2 P fb 0 0 none 0 0 1 (fun _ => none) ∧ FsAt w2 fb t ∧ Tb w2 t q b c 300 8 0 lF1 rR (uK 1) rD ∧ (q < fb ∧ b < fb ∧ c < fb ∧ t < fb ∧ fb < P ∧ w.heap.size ≤ q ∧ w.heap.size ≤ b ∧ w.heap.size ≤ c ∧ w.heap.size ≤ P ∧ 1 < P) ∧ Mod (fun _ => False) w w2 := by
    rintro fb w1 ⟨t, q, b, c, I1, T1⟩
    have hG := T1.S.tab.lt
    have hfb : fb < w1.heap.size := block_lt_of_cell I1.f
    refine (pNew T1 I1.f (by have := I1.lt; omega) (by decide) (by decide +kernel) (by decide) (by omega)).mono ?_
    rintro e w2 ⟨P, rfl, hP1, A2, f2, T2, M2⟩
    have h1 := I1.lt
    have h2 := I1.le
    have h3 := I1.M.size
    exact ⟨P, t, q, b, c, rfl, A2, f2, T2, by omega, I1.M.new6 M2 (fun x e => by have e1 : x = q := e; omega)⟩
  by_cases hn0 : 0 < n
  · refine places_walk a n0 n cap g0 go s m0 (s % 3000) (s % 3000 + n + m0 % 9) (s % 3000 + n) l w hT hn hln hl8' hcap hcm ha' rfl (by rw [if_pos hn0]) rfl _ (fun j => if s % 3000 ≤ j then l.getD (j - s % 3000) 0 else 0) (fun j hj => by rw [if_neg (by omega)]) (fun j hj => by rw [if_pos (by omega), Nat.add_sub_cancel_left]) (F6 (s % 3000 + l.length)) (setN lR3z 1 (oW (s % 3000) l).R) (oW (s % 3000) l).u (oW (s % 3000) l).D (by rw [F6_5, hln]) (by rw [F6_0]; decide)
      (∀ x, x < 17792 → rd (oW (s % 3000) l).u (oW (s % 3000) l).D (oW (s % 3000) l).R x = if s % 3000 ≤ x ∧ x < s % 3000 + l.length then l.getD (x - s % 3000) 0 else 0) hTN hDN ?_ ?_ (fun W hW => lives7 W hW)
    · intro W fb t q b c hM hle T hf
      obtain ⟨e1, e2, e3⟩ := ha' (by omega)
      have hs2 := hM.size
      have hR := oW_rd T (s % 3000) l hl8' (by omega) (by omega)
      have h := plWrite T hf g0 go cap (s % 3000) l ⟨fun j x hj => (hM.cell (p := ⟨g0, go + j, none⟩) e2 (fun e => e)).trans (e3 j x hj), hl8'⟩ ⟨by omega, by omega, by omega⟩ (by omega) (by omega) (by omega) (by omega) (by omega) hcm
      rw [hln] at h
      rw [e1]
      refine h.mono ?_
      rintro e w' ⟨h1, h2, h3⟩
      rw [← hln] at h3
      exact ⟨h1, h2, h3, hR⟩
    · intro W fb t q b c hR T hf
      have h := plRead (s % 3000) l (by omega) (by omega) (by omega) T hf hR (s % 3000 + n + m0 % 9) (by omega) (by omega)
      rw [hln] at h
      exact h
  · obtain rfl : n = 0 := by omega
    refine places_walk a n0 0 cap g0 go s m0 (s % 3000) (0 + m0 % 9) 0 l w hT hn hln hl8' hcap hcm ha' rfl (by simp) rfl _ (fun _ => 0) (fun _ _ => rfl) (fun j hj => absurd hj (by omega)) lF5z lR3z (uK 2) lDz lF5z_5 (by rw [lF5z_0]; decide) True hTN hDN ?_ ?_ (fun W hW => lives7 W hW)
    · intro W fb t q b c hM hle T hf
      refine (plWrite0 T hf a cap (s % 3000)).mono ?_
      rintro e w' ⟨h1, h2, h3⟩
      exact ⟨h1, h2, h3, trivial⟩
    · intro W fb t q b c _ T hf
      exact plRead0 T hf (0 + m0 % 9) (fun _ => 0)
end Go.Proofs.YtpcbpikhiooafaaGreatDoor
/- What the rows of this seat share: the listed table as the walks want it, and a start that meets the condition. -/
namespace Go.Proofs.YtpcbpikhiooafaaGreatDoor
open Go.ChangeShapes Go.WideShapes Go.ChangeAt Go.RowKit

theorem Mod.below0 {w w' : World} (h : Mod (fun _ => False) w w') : Below w.heap.size w w' := h.below (Nat.le_refl _) (fun _ _ h => h)
theorem own : ownKnob Tryz.prog.godebug = none := by kernel_rfl
theorem laidOut : laidOutB Tryz.prog = true := by kernel_rfl
theorem gTab : Tryz.prog.globalNamed "math/bits.deBruijn64tab" = some 1 := by kernel_rfl
theorem tTab : (Tryz.prog.globals[1]?).map (·.type) = some 213 := by kernel_rfl
abbrev laidL : List (String × DataW Unit) := [("math/bits.deBruijn64tab", Rows.laid_math_bits_deBruijn64tab)]
/-- The door's own heap meets the condition. -/
theorem door_met (os : Os) (args : Array Value) : laidMetH Tryz.prog laidL ((World.doorLaid Tryz.prog 400 os).forCall (fun _ _ => 0) ⟨#[], args, []⟩).memory :=
  laidMetH_of_parts3 (fuel := 8) (laidMet_of_run' 8 (by kernel_rfl) (by kernel_rfl)) (by kernel_rfl) (by kernel_rfl)
def tabZ : List Int := Lib.deBruijn64tab.map Int.ofNat
theorem tabInts : Rows.laid_math_bits_deBruijn64tab (H := Unit) = Lib.tabData .u8 tabZ := rfl
/-- What the condition gives the walks. -/
theorem of_laid {W : World} (h : laidMetH Tryz.prog laidL W) : TabIs W := by
  rw [MakeChecks.laidMetH_plain _ _ _ (by kernel_rfl)] at h
  have hT := Lib.tabIs_of_head (k := .u8) (zs := tabZ) (e := 5) (n := 64) gTab tTab (by kernel_rfl) (by kernel_rfl) (by kernel_rfl) (by kernel_rfl) (show laidMet Tryz.prog [("math/bits.deBruijn64tab", Lib.tabData .u8 tabZ)] W from tabInts ▸ h)
  intro j hj
  have := hT.cell gTab j hj
  rw [this]
  simp only [tabZ, List.getD_eq_getElem?_getD, List.getElem?_map]
  rw [List.getElem?_eq_getElem (show j < Lib.deBruijn64tab.length from hj)]
  rfl
end Go.Proofs.YtpcbpikhiooafaaGreatDoor
