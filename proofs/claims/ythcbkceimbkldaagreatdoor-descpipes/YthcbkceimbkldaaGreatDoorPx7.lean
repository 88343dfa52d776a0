/- DescPipes' walk with what it starts from: New of a tree and of a process, and the document's example. Conditions: the library's table is as its initialiser lays it; the bytes can be read. -/
import Derived.Test.YthcbkceimbkldaaGreatDoorPx6
import Derived.Test.YthcbkceimbkldaaGreatDoorM25
namespace Go.Proofs.YthcbkceimbkldaaGreatDoor
open Go.RowKit
theorem pipes_true (a : Option Addr) (n0 cap g0 go s : Nat) (xs0 : List UInt8) (w : World) (hT : TabIs w) (hl : xs0.length = n0) (hcap : n0 ≤ cap) (hcm : cap ≤ 9223372036854775807) (ha : 0 < n0 → a = some ⟨g0, go, none⟩ ∧ g0 < w.heap.size ∧ ∀ j x, xs0[j]? = some x → w.cell? ⟨g0, go + j, none⟩ = some (bV x)) (hs : s < 18446744073709551616) :
    Calls Tryz.prog 3 #[.slice a n0 cap, .int .u64 s] w fun e w' => e = .returned (.bool true) ∧ Mod (fun _ => False) w w' := by
  refine pipes_walk a n0 cap g0 go s _ xs0 w hT hl hcap hcm ha hs rfl (fun fb w1 => ∃ t q b c, FsIn w w1 fb t q b c ∧ Tb w1 t q b c 8 8 0 rF rR (uK 1) rD) ?_ ?_ (fun W hW => lives7 W hW)
  · refine (treeNew 8 8 w (by omega) (by omega) (by omega) (by omega) hT).mono ?_
    rintro e w1 ⟨fb, t, q, b, c, rfl, I1, T1⟩
    exact ⟨fb, rfl, t, q, b, c, I1, T1⟩
  · rintro fb w1 ⟨t, q, b, c, I1, T1⟩
    refine (pNew T1 I1.f (by have := I1.lt; omega) (by decide) (by decide +kernel) (by decide) (by omega)).mono ?_
    rintro e w2 ⟨P, rfl, hP1, A2, f2, T2, M2⟩
    exact ⟨P, rfl, by have := I1.M.size; omega, A2, I1.M.new6 M2 (fun x e => by have := I1.le; omega)⟩
end Go.Proofs.YthcbkceimbkldaaGreatDoor
