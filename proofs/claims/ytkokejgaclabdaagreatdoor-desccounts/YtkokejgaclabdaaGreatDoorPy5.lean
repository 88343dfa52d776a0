/- DescCounts' walk with what it starts from: New of a tree and of a process, and the document's example. Conditions: the library's table is as its initialiser lays it; the numbers can be read. -/
import Derived.Test.YtkokejgaclabdaaGreatDoorPy4
namespace Go.Proofs.YtkokejgaclabdaaGreatDoor
open Go.RowKit
theorem counts_true (a : Option Addr) (n cap g0 go : Nat) (ks : List Nat) (w : World) (hT : TabIs w) (hl : ks.length = n) (hcap : n ≤ cap) (hcm : cap ≤ 9223372036854775807) (ha : 0 < n → a = some ⟨g0, go, none⟩ ∧ g0 < w.heap.size ∧ ∀ (j x : Nat), ks[j]? = some x → w.cell? ⟨g0, go + j, none⟩ = some (.int .u64 x)) :
    Calls Tryz.prog 3 #[.slice a n cap] w fun e w' => e = .returned (.bool true) ∧ Mod (fun _ => False) w w' := by
  refine counts_walk a n cap g0 go ks w hT hl hcap hcm ha (fun fb w1 => ∃ t q b c, FsIn w w1 fb t q b c ∧ Tb w1 t q b c 8 8 0 rF rR (uK 1) rD) ?_ ?_ (fun W hW => lives7 W hW)
  · refine (treeNew 8 8 w (by omega) (by omega) (by omega) (by omega) hT).mono ?_
    rintro e w1 ⟨fb, t, q, b, c, rfl, I1, T1⟩
    exact ⟨fb, rfl, t, q, b, c, I1, T1⟩
  · rintro fb w1 ⟨t, q, b, c, I1, T1⟩
    have hG := T1.S.tab.lt
    have hGw : 1 < w.heap.size := hT.lt
    have hfb : fb < w1.heap.size := block_lt_of_cell I1.f
    refine (pNew T1 I1.f (by have := I1.lt; omega) (by decide) (by decide +kernel) (by decide) (by omega)).mono ?_
    rintro e w2 ⟨P, rfl, hP1, A2, f2, T2, M2⟩
    have h1 := I1.lt
    have h2 := I1.le
    have h3 := I1.M.size
    exact ⟨P, t, q, b, c, rfl, { a := A2, f := f2, T := T2, o := fun i _ A hA => (by cases hA), inj := fun i j A _ _ _ hA => (by cases hA), lt := by omega, M := I1.M.new6 M2 (fun x e => by have e1 : x = q := e; omega) }⟩
end Go.Proofs.YtkokejgaclabdaaGreatDoor
