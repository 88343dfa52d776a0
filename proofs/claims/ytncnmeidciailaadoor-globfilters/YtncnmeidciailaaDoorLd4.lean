/- The walk of the program's item of a bracket, a closure that calls itself for a range's other end. Conditions: a text that fits; reader, set and closure lie in memory; the table of names. -/
import Derived.Test.YtncnmeidciailaaDoorLd2
import Derived.Test.YtncnmeidciailaaDoorLd3
namespace Go.Proofs.YtncnmeidciailaaDoor
open Go.RowKit
attribute [local go_sem] ext_eq app_eq get_eq
/-- What the closure has captured. -/
structure CE (W : World) (p0 p1 p2 rb b : Nat) : Prop where
  e0 : W.heap[p0]? = some (.cells #[.pointer (some ⟨rb, 0, none⟩)] 97 (0, 0))
  e1 : W.heap[p1]? = some (.cells #[.pointer (some ⟨b, 0, none⟩)] 79 (0, 0))
  e2 : W.heap[p2]? = some (.cells #[.func (.func 91) #[] #[.pointer (some ⟨p0, 0, none⟩), .pointer (some ⟨p1, 0, none⟩), .pointer (some ⟨p2, 0, none⟩)]] 113 (0, 0))
theorem CE.cells {W : World} {p0 p1 p2 rb b : Nat} (h : CE W p0 p1 p2 rb b) : W.cell? ⟨p0, 0, none⟩ = some (.pointer (some ⟨rb, 0, none⟩)) ∧ W.cell? ⟨p1, 0, none⟩ = some (.pointer (some ⟨b, 0, none⟩)) ∧ W.cell? ⟨p2, 0, none⟩ = some (.func (.func 91) #[] #[.pointer (some ⟨p0, 0, none⟩), .pointer (some ⟨p1, 0, none⟩), .pointer (some ⟨p2, 0, none⟩)]) :=
  ⟨by rw [cell_heap h.e0]; rfl, by rw [cell_heap h.e1]; rfl, by rw [cell_heap h.e2]; rfl⟩
theorem RN.cells {W : World} {rb : Nat} {l : List UInt8} {fl : Int} {sb : Option Nat} {sn : Nat → Bool} (h : RN W rb l fl sb sn) : W.cell? ⟨rb, 0, none⟩ = some (.string ⟨l.toArray⟩) ∧ W.cell? ⟨rb, 1, none⟩ = some (.int .i64 fl) := by
  obtain ⟨sv, h1, h2⟩ := h
  exact ⟨by rw [cell_heap h1]; rfl, by rw [cell_heap h1]; rfl⟩
theorem nm_nil {o : Option (List UInt8)} (h : ∀ n, o = some n → n ∈ Gl.names) : nmOf o = [] ↔ o = none := by
  cases o with
  | none => simp [nmOf]
  | some n =>
    have hn := h n rfl
    simp only [nmOf, Option.getD_some, reduceCtorEq, iff_false]
    rintro rfl
    exact absurd hn (by decide)
set_option maxRecDepth 100000 in
set_option maxHeartbeats 1000000 in
/-- A range's other end. -/
theorem gItemHi (l : List UInt8) (fl : Int) (p0 p1 p2 rb b k : Nat) (lo : UInt8) (g : UInt8 → Bool) (hk : k < l.length) (hl : l.length ≤ 2 ^ 40) (w : World) (hE : CE w p0 p1 p2 rb b) (h0 : w.cell? ⟨rb, 0, none⟩ = some (.string ⟨l.toArray⟩)) (h1 : w.cell? ⟨rb, 1, none⟩ = some (.int .i64 fl)) (hS : SetT w b g) (hc : CN w) :
    Calls Tryd.prog 91 #[.int .i64 k, .int .i64 lo.toNat, .pointer (some ⟨p0, 0, none⟩), .pointer (some ⟨p1, 0, none⟩), .pointer (some ⟨p2, 0, none⟩)] w fun e w' => e = .returned (.int .i64 ((k + (Gl.one (Gl.flOf fl) (l.drop k)).2 : Nat) : Int)) ∧ SetT w' b (fun x => g x || Gl.rng lo (Gl.one (Gl.flOf fl) (l.drop k)).1 x) ∧ Md (fun z => z = b) w w' := by
  have hs : (⟨l.toArray⟩ : ByteArray).size = l.length := str_size l
  obtain ⟨c0, c1, c2⟩ := hE.cells
  have HCa := hidA (fun W hc => gClassAt (l.drop k) W hc)
  have HLt := hidA (gLetter rb l fl k hk (by omega) w h0 h1)
  have hlo := lo.toNat_lt
  have hlo' : ¬ ((lo.toNat : Int) < 0) := by omega
  have HR := hidA (fun (hi : UInt8) => gAddRange b lo.toNat hi.toNat hlo hi.toNat_lt g w hS)
  have HCN := hidA hc
  have htk : List.take l.length l = l := by simp
  have hkl : ((k : Int)) ≤ (l.length : Int) := by omega
  clear hE hS hc
  generalize Gl.one (Gl.flOf fl) (l.drop k) = O at *
  obtain ⟨c, n⟩ := O
  dsimp only at *
  have HR2 := hidA (HR.out c)
  have hcb := c.toNat_lt
  clear HR
  generalize nmOf (Gl.classAt (l.drop k)) = nm at *
  by_cases hnm : nm = []
  · have hnm' : (nm == []) = true := by simpa using hnm
    subst hnm
    go_enter Tryd.func91, Tryd.ntmps91
    go_wp2_with (first | (go_at_call 92; go_loud (refine (HCa.out _ HCN.out).mono ?_); rintro e w1 ⟨rfl, hw'⟩; rw [hw']; clear hw' w1) | (go_at_call 74; go_loud (refine HLt.out.mono ?_); rintro e w1 ⟨rfl, hw'⟩; rw [hw']; clear hw' w1) | (go_at_call 93; go_loud (refine HR2.out.mono ?_); rintro e w2 ⟨rfl, q1, q2⟩; have Q1 := hidA q1; have Q2 := hidA q2; clear q1 q2))
    go_ret
    exact ⟨rfl, Q1.out, Q2.out⟩
  · have hnm' : (nm == []) = false := by simpa using hnm
    clear hnm
    go_enter Tryd.func91, Tryd.ntmps91
    go_wp2_with (first | (go_at_call 92; go_loud (refine (HCa.out _ HCN.out).mono ?_); rintro e w1 ⟨rfl, hw'⟩; rw [hw']; clear hw' w1) | (go_at_call 74; go_loud (refine HLt.out.mono ?_); rintro e w1 ⟨rfl, hw'⟩; rw [hw']; clear hw' w1) | (go_at_call 93; go_loud (refine HR2.out.mono ?_); rintro e w2 ⟨rfl, q1, q2⟩; have Q1 := hidA q1; have Q2 := hidA q2; clear q1 q2))
    go_ret
    exact ⟨rfl, Q1.out, Q2.out⟩
end Go.Proofs.YtncnmeidciailaaDoor
