/- The walk of GetoptParses. Conditions: the list's cells are as said; lengths that fit. -/
import Derived.Test.YtgbkgfmljcfhoaaGe2
namespace Go.Proofs.Ytgbkgfmljcfhoaa
open Go.RowKit
/-- What a result holds. -/
def resO : Option Ga.Res → List Ga.Opt
  | some (.ok o _) => o
  | _ => []
def resR : Option Ga.Res → List (List UInt8)
  | some (.ok _ r) => r
  | _ => []
def resN : Option Ga.Res → List UInt8
  | some (.bad n _) => n
  | _ => []
def resM : Option Ga.Res → Bool
  | some (.bad _ m) => m
  | _ => false
def resC : Option Ga.Res → Int
  | none => 22
  | some (.bad _ _) => 100
  | some (.ok _ _) => 0
/-- What Parse tells, as it is read; its operands lie in a row of its own. -/
theorem OutP.any {w W : World} {e : Ending} {R : Option Ga.Res} (h : OutP w W e R) : ∃ (a b : Option Addr) (c d : Nat), e = .returned (.tuple #[.slice a (resO R).length c, .slice b (resR R).length d, .agg #[.string ⟨(resN R).toArray⟩, .bool (resM R)], .int .i64 (resC R)]) ∧ Opts W a (resO R) ∧ Strs W b (resR R) ∧ W.ownsRow w.heap.size 9 1 (.slice b (resR R).length d) (resR R).length ((resR R).map sv) ∧ (∀ k, a.map (·.block) = some k → some k ≠ b.map (·.block)) := by
  match R, h with
  | none, h => exact ⟨none, none, 0, 0, h, fun j x hx => by simp [resO] at hx, Strs.nil _ _, World.ownsRow_nil _ _ _ _, by simp⟩
  | some (.bad n m), h => exact ⟨none, none, 0, 0, h, fun j x hx => by simp [resO] at hx, Strs.nil _ _, World.ownsRow_nil _ _ _ _, by simp⟩
  | some (.ok o r), h =>
    obtain ⟨vo, vr, he, ho, hr, hd⟩ := h
    have hr' := hr
    obtain ⟨_, a, c, rfl, _, _, hO, _⟩ := own_opts ho
    obtain ⟨_, b, d, rfl, hd', hm, hS, _⟩ := own_strs hr
    refine ⟨a, b, c, d, he, hO, hS, hr', fun k hk hb => ?_⟩
    cases a with
    | none => simp at hk
    | some x =>
      cases b with
      | none => simp at hb
      | some y =>
        simp at hk hb
        rcases hd with h1 | h1
        · simp [Value.ownBlock] at h1
        · exact h1 (by simp [Value.ownBlock, hk, ← hb])
theorem resR_len {spec : List UInt8} {args : List (List UInt8)} : (resR (parseR spec args)).length ≤ 4 * wt args ∧ (resO (parseR spec args)).length ≤ 4 * wt args := by
  cases h : parseR spec args with
  | none => simp [resR, resO]
  | some x =>
    cases x with
    | bad n m => simp [resR, resO]
    | ok o r =>
      obtain ⟨_, _, _, _, _, hl⟩ := back_plain spec args o r h
      simp only [resR, resO]
      omega
/-- Only the row in block g has turned; it is still a row of at least n cells. -/
structure Wr (W V : World) (g n : Nat) : Prop where
  os : V.os = W.os
  tape : V.tape = W.tape
  output : V.output = W.output
  size : V.heap.size = W.heap.size
  block : ∀ k, k ≠ g → V.heap[k]? = W.heap[k]?
  row : ∃ cur T, V.heap[g]? = some (.cells cur T (0, 0)) ∧ n ≤ cur.size
theorem Wr.cell {W V : World} {g n : Nat} (h : Wr W V g n) (i : Nat) (hi : i < n) : ∃ v, V.cell? ⟨g, i, none⟩ = some v := by
  obtain ⟨cur, T, hg, hn⟩ := h.row
  rw [cell_of_row V g i cur T (0, 0) hg]
  exact ⟨_, Array.getElem?_eq_getElem (by omega)⟩
theorem Wr.frozen {W V : World} {g n : Nat} (h : Wr W V g n) (i : Nat) : V.frozen? ⟨g, i, none⟩ = false := by
  obtain ⟨cur, T, hg, _⟩ := h.row
  simp [World.frozen?, hg]
theorem Wr.set {W V : World} {g n : Nat} (h : Wr W V g n) (i : Nat) (v : Value) : Wr W (V.setCell ⟨g, i, none⟩ v) g n := by
  obtain ⟨cur, T, hg, hn⟩ := h.row
  refine ⟨h.os, h.tape, h.output, by rw [← h.size]; simp [World.setCell], fun k hk => (Below.heap_setCell _ _ _ _ hk).trans (h.block k hk), cur.setIfInBounds i v, T, ?_, by simpa using hn⟩
  unfold World.setCell
  simp [Array.getElem?_modify, hg]
theorem Wr.below {w W V : World} {g n B : Nat} (h : Wr W V g n) (hB : Below B w W) (hg : B ≤ g) : Below B w V :=
  hB.trans ⟨h.os, h.tape, h.output, by rw [h.size]; exact Nat.le_refl _, fun k hk => h.block k (by omega)⟩
theorem Wr.strs {W V : World} {g n : Nat} (h : Wr W V g n) {a : Option Addr} {xs : List (List UInt8)} (hS : Strs W a xs) (ha : ∀ b, a.map (·.block) = some b → b ≠ g) : Strs V a xs := by
  intro j x hx
  obtain ⟨bk, o, rfl, hlt, hc⟩ := hS j x hx
  exact ⟨bk, o, rfl, by rw [h.size]; exact hlt, (World.cell?_of_block (a := ⟨bk, o + j, none⟩) (h.block bk (ha bk rfl))).trans hc⟩
theorem own_empty (w : World) (T : TypeId) : (w.alloc (.cells #[] T)).ownsRow w.heap.size T 1 (.slice (some ⟨w.heap.size, 0, none⟩) 0 0) 0 [] := World.ownsRow_made w #[] 0 (Nat.le_refl _) (Nat.zero_le _) rfl
end Go.Proofs.Ytgbkgfmljcfhoaa
