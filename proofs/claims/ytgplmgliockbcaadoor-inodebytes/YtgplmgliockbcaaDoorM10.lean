/- Several texts of this claim, one behind the other, in their order. -/
import Derived.Test.YtgplmgliockbcaaDoorCards
import Derived.Test.YtgplmgliockbcaaDoorTie
import Derived.Test.YtgplmgliockbcaaDoorM9
import Derived.ProofKit
import Derived.LaidMore
import Derived.OpenShut
import Derived.ChangeOld
import Derived.Stop.Joined
import Derived.SevenTiedAt
import Derived.Lib.LaidTab
import Derived.Test.YtgplmgliockbcaaDoorM8
import Derived.Laws.StructEq
import Derived.ChangeKeysEq
/- What the rows of this seat share: the listed table as the walks want it, and a start that meets the condition. -/
namespace Go.Proofs.YtgplmgliockbcaaDoor
open Go.ChangeShapes Go.WideShapes Go.ChangeAt Go.RowKit

theorem Mod.below0 {w w' : World} (h : Mod (fun _ => False) w w') : Below w.heap.size w w' := h.below (Nat.le_refl _) (fun _ _ h => h)
theorem own : ownKnob Tryd.prog.godebug = none := by kernel_rfl
theorem laidOut : laidOutB Tryd.prog = true := by kernel_rfl
theorem gTab : Tryd.prog.globalNamed "math/bits.deBruijn64tab" = some 0 := by kernel_rfl
theorem tTab : (Tryd.prog.globals[0]?).map (·.type) = some 124 := by kernel_rfl
abbrev laidL : List (String × DataW Unit) := [("math/bits.deBruijn64tab", Rows.laid_math_bits_deBruijn64tab)]
/-- The door's own heap meets the condition. -/
theorem door_met (os : Os) (args : Array Value) : laidMetH Tryd.prog laidL ((World.doorLaid Tryd.prog 400 os).forCall (fun _ _ => 0) ⟨#[], args, []⟩).memory :=
  laidMetH_of_parts3 (fuel := 8) (laidMet_of_run' 8 (by kernel_rfl) (by kernel_rfl)) (by kernel_rfl) (by kernel_rfl)
def tabZ : List Int := Lib.deBruijn64tab.map Int.ofNat
theorem tabInts : Rows.laid_math_bits_deBruijn64tab (H := Unit) = Lib.tabData .u8 tabZ := rfl
/-- What the condition gives the walks. -/
theorem of_laid {W : World} (h : laidMetH Tryd.prog laidL W) : TabIs W := by
  rw [MakeChecks.laidMetH_plain _ _ _ (by kernel_rfl)] at h
  have hT := Lib.tabIs_of_head (k := .u8) (zs := tabZ) (e := 5) (n := 64) gTab tTab (by kernel_rfl) (by kernel_rfl) (by kernel_rfl) (by kernel_rfl) (show laidMet Tryd.prog [("math/bits.deBruijn64tab", Lib.tabData .u8 tabZ)] W from tabInts ▸ h)
  intro j hj
  have := hT.cell gTab j hj
  rw [this]
  simp only [tabZ, List.getD_eq_getElem?_getD, List.getElem?_map]
  rw [List.getElem?_eq_getElem (show j < Lib.deBruijn64tab.length from hj)]
  rfl
end Go.Proofs.YtgplmgliockbcaaDoor
/- The walk of prune: places from keep on are holes. Conditions: the store lies in memory as 'St' says, the table's first cell leads to it, the ref lies in a block of its own. -/
namespace Go.Proofs.YtgplmgliockbcaaDoor
open Go.RowKit
theorem und_r : Tryd.prog.underlying 87 = some (.int .i64) := by kernel_rfl
theorem part_r (A : Array Value) (j : Nat) (v : Value) (h : A[j]? = some v) (W : World) : (Go.part 87 A j).run Tryd.prog W = .ok v W := by
  simp [Go.part, go_sem, h]
theorem items_r (q : Nat → Nat) (W : World) (d : Nat) : ∀ is : List Nat, (∀ j ∈ is, j < 16) → (Op.eqItems (d + 1) 87 1 (refsV q) zeroP is).run Tryd.prog W = .ok (is.all fun j => q j == 0) W
  | [], _ => by simp [Op.eqItems]
  | j :: is, h => by
    have hj : j < 16 := h j (by simp)
    have h1 := part_r (refsV q) j (.int .i64 (q j : Nat)) (by simp [refsV, List.getElem?_range hj, refV]) W
    have h2 := part_r zeroP j (.int .i64 0) (by simp [zeroP, hj]) W
    have h3 := run_equalIn_int (P := Tryd.prog) (w := W) d 87 .i64 .i64 (q j : Nat) 0 und_r
    have ih := items_r q W d is (fun k hk => h k (by simp [hk]))
    simp only [Op.eqItems, Sem.run_bind, Nat.mul_one, h1, h2, h3, Result.andThen_ok]
    by_cases hq : q j = 0
    · simp [hq, ih]
    · have : ((q j : Int) == 0) = false := by simpa using hq
      simp [this, hq]
/-- Are all the refs holes? -/
def allZ (q : Nat → Nat) : Bool := (List.range 16).all fun j => q j == 0
theorem run_neqP (q : Nat → Nat) (W : World) : (binOp .neq 134 (.agg (refsV q)) (.agg zeroP)).run Tryd.prog W = .ok (.bool (!allZ q)) W := by
  obtain ⟨i, hi, -, hz, -⟩ : ∃ i, Tryd.prog.info? 87 = some i ∧ i.zero = some (.int .i64 0) ∧ i.size = 1 ∧ i.bytes = 8 := info_of (by kernel_rfl)
  rw [run_neq_struct, run_equalIn_array (P := Tryd.prog) (w := W) 9999 (refsV q) zeroP undP hi]
  rw [show Tryd.prog.cellsOf 87 = 1 by kernel_rfl, items_r q W 9998 (List.range 16) (fun j hj => by simpa using hj)]
  rfl
/-- What prune makes: in use, the bytes, the ref. -/
abbrev PS := (Nat → Bool) × (Nat → Nat) × Nat
/-- The first i of an indirect block's refs are pruned. -/
def prRow (f : (Nat → Bool) → (Nat → Nat) → Nat → Int → PS) (below : Nat) (keep : Int) : Nat → (Nat → Bool) × (Nat → Nat) × (Nat → Nat) → (Nat → Bool) × (Nat → Nat) × (Nat → Nat)
  | 0, s => s
  | i + 1, s => ((f (prRow f below keep i s).1 (prRow f below keep i s).2.1 ((prRow f below keep i s).2.2 i) (keep - (i * below : Nat))).1, (f (prRow f below keep i s).1 (prRow f below keep i s).2.1 ((prRow f below keep i s).2.2 i) (keep - (i * below : Nat))).2.1,
      upd (prRow f below keep i s).2.2 i (f (prRow f below keep i s).1 (prRow f below keep i s).2.1 ((prRow f below keep i s).2.2 i) (keep - (i * below : Nat))).2.2)
/-- prune, by its words. -/
def pr : Nat → (Nat → Bool) → (Nat → Nat) → Nat → Int → PS
  | 0, u, D, r, keep => if r = 0 ∨ 1 ≤ keep then (u, D, r) else (freeU u r, freeD u D r, 0)
  | l + 1, u, D, r, keep => if r = 0 ∨ ((16 ^ (l + 1) : Nat) : Int) ≤ keep then (u, D, r) else
      if allZ (prRow (pr l) (16 ^ l) keep 16 (u, D, ptr u D r)).2.2 then (freeU (prRow (pr l) (16 ^ l) keep 16 (u, D, ptr u D r)).1 r, freeD (prRow (pr l) (16 ^ l) keep 16 (u, D, ptr u D r)).1 (prRow (pr l) (16 ^ l) keep 16 (u, D, ptr u D r)).2.1 r, 0)
      else ((prRow (pr l) (16 ^ l) keep 16 (u, D, ptr u D r)).1, saved (prRow (pr l) (16 ^ l) keep 16 (u, D, ptr u D r)).1 (prRow (pr l) (16 ^ l) keep 16 (u, D, ptr u D r)).2.1 r (prRow (pr l) (16 ^ l) keep 16 (u, D, ptr u D r)).2.2, r)
theorem pr_le : ∀ (l : Nat) (u : Nat → Bool) (D : Nat → Nat) (r : Nat) (keep : Int), (pr l u D r keep).2.2 ≤ r
  | 0, u, D, r, keep => by rw [pr]; split; exact Nat.le_refl _; exact Nat.zero_le _
  | l + 1, u, D, r, keep => by
    rw [pr]; split
    · exact Nat.le_refl _
    · split
      · exact Nat.zero_le _
      · exact Nat.le_refl _
def PrPost (b c n t ab ao : Nat) (w : World) (y : PS) (e : Ending) (w' : World) : Prop :=
  e = .returned (.tuple #[]) ∧ St w' b c n y.1 y.2.1 ∧ w'.cell? ⟨ab, ao, none⟩ = some (.int .i64 (y.2.2 : Nat)) ∧ Fr b c ab ao w w' ∧ w'.cell? ⟨t, 0, none⟩ = some (.pointer (some ⟨b, 0, none⟩))
/-- The store, the table, the ref at ⟨ab, ao⟩ and the refs in prune's variable at Pb. -/
structure PQ (b c n t ab ao r Pb : Nat) (u : Nat → Bool) (D : Nat → Nat) (q : Nat → Nat) (w : World) : Prop where
  S : St w b c n u D
  ct : w.cell? ⟨t, 0, none⟩ = some (.pointer (some ⟨b, 0, none⟩))
  ca : w.cell? ⟨ab, ao, none⟩ = some (.int .i64 (r : Nat))
  fa : w.frozen? ⟨ab, ao, none⟩ = false
  at_ : ∀ j, j < 16 → w.cell? ⟨Pb, j, none⟩ = some (.int .i64 (q j : Nat))
  fr : ∀ o, o < 16 → w.frozen? ⟨Pb, o, none⟩ = false
  ql : ∀ j, q j < 4294967296
  A : Apart b c t ab
  P : Apart b c t Pb
  ne : ab ≠ Pb
theorem fr_sub0 {b c ab ao Pb po : Nat} {w x y : World} (h : Fr b c Pb po x y) (hab : ab < x.heap.size) (h1 : ab ≠ b) (h2 : ab ≠ c) (h3 : ab ≠ Pb) (hl : w.heap.size ≤ Pb) (hF : Fr b c ab ao w x) : Fr b c ab ao w y :=
  fr_sub (x := x) (po := po) ⟨⟨h.mod.os, h.mod.tape, h.mod.output, h.mod.size, h.mod.block⟩, h.cell, h.frz⟩ hab h1 h2 h3 hl hF
theorem PQ.next {b c n t ab ao r Pb : Nat} {u u' : Nat → Bool} {D D' : Nat → Nat} {q : Nat → Nat} {w w' : World} (h : PQ b c n t ab ao r Pb u D q w) (i x : Nat) (hx : x < 4294967296) (hS : St w' b c n u' D') (hc : w'.cell? ⟨Pb, i, none⟩ = some (.int .i64 (x : Nat))) (hF : Fr b c Pb i w w') (ht : w'.cell? ⟨t, 0, none⟩ = some (.pointer (some ⟨b, 0, none⟩))) :
    PQ b c n t ab ao r Pb u' D' (upd q i x) w' where
  S := hS
  ct := ht
  ca := (hF.mod.cell (p := ⟨ab, ao, none⟩) (block_lt_of_cell h.ca) (fun e => e.elim h.A.nb (fun e => e.elim h.A.nc h.ne))).trans h.ca
  fa := (hF.mod.frozen (p := ⟨ab, ao, none⟩) (block_lt_of_cell h.ca) (fun e => e.elim h.A.nb (fun e => e.elim h.A.nc h.ne))).trans h.fa
  at_ j hj := by
    unfold upd
    by_cases e : j = i
    · subst e; rw [if_pos rfl]; exact hc
    · rw [if_neg e]; exact (hF.cell j e).trans (h.at_ j hj)
  fr o ho := (hF.frz o).trans (h.fr o ho)
  ql j := by unfold upd; split; exact hx; exact h.ql j
  A := h.A
  P := h.P
  ne := h.ne
section
variable {w : World} {b c n : Nat} {u : Nat → Bool} {D : Nat → Nat}
theorem prune_hole (t ab ao p : Nat) (keep : Int) (ha : w.cell? ⟨ab, ao, none⟩ = some (.int .i64 (0 : Nat))) :
    Calls Tryd.prog 68 #[.pointer (some ⟨t, 0, none⟩), .pointer (some ⟨ab, ao, none⟩), .int .i64 p, .int .i64 keep] w fun e w' => e = .returned (.tuple #[]) ∧ w' = w := by
  go_enter Tryd.func68, Tryd.ntmps68
  go_wp2
  exact bodyPost_ret (results_none rfl _ _ _) rfl ⟨rfl, rfl⟩
theorem prune_keeps (t ab ao r p : Nat) (keep : Int) (ha : w.cell? ⟨ab, ao, none⟩ = some (.int .i64 (r : Nat))) (hr : r ≠ 0) (hk : (p : Int) ≤ keep) :
    Calls Tryd.prog 68 #[.pointer (some ⟨t, 0, none⟩), .pointer (some ⟨ab, ao, none⟩), .int .i64 p, .int .i64 keep] w fun e w' => e = .returned (.tuple #[]) ∧ w' = w := by
  have hrb : ((r : Int) == 0) = false := by simpa using hr
  go_enter Tryd.func68, Tryd.ntmps68
  go_wp2
  exact bodyPost_ret (results_none rfl _ _ _) rfl ⟨rfl, rfl⟩
theorem prune_free (S : St w b c n u D) (t ab ao r : Nat) (keep : Int) (ht : w.cell? ⟨t, 0, none⟩ = some (.pointer (some ⟨b, 0, none⟩))) (ha : w.cell? ⟨ab, ao, none⟩ = some (.int .i64 (r : Nat))) (hf : w.frozen? ⟨ab, ao, none⟩ = false) (hA : Apart b c t ab) (hr : r < 4294967296) (hr0 : r ≠ 0) (hk : ¬ 1 ≤ keep) :
    Calls Tryd.prog 68 #[.pointer (some ⟨t, 0, none⟩), .pointer (some ⟨ab, ao, none⟩), .int .i64 1, .int .i64 keep] w (PrPost b c n t ab ao w (freeU u r, freeD u D r, 0)) := by
  have hrb : ((r : Int) == 0) = false := by simpa using hr0
  have HF : Hid (Calls Tryd.prog 76 #[.pointer (some ⟨t, 0, none⟩), .pointer (some ⟨ab, ao, none⟩)] w fun e w' => e = .returned (.tuple #[]) ∧ St w' b c n (freeU u r) (freeD u D r) ∧ w'.cell? ⟨ab, ao, none⟩ = some (.int .i64 0) ∧ Fr b c ab ao w w') := free_any S t ab ao r ht ha hf hA.a0 hA.nb hA.nc hA.tb hA.tc hr
  have HT : Hid (w.cell? ⟨t, 0, none⟩ = some (.pointer (some ⟨b, 0, none⟩)) ∧ Apart b c t ab) := ⟨ht, hA⟩
  clear S ht hf hA
  go_enter Tryd.func68, Tryd.ntmps68
  go_wp2_with (go_at_call 76; refine HF.out.mono ?_; rintro e w1 ⟨rfl, H1, C1, F1⟩; have HH : Hid (St w1 b c n (freeU u r) (freeD u D r) ∧ w1.cell? ⟨ab, ao, none⟩ = some (.int .i64 0) ∧ Fr b c ab ao w w1) := ⟨H1, C1, F1⟩; clear H1 C1 F1)
  exact ⟨rfl, _, results_none rfl _ _ _, rfl, HH.out.1, HH.out.2.1, HH.out.2.2, (HH.out.2.2.mod.cell (p := ⟨t, 0, none⟩) (block_lt_of_cell HT.out.1) (fun e => e.elim HT.out.2.tb (fun e => e.elim HT.out.2.tc HT.out.2.ta))).trans HT.out.1⟩
/-- prune of one place. -/
theorem prune0 (S : St w b c n u D) (t ab ao r : Nat) (keep : Int) (ht : w.cell? ⟨t, 0, none⟩ = some (.pointer (some ⟨b, 0, none⟩))) (ha : w.cell? ⟨ab, ao, none⟩ = some (.int .i64 (r : Nat))) (hf : w.frozen? ⟨ab, ao, none⟩ = false) (hA : Apart b c t ab) (hr : r < 4294967296) :
    Calls Tryd.prog 68 #[.pointer (some ⟨t, 0, none⟩), .pointer (some ⟨ab, ao, none⟩), .int .i64 1, .int .i64 keep] w (PrPost b c n t ab ao w (pr 0 u D r keep)) := by
  rw [pr]
  by_cases h0 : r = 0
  · subst h0
    rw [if_pos (.inl rfl)]
    exact (prune_hole t ab ao 1 keep ha).mono fun e w' ⟨h1, h2⟩ => by subst h2; exact ⟨h1, S, ha, Fr.refl _ _ _ _ _, ht⟩
  · by_cases hk : 1 ≤ keep
    · rw [if_pos (.inr hk)]
      exact (prune_keeps t ab ao r 1 keep ha h0 hk).mono fun e w' ⟨h1, h2⟩ => by subst h2; exact ⟨h1, S, ha, Fr.refl _ _ _ _ _, ht⟩
    · rw [if_neg (fun h => h.elim h0 hk)]
      exact prune_free S t ab ao r keep ht ha hf hA hr h0 hk
end
end Go.Proofs.YtgplmgliockbcaaDoor
