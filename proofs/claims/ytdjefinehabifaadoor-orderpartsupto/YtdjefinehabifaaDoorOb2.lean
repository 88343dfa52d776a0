/- What the cards of this seat share: a start that meets the condition, the example, rows of bytes and keys that come in. No condition. -/
import Derived.Test.YtdjefinehabifaaDoorCards
import Derived.Test.YtdjefinehabifaaDoorTie
import Derived.Test.YtdjefinehabifaaDoorOkX
import Derived.Test.YtdjefinehabifaaDoorEvZ
import Derived.Test.YtdjefinehabifaaDoorOb0
import Derived.ProofKit
import Derived.Lay
import Derived.LaidMore
import Derived.OpenShut
import Derived.ChangeOld
import Derived.SizedLaws
import Derived.SevenTiedAt
import Derived.ChangeMaps5
import Derived.Deep.DeepHandedRow
import Derived.Stop.Joined
namespace Go.Proofs.YtdjefinehabifaaDoor
open Go.ChangeShapes Go.WideShapes Go.ChangeAt Go.RowKit
open Ev
theorem own : ownKnob Tryd.prog.godebug = none := by kernel_rfl
theorem laidOut : laidOutB Tryd.prog = true := by kernel_rfl
def laidL : List (String × DataW Unit) := [("unicode/utf8.acceptRanges", Rows.laid_unicode_utf8_acceptRanges), ("unicode/utf8.first", Rows.laid_unicode_utf8_first)]
set_option maxRecDepth 100000 in
theorem start_met (os : Os) (args : Array Value) : laidMetH Tryd.prog laidL ((World.laidAll Tryd.prog os laidL).forCall (fun _ _ => 0) ⟨#[], args, []⟩).memory := by
  rw [MakeChecks.laidMetH_plain _ _ _ (by kernel_rfl)]
  exact laidMet_laidAll _ (by kernel_rfl) (by kernel_rfl)
theorem awakeRun : callA Tryd.prog x0 0 hint 20000 16 [] h0 saysTrue = .ok := by kernel_rfl
theorem awakes (W : World) : Calls Tryd.prog 16 #[] W fun e w' => e = .returned (.bool true) ∧ Below W.heap.size W w' := true_of_run x0_ok Tryd.checked.mixed awakeRun W
theorem witness_row_sh {H : Type} {enc : TypeId × Value → H} {C : Checked} {os : Os} {f : FuncId} {fn : Func} {s : OpenSpec} {conds : List PathCond} {apart : Bool} {laid : List (String × DataW Unit)} (modest : Bool) (w0 : World) (args : Array Value) (hos : w0.os = os)
    (hsh : (w0.forCall (fun _ _ => 0) ⟨#[], args, []⟩).Shaped C.prog)
    (hok : Input.okWideB C.prog (w0.forCall (fun _ _ => 0) ⟨#[], args, []⟩) f ⟨#[], args, []⟩ = true)
    (hrow : s.preRow enc C.prog fn conds apart laid (w0.forCall (fun _ _ => 0) ⟨#[], args, []⟩).memory args) :
    ∃ (w : World) (tape : Tape) (i : Input), w.os = os ∧ (w.forCall tape i).Shaped C.prog ∧ i.vars = [] ∧ Input.okWide C.prog (w.forCall tape i) .any w.heap.size f i ∧
      s.preRow enc C.prog fn conds apart laid (w.forCall tape i).memory i.args ∧ ({ modest := modest } : Assume).holds C.prog (lone (Frame.enter C.prog f i.args .normal) [] (w.forCall tape i)) :=
  ⟨w0, fun _ _ => 0, ⟨#[], args, []⟩, hos, hsh, (Input.okWide_of_okWideB (base := 0) hok).1, (Input.okWide_of_okWideB hok).2, hrow, by
    simp only [Assume.holds]
    exact ⟨by simp, by simp, fun _ => Modest.zero, by simp, by simp⟩⟩
theorem i64_range {x : Int} (h : (Lit.int .i64 x).wf = true) : -9223372036854775808 ≤ x ∧ x ≤ 9223372036854775807 := by
  simp only [Lit.wf, Bool.and_eq_true, decide_eq_true_eq] at h
  exact ⟨h.1, h.2⟩
theorem bulk_lits {H : Type} (k : IntKind) : ∀ zs : List Int, Rows.uptoBulkAll (lits (H := H) k zs) = zs.length
  | [] => rfl
  | z :: zs => by
    have ih := bulk_lits (H := H) k zs
    show Rows.uptoBulk (DataW.lit (.int k z)) + Rows.uptoBulkAll (lits (H := H) k zs) = _
    rw [ih]
    simp [Rows.uptoBulk]; omega
/-- A cell that can be read lies in a block's plain cells. -/
theorem spot_of_cell {w : World} {a : Addr} {v : Value} (h : w.cell? a = some v) : a.spot = none := by
  unfold World.cell? at h
  split at h
  · split at h
    · exact absurd h (by simp)
    · rename_i hs
      cases e : a.spot with
      | none => rfl
      | some x => rw [e] at hs; simp at hs
  · exact absurd h (by simp)
/-- A row of bytes that comes in, and its bulk. -/
theorem bytes_in {H : Type} {enc : TypeId × Value → H} {W : World} {base : Nat} {spare : Nat → Bool} {held : Bool} {a : Option Addr} {len cap : Nat} {d : DataW H} {ps : List MemPlace} (h : DataW.Trod enc Tryd.prog W base spare held 22 (.slice a len cap) d ps) : ∃ l : List UInt8, l.length = len ∧ Sr W a cap l ∧ l.length ≤ Rows.uptoBulk d := by
  obtain ⟨fuel, hf⟩ := h
  rcases open_ints Tryd.underlying22 Tryd.underlying5 (by kernel_rfl) hf with ⟨hcs, _⟩ | ⟨x, l, c, zs, hcs, _, hl, hm, hz, hx, hcell, hwz⟩
  · simp [Value.cells] at hcs
    obtain ⟨rfl, rfl, rfl⟩ := hcs
    exact ⟨[], rfl, Sr.empty W, by simp⟩
  · simp [Value.cells] at hcs
    obtain ⟨rfl, rfl, rfl⟩ := hcs
    injection hx with hx1 hx2
    subst hx1
    have hzl : len ≤ zs.length := by rw [hz]; split <;> omega
    have hlen : ((zs.take len).map fun z => UInt8.ofNat z.toNat).length = len := by rw [List.length_map, List.length_take, Nat.min_eq_left hzl]
    refine ⟨_, hlen, ⟨fun j hj => ?_, by omega, fun e => by cases e⟩, ?_⟩
    · rw [hlen] at hj
      have h1 := hcell j (by omega)
      obtain ⟨g, go, sp⟩ := x
      have hsp : sp = none := by
        have := spot_of_cell (hcell 0 (by omega))
        cases sp with
        | none => rfl
        | some y => unfold Addr.add at this; simp at this
      subst hsp
      rw [show (⟨g, go, none⟩ : Addr).add j = ⟨g, go + j, none⟩ by simp [Addr.add]] at h1
      refine ⟨g, go, rfl, block_lt_of_cell h1, ?_⟩
      rw [h1]
      have hjz : j < zs.length := by omega
      have e : zs.getD j 0 = zs[j] := by rw [List.getD_eq_getElem?_getD, List.getElem?_eq_getElem hjz]; rfl
      have hb := bounds_u8 (hwz zs[j] (List.getElem_mem hjz))
      rw [e]
      simp only [List.getElem_map, List.getElem_take]
      have e2 : (UInt8.ofNat (zs[j]).toNat).toNat = (zs[j]).toNat := by simp; omega
      rw [e2, Int.toNat_of_nonneg hb.1]
    · rw [hlen]
      simp only [Rows.uptoBulk, bulk_lits, List.length_take]; omega
theorem arr5 (cs : Array Value) (h : cs.size = 5) : ∃ c0 c1 c2 c3 c4, cs = #[c0, c1, c2, c3, c4] := by
  rcases cs with ⟨l⟩
  match l, h with
  | [c0, c1, c2, c3, c4], _ => exact ⟨c0, c1, c2, c3, c4, rfl⟩
section
variable {H : Type} {enc : TypeId × Value → H} {W : World} {base : Nat} {spare : Nat → Bool} {held : Bool}
theorem int_of {n : Nat} {t : TypeId} {c : Value} {y : DataW H × List MemPlace} (ht : Tryd.prog.underlying t = some (.int .i64)) (h : DataW.trod enc Tryd.prog W base spare held n t [c] = some y) : ∃ z, c = .int .i64 z ∧ -(2 ^ 63) ≤ z ∧ z < 2 ^ 63 := by
  obtain ⟨z, hz, _, hw⟩ := DataW.trod_int ht h
  have := i64_range hw
  exact ⟨z, by simpa using hz, by omega, by omega⟩
theorem kI : Tryd.prog.cellsOf 3 = 1 := by kernel_rfl
theorem key_open {n : Nat} {c0 c1 c2 c3 c4 : Value} {y : DataW H × List MemPlace} (h : DataW.trod enc Tryd.prog W base spare held n 24 [c0, c1, c2, c3, c4] = some y) : ∃ k : Od.K5, c0 = .int .i64 k.1 ∧ c1 = .int .i64 k.2.1 ∧ c2 = .int .i64 k.2.2.1 ∧ c3 = .int .i64 k.2.2.2.1 ∧ c4 = .int .i64 k.2.2.2.2 ∧ Od.In k := by
  obtain ⟨xs, k, _, _, _, hlen, hf⟩ := DataW.trod_struct Tryd.underlying24 h
  have hl : xs.length = 5 := hlen
  obtain ⟨z0, e0, r0⟩ := int_of (enc := enc) (W := W) (base := base) (spare := spare) (held := held) (n := k) (y := xs[0]) (c := c0) Tryd.underlying3 (by
    have g := hf 0 ⟨_, 3, 0, _, _, _, _⟩ rfl
    dsimp only at g
    rw [kI, List.getElem?_eq_getElem (by omega)] at g
    exact g)
  obtain ⟨z1, e1, r1⟩ := int_of (enc := enc) (W := W) (base := base) (spare := spare) (held := held) (n := k) (y := xs[1]) (c := c1) Tryd.underlying3 (by
    have g := hf 1 ⟨_, 3, 1, _, _, _, _⟩ rfl
    dsimp only at g
    rw [kI, List.getElem?_eq_getElem (by omega)] at g
    exact g)
  obtain ⟨z2, e2, r2⟩ := int_of (enc := enc) (W := W) (base := base) (spare := spare) (held := held) (n := k) (y := xs[2]) (c := c2) Tryd.underlying3 (by
    have g := hf 2 ⟨_, 3, 2, _, _, _, _⟩ rfl
    dsimp only at g
    rw [kI, List.getElem?_eq_getElem (by omega)] at g
    exact g)
  obtain ⟨z3, e3, r3⟩ := int_of (enc := enc) (W := W) (base := base) (spare := spare) (held := held) (n := k) (y := xs[3]) (c := c3) Tryd.underlying3 (by
    have g := hf 3 ⟨_, 3, 3, _, _, _, _⟩ rfl
    dsimp only at g
    rw [kI, List.getElem?_eq_getElem (by omega)] at g
    exact g)
  obtain ⟨z4, e4, r4⟩ := int_of (enc := enc) (W := W) (base := base) (spare := spare) (held := held) (n := k) (y := xs[4]) (c := c4) Tryd.underlying3 (by
    have g := hf 4 ⟨_, 3, 4, _, _, _, _⟩ rfl
    dsimp only at g
    rw [kI, List.getElem?_eq_getElem (by omega)] at g
    exact g)
  exact ⟨(z0, z1, z2, z3, z4), e0, e1, e2, e3, e4, r0, r1, r2, r3⟩
end
end Go.Proofs.YtdjefinehabifaaDoor
