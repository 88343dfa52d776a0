/- Several texts of this claim, one behind the other, in their order. -/
import Derived.Test.YtplnojohlbbalaaDoorUi8
import Derived.Test.YtplnojohlbbalaaDoorM9
import Derived.Deep.RegionHeld3
import Derived.Test.YtplnojohlbbalaaDoorCards
import Derived.Test.YtplnojohlbbalaaDoorTie
import Derived.Test.YtplnojohlbbalaaDoorM13
import Derived.ProofKit
import Derived.Lay
import Derived.LaidMore
import Derived.OpenShut
import Derived.ChangeOld
import Derived.SizedLaws
import Derived.SevenTiedAt
import Derived.Lib.LaidTab
import Derived.Stop.LaidErr
import Derived.ChangeMaps5
import Derived.Deep.DeepHandedRow
import Derived.Stop.Joined
/- TextTurns' own function: it answers true. Condition: a length that fits; the table of powers of ten reads as its text lays it. -/
namespace Go.Proofs.YtplnojohlbbalaaDoor
open Go.RowKit
attribute [local go_sem] ext_eq app_eq get_eq
abbrev ZN (n0 st wd : Int) (all : Bool) : Obj := .cells #[.int .i64 n0, .int .i64 st, .int .i64 wd, .bool all] 34
set_option maxRecDepth 100000 in
set_option maxHeartbeats 4000000 in
theorem turns_walk (l : List UInt8) (a : Option Addr) (c : Nat) (n0 st wd : Int) (all : Bool) (hl : l.length ≤ 1048576) (hn0 : -9223372036854775808 ≤ n0) (hn1 : n0 ≤ 9223372036854775807) (s0 : -9223372036854775808 ≤ st) (s1 : st ≤ 9223372036854775807) (w : World) (hT : Tab w) (hS : Sr w a c l) :
    Calls Tryd.prog 4 #[.slice a l.length c, .agg #[.int .i64 n0, .int .i64 st, .int .i64 wd, .bool all]] w fun e w' => e = .returned (.bool true) ∧ Below w.heap.size w w' := by
  have hb0 := (Below.refl w.heap.size w).alloc (Nat.le_refl _) (ZN n0 st wd all)
  have hsz : w.heap.size < (w.alloc (ZN n0 st wd all)).heap.size := by simp
  have hTa : ∀ W, Below (w.alloc (ZN n0 st wd all)).heap.size (w.alloc (ZN n0 st wd all)) W → Tab W := fun W b => by
    obtain ⟨t, h2, h3⟩ := tab_lt hT
    exact hT.at h2 ((b.block t (by omega)).trans (hb0.block t h3))
  have hSa := fun W (b : Below (w.alloc (ZN n0 st wd all)).heap.size (w.alloc (ZN n0 st wd all)) W) => hS.grow (hb0.trans (b.mono (by omega)))
  have HA1 := hidA (fun W (b : Below (w.alloc (ZN n0 st wd all)).heap.size (w.alloc (ZN n0 st wd all)) W) => oRev l a c hl W (hSa W b))
  have HB1 := hidA (fun W (b : Below (w.alloc (ZN n0 st wd all)).heap.size (w.alloc (ZN n0 st wd all)) W) => rRev l a c hl W (hSa W b).src)
  have HA2 := hidA (fun W (b : Below (w.alloc (ZN n0 st wd all)).heap.size (w.alloc (ZN n0 st wd all)) W) => oTac l a c hl W (hSa W b))
  have HB2 := hidA (fun W (b : Below (w.alloc (ZN n0 st wd all)).heap.size (w.alloc (ZN n0 st wd all)) W) => rTac l a c (by omega) W (hSa W b).src)
  have HA3 := hidA (fun W (b : Below (w.alloc (ZN n0 st wd all)).heap.size (w.alloc (ZN n0 st wd all)) W) => oNumber l a c n0 st wd all hl hn0 hn1 s0 s1 W (hTa W b) (hSa W b))
  have HB3 := hidA (fun W (b : Below (w.alloc (ZN n0 st wd all)).heap.size (w.alloc (ZN n0 st wd all)) W) => rNumber l a c n0 st wd all hl hn0 hn1 s0 s1 W (hSa W b).src)
  rw [Tl.prs_no_wh] at HA3
  have HAw := hidA awakes
  have HK := hidA (fun W (b : Below (w.alloc (ZN n0 st wd all)).heap.size (w.alloc (ZN n0 st wd all)) W) => (show W.cell? ⟨w.heap.size, 0, none⟩ = some (.int .i64 n0) ∧ W.cell? ⟨w.heap.size, 1, none⟩ = some (.int .i64 st) ∧ W.cell? ⟨w.heap.size, 2, none⟩ = some (.int .i64 wd) ∧ W.cell? ⟨w.heap.size, 3, none⟩ = some (.bool all) from ⟨(b.cell (p := ⟨w.heap.size, 0, none⟩) hsz).trans (World.cell?_alloc_at _ _ _ _ rfl), (b.cell (p := ⟨w.heap.size, 1, none⟩) hsz).trans (World.cell?_alloc_at _ _ _ _ rfl), (b.cell (p := ⟨w.heap.size, 2, none⟩) hsz).trans (World.cell?_alloc_at _ _ _ _ rfl), (b.cell (p := ⟨w.heap.size, 3, none⟩) hsz).trans (World.cell?_alloc_at _ _ _ _ rfl)⟩))
  have Hb0 := hidA hb0
  have hszw := Nat.le_of_lt hsz
  clear hTa hSa hT hS hb0 hsz
  generalize Tl.wh ((Tl.ls l).map List.reverse) (Tl.eb l) = P at *
  generalize Tl.tc l 0 = Q at *
  generalize Tl.wh (Tl.nls all st (Tl.wdt wd) (some n0) (Tl.ls l)) (Tl.eb l) = R at *
  go_enter Tryd.func4, Tryd.ntmps4
  go_upto_region 1 with fail
  generalize w.alloc (ZN n0 st wd all) = W0 at *
  have HW := hidA (Below.refl W0.heap.size W0)
  go_upto_region 2 with (first
    | (go_at_call 13; (with_reducible refine (HA1.out _ HW.out).mono ?_); rintro e w1 ⟨v1, rfl, h1, b1⟩; obtain ⟨a1, c1, hv1⟩ := h1.slice; subst hv1; have V1 := hidA h1.sr; have HW := hidA (HW.out.trans (b1.mono HW.out.size)); clear h1 b1)
    | (go_at_call 14; (with_reducible refine (HB1.out _ HW.out).mono ?_); rintro e w2 ⟨v2, B2, rfl, h1, b1⟩; obtain ⟨a2, c2, hv2⟩ := h1.slice; subst hv2; have V1 := hidA (V1.out.grow b1); have V2 := hidA h1.sr; have HW := hidA (HW.out.trans (b1.mono HW.out.size)); clear h1 b1)
    | (go_at_call 15; (with_reducible refine (HA2.out _ HW.out).mono ?_); rintro e w1 ⟨v1, rfl, h1, b1⟩; obtain ⟨a1, c1, hv1⟩ := h1.slice; subst hv1; have V1 := hidA h1.sr; have HW := hidA (HW.out.trans (b1.mono HW.out.size)); clear h1 b1)
    | (go_at_call 16; (with_reducible refine (HB2.out _ HW.out).mono ?_); rintro e w2 ⟨v2, B2, rfl, h1, b1⟩; obtain ⟨a2, c2, hv2⟩ := h1.slice; subst hv2; have V1 := hidA (V1.out.grow b1); have V2 := hidA h1.sr; have HW := hidA (HW.out.trans (b1.mono HW.out.size)); clear h1 b1)
    | (go_at_call 7; (with_reducible refine (rSameS V1.out.src V2.out.src).mono ?_); rintro e w3 ⟨rfl, hw3⟩; rw [hw3]; clear hw3 w3))
  clear HA1 HA2 HB1 HB2 V1 V2
  have hS := HK.out w2 HW.out
  go_region_held3 (fun W' : World => W'.cell? ⟨w.heap.size, 0, none⟩ = some (.int .i64 n0) ∧ W'.cell? ⟨w.heap.size, 1, none⟩ = some (.int .i64 st) ∧ W'.cell? ⟨w.heap.size, 2, none⟩ = some (.int .i64 wd) ∧ W'.cell? ⟨w.heap.size, 3, none⟩ = some (.bool all)) (first | with_reducible exact hS | go_keep)
    (first
      | (go_at_call 17; (with_reducible refine Calls.mono (HA3.out _ (by first | exact HW.out | exact bl2 HW.out (bl_drew1 _) | exact bl2 HW.out (bl_drew _ _))) ?_); rintro e w5 ⟨v5, rfl, h5, b5⟩; obtain ⟨a5, c5, hv5⟩ := h5.slice; subst hv5; have V5 := hidA h5.sr; have HB5 : Hid (Below w2.heap.size w2 w5) := (by first | exact hidA b5 | exact hidA (bl_dr1 b5) | exact hidA (bl_drN b5)); have HW5 := hidA (bl2 HW.out HB5.out); have hS := HK.out w5 HW5.out; clear h5 b5 HA3)
      | (go_at_call 18; (with_reducible refine Calls.mono (HB3.out _ (by first | exact HW5.out | exact bl2 HW5.out (bl_drew1 _) | exact bl2 HW5.out (bl_drew _ _))) ?_); rintro e w6 ⟨v6, rfl, h6, b6⟩; obtain ⟨a6, c6, hv6⟩ := h6.slice; subst hv6; have HB6 : Hid (Below w5.heap.size w5 w6) := (by first | exact hidA b6 | exact hidA (bl_dr1 b6) | exact hidA (bl_drN b6)); have V6 := hidA h6.sr; have V5 := hidA (V5.out.grow HB6.out); have HW6 := hidA (bl2 HW5.out HB6.out); have hS := HK.out w6 HW6.out; clear h6 b6 HB3)
      | (go_at_call 7; (with_reducible refine Calls.mono (rSameS (V5.out.grow (by first | exact Below.refl _ _ | exact bl_drew1 _ | exact bl_drew _ _)).src (V6.out.grow (by first | exact Below.refl _ _ | exact bl_drew1 _ | exact bl_drew _ _)).src) ?_); rintro e w7 ⟨rfl, hw7⟩; have HB7 : Hid (Below w6.heap.size w6 w7) := (by rw [hw7]; first | exact hidA (Below.refl _ _) | exact hidA (bl_drew1 _) | exact hidA (bl_drew _ _)); have HW7 := hidA (bl2 HW6.out HB7.out); have hS := HK.out w7 HW7.out; clear hw7)
      | (go_at_call 10; (with_reducible refine Calls.mono (HAw.out _) ?_); rintro e w8 ⟨rfl, b8⟩; have HB8 : Hid (Below w7.heap.size w7 w8) := (by first | exact hidA b8 | exact hidA (bl_dr1 b8) | exact hidA (bl_drN b8)); have HW8 := hidA (bl2 HW7.out HB8.out); have hS := HK.out w8 HW8.out; clear b8)
      | fail)
  all_goals
    go_wp2_with fail
    go_ret
    first
      | exact ⟨rfl, Hb0.out.trans (HW8.out.mono hszw)⟩
      | exact ⟨rfl, Hb0.out.trans ((bl2 HW8.out (bl_drew1 _)).mono hszw)⟩
      | exact ⟨rfl, Hb0.out.trans ((bl2 HW8.out (bl_drew _ _)).mono hszw)⟩
end Go.Proofs.YtplnojohlbbalaaDoor
/- What the cards of this seat share: the listed tables as the walks want them, a start that meets the condition, rows of bytes and numbers that come in. No condition. -/
namespace Go.Proofs.YtplnojohlbbalaaDoor
open Go.ChangeShapes Go.WideShapes Go.ChangeAt Go.RowKit
theorem own : ownKnob Tryd.prog.godebug = none := by kernel_rfl
theorem laidOut : laidOutB Tryd.prog = true := by kernel_rfl
abbrev laidL : List (String × DataW Unit) := [("math/bits.deBruijn32tab", Rows.laid_math_bits_deBruijn32tab), ("math/bits.deBruijn64tab", Rows.laid_math_bits_deBruijn64tab), ("internal/strconv.uint64pow10", Rows.laid_internal_strconv_uint64pow10)]
set_option maxRecDepth 100000 in
theorem start_met (os : Os) (args : Array Value) : laidMetH Tryd.prog laidL ((World.laidAll Tryd.prog os laidL).forCall (fun _ _ => 0) ⟨#[], args, []⟩).memory := by
  rw [MakeChecks.laidMetH_plain _ _ _ (by kernel_rfl)]
  exact laidMet_laidAll _ (by kernel_rfl) (by kernel_rfl)
theorem powData : Rows.laid_internal_strconv_uint64pow10 (H := Unit) = Lib.tabData .u64 Lib.pow10Tab := rfl
/-- What the condition gives the walks. -/
theorem of_laid {W : World} (h : laidMetH Tryd.prog laidL W) : Tab W := by
  rw [MakeChecks.laidMetH_plain _ _ _ (by kernel_rfl)] at h
  have h3 : laidMet Tryd.prog [("internal/strconv.uint64pow10", Rows.laid_internal_strconv_uint64pow10)] W := h.tail.tail
  rw [powData] at h3
  exact Lib.tabIs_of_head (g := 3) (t := 121) (e := 94) (n := 20) (by kernel_rfl) (by kernel_rfl) Tryd.underlying121 Tryd.underlying94 (by kernel_rfl) (by kernel_rfl) h3
theorem witness_row_sh {H : Type} {enc : TypeId × Value → H} {C : Checked} {os : Os} {f : FuncId} {fn : Func} {s : OpenSpec} {conds : List PathCond} {apart : Bool} {laid : List (String × DataW Unit)} (modest : Bool) (w0 : World) (args : Array Value) (hos : w0.os = os)
    (hsh : (w0.forCall (fun _ _ => 0) ⟨#[], args, []⟩).Shaped C.prog)
    (hok : Input.okWideB C.prog (w0.forCall (fun _ _ => 0) ⟨#[], args, []⟩) f ⟨#[], args, []⟩ = true)
    (hrow : s.preRow enc C.prog fn conds apart laid (w0.forCall (fun _ _ => 0) ⟨#[], args, []⟩).memory args) :
    ∃ (w : World) (tape : Tape) (i : Input), w.os = os ∧ (w.forCall tape i).Shaped C.prog ∧ i.vars = [] ∧ Input.okWide C.prog (w.forCall tape i) .any w.heap.size f i ∧
      s.preRow enc C.prog fn conds apart laid (w.forCall tape i).memory i.args ∧ ({ modest := modest } : Assume).holds C.prog (lone (Frame.enter C.prog f i.args .normal) [] (w.forCall tape i)) :=
  ⟨w0, fun _ _ => 0, ⟨#[], args, []⟩, hos, hsh, (Input.okWide_of_okWideB (base := 0) hok).1, (Input.okWide_of_okWideB hok).2, hrow, by
    simp only [Assume.holds]
    exact ⟨by simp, by simp, fun _ => Modest.zero, by simp, by simp⟩⟩
theorem i64_range {x : Int} (h : (Lit.int .i64 x).wf = true) : -9223372036854775808 ≤ x ∧ x ≤ 9223372036854775807 := by
  simp only [Lit.wf, Bool.and_eq_true, decide_eq_true_eq] at h
  exact ⟨h.1, h.2⟩
theorem bulk_lits {H : Type} (k : IntKind) : ∀ zs : List Int, Rows.uptoBulkAll (lits (H := H) k zs) = zs.length
  | [] => rfl
  | z :: zs => by
    have ih := bulk_lits (H := H) k zs
    show Rows.uptoBulk (DataW.lit (.int k z)) + Rows.uptoBulkAll (lits (H := H) k zs) = _
    rw [ih]
    simp [Rows.uptoBulk]; omega
/-- A cell that can be read lies in a block's plain cells. -/
theorem spot_of_cell {w : World} {a : Addr} {v : Value} (h : w.cell? a = some v) : a.spot = none := by
  unfold World.cell? at h
  split at h
  · split at h
    · exact absurd h (by simp)
    · rename_i hs
      cases e : a.spot with
      | none => rfl
      | some x => rw [e] at hs; simp at hs
  · exact absurd h (by simp)
/-- A row of bytes that comes in, and its bulk. -/
theorem bytes_in {H : Type} {enc : TypeId × Value → H} {W : World} {base : Nat} {spare : Nat → Bool} {held : Bool} {a : Option Addr} {len cap : Nat} {d : DataW H} {ps : List MemPlace} (h : DataW.Trod enc Tryd.prog W base spare held 22 (.slice a len cap) d ps) : ∃ l : List UInt8, l.length = len ∧ Sr W a cap l ∧ l.length + 1 ≤ Rows.uptoBulk d := by
  obtain ⟨fuel, hf⟩ := h
  rcases open_ints Tryd.underlying22 Tryd.underlying5 (by kernel_rfl) hf with ⟨hcs, hd⟩ | ⟨x, l, c, zs, hcs, _, hl, hm, hz, hx, hcell, hwz⟩
  · simp [Value.cells] at hcs
    obtain ⟨rfl, rfl, rfl⟩ := hcs
    have hd1 : d = .nil := congrArg Prod.fst hd
    exact ⟨[], rfl, Sr.empty W, by rw [hd1]; simp [Rows.uptoBulk]⟩
  · simp [Value.cells] at hcs
    obtain ⟨rfl, rfl, rfl⟩ := hcs
    injection hx with hx1 hx2
    subst hx1
    have hzl : len ≤ zs.length := by rw [hz]; split <;> omega
    have hlen : ((zs.take len).map fun z => UInt8.ofNat z.toNat).length = len := by rw [List.length_map, List.length_take, Nat.min_eq_left hzl]
    refine ⟨_, hlen, ⟨fun j hj => ?_, by omega, fun e => by cases e⟩, ?_⟩
    · rw [hlen] at hj
      have h1 := hcell j (by omega)
      obtain ⟨g, go, sp⟩ := x
      have hsp : sp = none := by
        have := spot_of_cell (hcell 0 (by omega))
        cases sp with
        | none => rfl
        | some y => unfold Addr.add at this; simp at this
      subst hsp
      rw [show (⟨g, go, none⟩ : Addr).add j = ⟨g, go + j, none⟩ by simp [Addr.add]] at h1
      refine ⟨g, go, rfl, block_lt_of_cell h1, ?_⟩
      rw [h1]
      have hjz : j < zs.length := by omega
      have e : zs.getD j 0 = zs[j] := by rw [List.getD_eq_getElem?_getD, List.getElem?_eq_getElem hjz]; rfl
      have hb := bounds_u8 (hwz zs[j] (List.getElem_mem hjz))
      rw [e]
      simp only [List.getElem_map, List.getElem_take]
      have e2 : (UInt8.ofNat (zs[j]).toNat).toNat = (zs[j]).toNat := by simp; omega
      rw [e2, Int.toNat_of_nonneg hb.1]
    · rw [hlen]
      simp only [Rows.uptoBulk, bulk_lits, List.length_take]; omega
section
variable {H : Type} {enc : TypeId × Value → H} {W : World} {base : Nat} {spare : Nat → Bool} {held : Bool}
theorem k_i : Tryd.prog.cellsOf 3 = 1 := by kernel_rfl
theorem k_b : Tryd.prog.cellsOf 4 = 1 := by kernel_rfl
theorem nums_open {fuel : Nat} {c0 c1 c2 c3 : Value} {y : DataW H × List MemPlace} (h : DataW.trod enc Tryd.prog W base spare held fuel 34 [c0, c1, c2, c3] = some y) : ∃ (x z u : Int) (t : Bool), c0 = .int .i64 x ∧ c1 = .int .i64 z ∧ c2 = .int .i64 u ∧ c3 = .bool t ∧ (Lit.int .i64 x).wf = true ∧ (Lit.int .i64 z).wf = true ∧ (Lit.int .i64 u).wf = true := by
  obtain ⟨xs, k, _, hy, _, hlen, hf⟩ := DataW.trod_struct Tryd.underlying34 h
  have hl : xs.length = 4 := hlen
  match xs, hl with
  | [x0, x1, x2, x3], _ =>
    have g0 := hf 0 ⟨_, 3, 0, _, _, _, _⟩ rfl
    have g1 := hf 1 ⟨_, 3, 1, _, _, _, _⟩ rfl
    have g2 := hf 2 ⟨_, 3, 2, _, _, _, _⟩ rfl
    have g3 := hf 3 ⟨_, 4, 3, _, _, _, _⟩ rfl
    dsimp only at g0 g1 g2 g3
    rw [k_i] at g0 g1 g2
    rw [k_b] at g3
    obtain ⟨a, ha, _, wa⟩ := DataW.trod_int Tryd.underlying3 (show DataW.trod enc Tryd.prog W base spare held k 3 [c0] = some x0 from g0)
    obtain ⟨b, hb, _, wb⟩ := DataW.trod_int Tryd.underlying3 (show DataW.trod enc Tryd.prog W base spare held k 3 [c1] = some x1 from g1)
    obtain ⟨d, hd, _, wd⟩ := DataW.trod_int Tryd.underlying3 (show DataW.trod enc Tryd.prog W base spare held k 3 [c2] = some x2 from g2)
    obtain ⟨t, ht, _⟩ := DataW.trod_bool Tryd.underlying4 (show DataW.trod enc Tryd.prog W base spare held k 4 [c3] = some x3 from g3)
    exact ⟨a, b, d, t, by simpa using ha, by simpa using hb, by simpa using hd, by simpa using ht, wa, wb, wd⟩
end
end Go.Proofs.YtplnojohlbbalaaDoor
