/- Several texts of this claim, one behind the other, in their order. -/
import Derived.Test.YtpcbpikhiooafaaGreatDoorM2
import Derived.Laws.BitsAllLaws
import Derived.Deep.RegionHeld
/- The refs of an indirect block: four bytes each, the lowest first; the walks of block and load. Conditions: the store lies in memory as 'St' says, the table's first cell leads to it. -/
namespace Go.Proofs.YtpcbpikhiooafaaGreatDoor
open Go.RowKit

theorem ofInt_nat64 (a : Nat) (ha : a < 9223372036854775808) : (BitVec.ofInt 64 (a : Int)).toNat = a := by
  rw [BitVec.toNat_ofInt]; omega
theorem i64_or_nat (a b : Nat) (ha : a < 9223372036854775808) (hb : b < 9223372036854775808) : bits .or .i64 (a : Int) (b : Int) = ((a ||| b : Nat) : Int) := by
  have hx : a ||| b < 2 ^ 63 := Nat.or_lt_two_pow (by omega) (by omega)
  show IntKind.i64.wrap ((BitVec.ofInt 64 (a : Int) ||| BitVec.ofInt 64 (b : Int)).toNat : Int) = _
  rw [BitVec.toNat_or, ofInt_nat64 a ha, ofInt_nat64 b hb]
  simp [IntKind.wrap, IntKind.bits, IntKind.signed]; omega
theorem or_add (a x k : Nat) (h : a < 2 ^ k) : a ||| x * 2 ^ k = a + x * 2 ^ k := by
  rw [Nat.or_comm, Nat.mul_comm, ← Nat.two_pow_add_eq_or_of_lt h, Nat.add_comm]

/-- The first j of the bytes from o on, as a number. -/
def lePart (D : Nat → Nat) (o : Nat) : Nat → Nat
  | 0 => 0
  | j + 1 => lePart D o j + D (o + j) * 2 ^ (8 * j)
def le4 (D : Nat → Nat) (o : Nat) : Nat := lePart D o 4
theorem lePart_lt (D : Nat → Nat) (hD : ∀ j, D j < 256) (o : Nat) : ∀ j, lePart D o j < 2 ^ (8 * j)
  | 0 => by simp [lePart]
  | j + 1 => by
    have h1 := lePart_lt D hD o j
    have h2 := hD (o + j)
    have h3 : 2 ^ (8 * (j + 1)) = 256 * 2 ^ (8 * j) := by rw [show 8 * (j + 1) = 8 + 8 * j by omega, Nat.pow_add]
    simp only [lePart]
    rw [h3]
    have h4 : D (o + j) * 2 ^ (8 * j) ≤ 255 * 2 ^ (8 * j) := Nat.mul_le_mul_right _ (by omega)
    generalize D (o + j) * 2 ^ (8 * j) = y at *
    generalize 2 ^ (8 * j) = z at *
    omega
theorem le4_lt (D : Nat → Nat) (hD : ∀ j, D j < 256) (o : Nat) : le4 D o < 4294967296 := lePart_lt D hD o 4
theorem le_step (D : Nat → Nat) (hD : ∀ j, D j < 256) (o j : Nat) (hj : j < 4) : bits .or .i64 (lePart D o j : Nat) ((D (o + j) * 2 ^ (8 * j) : Nat) : Int) = ((lePart D o (j + 1) : Nat) : Int) := by
  have h1 := lePart_lt D hD o j
  have h2 := lePart_lt D hD o (j + 1)
  have h3 : 2 ^ (8 * j) ≤ 2 ^ 24 := Nat.pow_le_pow_right (by omega) (by omega)
  have h4 : 2 ^ (8 * (j + 1)) ≤ 2 ^ 32 := Nat.pow_le_pow_right (by omega) (by omega)
  rw [i64_or_nat _ _ (by omega) (by simp only [lePart] at h2; omega), or_add _ _ _ h1]
  rfl
/-- What ref r's block holds at j: of a ref that leads to no block in use 0. -/
def ptr (u : Nat → Bool) (D : Nat → Nat) (r j : Nat) : Nat := if r ≠ 0 ∧ u (r - 1) = true then le4 D ((r - 1) * 64 + 4 * j) else 0
theorem ptr_lt (u : Nat → Bool) (D : Nat → Nat) (hD : ∀ j, D j < 256) (r j : Nat) : ptr u D r j < 4294967296 := by
  unfold ptr; split
  · exact le4_lt D hD _
  · omega
def refV (r : Nat) : Value := .int .i64 (r : Int)
def refsV (q : Nat → Nat) : Array Value := ((List.range 16).map fun j => refV (q j)).toArray
def zeroP : Array Value := Array.replicate 16 (.int .i64 0)
theorem sizeP : zeroP.size = 16 := rfl
theorem refsV_zero : refsV (fun _ => 0) = zeroP := rfl
theorem zvP (w : World) : (zeroValue 195).run Tryz.prog w = .ok (.agg zeroP) w := by kernel_rfl
theorem undP : Tryz.prog.underlying 195 = some (.array 16 89) := by kernel_rfl
theorem infP : (Tryz.prog.info? 195).map (·.size) = some zeroP.size := by kernel_rfl

theorem block_any (r : Nat) (w : World) (hr : r < 4294967297) : Calls Tryz.prog 103 #[.int .i64 r] w fun e w' => e = .returned (.int .i64 ((r : Int) - 1)) ∧ w' = w := by
  go_enter Tryz.func103, Tryz.ntmps103
  go_wp2
  go_ret
  exact ⟨by simp, rfl⟩
end Go.Proofs.YtpcbpikhiooafaaGreatDoor
/- The walk of load: an indirect block's refs. Conditions: the store lies in memory as 'St' says, the table's first cell leads to it. -/
namespace Go.Proofs.YtpcbpikhiooafaaGreatDoor
open Go.RowKit
section
variable {w : World} {b c n : Nat} {u : Nat → Bool} {D : Nat → Nat}
theorem St.read_in (S : St w b c n u D) (i : Nat) (hi : i < n) (h1 : u i = true) :
    Calls Tryz.prog 128 #[.pointer (some ⟨b, 0, none⟩), .int .i64 i] w fun e w' => ∃ g, e = .returned (.tuple #[.slice (some ⟨g, 0, none⟩) 64 64, .int .i64 0]) ∧ Hid (w.heap.size ≤ g) ∧
      Hid (∀ j, j < 64 → w'.cell? ⟨g, j, none⟩ = some (.int .u8 (D (i * 64 + j) : Nat))) ∧ Hid (Mod (fun _ => False) w w') := by
  refine (S.read_ok i hi h1).mono fun e w' ⟨he, m, hw⟩ => ⟨_, he, Nat.le_refl _, ?_, ?_⟩
  · subst hw
    intro j hj
    show ((w.alloc _).cell? ⟨w.heap.size, j, none⟩) = _
    rw [World.cell?_alloc_at _ _ _ _ rfl]
    simp [blk, List.getElem?_range hj, byteV]
  · subst hw; exact ((Mod.refl _ w).alloc _).drewN _
end

/-- The refs while load goes on: those ahead of i whole, j bytes of the i-th. -/
def part (D : Nat → Nat) (o i j k : Nat) : Nat := if k < i then le4 D (o + 4 * k) else if k = i then lePart D (o + 4 * i) j else 0
theorem part_zero (D : Nat → Nat) (o k : Nat) : part D o 0 0 k = 0 := by
  unfold part; rw [if_neg (by omega)]; split <;> rfl
theorem part_next (D : Nat → Nat) (o i k : Nat) : part D o i 4 k = part D o (i + 1) 0 k := by
  unfold part
  by_cases h : k < i
  · rw [if_pos h, if_pos (by omega)]
  · rw [if_neg h]
    by_cases e : k = i
    · subst e; rw [if_pos rfl, if_pos (by omega)]; rfl
    · rw [if_neg e, if_neg (by omega)]; split <;> rfl
structure LoadAt (w1 wr : World) (P : Nat) (q : Nat → Nat) : Prop where
  at_ : ∀ k, k < 16 → wr.cell? ⟨P, k, none⟩ = some (.int .i64 (q k : Nat))
  fr : ∀ o, wr.frozen? ⟨P, o, none⟩ = false
  mod : Mod (fun k => k = P) w1 wr
theorem LoadAt.congr {w1 wr : World} {P : Nat} {q p : Nat → Nat} (h : LoadAt w1 wr P q) (e : ∀ k, k < 16 → q k = p k) : LoadAt w1 wr P p :=
  ⟨fun k hk => by rw [← e k hk]; exact h.at_ k hk, h.fr, h.mod⟩
theorem LoadAt.drewN {w1 wr : World} {P : Nat} {q : Nat → Nat} (h : LoadAt w1 wr P q) (m : Nat) : LoadAt w1 (wr.drewN m) P q := ⟨h.at_, h.fr, h.mod.drewN m⟩
theorem LoadAt.set {w1 wr : World} {P : Nat} {q : Nat → Nat} (h : LoadAt w1 wr P q) (i : Nat) (hi : i < 16) (x : Nat) : LoadAt w1 (wr.setCell ⟨P, i, none⟩ (.int .i64 (x : Nat))) P (upd q i x) where
  at_ k hk := by
    unfold upd
    by_cases e : k = i
    · subst e; rw [if_pos rfl, setCell_in _ _ _ _ _ (h.at_ k hk)]
    · rw [if_neg e, setCell_out _ _ _ _ _ (fun _ => e)]; exact h.at_ k hk
  fr o := by rw [setCell_frozen]; exact h.fr o
  mod := h.mod.setCell _ _ rfl
theorem LoadAt.range {w1 wr : World} {P : Nat} {q : Nat → Nat} (h : LoadAt w1 wr P q) : wr.rangeAt P 0 (refsV q).toList := fun j v hj => by
  simp only [refsV, List.getElem?_map, Option.map_eq_some_iff] at hj
  obtain ⟨k, hk, rfl⟩ := hj
  have hk' := List.getElem?_eq_some_iff.mp hk
  obtain ⟨hl, he⟩ := hk'
  simp at hl he
  subst he
  rw [Nat.zero_add]; exact h.at_ j hl

theorem Mod.there {s : Nat → Prop} {w w' : World} (h : Mod s w w') {b o n : Nat} (hb : b < w.heap.size) (hs : ¬ s b) (ht : w.there b o n) : w'.there b o n := fun j hj => by
  rw [h.cell (p := ⟨b, o + j, none⟩) hb hs, h.frozen (p := ⟨b, o + j, none⟩) hb hs]; exact ht j hj
theorem Mod.newCells {s : Nat → Prop} {a b : World} (h : Mod s a b) (bl : Nat) (hp : a.heap.size ≤ bl) (vs : List Value) (o : Nat) : Mod s a (b.setCells bl o vs) := by
  have h2 : Mod (fun k => s k ∨ k = bl) a (b.setCells bl o vs) := Mod.setCells bl (.inr rfl) vs o (h.mono (fun _ _ h => .inl h))
  exact ⟨h2.os, h2.tape, h2.output, h2.size, fun k hk hs => h2.block k hk (fun e => e.elim hs (fun e => by omega))⟩
theorem refsV_len (q : Nat → Nat) : (refsV q).toList.length = 16 := by simp [refsV]
theorem refsV_size (q : Nat → Nat) : (refsV q).size = 16 := by simp [refsV]
theorem refsV_one (q : Nat → Nat) : (refsV q).all (·.oneCell') = true := by
  unfold refsV
  exact all_oneCell_toArray (fun v hv => by obtain ⟨j, _, rfl⟩ := List.mem_map.mp hv; rfl)
theorem results_cell1 {P : Program} {fn : Func} {p : Tmp} {ty : TypeId} (h : fn.results = #[.cell p ty]) (tmps : Array Value) (w : World) (a : Addr) (v : Value) (ha : tmps.getD p undef = .pointer (some a)) (hl : (loadVar ty a).run P w = .ok v w) :
    (results fn tmps).run P w = .ok v w := by
  have e : (results fn tmps).run P w = ((asAddr (tmps.getD p undef)).run P w).andThen fun a w₁ => (loadVar ty a).run P w₁ := by
    simp only [results, h]
    simp [Sem.run_bind, Result.andThen]
  rw [e, ha]
  exact hl
section
variable {w : World} {b c n : Nat} {u : Nat → Bool} {D : Nat → Nat}
set_option maxHeartbeats 1000000 in
theorem load_ok (S : St w b c n u D) (t r : Nat) (ht : w.cell? ⟨t, 0, none⟩ = some (.pointer (some ⟨b, 0, none⟩))) (hr : r ≠ 0) (hu : u (r - 1) = true) :
    Calls Tryz.prog 106 #[.pointer (some ⟨t, 0, none⟩), .int .i64 r] w fun e w' => e = .returned (.agg (refsV (ptr u D r))) ∧ Mod (fun _ => False) w w' := by
  have hn := S.n2
  have hrn : r - 1 < n := Nat.lt_of_not_le fun h => by rw [S.out _ h] at hu; exact absurd hu (by simp)
  have hz := zvP
  have hr1 : (r : Int) - 1 = ((r - 1 : Nat) : Int) := by omega
  have htl := block_lt_of_cell ht
  have HS : Hid (St ((w.alloc (.cells zeroP 195)).alloc (.cells zeroP 195)) b c n u D) := S.mod (((Mod.refl (fun _ => False) w).alloc _).alloc _) (fun h => h) (fun h => h) (fun h => h)
  have HT : Hid (((w.alloc (.cells zeroP 195)).alloc (.cells zeroP 195)).cell? ⟨t, 0, none⟩ = some (.pointer (some ⟨b, 0, none⟩))) := by
    show _ = _
    rw [(((Mod.refl (fun _ => False) w).alloc _).alloc _).cell (p := ⟨t, 0, none⟩) htl (fun h => h)]; exact ht
  have HU : Hid (u (r - 1) = true) := hu
  have HD : Hid (∀ j, D j < 256) := S.dl
  have HW : Hid (Mod (fun _ => False) w ((w.alloc (.cells zeroP 195)).alloc (.cells zeroP 195))) := ((Mod.refl (fun _ => False) w).alloc _).alloc _
  clear S hu
  go_enter Tryz.func106, Tryz.ntmps106
  go_wp2_with fail
  go_region_held (fun W' => W'.cell? ⟨t, 0, none⟩ = some (.pointer (some ⟨b, 0, none⟩))) (first | exact HT.out | assumption) (first | (go_at_call 103; refine (block_any r _ (by omega)).mono ?_; rintro e w1 ⟨rfl, rfl⟩; rw [hr1]) | (go_at_call 128; refine ((HS.out.drewN 1).read_in (r - 1) hrn HU.out).mono ?_; rintro e w1 ⟨g, rfl, HG, HR, HM⟩; have hS1 : w1.cell? ⟨t, 0, none⟩ = some (.pointer (some ⟨b, 0, none⟩)) := (HM.out.cell (p := ⟨t, 0, none⟩) (by have := HW.out.size; exact Nat.lt_of_lt_of_le htl this) (fun h => h)).trans HT.out))
  clear hS1
  go_wp2
  have hg : g ≠ w.heap.size + 1 := by have := HG.out; simp at this; omega
  have HL : Hid (LoadAt w1 w1 (w.heap.size + 1) (part D ((r - 1) * 64) 0 0)) := by
    refine ⟨fun k hk => ?_, fun o => ?_, Mod.refl _ _⟩
    · rw [HM.out.cell (p := ⟨w.heap.size + 1, k, none⟩) (by show _ < ((w.alloc _).alloc _).heap.size; simp) (fun h => h)]
      show (((w.alloc _).alloc _).cell? _) = _
      rw [World.cell?_alloc_at _ _ _ _ (by simp), part_zero]
      simp [zeroP, hk]
    · rw [HM.out.frozen (p := ⟨w.heap.size + 1, o, none⟩) (by show _ < ((w.alloc _).alloc _).heap.size; simp) (fun h => h)]
      exact World.frozen?_alloc_at _ _ _ _ (by simp)
  go_loopw [23] (fun x wr => ∃ i : Nat, i ≤ 16 ∧ x = .int .i64 i ∧ Hid (LoadAt w1 wr (w.heap.size + 1) (part D ((r - 1) * 64) i 0))) (fun x _ => 16 - (intOf x).toNat)
  case atStart => exact ⟨0, by omega, rfl, HL⟩
  case round =>
    obtain ⟨i, hi, rfl, HI⟩ := hrel
    by_cases hlt : i < 16
    · go_wp2
      go_loopw [26] (fun x wr => ∃ j : Nat, j ≤ 4 ∧ x = .int .i64 j ∧ Hid (LoadAt w1 wr (w.heap.size + 1) (part D ((r - 1) * 64) i j))) (fun x _ => 4 - (intOf x).toNat)
      case atStart => exact ⟨0, by omega, rfl, HI⟩
      case round =>
        obtain ⟨j, hj, rfl, HJ⟩ := hrel
        by_cases hlj : j < 4
        · have hp := HJ.out.at_ i hlt
          have hf := HJ.out.fr i
          have hgr := (HJ.out.mod.cell (p := ⟨g, i * 4 + j, none⟩) (block_lt_of_cell (HR.out (i * 4 + j) (by omega))) (by exact hg)).trans (HR.out (i * 4 + j) (by omega))
          have hstep := le_step D HD.out ((r - 1) * 64 + 4 * i) j hlj
          have HP : Hid (LoadAt w1 (wr.setCell ⟨w.heap.size + 1, i, none⟩ (.int .i64 (lePart D ((r - 1) * 64 + 4 * i) (j + 1) : Nat))) (w.heap.size + 1) (part D ((r - 1) * 64) i (j + 1))) :=
            (HJ.out.set i hlt _).congr (fun k _ => by unfold upd part; by_cases e : k = i <;> simp [e])
          rw [show part D ((r - 1) * 64) i j i = lePart D ((r - 1) * 64 + 4 * i) j by simp [part]] at hp
          rw [show (r - 1) * 64 + (i * 4 + j) = (r - 1) * 64 + 4 * i + j by omega] at hgr
          have hb := HD.out ((r - 1) * 64 + 4 * i + j)
          generalize D ((r - 1) * 64 + 4 * i + j) = y at *
          generalize lePart D ((r - 1) * 64 + 4 * i) j = z at *
          generalize lePart D ((r - 1) * 64 + 4 * i) (j + 1) = z' at *
          obtain rfl | rfl | rfl | rfl : j = 0 ∨ j = 1 ∨ j = 2 ∨ j = 3 := by omega
          all_goals try simp only [Nat.add_zero] at hgr
          all_goals go_wp2
          all_goals go_region
          all_goals go_wp2
          · rw [show ((y * 2 ^ (8 * 0) : Nat) : Int) = (y : Int) by simp] at hstep
            rw [hstep]
            exact ⟨⟨1, by omega, rfl, HP.out.drewN 1⟩, by simp [intOf]⟩
          · rw [show ((y * 2 ^ (8 * 1) : Nat) : Int) = (y : Int) * 256 by omega] at hstep
            rw [hstep]
            exact ⟨⟨2, by omega, rfl, HP.out.drewN 1⟩, by simp [intOf]⟩
          · rw [show ((y * 2 ^ (8 * 2) : Nat) : Int) = (y : Int) * 65536 by omega] at hstep
            rw [hstep]
            exact ⟨⟨3, by omega, rfl, HP.out.drewN 1⟩, by simp [intOf]⟩
          · rw [show ((y * 2 ^ (8 * 3) : Nat) : Int) = (y : Int) * 16777216 by omega] at hstep
            rw [hstep]
            exact ⟨⟨4, by omega, rfl, HP.out.drewN 1⟩, by simp [intOf]⟩
        · go_wp2
          exact ⟨⟨i + 1, by omega, by go_num, HJ.out.congr (fun k _ => by rw [show j = 4 by omega]; exact part_next D _ i k)⟩, by simp [intOf]; omega⟩
    · have HB : Hid (wr.there w.heap.size 0 16) := HI.out.mod.there (Nat.lt_of_lt_of_le (by show _ < ((w.alloc _).alloc _).heap.size; simp; omega) HM.out.size) (by show ¬ w.heap.size = w.heap.size + 1; omega) (HM.out.there (by show _ < ((w.alloc _).alloc _).heap.size; simp; omega) (fun h => h) (World.there_alloc (there_new w 195 zeroP sizeP) _))
      have HE : Hid (refsV (part D ((r - 1) * 64) i 0) = refsV (ptr u D r)) := by
        show _ = _
        unfold refsV
        refine congrArg _ (List.map_congr_left fun k hk => ?_)
        rw [List.mem_range] at hk
        rw [part, if_pos (by omega), ptr, if_pos ⟨hr, HU.out⟩]
      have HR2 := HI.out.range
      rw [HE.out] at HR2
      have HR3 : Hid (wr.rangeAt (w.heap.size + 1) 0 (refsV (ptr u D r)).toList) := HR2
      have HX : Hid (Mod (fun _ => False) w wr) := ⟨HI.out.mod.os.trans (HM.out.os.trans HW.out.os), HI.out.mod.tape.trans (HM.out.tape.trans HW.out.tape), HI.out.mod.output.trans (HM.out.output.trans HW.out.output), Nat.le_trans HW.out.size (Nat.le_trans HM.out.size HI.out.mod.size), fun k hk _ =>
        (HI.out.mod.block k (Nat.lt_of_lt_of_le (Nat.lt_of_lt_of_le hk HW.out.size) HM.out.size) (by show ¬ k = w.heap.size + 1; omega)).trans ((HM.out.block k (Nat.lt_of_lt_of_le hk HW.out.size) (fun h => h)).trans (HW.out.block k hk (fun h => h)))⟩
      clear HR2 HL HS HT
      have hlen := refsV_len (ptr u D r)
      have hone : ∀ v ∈ (refsV (ptr u D r)).toList, v.oneCell' = true := fun v hv => by obtain ⟨j, _, rfl⟩ := List.mem_map.mp hv; rfl
      obtain ⟨L, hL⟩ : ∃ L : List Value, L = (refsV (ptr u D r)).toList := ⟨_, rfl⟩
      rw [← hL] at hlen hone HR3
      have HV : Hid (L.toArray = refsV (ptr u D r)) := by show _ = _; rw [hL]
      clear hL HE HI
      have hsz : L.toArray.size = 16 := by simp [hlen]
      go_wp2_with (first | (refine wpList_load_mid rfl 195 _ rfl (w.heap.size + 1) 0 rfl L _ HR3.out undP rfl (by rw [hlen]; exact infP) ?_) | (refine wpList_store_mid rfl 195 _ _ rfl w.heap.size 0 L.toArray rfl rfl (by rw [hsz]; exact HB.out) (by rw [hsz]; exact infP) (all_oneCell_toArray hone) ?_))
      have HQ : Hid ((loadVar 195 ⟨w.heap.size, 0, none⟩).run Tryz.prog (wr.setCells w.heap.size 0 L) = .ok (.agg L.toArray) (wr.setCells w.heap.size 0 L)) :=
        run_loadVar_mid _ _ _ _ L _ (World.rangeAt_setCells_same wr w.heap.size 0 L (by rw [hlen]; exact HB.out)) undP rfl (by rw [hlen]; exact infP)
      exact bodyPost_ret (v := .agg L.toArray) (results_cell1 rfl _ _ _ _ rfl HQ.out) rfl ⟨by rw [HV.out], HX.out.newCells _ (Nat.le_refl _) L 0⟩
set_option maxHeartbeats 1000000 in
theorem load_not (S : St w b c n u D) (t r : Nat) (ht : w.cell? ⟨t, 0, none⟩ = some (.pointer (some ⟨b, 0, none⟩))) (hr : r < 4294967296) (hu : ¬ (r ≠ 0 ∧ u (r - 1) = true)) :
    Calls Tryz.prog 106 #[.pointer (some ⟨t, 0, none⟩), .int .i64 r] w fun e w' => e = .returned (.agg zeroP) ∧ Mod (fun _ => False) w w' := by
  have hz := zvP
  have htl := block_lt_of_cell ht
  have HU : Hid (Unfit n u ((r : Int) - 1)) := by
    show Unfit _ _ _
    unfold Unfit
    by_cases h0 : r = 0
    · subst h0; left; simp
    · by_cases hl : (n : Int) ≤ (r : Int) - 1
      · exact .inr (.inl hl)
      · refine .inr (.inr ?_)
        rw [show ((r : Int) - 1).toNat = r - 1 by omega]
        cases e : u (r - 1) with
        | false => rfl
        | true => exact absurd ⟨h0, e⟩ hu
  have HS : Hid (St ((w.alloc (.cells zeroP 195)).alloc (.cells zeroP 195)) b c n u D) := S.mod (((Mod.refl (fun _ => False) w).alloc _).alloc _) (fun h => h) (fun h => h) (fun h => h)
  have HT : Hid (((w.alloc (.cells zeroP 195)).alloc (.cells zeroP 195)).cell? ⟨t, 0, none⟩ = some (.pointer (some ⟨b, 0, none⟩))) := by
    show _ = _
    rw [(((Mod.refl (fun _ => False) w).alloc _).alloc _).cell (p := ⟨t, 0, none⟩) htl (fun h => h)]; exact ht
  have HW : Hid (Mod (fun _ => False) w ((w.alloc (.cells zeroP 195)).alloc (.cells zeroP 195))) := ((Mod.refl (fun _ => False) w).alloc _).alloc _
  have HB : Hid (((w.alloc (.cells zeroP 195)).alloc (.cells zeroP 195)).there w.heap.size 0 16) := World.there_alloc (there_new w 195 zeroP sizeP) _
  have HR3 : Hid (((w.alloc (.cells zeroP 195)).alloc (.cells zeroP 195)).rangeAt (w.heap.size + 1) 0 zeroP.toList) := fun j v hv => by
    rw [World.cell?_alloc_at _ _ _ _ (by simp)]; simpa using hv
  have hlen : zeroP.toList.length = 16 := rfl
  have hone : ∀ v ∈ zeroP.toList, v.oneCell' = true := by decide
  obtain ⟨L, hL⟩ : ∃ L : List Value, L = zeroP.toList := ⟨_, rfl⟩
  rw [← hL] at hlen hone HR3
  have HV : Hid (L.toArray = zeroP) := by show _ = _; rw [hL]
  have hsz : L.toArray.size = 16 := by simp [hlen]
  clear hL S hu
  go_enter Tryz.func106, Tryz.ntmps106
  go_wp2_with fail
  go_region_held (fun W' => W'.cell? ⟨t, 0, none⟩ = some (.pointer (some ⟨b, 0, none⟩))) (first | exact HT.out | assumption) (first | (go_at_call 103; refine (block_any r _ (by omega)).mono ?_; rintro e w1 ⟨rfl, rfl⟩) | (go_at_call 128; refine ((HS.out.drewN 1).read_not _ HU.out).mono ?_; rintro e w1 ⟨rfl, m, rfl⟩))
  go_wp2_with (first | (refine wpList_load_mid rfl 195 _ rfl (w.heap.size + 1) 0 rfl L _ (by exact HR3.out) undP rfl (by rw [hlen]; exact infP) ?_) | (refine wpList_store_mid rfl 195 _ _ rfl w.heap.size 0 L.toArray rfl rfl (by rw [hsz]; exact HB.out) (by rw [hsz]; exact infP) (all_oneCell_toArray hone) ?_))
  exact bodyPost_ret (v := .agg L.toArray) (results_cell1 rfl _ _ _ _ rfl (run_loadVar_mid _ _ _ _ L _ (World.rangeAt_setCells_same _ w.heap.size 0 L (by rw [hlen]; exact HB.out)) undP rfl (by rw [hlen]; exact infP))) rfl ⟨by rw [HV.out], (HW.out.drewN _).newCells _ (Nat.le_refl _) L 0⟩
/-- load, of any ref. -/
theorem load_any (S : St w b c n u D) (t r : Nat) (ht : w.cell? ⟨t, 0, none⟩ = some (.pointer (some ⟨b, 0, none⟩))) (hr : r < 4294967296) :
    Calls Tryz.prog 106 #[.pointer (some ⟨t, 0, none⟩), .int .i64 r] w fun e w' => e = .returned (.agg (refsV (ptr u D r))) ∧ Mod (fun _ => False) w w' := by
  by_cases h : r ≠ 0 ∧ u (r - 1) = true
  · exact load_ok S t r ht h.1 h.2
  · have e : refsV (ptr u D r) = zeroP := by
      rw [← refsV_zero]; exact congrArg refsV (funext fun j => by rw [ptr, if_neg h])
    rw [e]; exact load_not S t r ht hr h
end
end Go.Proofs.YtpcbpikhiooafaaGreatDoor
/- The walk of save: refs are laid into an indirect block. Conditions: the store lies in memory as 'St' says, the table's first cell leads to it. -/
namespace Go.Proofs.YtpcbpikhiooafaaGreatDoor
open Go.RowKit
/-- The bytes of sixteen refs, four each, the lowest first. -/
def leAt (q : Nat → Nat) (o : Nat) : Nat := q (o / 4) / 2 ^ (8 * (o % 4)) % 256
def leB (q : Nat → Nat) : List Nat := (List.range 64).map (leAt q)
theorem leB_len (q : Nat → Nat) : (leB q).length = 64 := by simp [leB]
theorem leB_lt (q : Nat → Nat) : ∀ x ∈ leB q, x < 256 := fun x hx => by
  obtain ⟨o, _, rfl⟩ := List.mem_map.mp hx
  exact Nat.mod_lt _ (by omega)
theorem leB_at (q : Nat → Nat) (o : Nat) (ho : o < 64) : (leB q)[o]? = some (leAt q o) := by simp [leB, List.getElem?_range ho]
/-- What the store's bytes are when q was saved at r. -/
def saved (u : Nat → Bool) (D : Nat → Nat) (r : Nat) (q : Nat → Nat) : Nat → Nat := if r ≠ 0 ∧ u (r - 1) = true then over D ((r - 1) * 64) (leB q) else D

structure ByteAt (w1 wr : World) (P : Nat) (f : Nat → Nat) : Prop where
  at_ : ∀ k, k < 64 → wr.cell? ⟨P, k, none⟩ = some (.int .u8 (f k : Nat))
  fr : ∀ o, wr.frozen? ⟨P, o, none⟩ = false
  mod : Mod (fun k => k = P) w1 wr
theorem ByteAt.congr {w1 wr : World} {P : Nat} {q p : Nat → Nat} (h : ByteAt w1 wr P q) (e : ∀ k, k < 64 → q k = p k) : ByteAt w1 wr P p :=
  ⟨fun k hk => by rw [← e k hk]; exact h.at_ k hk, h.fr, h.mod⟩
theorem ByteAt.set {w1 wr : World} {P : Nat} {q : Nat → Nat} (h : ByteAt w1 wr P q) (i : Nat) (x : Nat) : ByteAt w1 (wr.setCell ⟨P, i, none⟩ (.int .u8 (x : Nat))) P (upd q i x) where
  at_ k hk := by
    unfold upd
    by_cases e : k = i
    · subst e; rw [if_pos rfl, setCell_in _ _ _ _ _ (h.at_ k hk)]
    · rw [if_neg e, setCell_out _ _ _ _ _ (fun _ => e)]; exact h.at_ k hk
  fr o := by rw [setCell_frozen]; exact h.fr o
  mod := h.mod.setCell _ _ rfl
def zeroB : Array Value := Array.replicate 64 (.int .u8 0)
theorem zvB (w : World) : (zeroValue 213).run Tryz.prog w = .ok (.agg zeroB) w := by kernel_rfl
theorem sizeB : zeroB.size = 64 := rfl
/-- The bytes ahead of 4 i + j are laid. -/
def laidTo (q : Nat → Nat) (m : Nat) (o : Nat) : Nat := if o < m then leAt q o else 0

theorem unfit_of {n r : Nat} {u : Nat → Bool} (hu : ¬ (r ≠ 0 ∧ u (r - 1) = true)) : Unfit n u ((r : Int) - 1) := by
  unfold Unfit
  by_cases h0 : r = 0
  · subst h0; left; simp
  · by_cases hl : (n : Int) ≤ (r : Int) - 1
    · exact .inr (.inl hl)
    · refine .inr (.inr ?_)
      rw [show ((r : Int) - 1).toNat = r - 1 by omega]
      cases e : u (r - 1) with
      | false => rfl
      | true => exact absurd ⟨h0, e⟩ hu
section
variable {w : World} {b c n : Nat} {u : Nat → Bool} {D : Nat → Nat}
set_option maxHeartbeats 1000000 in
theorem save_any (S : St w b c n u D) (t r : Nat) (q : Nat → Nat) (hq : ∀ j, q j < 4294967296) (ht : w.cell? ⟨t, 0, none⟩ = some (.pointer (some ⟨b, 0, none⟩))) (htc : t ≠ c) (hr : r < 4294967296) :
    Calls Tryz.prog 107 #[.pointer (some ⟨t, 0, none⟩), .int .i64 r, .agg (refsV q)] w fun e w' => e = .returned (.tuple #[]) ∧ St w' b c n u (saved u D r q) ∧ Mod (fun k => k = c) w w' := by
  have hn := S.n2
  have hz := zvB
  have htl := block_lt_of_cell ht
  have HS : Hid (St w b c n u D) := S
  have HT : Hid (w.cell? ⟨t, 0, none⟩ = some (.pointer (some ⟨b, 0, none⟩))) := ht
  have HTC : Hid (t ≠ c) := htc
  have HQ : Hid (∀ j, q j < 4294967296) := hq
  have HA : Hid (∀ j, j < 16 → (refsV q)[j]? = some (.int .i64 (q j : Nat))) := fun j hj => by simp [refsV, List.getElem?_range hj, refV]
  have hsz := refsV_size q
  have hoc := refsV_one q
  clear S hq ht
  generalize refsV q = A at *
  go_enter Tryz.func107, Tryz.ntmps107
  go_wp2
  have HL : Hid (ByteAt ((w.alloc (.cells A 195)).alloc (.cells zeroB 213)) ((w.alloc (.cells A 195)).alloc (.cells zeroB 213)) (w.heap.size + 1) (laidTo q 0)) := by
    refine ⟨fun k hk => ?_, fun o => ?_, Mod.refl _ _⟩
    · rw [World.cell?_alloc_at _ _ _ _ (by simp)]; simp [zeroB, hk, laidTo]
    · exact World.frozen?_alloc_at _ _ _ _ (by simp)
  have HC : Hid (∀ j, j < 16 → ((w.alloc (.cells A 195)).alloc (.cells zeroB 213)).cell? ⟨w.heap.size, j, none⟩ = some (.int .i64 (q j : Nat))) := fun j hj => by
    rw [World.cell?_alloc_past _ _ _ (by simp), World.cell?_alloc_at _ _ _ _ rfl]; exact HA.out j hj
  have HW : Hid (Mod (fun _ => False) w ((w.alloc (.cells A 195)).alloc (.cells zeroB 213))) := ((Mod.refl (fun _ => False) w).alloc _).alloc _
  have HZ : Hid (w.heap.size + 1 < ((w.alloc (.cells A 195)).alloc (.cells zeroB 213)).heap.size) := by show _ < _; simp
  generalize hw1 : ((w.alloc (.cells A 195)).alloc (.cells zeroB 213)) = w1 at *
  clear hw1
  go_loopw [9] (fun x wr => ∃ i : Nat, i ≤ 16 ∧ x = .int .i64 i ∧ Hid (ByteAt w1 wr (w.heap.size + 1) (laidTo q (4 * i)))) (fun x _ => 16 - (intOf x).toNat)
  case atStart => exact ⟨0, by omega, rfl, HL⟩
  case round =>
    obtain ⟨i, hi, rfl, HI⟩ := hrel
    by_cases hlt : i < 16
    · go_wp2
      go_loopw [12] (fun x wr => ∃ j : Nat, j ≤ 4 ∧ x = .int .i64 j ∧ Hid (ByteAt w1 wr (w.heap.size + 1) (laidTo q (4 * i + j)))) (fun x _ => 4 - (intOf x).toNat)
      case atStart => exact ⟨0, by omega, rfl, HI⟩
      case round =>
        obtain ⟨j, hj, rfl, HJ⟩ := hrel
        by_cases hlj : j < 4
        · have hp := HJ.out.at_ (i * 4 + j) (by omega)
          have hf := HJ.out.fr (i * 4 + j)
          have hgr := (HJ.out.mod.cell (p := ⟨w.heap.size, i, none⟩) (block_lt_of_cell (HC.out i hlt)) (by show ¬ w.heap.size = w.heap.size + 1; omega)).trans (HC.out i hlt)
          have HP : Hid (ByteAt w1 (wr.setCell ⟨w.heap.size + 1, i * 4 + j, none⟩ (.int .u8 (leAt q (i * 4 + j) : Nat))) (w.heap.size + 1) (laidTo q (4 * i + (j + 1)))) :=
            (HJ.out.set (i * 4 + j) _).congr (fun k _ => by
              unfold upd laidTo
              by_cases e : k = i * 4 + j
              · rw [if_pos e, if_pos (by omega), e]
              · rw [if_neg e]
                by_cases e' : k < 4 * i + j
                · rw [if_pos e', if_pos (by omega)]
                · rw [if_neg e', if_neg (by omega)])
          have hb := HQ.out i
          have HX : Hid (leAt q (i * 4 + j) = q i / 2 ^ (8 * j) % 256) := by
            show _ = _
            unfold leAt; rw [show (i * 4 + j) / 4 = i by omega, show (i * 4 + j) % 4 = j by omega]
          generalize q i = y at *
          obtain rfl | rfl | rfl | rfl : j = 0 ∨ j = 1 ∨ j = 2 ∨ j = 3 := by omega
          all_goals try simp only [Nat.add_zero] at hp hf
          all_goals go_wp2
          · have h := HP.out
            rw [HX.out, show ((y / 2 ^ (8 * 0) % 256 : Nat) : Int) = (y : Int) % 256 by omega] at h
            exact ⟨⟨1, by omega, rfl, h⟩, by simp [intOf]⟩
          · have h := HP.out
            rw [HX.out, show ((y / 2 ^ (8 * 1) % 256 : Nat) : Int) = (y : Int) / 256 % 256 by omega] at h
            exact ⟨⟨2, by omega, rfl, h⟩, by simp [intOf]⟩
          · have h := HP.out
            rw [HX.out, show ((y / 2 ^ (8 * 2) % 256 : Nat) : Int) = (y : Int) / 65536 % 256 by omega] at h
            exact ⟨⟨3, by omega, rfl, h⟩, by simp [intOf]⟩
          · have h := HP.out
            rw [HX.out, show ((y / 2 ^ (8 * 3) % 256 : Nat) : Int) = (y : Int) / 16777216 by omega] at h
            exact ⟨⟨4, by omega, rfl, h⟩, by simp [intOf]⟩
        · go_wp2
          exact ⟨⟨i + 1, by omega, by go_num, by rw [show 4 * (i + 1) = 4 * i + j by omega]; exact HJ⟩, by simp [intOf]; omega⟩
    · have HE : Hid (laidTo q (4 * i) = laidTo q 64) := by show _ = _; rw [show 4 * i = 64 by omega]
      have hT' := (HI.out.mod.cell (p := ⟨t, 0, none⟩) (Nat.lt_of_lt_of_le htl HW.out.size) (by show ¬ t = w.heap.size + 1; omega)).trans ((HW.out.cell (p := ⟨t, 0, none⟩) htl (fun h => h)).trans HT.out)
      have HS' : Hid (St wr b c n u D) := (HS.out.mod HW.out (fun h => h) (fun h => h) (fun h => h)).mod HI.out.mod (by show ¬ 1 = w.heap.size + 1; have := HS.out.tab.lt; omega) (by show ¬ b = w.heap.size + 1; have := HS.out.lt_b; omega) (by show ¬ c = w.heap.size + 1; have := HS.out.lt_c; omega)
      have HG : Hid (∀ j v, ((leB q).map byteV)[j]? = some v → wr.cell? ((⟨w.heap.size + 1, 0, none⟩ : Addr).add j) = some v) := fun j v hv => by
        rw [Addr.add_mid, Nat.zero_add]
        have hj : j < 64 := by
          rw [List.getElem?_map, Option.map_eq_some_iff] at hv
          obtain ⟨x, hx, _⟩ := hv
          have := (List.getElem?_eq_some_iff.mp hx).1
          rwa [leB_len] at this
        rw [List.getElem?_map, leB_at q j hj] at hv
        rw [HI.out.at_ j hj, HE.out, laidTo, if_pos hj]; exact hv
      have HX : Hid (Mod (fun _ => False) w wr) := ⟨HI.out.mod.os.trans HW.out.os, HI.out.mod.tape.trans HW.out.tape, HI.out.mod.output.trans HW.out.output, Nat.le_trans HW.out.size HI.out.mod.size, fun k hk _ =>
        (HI.out.mod.block k (Nat.lt_of_lt_of_le hk HW.out.size) (by show ¬ k = w.heap.size + 1; omega)).trans (HW.out.block k hk (fun h => h))⟩
      clear HC HL HI HZ
      have HT' : Hid (wr.cell? ⟨t, 0, none⟩ = some (.pointer (some ⟨b, 0, none⟩))) := hT'
      clear hT'
      by_cases hUu : r ≠ 0 ∧ u (r - 1) = true
      · have hr0 : Hid (r ≠ 0) := hUu.1
        have HU : Hid (u (r - 1) = true) := hUu.2
        have hrn : r - 1 < n := Nat.lt_of_not_le fun h => by have := HU.out; rw [HS'.out.out _ h] at this; exact absurd this (by simp)
        have hr1 : (r : Int) - 1 = ((r - 1 : Nat) : Int) := by have := hr0.out; omega
        clear hUu
        go_wp2_with fail
        go_region_held (fun W' => W'.cell? ⟨t, 0, none⟩ = some (.pointer (some ⟨b, 0, none⟩))) (first | exact HT'.out | exact hS1) (first | (go_at_call 103; refine (block_any r _ (by omega)).mono ?_; rintro e w2 ⟨rfl, rfl⟩; rw [hr1]) | (go_at_call 102; refine ((HS'.out.drewN 1).write_ok (r - 1) 0 _ 64 64 (leB q) hrn HU.out (by omega) (leB_len q) (leB_lt q) (fun _ => ⟨_, rfl, HG.out⟩)).mono ?_; rintro e w2 ⟨rfl, H2, M2, -⟩; have hS1 : w2.cell? ⟨t, 0, none⟩ = some (.pointer (some ⟨b, 0, none⟩)) := (M2.cell (p := ⟨t, 0, none⟩) (block_lt_of_cell (w := wr) HT'.out) (fun h => HTC.out h)).trans HT'.out; have HS2 : Hid (St w2 b c n u (over D ((r - 1) * 64 + 0) (leB q))) := H2; have HM2 : Hid (Mod (fun k => k = c) wr w2) := ((Mod.refl _ wr).drewN 1).trans M2; clear H2 M2))
        go_wp2
        exact ⟨rfl, _, results_none rfl _ _ _, rfl, by rw [saved, if_pos ⟨hr0.out, HU.out⟩]; exact HS2.out, (HX.out.mono (fun _ _ h => h.elim)).trans HM2.out⟩
      · have HU : Hid (Unfit n u ((r : Int) - 1)) := unfit_of hUu
        have HN : Hid (¬ (r ≠ 0 ∧ u (r - 1) = true)) := hUu
        clear hUu
        go_wp2_with fail
        go_region_held (fun W' => W'.cell? ⟨t, 0, none⟩ = some (.pointer (some ⟨b, 0, none⟩))) (first | exact HT'.out) (first | (go_at_call 103; refine (block_any r _ (by omega)).mono ?_; rintro e w2 ⟨rfl, rfl⟩) | (go_at_call 102; refine ((HS'.out.drewN 1).write_not _ 0 _ 64 64 (by unfold maxLen; omega) (.inl HU.out)).mono ?_; rintro e w2 ⟨rfl, m, rfl⟩))
        go_wp2
        exact ⟨rfl, _, results_none rfl _ _ _, rfl, by rw [saved, if_neg HN.out]; exact HS'.out.drewN _, (HX.out.mono (fun _ _ h => h.elim)).drewN _⟩
end
end Go.Proofs.YtpcbpikhiooafaaGreatDoor
/- The walk of look: what a place leads to. Conditions: the store lies in memory as 'St' says, the table's first cell leads to it. -/
namespace Go.Proofs.YtpcbpikhiooafaaGreatDoor
open Go.RowKit
/-- What place k below ref r leads to, l levels down. -/
def lk : Nat → (Nat → Bool) → (Nat → Nat) → Nat → Nat → Nat
  | 0, _, _, r, _ => r
  | l + 1, u, D, r, k => lk l u D (ptr u D r (k / 16 ^ l)) (k % 16 ^ l)
theorem ptr_zero (u : Nat → Bool) (D : Nat → Nat) (j : Nat) : ptr u D 0 j = 0 := by simp [ptr]
theorem lk_zero (u : Nat → Bool) (D : Nat → Nat) : ∀ l k, lk l u D 0 k = 0
  | 0, _ => rfl
  | l + 1, k => by simp only [lk, ptr_zero]; exact lk_zero u D l _
theorem run_indexP (A : Array Value) (i : Int) (k x : Nat) (hi : i = (k : Nat)) (hk : k < 16) (hA : A[k]? = some (.int .i64 x)) (W : World) : (Instr.index 195 (.agg A) (.int .i64 i)).run Tryz.prog W = .ok (.int .i64 x) W := by
  subst hi
  simp [Instr.index, go_sem]
  rw [if_pos hk, hA]; rfl
section
variable {w : World} {b c n : Nat} {u : Nat → Bool} {D : Nat → Nat}
theorem load_row (S : St w b c n u D) (t r : Nat) (ht : w.cell? ⟨t, 0, none⟩ = some (.pointer (some ⟨b, 0, none⟩))) (hr : r < 4294967296) :
    Calls Tryz.prog 106 #[.pointer (some ⟨t, 0, none⟩), .int .i64 r] w fun e w' => ∃ A, e = .returned (.agg A) ∧ A.size = 16 ∧ Hid (A = refsV (ptr u D r)) ∧ Hid (A.all (·.oneCell') = true) ∧ Hid (∀ j, j < 16 → A[j]? = some (.int .i64 (ptr u D r j : Nat))) ∧ Hid (Mod (fun _ => False) w w') :=
  (load_any S t r ht hr).mono fun e w' ⟨he, hM⟩ => ⟨_, he, refsV_size _, rfl, refsV_one _, fun j hj => by simp [refsV, List.getElem?_range hj, refV], hM⟩
theorem look_one (r k t : Nat) (w : World) : Calls Tryz.prog 101 #[.pointer (some ⟨t, 0, none⟩), .int .i64 r, .int .i64 1, .int .i64 k] w fun e w' => e = .returned (.int .i64 r) ∧ w' = w := by
  by_cases h0 : ((r : Int) == 0) = true
  · go_enter Tryz.func101, Tryz.ntmps101
    go_wp2
    go_ret
    exact ⟨by simp, rfl⟩
  · have h1 : ((r : Int) == 0) = false := by simpa using h0
    clear h0
    go_enter Tryz.func101, Tryz.ntmps101
    go_wp2
    go_ret
    exact ⟨by simp, rfl⟩
theorem look_none (k p t : Nat) (w : World) : Calls Tryz.prog 101 #[.pointer (some ⟨t, 0, none⟩), .int .i64 0, .int .i64 p, .int .i64 k] w fun e w' => e = .returned (.int .i64 0) ∧ w' = w := by
  go_enter Tryz.func101, Tryz.ntmps101
  go_wp2
  go_ret
  exact ⟨by simp, rfl⟩
theorem look0 (u : Nat → Bool) (D : Nat → Nat) (w : World) (t r k : Nat) : Calls Tryz.prog 101 #[.pointer (some ⟨t, 0, none⟩), .int .i64 r, .int .i64 1, .int .i64 k] w fun e w' => e = .returned (.int .i64 (lk 0 u D r k : Nat)) ∧ Mod (fun _ => False) w w' :=
  (look_one r k t w).mono fun _ _ ⟨h1, h2⟩ => ⟨h1, h2 ▸ Mod.refl _ _⟩

set_option maxRecDepth 8000 in
set_option maxHeartbeats 1000000 in
theorem look1 (S : St w b c n u D) (t r k : Nat) (ht : w.cell? ⟨t, 0, none⟩ = some (.pointer (some ⟨b, 0, none⟩))) (hr : r < 4294967296) (hk : k < 16) : Calls Tryz.prog 101 #[.pointer (some ⟨t, 0, none⟩), .int .i64 r, .int .i64 16, .int .i64 k] w fun e w' => e = .returned (.int .i64 (lk 1 u D r k : Nat)) ∧ Mod (fun _ => False) w w' := by
  by_cases h0 : r = 0
  · subst h0
    rw [lk_zero]
    exact (look_none k 16 t w).mono fun _ _ ⟨h1, h2⟩ => ⟨h1, h2 ▸ Mod.refl _ _⟩
  · have h1 : ((r : Int) == 0) = false := by simpa using h0
    have hx := ptr_lt u D S.dl r (k)
    have HX : Hid (lk 1 u D r k = ptr u D r k) := by show _ = _; simp [lk]
    have HS : Hid (St (w.drewN 1) b c n u D) := S.drewN 1
    have HT : Hid ((w.drewN 1).cell? ⟨t, 0, none⟩ = some (.pointer (some ⟨b, 0, none⟩))) := ht
    obtain ⟨x, hxe⟩ : ∃ x, x = ptr u D r (k) := ⟨_, rfl⟩
    have HE : Hid (x = ptr u D r (k)) := hxe
    rw [← hxe] at hx
    have hw1 : IntKind.i64.wrap (k : Int) = k := by rw [IntKind.wrap_i64]; omega
    clear S ht h0 hxe
    go_enter Tryz.func101, Tryz.ntmps101
    go_wp2_with fail
    go_region_held (fun W' => W'.cell? ⟨t, 0, none⟩ = some (.pointer (some ⟨b, 0, none⟩))) (first | exact hS2 | exact hS1 | exact HT.out) (first | (go_at_call 106; refine (load_row HS.out t r HT.out hr).mono ?_; rintro e w1 ⟨A, rfl, hsz, HA, -, HJ, HM⟩; have hix := run_indexP A _ k x rfl hk ((HJ.out _ (by omega)).trans (by rw [HE.out])); have hS1 := (HM.out.cell (p := ⟨t, 0, none⟩) (block_lt_of_cell (w := w) HT.out) (fun h => h)).trans HT.out) | (go_at_call 101; refine (look_one x 0 t w1).mono ?_; rintro e w2 ⟨rfl, hw2⟩; rw [hw2]; clear hw2 w2))
    go_wp2
    go_ret
    exact ⟨by simp [HX.out, HE.out], ((Mod.refl (fun _ => False) w).drewN 1).trans (HM.out)⟩

set_option maxRecDepth 8000 in
set_option maxHeartbeats 1000000 in
theorem look2 (S : St w b c n u D) (t r k : Nat) (ht : w.cell? ⟨t, 0, none⟩ = some (.pointer (some ⟨b, 0, none⟩))) (hr : r < 4294967296) (hk : k < 256) : Calls Tryz.prog 101 #[.pointer (some ⟨t, 0, none⟩), .int .i64 r, .int .i64 256, .int .i64 k] w fun e w' => e = .returned (.int .i64 (lk 2 u D r k : Nat)) ∧ Mod (fun _ => False) w w' := by
  by_cases h0 : r = 0
  · subst h0
    rw [lk_zero]
    exact (look_none k 256 t w).mono fun _ _ ⟨h1, h2⟩ => ⟨h1, h2 ▸ Mod.refl _ _⟩
  · have h1 : ((r : Int) == 0) = false := by simpa using h0
    have hx := ptr_lt u D S.dl r (k / 16)
    have HX : Hid (lk 2 u D r k = lk 1 u D (ptr u D r (k / 16)) (k % 16)) := by show _ = _; simp [lk]
    have HS : Hid (St (w.drewN 1) b c n u D) := S.drewN 1
    have HT : Hid ((w.drewN 1).cell? ⟨t, 0, none⟩ = some (.pointer (some ⟨b, 0, none⟩))) := ht
    obtain ⟨x, hxe⟩ : ∃ x, x = ptr u D r (k / 16) := ⟨_, rfl⟩
    have HE : Hid (x = ptr u D r (k / 16)) := hxe
    rw [← hxe] at hx
    have hw2 : IntKind.i64.wrap ((k : Int) / 16) = (k : Int) / 16 := by rw [IntKind.wrap_i64]; omega
    have HTM : Hid ((k : Int).tmod 16 = ((k % 16 : Nat) : Int)) := by show _ = _; rw [Int.tmod_eq_emod_of_nonneg (by omega)]; omega
    have hw1 : IntKind.i64.wrap (k : Int) = k := by rw [IntKind.wrap_i64]; omega
    clear S ht h0 hxe
    go_enter Tryz.func101, Tryz.ntmps101
    go_wp2_with fail
    go_region_held (fun W' => W'.cell? ⟨t, 0, none⟩ = some (.pointer (some ⟨b, 0, none⟩))) (first | exact hS2 | exact hS1 | exact HT.out) (first | (go_at_call 106; refine (load_row HS.out t r HT.out hr).mono ?_; rintro e w1 ⟨A, rfl, hsz, HA, -, HJ, HM⟩; have hix := run_indexP A ((k : Int) / 16) (k / 16) x (by omega) (by omega) ((HJ.out _ (by omega)).trans (by rw [HE.out])); have hS1 := (HM.out.cell (p := ⟨t, 0, none⟩) (block_lt_of_cell (w := w) HT.out) (fun h => h)).trans HT.out) | (go_at_call 101; rw [HTM.out]; refine (look1 (HS.out.mod HM.out (fun h => h) (fun h => h) (fun h => h)) t x (k % 16) ((HM.out.cell (p := ⟨t, 0, none⟩) (block_lt_of_cell (w := w) HT.out) (fun h => h)).trans HT.out) hx (by omega)).mono ?_; rintro e w2 ⟨rfl, M2⟩; have hS2 := (M2.cell (p := ⟨t, 0, none⟩) (block_lt_of_cell hS1) (fun h => h)).trans hS1; have HM2 : Hid (Mod (fun _ => False) w1 w2) := M2; clear M2))
    go_wp2
    go_ret
    exact ⟨by simp [HX.out, HE.out], ((Mod.refl (fun _ => False) w).drewN 1).trans (HM.out.trans HM2.out)⟩
end
end Go.Proofs.YtpcbpikhiooafaaGreatDoor
