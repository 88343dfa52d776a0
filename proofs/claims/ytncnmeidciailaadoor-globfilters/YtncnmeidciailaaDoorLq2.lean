/- Bytes that come in as a row; the walks of the program's setOf and Complement. Conditions: the row's cells are as said; lengths that fit. -/
import Derived.Test.YtncnmeidciailaaDoorLq1
import Derived.Test.YtncnmeidciailaaDoorLb4
import Derived.Test.YtncnmeidciailaaDoorLd3
import Derived.Deep.MidRow
import Derived.Deep.WholeRow
namespace Go.Proofs.YtncnmeidciailaaDoor
open Go.RowKit
attribute [local go_sem] ext_eq app_eq get_eq
/-- A row of bytes that is read. -/
def Src (W : World) (a : Option Addr) (l : List UInt8) : Prop := ∀ j (_ : j < l.length), ∃ g o, a = some ⟨g, o, none⟩ ∧ g < W.heap.size ∧ W.cell? ⟨g, o + j, none⟩ = some (.int .u8 l[j].toNat)
theorem Src.nil (W : World) (a : Option Addr) : Src W a [] := fun j h => by simp at h
theorem Src.grow {W W' : World} {a : Option Addr} {l : List UInt8} {B : Nat} (h : Src W a l) (hB : Below B W W') (hs : W.heap.size ≤ B) : Src W' a l := fun j hj => by
  obtain ⟨g, o, e, hg, hc⟩ := h j hj
  exact ⟨g, o, e, Nat.lt_of_lt_of_le hg hB.size, (hB.cell (p := ⟨g, o + j, none⟩) (show g < B by omega)).trans hc⟩
theorem By.src {B : Nat} {W : World} {v : Value} {bs : List UInt8} (h : By B W v bs) : ∃ a c, v = .slice a bs.length c ∧ Src W a bs := by
  rcases h.2 with ⟨rfl, h0⟩ | ⟨g, cap, cur, rfl, hb, hg, h3⟩
  · have : bs = [] := List.length_eq_zero_iff.1 h0
    subst this
    exact ⟨none, 0, rfl, Src.nil _ _⟩
  · exact ⟨_, cap, rfl, fun j hj => ⟨g, 0, rfl, heap_lt hg, by rw [show (⟨g, 0 + j, none⟩ : Addr) = (⟨g, 0, none⟩ : Addr).add j by simp [Addr.add]]; exact h.cells (g := g) rfl j (.int .u8 bs[j].toNat) (by simp [bCs, hj])⟩⟩
/-- A set's value. -/
structure BitsV (g : UInt8 → Bool) (L : List Value) : Prop where
  len : L.length = 256
  bit : ∀ k : UInt8, L[k.toNat]? = some (.bool (g k))
  one : ∀ v ∈ L, v.oneCell' = true
theorem infoS : (Tryd.prog.info? 71).map (·.size) = some 256 := by kernel_rfl
theorem BitsV.inf {g : UInt8 → Bool} {L : List Value} (h : BitsV g L) : (Tryd.prog.info? 71).map (·.size) = some L.length := by rw [h.len]; exact infoS
theorem BitsV.infA {g : UInt8 → Bool} {L : List Value} (h : BitsV g L) : (Tryd.prog.info? 71).map (·.size) = some L.toArray.size := by rw [show L.toArray.size = L.length by simp]; exact h.inf
theorem sizeZ : Tryd.zeroCells71.size = 256 := by rw [zero71, Array.size_replicate]
theorem set_new (w : World) (t : TypeId) (z : Array Value) (cs : List Value) (h : z.size = cs.length) (h1 : cs.toArray.all (·.oneCell') = true) (hi : (Tryd.prog.info? t).map (·.size) = some cs.length) :
    (w.alloc (.cells z t)).setCells w.heap.size 0 cs = w.alloc (.cells cs.toArray t) := by
  have e1 := run_storeVar_new (P := Tryd.prog) w t z cs.toArray (by simpa using hi) (by simpa using h) h1
  have e2 := run_storeVar_mid (P := Tryd.prog) (w.alloc (.cells z t)) w.heap.size 0 t cs.toArray (fun j hj => by
    have hl : z[j]? = some (z[j]'(by simp at hj; omega)) := by simp
    refine ⟨?_, ?_⟩
    · rw [World.cell?_alloc_at z t _ _ rfl, Nat.zero_add, hl]; rfl
    · exact World.frozen?_alloc_at z t _ _ rfl) (by simpa using hi) h1
  rw [e2] at e1
  injection e1
theorem there_at {W : World} {b : Nat} {z : Array Value} {t : TypeId} (h : W.heap[b]? = some (.cells z t (0, 0))) {n : Nat} (hn : z.size = n) : W.there b 0 n := fun j hj => by
  refine ⟨?_, by simp [World.frozen?, h]⟩
  rw [cell_heap h, Nat.zero_add, Array.getElem?_eq_getElem (by omega)]; rfl
theorem set_bits (w : World) {g : UInt8 → Bool} {L : List Value} (h : BitsV g L) : (w.alloc (.cells Tryd.zeroCells71 71)).setCells w.heap.size 0 L = w.alloc (.cells L.toArray 71) :=
  set_new w _ _ L (by rw [sizeZ, h.len]) (all_oneCell_toArray h.one) h.inf
theorem there_bits (w : World) {g : UInt8 → Bool} {L : List Value} (h : BitsV g L) : (w.alloc (.cells Tryd.zeroCells71 71)).there w.heap.size 0 L.toArray.size := by
  rw [show L.toArray.size = 256 by simpa using h.len]; exact there_at (heap_new _ _) sizeZ
theorem BitsV.set {g : UInt8 → Bool} {L : List Value} (h : BitsV g L) (w : World) : SetT (w.alloc (.cells L.toArray 71)) w.heap.size g := ⟨_, heap_new _ _, fun k => by simpa using h.bit k⟩
theorem SetT.bits {W : World} {b : Nat} {g : UInt8 → Bool} (h : SetT W b g) : ∃ L, BitsV g L ∧ W.rangeAt b 0 L := by
  refine ⟨(List.range 256).map fun k => .bool (g (UInt8.ofNat k)), ⟨by simp, fun k => ?_, fun v hv => ?_⟩, fun j v hv => ?_⟩
  · rw [List.getElem?_map, List.getElem?_range k.toNat_lt]; simp
  · obtain ⟨k, _, rfl⟩ := List.mem_map.1 hv; rfl
  · rw [List.getElem?_map] at hv
    obtain ⟨k, h1, rfl⟩ := Option.map_eq_some_iff.1 hv
    have hj : j < 256 := by have := (List.getElem?_eq_some_iff.1 h1).1; simpa using this
    rw [List.getElem?_range hj] at h1
    cases h1
    rw [Nat.zero_add]; exact h.cellN j hj
theorem below_setCellsG {n : Nat} {a w : World} (h : Below n a w) {b : Nat} (hb : n ≤ b) (L : List Value) : ∀ o, Below n a (w.setCells b o L) := by
  induction L generalizing w with
  | nil => intro o; exact h
  | cons v r ih => intro o; exact ih (h.setCell (p := ⟨b, o, none⟩) hb v) (o + 1)
theorem results_cellG {P : Program} {fn : Func} {p : Tmp} {ty : TypeId} (h : fn.results = #[.cell p ty]) (tmps : Array Value) (w : World) (a : Addr) (v : Value) (ha : tmps.getD p undef = .pointer (some a)) (hl : (loadVar ty a).run P w = .ok v w) :
    (results fn tmps).run P w = .ok v w := by
  have e : (results fn tmps).run P w = ((asAddr (tmps.getD p undef)).run P w).andThen fun a w₁ => (loadVar ty a).run P w₁ := by
    simp only [results, h]
    simp [Sem.run_bind, Result.andThen]
  rw [e, ha]
  exact hl
set_option maxRecDepth 100000 in
set_option maxHeartbeats 2000000 in
theorem gSetOf (l : List UInt8) (a : Option Addr) (c : Nat) (hl : l.length ≤ 2 ^ 62) (w : World) (hS : Src w a l) : Calls Tryd.prog 53 #[.slice a l.length c] w fun e w' => ∃ L, e = .returned (.agg L.toArray) ∧ BitsV (Gl.has l) L ∧ Below w.heap.size w w' := by
  have HS := hidA hS
  clear hS
  have HT0 : Hid (SetT ((w.alloc (.cells Tryd.zeroCells71 71)).alloc (.cells Tryd.zeroCells71 71)) (w.heap.size + 1) (Gl.has [])) := by
    have := SetT.new (w.alloc (.cells Tryd.zeroCells71 71))
    rw [show (w.alloc (.cells Tryd.zeroCells71 71)).heap.size = w.heap.size + 1 by simp] at this
    exact this.congr (fun x => by simp [Gl.has])
  have HZ0 : Hid (((w.alloc (.cells Tryd.zeroCells71 71)).alloc (.cells Tryd.zeroCells71 71)).heap[w.heap.size]? = some (.cells Tryd.zeroCells71 71 (0, 0))) := (Below.heap_alloc _ _ _ (by simp)).trans (heap_new _ _)
  have HB0 : Hid (Below w.heap.size w ((w.alloc (.cells Tryd.zeroCells71 71)).alloc (.cells Tryd.zeroCells71 71))) := ((Below.refl w.heap.size w).alloc (Nat.le_refl _) _).alloc (by simp) _
  go_enter Tryd.func53, Tryd.ntmps53
  go_wp2
  go_loopw [8] (fun s8 W => ∃ (k : Nat), s8 = .int .i64 k ∧ k ≤ l.length ∧ Hid (SetT W (w.heap.size + 1) (Gl.has (l.take k))) ∧ Hid (W.heap[w.heap.size]? = some (.cells Tryd.zeroCells71 71 (0, 0))) ∧ Hid (Below w.heap.size w W)) (fun s8 _ => l.length - (intOf s8).toNat)
  case atStart => exact ⟨0, rfl, Nat.zero_le _, HT0, HZ0, HB0⟩
  case round =>
    obtain ⟨k, rfl, hk, HT, HZ, HB⟩ := hrel
    clear HT0 HZ0 HB0
    have hw1 : IntKind.i64.wrap ((k : Int) + 1) = ((k + 1 : Nat) : Int) := by rw [IntKind.wrap_i64]; omega
    by_cases hlt : k < l.length
    · obtain ⟨g, o, rfl, hg, hc0⟩ := HS.out k hlt
      have hc : wr.cell? ⟨g, o + k, none⟩ = some (.int .u8 l[k].toNat) := (HB.out.cell (p := ⟨g, o + k, none⟩) hg).trans hc0
      have ht := HT.out.cell l[k]
      have hf := HT.out.frozen l[k].toNat
      have h8 := l[k].toNat_lt
      have HT2 : Hid (SetT (wr.setCell ⟨w.heap.size + 1, l[k].toNat, none⟩ (.bool true)) (w.heap.size + 1) (Gl.has (l.take (k + 1)))) := (HT.out.set l[k] true).congr (fun x => by
        rw [List.take_succ_eq_append_getElem hlt, Gl.has_snoc]
        unfold Gl.updB
        by_cases e : x = l[k]
        · simp [e]
        · simp [e])
      have HZ2 : Hid ((wr.setCell ⟨w.heap.size + 1, l[k].toNat, none⟩ (.bool true)).heap[w.heap.size]? = some (.cells Tryd.zeroCells71 71 (0, 0))) := (Below.heap_setCell _ _ _ _ (by show w.heap.size ≠ w.heap.size + 1; omega)).trans HZ.out
      have HB2 := hidA (HB.out.setCell (p := ⟨w.heap.size + 1, l[k].toNat, none⟩) (by show _ ≤ w.heap.size + 1; omega) (.bool true))
      clear hc0 HS
      generalize l[k] = x at *
      go_wp2
      exact ⟨⟨k + 1, by first | rfl | go_num, hlt, HT2, HZ2, HB2⟩, by simp [intOf]; omega⟩
    · have hT' := HT.out
      rw [List.take_of_length_le (by omega)] at hT'
      obtain ⟨L, hL, hR⟩ := hT'.bits
      have HL := hidA hL
      have HR := hidA hR
      have HTh : Hid (wr.there w.heap.size 0 L.toArray.size) := by
        show wr.there _ _ _
        rw [show L.toArray.size = 256 by simpa using hL.len]; exact there_at HZ.out sizeZ
      clear hT' hL hR HT HS
      go_wp2_with (first | (refine wpList_load_mid rfl 71 _ rfl (w.heap.size + 1) 0 rfl L _ HR.out Tryd.underlying71 rfl HL.out.inf ?_) | (refine wpList_store_mid rfl 71 _ _ rfl w.heap.size 0 L.toArray rfl rfl HTh.out HL.out.infA (all_oneCell_toArray HL.out.one) ?_))
      have hRR := World.rangeAt_setCells_same wr w.heap.size 0 L (by have := HTh.out; simpa using this)
      refine bodyPost_ret (v := .agg L.toArray) (results_cellG Tryd.results53 _ _ ⟨w.heap.size, 0, none⟩ _ rfl (run_loadVar_mid _ _ _ _ L _ hRR Tryd.underlying71 rfl HL.out.inf)) rfl ?_
      exact ⟨L, rfl, HL.out, below_setCellsG HB.out (Nat.le_refl _) _ _⟩
theorem fin0 (g : UInt8 → Bool) (x : UInt8) : (!g x) = Gl.fin (Gl.flOf 0) true g x := by
  unfold Gl.fin
  rw [show (Gl.flOf 0).fold = false from rfl, if_neg (by simp)]
  cases g x <;> rfl
set_option maxRecDepth 100000 in
set_option maxHeartbeats 2000000 in
theorem gComplement (l : List UInt8) (a : Option Addr) (c : Nat) (hl : l.length ≤ 2 ^ 62) (w : World) (hS : Src w a l) : Calls Tryd.prog 33 #[.slice a l.length c] w fun e w' => ∃ v, e = .returned v ∧ By w.heap.size w' v (Gl.compl l) ∧ Below w.heap.size w w' := by
  have HO := hidA (gSetOf l a c hl w hS)
  have HF := hidA (fun b g W h => gFinished b true 0 g W h)
  have HY := hidA (fun b g W h => gBytes b g W h)
  clear hS
  go_enter Tryd.func33, Tryd.ntmps33
  go_wp2_with (first | (go_at_call 53; refine HO.out.mono ?_; rintro e w1 ⟨L, rfl, hL, b1⟩; (have HL := hidA hL); (have B1 := hidA b1); (have HTh := hidA (there_bits w1 hL)); (have HSt := hidA (set_bits w1 hL)); clear hL b1) | (refine wpList_store_mid rfl 71 _ _ rfl w1.heap.size 0 L.toArray rfl rfl HTh.out HL.out.infA (all_oneCell_toArray HL.out.one) ?_; rw [show L.toArray.toList = L from rfl, HSt.out]) | (go_at_call 55; refine (HF.out _ _ _ (HL.out.set w1)).mono ?_; rintro e w2 ⟨rfl, hs2, hm2⟩; (have HS2 := hidA (hs2.congr (fin0 _))); (have B2 := hidA (B1.out.trans (((Md.refl (fun k => k = w1.heap.size) w1).alloc (.cells L.toArray 71) |>.trans hm2).below B1.out.size (fun k hk h => by have h2 := B1.out.size; omega)))); clear hs2 hm2) | (go_at_call 51; refine (HY.out _ _ _ HS2.out).mono ?_; rintro e w3 ⟨v, rfl, hy, b3⟩; (have HV := hidA hy); (have B3 := hidA b3); clear hy b3))
  go_ret
  refine ⟨v, rfl, ⟨HV.out.1, ?_⟩, bl2 B2.out B3.out⟩
  rcases HV.out.2 with h | ⟨g, cap, cur, h1, h2, h3⟩
  · exact .inl h
  · exact .inr ⟨g, cap, cur, h1, Nat.le_trans B2.out.size h2, h3⟩
end Go.Proofs.YtncnmeidciailaaDoor
