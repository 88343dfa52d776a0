/- The walk of the program's Translate. Conditions: the rows' cells are as said; lengths that fit. -/
import Derived.Test.YtncnmeidciailaaDoorLq3
import Derived.Laws.Small
namespace Go.Proofs.YtncnmeidciailaaDoor
open Go.RowKit
attribute [local go_sem] ext_eq app_eq get_eq
/-- A table of what bytes become, in memory. -/
def TabT (W : World) (b : Nat) (f : UInt8 → UInt8) : Prop := ∃ arr, W.heap[b]? = some (.cells arr 76 (0, 0)) ∧ ∀ k : UInt8, arr[k.toNat]? = some (.int .u8 (f k).toNat)
theorem TabT.cell {W : World} {b : Nat} {f : UInt8 → UInt8} (h : TabT W b f) (k : UInt8) : W.cell? ⟨b, k.toNat, none⟩ = some (.int .u8 (f k).toNat) := by
  obtain ⟨arr, h1, h2⟩ := h
  rw [cell_heap h1]; exact h2 k
theorem TabT.cellN {W : World} {b : Nat} {f : UInt8 → UInt8} (h : TabT W b f) (k : Nat) (hk : k < 256) : W.cell? ⟨b, k, none⟩ = some (.int .u8 (f (UInt8.ofNat k)).toNat) := by
  have := h.cell (UInt8.ofNat k)
  rwa [ofN hk] at this
theorem TabT.frozen {W : World} {b : Nat} {f : UInt8 → UInt8} (h : TabT W b f) (k : Nat) : W.frozen? ⟨b, k, none⟩ = false := by
  obtain ⟨arr, h1, h2⟩ := h
  simp [World.frozen?, h1]
theorem TabT.lt {W : World} {b : Nat} {f : UInt8 → UInt8} (h : TabT W b f) : b < W.heap.size := by
  obtain ⟨arr, h1, h2⟩ := h
  exact heap_lt h1
theorem TabT.congr {W : World} {b : Nat} {f f' : UInt8 → UInt8} (h : TabT W b f) (e : ∀ x, f' x = f x) : TabT W b f' := by
  obtain ⟨arr, h1, h2⟩ := h
  exact ⟨arr, h1, fun k => by rw [e]; exact h2 k⟩
theorem TabT.drewN {W : World} {b : Nat} {f : UInt8 → UInt8} (h : TabT W b f) (m : Nat) : TabT (W.drewN m) b f := h
theorem TabT.set {W : World} {b : Nat} {f : UInt8 → UInt8} (h : TabT W b f) (k v : UInt8) : TabT (W.setCell ⟨b, k.toNat, none⟩ (.int .u8 v.toNat)) b (fun x => if x = k then v else f x) := by
  obtain ⟨arr, h1, h2⟩ := h
  refine ⟨arr.setIfInBounds k.toNat (.int .u8 v.toNat), ?_, fun j => ?_⟩
  · show (W.heap.modify b _)[b]? = _
    rw [Array.getElem?_modify, if_pos rfl, h1]; rfl
  · show _ = some (Value.int .u8 ((if j = k then v else f j : UInt8).toNat))
    rw [Array.getElem?_setIfInBounds]
    by_cases e : j = k
    · subst e
      rw [if_pos rfl, if_pos rfl, if_pos (by have := h2 j; exact (Array.getElem?_eq_some_iff.1 this).1)]
    · rw [if_neg (fun h => e (UInt8.toNat_inj.1 h.symm)), if_neg e]; exact h2 j
theorem zero76 : Tryd.zeroCells76 = Array.replicate 256 (.int .u8 0) := by kernel_rfl
theorem TabT.new (w : World) : TabT (w.alloc (.cells Tryd.zeroCells76 76)) w.heap.size (fun _ => 0) := by
  refine ⟨_, heap_new _ _, fun k => ?_⟩
  rw [zero76, Array.getElem?_replicate, if_pos k.toNat_lt]; rfl
theorem mk_bytes (n : Nat) (hn : n ≤ 140737488355328) (w : World) : (Instr.makeSlice 32 (.int .i64 n) (.int .i64 n)).run Tryd.prog w = .ok (.slice (some ⟨w.heap.size, 0, none⟩) n n) (w.alloc (.cells (madeCells #[.int .u8 0] n) 5)) := by
  obtain ⟨i, hi, hz, hs, hb⟩ := infoB
  have h := run_make (P := Tryd.prog) w 32 5 i _ Tryd.underlying32 hi hz .i64 .i64 n n (by omega) (by omega) (by rw [hb]; omega) (by omega)
  rw [hs] at h
  simpa [Value.cells] using h
/-- A row that is being filled. -/
def OutR (W : World) (ob : Nat) (b : List UInt8) (f : UInt8 → UInt8) (k : Nat) : Prop := ∃ arr, W.heap[ob]? = some (.cells arr 5 (0, 0)) ∧ arr.size = b.length ∧ ∀ j (h : j < b.length), arr[j]? = some (.int .u8 (if j < k then (f b[j]).toNat else 0))
theorem OutR.new (W : World) (b : List UInt8) (f : UInt8 → UInt8) : OutR (W.alloc (.cells (madeCells #[.int .u8 0] b.length) 5)) W.heap.size b f 0 :=
  ⟨_, heap_new _ _, size_madeCells _ _, fun j h => by rw [if_neg (by omega)]; simp [madeCells, h, Nat.mod_one]⟩
theorem OutR.set {W : World} {ob : Nat} {b : List UInt8} {f : UInt8 → UInt8} {k : Nat} (h : OutR W ob b f k) (hk : k < b.length) : OutR (W.setCell ⟨ob, k, none⟩ (.int .u8 (f b[k]).toNat)) ob b f (k + 1) := by
  obtain ⟨arr, h1, h2, h3⟩ := h
  refine ⟨arr.setIfInBounds k (.int .u8 (f b[k]).toNat), ?_, by simpa using h2, fun j hj => ?_⟩
  · show (W.heap.modify ob _)[ob]? = _
    rw [Array.getElem?_modify, if_pos rfl, h1]; rfl
  · rw [Array.getElem?_setIfInBounds]
    by_cases e : j = k
    · subst e
      rw [if_pos rfl, if_pos (by omega), if_pos (by omega)]
    · rw [if_neg (fun h => e h.symm), h3 j hj]
      congr 2
      by_cases hlt : j < k
      · rw [if_pos hlt, if_pos (by omega)]
      · rw [if_neg hlt, if_neg (by omega)]
theorem OutR.by_ {W : World} {ob B : Nat} {b : List UInt8} {f : UInt8 → UInt8} (h : OutR W ob b f b.length) (hB : B ≤ ob) (hl : b.length ≤ maxLen) : By B W (.slice (some ⟨ob, 0, none⟩) b.length b.length) (b.map f) := by
  obtain ⟨arr, h1, h2, h3⟩ := h
  refine ⟨by rw [bCs_len]; simp, .inr ⟨ob, b.length, arr, by simp, hB, h1, by simp, hl, by omega, ?_⟩⟩
  apply List.ext_getElem?
  intro j
  rw [List.getElem?_take]
  by_cases hj : j < b.length
  · rw [if_pos (by simpa using hj), Array.getElem?_toList, h3 j hj, if_pos hj]
    simp [bCs, hj]
  · rw [if_neg (by simpa using hj), List.getElem?_eq_none (by rw [bCs_len]; simpa using hj)]
/-- What Translate tells. -/
def TrOut (b fr to : List UInt8) (w : World) (e : Ending) (w' : World) : Prop := Below w.heap.size w w' ∧
  ((to = [] ∧ fr ≠ [] ∧ e = .returned (.tuple #[.slice none 0 0, .int .i64 22])) ∨ (¬ (to = [] ∧ fr ≠ []) ∧ ∃ v, e = .returned (.tuple #[v, .int .i64 0]) ∧ By w.heap.size w' v (b.map (Gl.tr fr to))))
/-- What the loops keep. -/
structure TL (w W : World) (f : UInt8 → UInt8) : Prop where
  tab : TabT W w.heap.size f
  bel : Below w.heap.size w W
/-! The walks. -/
set_option maxRecDepth 100000 in
set_option maxHeartbeats 4000000 in
theorem gTrans_A (b fr to : List UInt8) (a a1 a2 : Option Addr) (c c1 c2 : Nat) (hb : b.length ≤ 140737488355328) (q : Nat) (Htn : Hid (to.length = q + 1)) (tn : Nat) (Ht2 : Hid (tn = to.length)) (htn : tn ≤ 2 ^ 62) (h1 : ((tn : Int) == 0) = false) (fn : Nat) (Hfn : Hid (fn = fr.length)) (hf : fn ≤ 2 ^ 62) (w : World) (HS : Hid (Src w a b)) (HS1 : Hid (Src w a1 fr)) (HS2 : Hid (Src w a2 to)) :
    Calls Tryd.prog 27 #[.slice a b.length c, .slice a1 fn c1, .slice a2 tn c2] w fun e w' => Below w.heap.size w w' ∧ ∃ v, e = .returned (.tuple #[v, .int .i64 0]) ∧ By w.heap.size w' v (b.map (Gl.tr fr to)) := by
  have HT0 : Hid (TL w (w.alloc (.cells Tryd.zeroCells76 76)) (fun x => if x.toNat < 0 then x else 0)) := ⟨(TabT.new w).congr (fun x => by rw [if_neg (by omega)]), (Below.refl _ _).alloc (Nat.le_refl _) _⟩
  have hwf : IntKind.i64.wrap ((fn : Int) - 1) = (fn : Int) - 1 := by rw [IntKind.wrap_i64]; omega
  go_enter Tryd.func27, Tryd.ntmps27
  go_wp2
  go_loopw [22] (fun s22 W => ∃ (k : Nat), s22 = .int .i64 k ∧ k ≤ 256 ∧ Hid (TL w W (fun x => if x.toNat < k then x else 0))) (fun s22 _ => 256 - (intOf s22).toNat)
  case atStart => exact ⟨0, rfl, Nat.zero_le _, HT0⟩
  case round =>
    obtain ⟨k, rfl, hk, HT⟩ := hrel
    clear HT0
    by_cases hlt : k < 256
    · have hw1 : IntKind.i64.wrap ((k : Int) + 1) = ((k + 1 : Nat) : Int) := by rw [IntKind.wrap_i64]; omega
      have hc := HT.out.tab.cellN k hlt
      have hfz := HT.out.tab.frozen k
      have hu8 : IntKind.u8.wrap (k : Int) = (k : Int) := by rw [IntKind.wrap_u8]; omega
      have HT2 : Hid (TL w (wr.setCell ⟨w.heap.size, k, none⟩ (.int .u8 k)) (fun x => if x.toNat < k + 1 then x else 0)) := by
        have h := (HT.out.tab.set (UInt8.ofNat k) (UInt8.ofNat k)).congr (f' := fun x => if x.toNat < k + 1 then x else 0) (fun x => by
          have e := ofN_eq hlt x
          by_cases hx : x = UInt8.ofNat k
          · have := e.1 hx
            rw [if_pos (by omega), if_pos hx, hx]
          · have : x.toNat ≠ k := fun h => hx (e.2 h)
            rw [if_neg hx]
            by_cases h2 : x.toNat < k
            · rw [if_pos (by omega), if_pos h2]
            · rw [if_neg (by omega), if_neg h2])
        rw [ofN hlt] at h
        exact ⟨h, HT.out.bel.setCell (p := ⟨w.heap.size, k, none⟩) (Nat.le_refl _) _⟩
      go_wp2
      exact ⟨⟨k + 1, by first | rfl | go_num, hlt, HT2⟩, by simp [intOf]; omega⟩
    · have HT2 : Hid (TL w wr (fun x => Gl.trA to x (fr.drop fn) fn)) := ⟨HT.out.tab.congr (fun x => by
        rw [Hfn.out, List.drop_length]
        have := x.toNat_lt
        rw [if_pos (by omega)]; rfl), HT.out.bel⟩
      clear HT
      go_wp2
      go_loopw [10] (fun s10 W => ∃ (z : Int) (m : Nat), s10 = .int .i64 z ∧ m ≤ fn ∧ Hid (z = (m : Int) - 1) ∧ Hid (TL w W (fun x => Gl.trA to x (fr.drop m) m))) (fun s10 _ => (intOf s10 + 1).toNat)
      case atStart => exact ⟨_, fn, rfl, Nat.le_refl _, rfl, HT2⟩
      case round =>
        obtain ⟨z, m, rfl, hm, HZ, HT⟩ := hrel
        clear HT2
        by_cases hm0 : 0 < m
        · obtain ⟨i, HI⟩ : ∃ i, Hid (m = i + 1) := ⟨m - 1, by show m = m - 1 + 1; omega⟩
          obtain rfl : z = (i : Int) := by have h1 := HZ.out; have h2 := HI.out; omega
          have hT := HT.out
          rw [HI.out] at hT
          have hmi : i + 1 ≤ fn := by have := HI.out; omega
          clear HT
          have HT := hidA hT
          clear hT HI HZ hm hm0 m
          have hw1 : IntKind.i64.wrap ((i : Int) - 1) = (i : Int) - 1 := by rw [IntKind.wrap_i64]; omega
          have hil : i < fr.length := by have := Hfn.out; omega
          obtain ⟨g1, o1, rfl, hg1, hc10⟩ := HS1.out i hil
          have hc1 : wr.cell? ⟨g1, o1 + i, none⟩ = some (.int .u8 fr[i].toNat) := (HT.out.bel.cell (p := ⟨g1, o1 + i, none⟩) hg1).trans hc10
          have ht1 := HT.out.tab.cell fr[i]
          have hfz := HT.out.tab.frozen fr[i].toNat
          have h8 := fr[i].toNat_lt
          have hwq : IntKind.i64.wrap ((tn : Int) - 1) = (q : Int) := by have h1 := Htn.out; have h2 := Ht2.out; rw [IntKind.wrap_i64]; omega
          have hmq : min i q < to.length := by have h1 := Htn.out; omega
          have hqt : q < tn := by have h1 := Htn.out; have h2 := Ht2.out; omega
          obtain ⟨g2, o2, rfl, hg2, hc20⟩ := HS2.out (min i q) hmq
          have hc2 : wr.cell? ⟨g2, o2 + min i q, none⟩ = some (.int .u8 to[min i q].toNat) := (HT.out.bel.cell (p := ⟨g2, o2 + min i q, none⟩) hg2).trans hc20
          have HT3 : Hid (TL w (wr.setCell ⟨w.heap.size, fr[i].toNat, none⟩ (.int .u8 to[min i q].toNat)) (fun x => Gl.trA to x (fr.drop i) i)) := ⟨(HT.out.tab.set fr[i] to[min i q]).congr (fun x => by
            rw [Gl.trA_step fr to i hil]
            have e : to.getD (min i (to.length - 1)) 0 = to[min i q] := by
              have h1 := Htn.out
              rw [show to.length - 1 = q by omega]; exact Gl.getD_at hmq
            rw [e]
            by_cases hx : x = fr[i]
            · rw [if_pos hx.symm, if_pos hx]
            · rw [if_neg (fun h => hx h.symm), if_neg hx]), HT.out.bel.setCell (p := ⟨w.heap.size, fr[i].toNat, none⟩) (Nat.le_refl _) _⟩
          clear hc10 hc20 HS HS1 HS2
          have hfl : i < fn := by omega
          generalize fr[i] = x at *
          generalize to[min i q] = y at *
          clear HT
          generalize Gl.trA to x (List.drop (i + 1) fr) (i + 1) = tb at *
          by_cases hiq : i ≤ q
          · rw [Nat.min_eq_left hiq] at hc2
            have hn : ¬ ((q : Int) < (i : Int)) := by omega
            have hmn : min (i : Int) (q : Int) = (i : Int) := by omega
            have hit : i < tn := by omega
            go_wp2_with (go_region)
            all_goals exact ⟨⟨(i : Int) - 1, i, rfl, by omega, rfl, hidA (by exact (⟨HT3.out.tab.drewN 1, HT3.out.bel.trans ((bl_drew _ 1).mono HT3.out.bel.size)⟩ : TL w ((wr.setCell ⟨w.heap.size, x.toNat, none⟩ (.int .u8 y.toNat)).drewN 1) _))⟩, by simp [intOf]⟩
          · rw [Nat.min_eq_right (by omega)] at hc2
            have hn : ((q : Int) < (i : Int)) := by omega
            have hmn : min (i : Int) (q : Int) = (q : Int) := by omega
            go_wp2_with (go_region)
            all_goals exact ⟨⟨(i : Int) - 1, i, rfl, by omega, rfl, hidA (by exact (⟨HT3.out.tab.drewN 1, HT3.out.bel.trans ((bl_drew _ 1).mono HT3.out.bel.size)⟩ : TL w ((wr.setCell ⟨w.heap.size, x.toNat, none⟩ (.int .u8 y.toNat)).drewN 1) _))⟩, by simp [intOf]⟩
        · obtain rfl : m = 0 := by omega
          obtain rfl : z = -1 := by have h1 := HZ.out; omega
          have HT3 : Hid (TL w wr (Gl.tr fr to)) := HT.out
          have hmk := mk_bytes b.length hb wr
          have HO0 := hidA (OutR.new wr b (Gl.tr fr to))
          clear HT HS1 HS2 HZ
          have hobs : w.heap.size < wr.heap.size := HT3.out.tab.lt
          have HX0 : Hid (TabT (wr.alloc (.cells (madeCells #[.int .u8 0] b.length) 5)) w.heap.size (Gl.tr fr to) ∧ Below w.heap.size w (wr.alloc (.cells (madeCells #[.int .u8 0] b.length) 5))) := by
            obtain ⟨arr, t1, t2⟩ := HT3.out.tab
            exact ⟨⟨arr, (Below.heap_alloc _ _ _ hobs).trans t1, t2⟩, HT3.out.bel.alloc (by omega) _⟩
          generalize madeCells #[Value.int .u8 0] b.length = A0 at *
          go_wp2
          generalize wr.alloc (.cells A0 5) = W0 at *
          generalize wr.heap.size = ob at *
          clear HT3 hmk
          go_loopw [55] (fun s55 W => ∃ (k : Nat), s55 = .int .i64 k ∧ k ≤ b.length ∧ Hid (OutR W ob b (Gl.tr fr to) k) ∧ Hid (TabT W w.heap.size (Gl.tr fr to) ∧ Below w.heap.size w W)) (fun s55 _ => b.length - (intOf s55).toNat)
          case atStart => exact ⟨0, rfl, Nat.zero_le _, HO0, HX0⟩
          case round =>
            obtain ⟨k, rfl, hk, HO, HX⟩ := hrel
            clear HO0 HX0
            by_cases hlt : k < b.length
            · have hw1 : IntKind.i64.wrap ((k : Int) + 1) = ((k + 1 : Nat) : Int) := by rw [IntKind.wrap_i64]; omega
              obtain ⟨g, o, rfl, hg, hc⟩ := (HS.out.grow HX.out.2 (Nat.le_refl _)) k hlt
              have ht := HX.out.1.cell b[k]
              have h8 := b[k].toNat_lt
              have hoc : wr.cell? ⟨ob, k, none⟩ = some (.int .u8 0) := by
                obtain ⟨arr, q1, q2, q3⟩ := HO.out
                rw [cell_heap q1, q3 k hlt, if_neg (by omega)]
              have hof : wr.frozen? ⟨ob, k, none⟩ = false := by
                obtain ⟨arr, q1, q2, q3⟩ := HO.out
                simp [World.frozen?, q1]
              have HO2 := hidA (HO.out.set hlt)
              have HX2 : Hid (TabT (wr.setCell ⟨ob, k, none⟩ (.int .u8 (Gl.tr fr to b[k]).toNat)) w.heap.size (Gl.tr fr to) ∧ Below w.heap.size w (wr.setCell ⟨ob, k, none⟩ (.int .u8 (Gl.tr fr to b[k]).toNat))) := by
                obtain ⟨arr, t1, t2⟩ := HX.out.1
                exact ⟨⟨arr, (Below.heap_setCell _ _ _ _ (by show w.heap.size ≠ ob; omega)).trans t1, t2⟩, HX.out.2.setCell (p := ⟨ob, k, none⟩) (by show _ ≤ ob; omega) _⟩
              clear HO HX HS
              generalize Gl.tr fr to b[k] = y at *
              generalize b[k] = x at *
              go_wp2
              exact ⟨⟨k + 1, by first | rfl | go_num, hlt, HO2, HX2⟩, by simp [intOf]; omega⟩
            · obtain rfl : k = b.length := by omega
              clear HS
              have hob : w.heap.size ≤ ob := by omega
              go_wp2
              go_ret2
              exact ⟨HX.out.2, _, rfl, HO.out.by_ hob (by unfold maxLen; omega)⟩
set_option maxRecDepth 100000 in
set_option maxHeartbeats 4000000 in
theorem gTrans_B (b fr to : List UInt8) (a a1 a2 : Option Addr) (c c1 c2 : Nat) (hb : b.length ≤ 140737488355328) (tn : Nat) (h1 : ((tn : Int) == 0) = true) (fn : Nat) (Hfn : Hid (fn = fr.length)) (hf : ¬ 0 < fn) (w : World) (HS : Hid (Src w a b)) :
    Calls Tryd.prog 27 #[.slice a b.length c, .slice a1 fn c1, .slice a2 tn c2] w fun e w' => Below w.heap.size w w' ∧ ∃ v, e = .returned (.tuple #[v, .int .i64 0]) ∧ By w.heap.size w' v (b.map (Gl.tr fr to)) := by
  have HT0 : Hid (TL w (w.alloc (.cells Tryd.zeroCells76 76)) (fun x => if x.toNat < 0 then x else 0)) := ⟨(TabT.new w).congr (fun x => by rw [if_neg (by omega)]), (Below.refl _ _).alloc (Nat.le_refl _) _⟩
  have hwf : IntKind.i64.wrap ((fn : Int) - 1) = (fn : Int) - 1 := by rw [IntKind.wrap_i64]; omega
  have h2 : decide (0 < fn) = false := decide_eq_false hf
  go_enter Tryd.func27, Tryd.ntmps27
  go_wp2
  go_loopw [22] (fun s22 W => ∃ (k : Nat), s22 = .int .i64 k ∧ k ≤ 256 ∧ Hid (TL w W (fun x => if x.toNat < k then x else 0))) (fun s22 _ => 256 - (intOf s22).toNat)
  case atStart => exact ⟨0, rfl, Nat.zero_le _, HT0⟩
  case round =>
    obtain ⟨k, rfl, hk, HT⟩ := hrel
    clear HT0
    by_cases hlt : k < 256
    · have hw1 : IntKind.i64.wrap ((k : Int) + 1) = ((k + 1 : Nat) : Int) := by rw [IntKind.wrap_i64]; omega
      have hc := HT.out.tab.cellN k hlt
      have hfz := HT.out.tab.frozen k
      have hu8 : IntKind.u8.wrap (k : Int) = (k : Int) := by rw [IntKind.wrap_u8]; omega
      have HT2 : Hid (TL w (wr.setCell ⟨w.heap.size, k, none⟩ (.int .u8 k)) (fun x => if x.toNat < k + 1 then x else 0)) := by
        have h := (HT.out.tab.set (UInt8.ofNat k) (UInt8.ofNat k)).congr (f' := fun x => if x.toNat < k + 1 then x else 0) (fun x => by
          have e := ofN_eq hlt x
          by_cases hx : x = UInt8.ofNat k
          · have := e.1 hx
            rw [if_pos (by omega), if_pos hx, hx]
          · have : x.toNat ≠ k := fun h => hx (e.2 h)
            rw [if_neg hx]
            by_cases h2 : x.toNat < k
            · rw [if_pos (by omega), if_pos h2]
            · rw [if_neg (by omega), if_neg h2])
        rw [ofN hlt] at h
        exact ⟨h, HT.out.bel.setCell (p := ⟨w.heap.size, k, none⟩) (Nat.le_refl _) _⟩
      go_wp2
      exact ⟨⟨k + 1, by first | rfl | go_num, hlt, HT2⟩, by simp [intOf]; omega⟩
    · have HT2 : Hid (TL w wr (fun x => Gl.trA to x (fr.drop fn) fn)) := ⟨HT.out.tab.congr (fun x => by
        rw [Hfn.out, List.drop_length]
        have := x.toNat_lt
        rw [if_pos (by omega)]; rfl), HT.out.bel⟩
      clear HT
      go_wp2
      go_loopw [10] (fun s10 W => ∃ (z : Int) (m : Nat), s10 = .int .i64 z ∧ m ≤ fn ∧ Hid (z = (m : Int) - 1) ∧ Hid (TL w W (fun x => Gl.trA to x (fr.drop m) m))) (fun s10 _ => (intOf s10 + 1).toNat)
      case atStart => exact ⟨_, fn, rfl, Nat.le_refl _, rfl, HT2⟩
      case round =>
        obtain ⟨z, m, rfl, hm, HZ, HT⟩ := hrel
        clear HT2
        · obtain rfl : m = 0 := by omega
          obtain rfl : z = -1 := by have h1 := HZ.out; omega
          have HT3 : Hid (TL w wr (Gl.tr fr to)) := HT.out
          have hmk := mk_bytes b.length hb wr
          have HO0 := hidA (OutR.new wr b (Gl.tr fr to))
          clear HT HZ
          have hobs : w.heap.size < wr.heap.size := HT3.out.tab.lt
          have HX0 : Hid (TabT (wr.alloc (.cells (madeCells #[.int .u8 0] b.length) 5)) w.heap.size (Gl.tr fr to) ∧ Below w.heap.size w (wr.alloc (.cells (madeCells #[.int .u8 0] b.length) 5))) := by
            obtain ⟨arr, t1, t2⟩ := HT3.out.tab
            exact ⟨⟨arr, (Below.heap_alloc _ _ _ hobs).trans t1, t2⟩, HT3.out.bel.alloc (by omega) _⟩
          generalize madeCells #[Value.int .u8 0] b.length = A0 at *
          go_wp2
          generalize wr.alloc (.cells A0 5) = W0 at *
          generalize wr.heap.size = ob at *
          clear HT3 hmk
          go_loopw [55] (fun s55 W => ∃ (k : Nat), s55 = .int .i64 k ∧ k ≤ b.length ∧ Hid (OutR W ob b (Gl.tr fr to) k) ∧ Hid (TabT W w.heap.size (Gl.tr fr to) ∧ Below w.heap.size w W)) (fun s55 _ => b.length - (intOf s55).toNat)
          case atStart => exact ⟨0, rfl, Nat.zero_le _, HO0, HX0⟩
          case round =>
            obtain ⟨k, rfl, hk, HO, HX⟩ := hrel
            clear HO0 HX0
            by_cases hlt : k < b.length
            · have hw1 : IntKind.i64.wrap ((k : Int) + 1) = ((k + 1 : Nat) : Int) := by rw [IntKind.wrap_i64]; omega
              obtain ⟨g, o, rfl, hg, hc⟩ := (HS.out.grow HX.out.2 (Nat.le_refl _)) k hlt
              have ht := HX.out.1.cell b[k]
              have h8 := b[k].toNat_lt
              have hoc : wr.cell? ⟨ob, k, none⟩ = some (.int .u8 0) := by
                obtain ⟨arr, q1, q2, q3⟩ := HO.out
                rw [cell_heap q1, q3 k hlt, if_neg (by omega)]
              have hof : wr.frozen? ⟨ob, k, none⟩ = false := by
                obtain ⟨arr, q1, q2, q3⟩ := HO.out
                simp [World.frozen?, q1]
              have HO2 := hidA (HO.out.set hlt)
              have HX2 : Hid (TabT (wr.setCell ⟨ob, k, none⟩ (.int .u8 (Gl.tr fr to b[k]).toNat)) w.heap.size (Gl.tr fr to) ∧ Below w.heap.size w (wr.setCell ⟨ob, k, none⟩ (.int .u8 (Gl.tr fr to b[k]).toNat))) := by
                obtain ⟨arr, t1, t2⟩ := HX.out.1
                exact ⟨⟨arr, (Below.heap_setCell _ _ _ _ (by show w.heap.size ≠ ob; omega)).trans t1, t2⟩, HX.out.2.setCell (p := ⟨ob, k, none⟩) (by show _ ≤ ob; omega) _⟩
              clear HO HX HS
              generalize Gl.tr fr to b[k] = y at *
              generalize b[k] = x at *
              go_wp2
              exact ⟨⟨k + 1, by first | rfl | go_num, hlt, HO2, HX2⟩, by simp [intOf]; omega⟩
            · obtain rfl : k = b.length := by omega
              clear HS
              have hob : w.heap.size ≤ ob := by omega
              go_wp2
              go_ret2
              exact ⟨HX.out.2, _, rfl, HO.out.by_ hob (by unfold maxLen; omega)⟩
theorem gTranslate (b fr to : List UInt8) (a a1 a2 : Option Addr) (c c1 c2 : Nat) (hb : b.length ≤ 140737488355328) (hf : fr.length ≤ 2 ^ 62) (ht : to.length ≤ 2 ^ 62) (w : World) (hS : Src w a b) (hS1 : Src w a1 fr) (hS2 : Src w a2 to) :
    Calls Tryd.prog 27 #[.slice a b.length c, .slice a1 fr.length c1, .slice a2 to.length c2] w (TrOut b fr to w) := by
  by_cases h : to = []
  · by_cases h2 : fr = []
    · refine (gTrans_B b fr to a a1 a2 c c1 c2 hb to.length (by simp [h]) fr.length rfl (by simp [h2]) w hS).mono ?_
      rintro e w' ⟨h3, h4⟩
      exact ⟨h3, .inr ⟨fun h5 => h5.2 h2, h4⟩⟩
    · have h1 : ((to.length : Int) == 0) = true := by simp [h]
      have h3 : 0 < fr.length := List.length_pos_iff.2 h2
      have h4 : decide (0 < fr.length) = true := decide_eq_true h3
      have HA := hidA (And.intro h h2)
      clear h h2 hS hS1 hS2
      unfold TrOut
      generalize to.length = tn at *
      generalize fr.length = fn at *
      go_enter Tryd.func27, Tryd.ntmps27
      go_wp2
      go_ret2
      exact ⟨Below.refl _ _, .inl ⟨HA.out.1, HA.out.2, rfl⟩⟩
  · have hp := List.length_pos_iff.2 h
    refine (gTrans_A b fr to a a1 a2 c c1 c2 hb (to.length - 1) (by show _ = _; omega) to.length rfl ht (by simpa using h) fr.length rfl hf w hS hS1 hS2).mono ?_
    rintro e w' ⟨h3, h4⟩
    exact ⟨h3, .inr ⟨fun h5 => h h5.1, h4⟩⟩
end Go.Proofs.YtncnmeidciailaaDoor
