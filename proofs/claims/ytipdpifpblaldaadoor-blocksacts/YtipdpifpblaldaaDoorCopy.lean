/- The walks of slices.Clone at blocks and of the store's Copy: another store, just like this one, in new memory. Condition: the store lies in memory as 'St' says. -/
import Derived.Test.YtipdpifpblaldaaDoorUsed
import Derived.Deep.RegionHeld
namespace Go.Proofs.YtipdpifpblaldaaDoor
open Go.RowKit
theorem bs48 (w : World) : (Instr.buildSlice 48 0 #[]).run Tryd.prog w = .ok (.slice (some ⟨w.heap.size, 0, none⟩) 0 0) (w.alloc (.cells #[] 73)) := by kernel_rfl
set_option maxRecDepth 100000 in
set_option maxHeartbeats 1000000 in
theorem clone_any (w : World) (c n cc : Nat) (cs : List Value) (hn : 1 ≤ n) (hn2 : n ≤ 4096) (hl : cs.length = n * 64) (hc : ∀ j v, cs[j]? = some v → w.cell? ⟨c, j, none⟩ = some v) (h1 : ∀ v ∈ cs, v.oneCell' = true) :
    Calls Tryd.prog 34 #[.slice (some ⟨c, 0, none⟩) n cc] w fun e w' => ∃ v, e = .returned v ∧ w'.ownsRow w.heap.size 73 64 v n cs ∧ Mod (fun _ => False) w w' := by
  obtain ⟨i, hi1, hi2, hi3, hi4⟩ := info73
  have HI : Hid (Tryd.prog.info? 73 = some i ∧ i.zero = some (.agg zero73) ∧ i.size = 64 ∧ i.bytes = 64) := ⟨hi1, hi2, hi3, hi4⟩
  have hb := bs48
  have hne := Lib.run_eql_slice_nil (P := Tryd.prog)
  have HC : Hid (∀ j v, cs[j]? = some v → w.cell? ⟨c, j, none⟩ = some v) := hc
  have HL : Hid (cs.length = n * 64) := hl
  clear hi1 hi2 hi3 hi4 hc hl
  go_enter Tryd.func34, Tryd.ntmps34
  go_wp2_with (at_builtin; go_must (refine wpList_append_own _ rfl _ _ 48 rfl w.heap.size 73 i (.agg zero73) 64 64 und48 HI.out.1 HI.out.2.1 HI.out.2.2.1 HI.out.2.2.2 (by exact size73) (by decide) _ 0 [] rfl ?own ⟨c, 0, none⟩ n cc cs rfl HL.out ?c1 h1 ?c3 ?c4 ?c5 ?_))
  case own => exact World.ownsRow_made w #[] 0 (Nat.le_refl _) (by unfold maxLen; omega) (by simp)
  case c1 =>
    intro j v hj
    have h := HC.out j v hj
    rw [show (⟨c, 0, none⟩ : Addr).add j = ⟨c, j, none⟩ by unfold Addr.add; split <;> simp_all]
    rw [World.cell?_alloc_past _ _ _ (block_lt_of_cell h)]; exact h
  case c3 => unfold maxLen; omega
  case c4 => omega
  case c5 => simp
  intro v' w1 hown hgrow _
  have HO : Hid (w1.ownsRow w.heap.size 73 64 v' n cs) := hown
  have HM : Hid (Mod (fun _ => False) w w1) := ((Mod.refl _ w).alloc (.cells #[] 73)).grown hgrow (fun k hk => by
    simp [Value.ownBlock] at hk; omega)
  clear hown hgrow
  go_wp2
  go_ret
  exact ⟨_, rfl, HO, HM⟩
/-- The words of the bitmap, as cells. -/
def wordsV (W : Nat → Nat) : List Value := (List.range 64).map fun k => .int .u64 (W k : Nat)
theorem len_words (W : Nat → Nat) : (wordsV W).length = 64 := by simp [wordsV]
theorem words_at (W : Nat → Nat) (k : Nat) (hk : k < 64) : (wordsV W)[k]? = some (.int .u64 (W k : Nat)) := by
  simp [wordsV, List.getElem?_map, List.getElem?_range hk]
theorem words_range {w : World} {b : Nat} {W : Nat → Nat} (h : ∀ k, k < 64 → w.cell? ⟨b, k, none⟩ = some (.int .u64 (W k : Nat))) : w.rangeAt b 0 (wordsV W) := fun j v hv => by
  have hj : j < 64 := by have := (List.getElem?_eq_some_iff.1 hv).1; simpa [wordsV] using this
  rw [words_at W j hj] at hv
  rw [Nat.zero_add, h j hj]; exact hv
theorem fold_size : ∀ (ws : List Value) (k : Nat) (A : Array Value), ((ws.zipIdx k).foldl (fun cs x => cs.setIfInBounds x.snd x.fst) A).size = A.size
  | [], _, _ => rfl
  | v :: ws, k, A => by rw [List.zipIdx_cons, List.foldl_cons, fold_size ws (k + 1)]; simp
theorem fold_at : ∀ (ws : List Value) (k : Nat) (A : Array Value) (i : Nat), k + ws.length ≤ A.size → ((ws.zipIdx k).foldl (fun cs x => cs.setIfInBounds x.snd x.fst) A)[i]? = if k ≤ i ∧ i < k + ws.length then ws[i - k]? else A[i]?
  | [], k, A, i, _ => by rw [if_neg (by simp only [List.length_nil]; omega)]; rfl
  | v :: ws, k, A, i, h => by
    simp only [List.length_cons] at h
    rw [List.zipIdx_cons, List.foldl_cons, fold_at ws (k + 1) _ i (by simp; omega)]
    by_cases h1 : k + 1 ≤ i ∧ i < k + 1 + ws.length
    · rw [if_pos h1, if_pos (by simp; omega), show i - k = (i - (k + 1)) + 1 by omega, List.getElem?_cons_succ]
    · rw [if_neg h1]
      by_cases h2 : i = k
      · subst h2
        rw [if_pos (by simp), Array.getElem?_setIfInBounds_self_of_lt (by omega), Nat.sub_self]; rfl
      · rw [if_neg (by simp; omega), Array.getElem?_setIfInBounds_ne (by omega)]
def laidW (ws : List Value) : Array Value := ws.zipIdx.foldl (fun cs x => cs.setIfInBounds x.snd x.fst) zero50
theorem laidW_eq (ws : List Value) : ws.zipIdx.foldl (fun cs x => cs.setIfInBounds x.snd x.fst) zero50 = laidW ws := rfl
theorem laidW_size (ws : List Value) : (laidW ws).size = 65 := by unfold laidW; rw [fold_size]; exact size50
theorem laidW_at (ws : List Value) (hl : ws.length = 64) (k : Nat) (hk : k < 64) (v : Value) : ((laidW ws).setIfInBounds 64 v)[k]? = ws[k]? := by
  rw [Array.getElem?_setIfInBounds_ne (by omega), laidW, fold_at ws 0 zero50 k (by rw [size50]; omega), if_pos (by omega)]; rfl
theorem laidW_last (ws : List Value) (v : Value) : ((laidW ws).setIfInBounds 64 v)[64]? = some v := by
  rw [Array.getElem?_setIfInBounds_self_of_lt (by rw [laidW_size]; omega)]
theorem slice_owned {w : World} {base e size n : Nat} {v : Value} {xs : List Value} (h : w.ownsRow base e size v n xs) (hn : 0 < n) : ∃ g cap, v = .slice (some ⟨g, 0, none⟩) n cap := by
  rcases h.2 with ⟨_, rfl⟩ | ⟨g, cap, cur, rfl, _⟩
  · omega
  · exact ⟨g, cap, rfl⟩
theorem keep_alloc {w : World} {b : Nat} {ws : List Value} {a : Addr} {v : Value} (h : w.rangeAt b 0 ws ∧ w.cell? a = some v) (o : Obj) : (w.alloc o).rangeAt b 0 ws ∧ (w.alloc o).cell? a = some v :=
  ⟨World.rangeAt_alloc h.1 o, by rw [World.cell?_of_block (w := w) (a := a) (Below.heap_alloc _ _ _ (block_lt_of_cell h.2))]; exact h.2⟩
theorem clone_drew (w : World) (b c n cc : Nat) (ws : List Value) (cs : List Value) (hn : 1 ≤ n) (hn2 : n ≤ 4096) (hl : cs.length = n * 64) (hc : ∀ j v, cs[j]? = some v → w.cell? ⟨c, j, none⟩ = some v) (h1 : ∀ v ∈ cs, v.oneCell' = true)
    (hsl : w.cell? ⟨b, 64, none⟩ = some (.slice (some ⟨c, 0, none⟩) n cc)) (hr : w.rangeAt b 0 ws) :
    Calls Tryd.prog 34 #[.slice (some ⟨c, 0, none⟩) n cc] w.drew fun e w' => ∃ g cap, e = .returned (.slice (some ⟨g, 0, none⟩) n cap) ∧
      (w'.rangeAt b 0 ws ∧ w'.cell? ⟨b, 64, none⟩ = some (.slice (some ⟨c, 0, none⟩) n cc)) ∧ Hid (w'.ownsRow w.heap.size 73 64 (.slice (some ⟨g, 0, none⟩) n cap) n cs) ∧ Hid (Mod (fun _ => False) w w') := by
  refine (clone_any w.drew c n cc cs hn hn2 hl hc h1).mono fun e w' ⟨v, he, hown, hmod⟩ => ?_
  obtain ⟨g, cap, rfl⟩ := slice_owned hown hn
  have hlb := block_lt_of_cell hsl
  refine ⟨g, cap, he, ⟨fun j x hx => ?_, ?_⟩, hown, ⟨hmod.os, hmod.tape, hmod.output, hmod.size, hmod.block⟩⟩
  · rw [hmod.cell (p := ⟨b, 0 + j, none⟩) hlb (fun h => h)]; exact hr j x hx
  · rw [hmod.cell (p := ⟨b, 64, none⟩) hlb (fun h => h)]; exact hsl
set_option maxRecDepth 100000 in
set_option maxHeartbeats 1000000 in
theorem copy_any (w : World) (b c n cc : Nat) (ws : List Value) (hlw : ws.length = 64) (cs : List Value) (hn : 1 ≤ n) (hn2 : n ≤ 4096) (hl : cs.length = n * 64) (hc : ∀ j v, cs[j]? = some v → w.cell? ⟨c, j, none⟩ = some v) (h1 : ∀ v ∈ cs, v.oneCell' = true)
    (hsl : w.cell? ⟨b, 64, none⟩ = some (.slice (some ⟨c, 0, none⟩) n cc)) (hr : w.rangeAt b 0 ws) :
    Calls Tryd.prog 11 #[.pointer (some ⟨b, 0, none⟩)] w fun e w' => ∃ g cap w1, e = .returned (.pointer (some ⟨w1.heap.size, 0, none⟩)) ∧ w1.ownsRow w.heap.size 73 64 (.slice (some ⟨g, 0, none⟩) n cap) n cs ∧ Mod (fun _ => False) w w1 ∧
      ∃ m, w' = (w1.alloc (.cells ((laidW ws).setIfInBounds 64 (.slice (some ⟨g, 0, none⟩) n cap)) 50)).drewN m := by
  have hz := zv50
  have hs50 := size50
  have hlq := laidW_eq ws
  have hls := laidW_size ws
  have u47 : Tryd.prog.underlying 47 = some (.array 64 46) := by kernel_rfl
  have i47 : (Tryd.prog.info? 47).map (·.size) = some ws.length := by rw [hlw]; kernel_rfl
  have hlb := block_lt_of_cell hsl
  have HC : Hid (∀ j v, cs[j]? = some v → w.cell? ⟨c, j, none⟩ = some v) := hc
  have HR : Hid (w.rangeAt b 0 ws) := hr
  have hS0 : w.drew.rangeAt b 0 ws ∧ w.drew.cell? ⟨b, 64, none⟩ = some (.slice (some ⟨c, 0, none⟩) n cc) := ⟨hr, hsl⟩
  clear hc hr
  go_enter Tryd.func11, Tryd.ntmps11
  go_wp2_with (go_at_call 33; refine (made_yes b _ n cc _ hsl hn).mono ?_; rintro e w' ⟨rfl, hw'⟩; rw [hw']; clear hw' w')
  go_region_held (fun W' => W'.rangeAt b 0 ws ∧ W'.cell? ⟨b, 64, none⟩ = some (.slice (some ⟨c, 0, none⟩) n cc)) (first | exact hS | exact hS0 | exact keep_alloc hS _) (first | (go_at_call 34; refine (clone_drew w b c n cc ws cs hn hn2 hl HC.out h1 hsl HR.out).mono ?_; rintro e w' ⟨g, cap, rfl, hS, HO, HM⟩))
  go_wp2
  go_ret
  exact ⟨g, cap, w', rfl, HO.out, HM.out, 0, rfl⟩
theorem St.copy {w : World} {b c n : Nat} {u : Nat → Bool} {D : Nat → Nat} (S : St w b c n u D) :
    Calls Tryd.prog 11 #[.pointer (some ⟨b, 0, none⟩)] w fun e w' => ∃ b' c', e = .returned (.pointer (some ⟨b', 0, none⟩)) ∧ St w' b' c' n u D ∧ Mod (fun _ => False) w w' ∧ w.heap.size ≤ b' ∧ w.heap.size ≤ c' := by
  obtain ⟨W, hW, hl, hu⟩ := S.bm
  obtain ⟨cc, hsl⟩ := S.sl
  have hn1 := S.n1
  have hlen : (((List.range (n * 64)).map D).map byteV).length = n * 64 := by simp
  have hat : ∀ j, j < n * 64 → (((List.range (n * 64)).map D).map byteV)[j]? = some (byteV (D j)) := fun j hj => by
    simp [List.getElem?_map, List.getElem?_range hj]
  refine (copy_any w b c n cc (wordsV W) (len_words W) (((List.range (n * 64)).map D).map byteV) hn1 S.n2 hlen (fun j v hv => ?_) (one_bytes _) hsl (words_range hW)).mono fun e w' ⟨g, cap, w1, he, ho, hm, m, hw⟩ => ?_
  · have hj : j < n * 64 := by have := (List.getElem?_eq_some_iff.1 hv).1; simpa using this
    rw [hat j hj] at hv
    rw [S.cb j hj]; exact hv
  · have hg := ho.lt g rfl
    have h0 := S.tab.lt
    have hs := hm.size
    obtain ⟨_, _⟩ | ⟨g', cap', cur, hv, _, hh, _, _, hcs, htake⟩ := ho.2
    · rename_i h _; cases h
    cases hv
    have T1 : TabIs w1 := S.tab.keep (hm.block 0 h0 (fun h => h))
    have hcell : ∀ j, j < n * 64 → w1.cell? ⟨g, j, none⟩ = some (byteV (D j)) := fun j hj => by
      rw [cell_of_row w1 g j cur 73 (0, 0) hh]
      have h1 : (cur.toList.take (n * 64))[j]? = some (byteV (D j)) := by rw [htake]; exact hat j hj
      rw [List.getElem?_take, if_pos hj] at h1
      simpa using h1
    refine ⟨w1.heap.size, g, he, ?_, ?_, hs, hg.1⟩
    · subst hw
      refine St.drewN ?_ m
      exact {
        n1 := S.n1, n2 := S.n2, bc := by omega, b0 := by omega, c0 := by omega
        tab := T1.keep (Below.heap_alloc _ _ _ T1.lt)
        sl := ⟨cap, by rw [World.cell?_alloc_at _ _ _ _ rfl, laidW_last]⟩
        cb := fun j hj => by rw [World.cell?_alloc_past _ _ _ hg.2]; exact hcell j hj
        dl := S.dl
        fb := fun o => World.frozen?_alloc_at _ _ _ _ rfl
        fc := fun o => by rw [World.frozen?_alloc_past _ _ _ hg.2]; exact frozen_of_row w1 g o cur 73 hh
        bm := ⟨W, fun k hk => by rw [World.cell?_alloc_at _ _ _ _ rfl, laidW_at _ (len_words W) k hk, words_at W k hk], hl, hu⟩
        out := S.out
        free := S.free }
    · subst hw; exact (hm.alloc _).drewN m
end Go.Proofs.YtipdpifpblaldaaDoor
