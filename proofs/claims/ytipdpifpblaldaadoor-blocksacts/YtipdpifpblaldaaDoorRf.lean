/- The plain list of blocks as a thing in memory, and what its calls make of it. -/
import Derived.Test.YtipdpifpblaldaaDoorRCopy
import Derived.Test.YtipdpifpblaldaaDoorRNew
import Derived.Test.YtipdpifpblaldaaDoorLend
namespace Go.Proofs.YtipdpifpblaldaaDoor
open Go.RowKit
/-- Row j of the list: none yet, or bytes in a block of their own. -/
def RowJ (w : World) (on : Bool) (d : List Nat) (F : Nat → Prop) (tb ob yb j r : Nat) : Prop :=
  (w.cell? ⟨yb, j, none⟩ = some (.slice none 0 0) ∧ on = false ∧ r = 0) ∨
  ∃ (l : List Nat) (C : Nat), w.cell? ⟨yb, j, none⟩ = some (.slice (some ⟨r, 0, none⟩) l.length C) ∧ F r ∧ r ≠ tb ∧ r ≠ ob ∧ r ≠ yb ∧ l.length ≤ 64 ∧ (∀ x ∈ l, x < 256) ∧
    (∀ i x, l[i]? = some x → w.cell? ⟨r, i, none⟩ = some (byteV x)) ∧ (on = true → l = d)
structure Rf (w : World) (tb n : Nat) (u : Nat → Bool) (D : Nat → Nat) (F : Nat → Prop) (ob co yb cy : Nat) (R : Nat → Nat) : Prop where
  lt : ∀ k, F k → k < w.heap.size
  f0 : ¬ F 0
  fz : ∀ k o, F k → w.frozen? ⟨k, o, none⟩ = false
  tF : F tb
  oF : F ob
  yF : F yb
  to : tb ≠ ob
  ty : tb ≠ yb
  oy : ob ≠ yb
  on : w.cell? ⟨tb, 0, none⟩ = some (.slice (some ⟨ob, 0, none⟩) n co)
  yn : w.cell? ⟨tb, 1, none⟩ = some (.slice (some ⟨yb, 0, none⟩) n cy)
  oc : ∀ i, i < n → w.cell? ⟨ob, i, none⟩ = some (.bool (u i))
  row : ∀ j, j < n → RowJ w (u j) (blk D j) F tb ob yb j (R j)
  inj : ∀ j j', j < n → j' < n → u j = true → R j = R j' → j = j'
section
variable {w w' : World} {tb n : Nat} {u : Nat → Bool} {D : Nat → Nat} {F : Nat → Prop} {ob co yb cy : Nat} {R : Nat → Nat}
theorem Rf.keep (S : Rf w tb n u D F ob co yb cy R) (hs : w.heap.size ≤ w'.heap.size) (h : ∀ k, F k → w'.heap[k]? = w.heap[k]?) : Rf w' tb n u D F ob co yb cy R := by
  have hc : ∀ k o, F k → w'.cell? ⟨k, o, none⟩ = w.cell? ⟨k, o, none⟩ := fun k o hk => World.cell?_of_block (w := w) (a := ⟨k, o, none⟩) (h k hk)
  refine ⟨fun k hk => Nat.lt_of_lt_of_le (S.lt k hk) hs, S.f0, fun k o hk => ?_, S.tF, S.oF, S.yF, S.to, S.ty, S.oy, ?_, ?_, fun i hi => ?_, fun j hj => ?_, S.inj⟩
  · rw [World.frozen?_of_block (w := w) (a := ⟨k, o, none⟩) (h k hk)]; exact S.fz k o hk
  · rw [hc _ _ S.tF]; exact S.on
  · rw [hc _ _ S.tF]; exact S.yn
  · rw [hc _ _ S.oF]; exact S.oc i hi
  · rcases S.row j hj with ⟨a1, a2⟩ | ⟨l, C, a1, a2, a3, a4, a5, a6, a7, a8, a9⟩
    · exact .inl ⟨by rw [hc _ _ S.yF]; exact a1, a2⟩
    · exact .inr ⟨l, C, by rw [hc _ _ S.yF]; exact a1, a2, a3, a4, a5, a6, a7, fun i x hx => by rw [hc _ _ a2]; exact a8 i x hx, a9⟩
theorem Rf.mod {s : Nat → Prop} (S : Rf w tb n u D F ob co yb cy R) (h : Mod s w w') (hs : ∀ k, F k → ¬ s k) : Rf w' tb n u D F ob co yb cy R :=
  S.keep h.size (fun k hk => h.block k (S.lt k hk) (hs k hk))
theorem Rf.used_row (S : Rf w tb n u D F ob co yb cy R) (i : Nat) (hi : i < n) (hu : u i = true) : F (R i) ∧ R i ≠ tb ∧ R i ≠ ob ∧ R i ≠ yb ∧ (∃ C, w.cell? ⟨yb, i, none⟩ = some (.slice (some ⟨R i, 0, none⟩) 64 C)) ∧ (∀ j x, (blk D i)[j]? = some x → w.cell? ⟨R i, j, none⟩ = some (byteV x)) ∧ w.there (R i) 0 64 := by
  rcases S.row i hi with ⟨_, a2, _⟩ | ⟨l, C, a1, a2, a3, a4, a5, a6, a7, a8, a9⟩
  · rw [hu] at a2; cases a2
  · have hl := a9 hu
    subst hl
    rw [len_blk] at a1
    refine ⟨a2, a3, a4, a5, ⟨C, a1⟩, a8, fun j hj => ⟨?_, S.fz _ _ a2⟩⟩
    have : (blk D i)[j]? = some ((blk D i)[j]'(by rw [len_blk]; exact hj)) := List.getElem?_eq_getElem _
    rw [Nat.zero_add, a8 j _ this]; rfl
theorem Rf.is_in (S : Rf w tb n u D F ob co yb cy R) (i : Nat) (hi : i < n) : Calls Tryd.prog 32 #[.pointer (some ⟨tb, 0, none⟩), .int .i64 i] w fun e w' => e = .returned (.bool (u i)) ∧ w' = w := ris_in w tb n ob co i (u i) S.on hi (S.oc i hi)
theorem Rf.is_not (S : Rf w tb n u D F ob co yb cy R) (i : Int) (hi : Unfit n u i) : Calls Tryd.prog 32 #[.pointer (some ⟨tb, 0, none⟩), .int .i64 i] w fun e w' => e = .returned (.bool false) ∧ w' = w := by
  by_cases ho : i < 0 ∨ n ≤ i
  · exact ris_out w tb n ob co i S.on ho
  · obtain ⟨k, rfl⟩ := Int.eq_ofNat_of_zero_le (show 0 ≤ i by omega)
    have hu : u k = false := by
      rcases hi with h | h | h
      · omega
      · omega
      · simpa using h
    have := S.is_in k (by omega)
    rw [hu] at this; exact this
theorem Rf.free_ok (S : Rf w tb n u D F ob co yb cy R) (i : Nat) (hi : i < n) (hu : u i = true) : Calls Tryd.prog 27 #[.pointer (some ⟨tb, 0, none⟩), .int .i64 i] w fun e w' => e = .returned (.int .i64 0) ∧ Rf w' tb n (upd u i false) (over D (i * 64) zeros) F ob co yb cy R ∧ Mod F w w' := by
  refine (rfree_in w tb n ob co i S.on hi (by rw [S.oc i hi, hu]) (S.fz _ _ S.oF)).mono fun e w' ⟨he, hw⟩ => ⟨he, ?_, ?_⟩
  · subst hw
    have hb : ∀ j, j ≠ i → blk (over D (i * 64) zeros) j = blk D j := fun j hj => by
      unfold blk
      exact List.map_congr_left fun x hx => over_else _ _ _ _ (by have := List.mem_range.1 hx; rw [len_zeros]; omega)
    refine ⟨fun k hk => by have := S.lt k hk; simpa [World.setCell] using this, S.f0, fun k o hk => by rw [setCell_frozen]; exact S.fz k o hk, S.tF, S.oF, S.yF, S.to, S.ty, S.oy, ?_, ?_, fun j hj => ?_, fun j hj => ?_, fun j j' hj hj' h => S.inj j j' hj hj' ?_⟩
    · rw [setCell_out _ _ _ _ _ (fun e => absurd e S.to)]; exact S.on
    · rw [setCell_out _ _ _ _ _ (fun e => absurd e S.to)]; exact S.yn
    · by_cases e : j = i
      · subst e; rw [setCell_in _ _ _ _ _ (S.oc j hj)]; simp [upd]
      · rw [setCell_out _ _ _ _ _ (fun _ => e), S.oc j hj]; simp [upd, e]
    · rcases S.row j hj with ⟨a1, a2, a3⟩ | ⟨l, C, a1, a2, a3, a4, a5, a6, a7, a8, a9⟩
      · exact .inl ⟨by rw [setCell_out _ _ _ _ _ (fun e => absurd e.symm S.oy)]; exact a1, by unfold upd; split; rfl; exact a2, a3⟩
      · refine .inr ⟨l, C, by rw [setCell_out _ _ _ _ _ (fun e => absurd e.symm S.oy)]; exact a1, a2, a3, a4, a5, a6, a7, fun x y hx => by rw [setCell_out _ _ _ _ _ (fun e => absurd e a4)]; exact a8 x y hx, fun h => ?_⟩
        unfold upd at h
        by_cases e : j = i
        · rw [if_pos e] at h; cases h
        · rw [if_neg e] at h; rw [hb j e]; exact a9 h
    · unfold upd at h; split at h; cases h; exact h
  · subst hw; exact (Mod.refl F w).setCell _ _ S.oF
theorem Rf.write_ok (S : Rf w tb n u D F ob co yb cy R) (i t cap : Nat) (a : Option Addr) (bs : List Nat) (hi : i < n) (hu : u i = true) (ht : t + bs.length ≤ 64) (hb : ∀ x ∈ bs, x < 256)
    (hsrc : ∀ j x, bs[j]? = some x → ∃ g o, a = some ⟨g, o, none⟩ ∧ ¬ F g ∧ w.cell? ⟨g, o + j, none⟩ = some (byteV x)) :
    Calls Tryd.prog 30 #[.pointer (some ⟨tb, 0, none⟩), .int .i64 i, .int .i64 t, .slice a bs.length cap] w fun e w' => e = .returned (.int .i64 0) ∧ Rf w' tb n u (over D (i * 64 + t) bs) F ob co yb cy R ∧ Mod F w w' := by
  obtain ⟨r1, r2, r3, r4, ⟨C, r5⟩, r6, r7⟩ := S.used_row i hi hu
  refine (rwrite_in w tb n ob co yb cy i t (R i) C cap a bs S.on S.yn hi (by rw [S.oc i hi, hu]) r5 ht r7 r2.symm r4.symm (fun j x hx => by
    obtain ⟨g, o, h1, h2, h3⟩ := hsrc j x hx; exact ⟨g, o, h1, fun e => h2 (e ▸ r1), h3⟩)).mono fun e w' ⟨he, hw⟩ => ⟨he, ?_, ?_⟩
  · subst hw
    have out : ∀ k o, k ≠ R i → (w.setCells (R i) t (bs.map byteV)).cell? ⟨k, o, none⟩ = w.cell? ⟨k, o, none⟩ := fun k o hk => World.cell?_setCells_out _ _ _ _ _ (fun e => absurd e hk)
    refine ⟨fun k hk => by rw [size_setCells]; exact S.lt k hk, S.f0, fun k o hk => by rw [World.frozen?_setCells]; exact S.fz k o hk, S.tF, S.oF, S.yF, S.to, S.ty, S.oy, ?_, ?_, fun j hj => ?_, fun j hj => ?_, S.inj⟩
    · rw [out _ _ r2.symm]; exact S.on
    · rw [out _ _ r2.symm]; exact S.yn
    · rw [out _ _ r3.symm]; exact S.oc j hj
    · by_cases e : j = i
      · subst e
        refine .inr ⟨blk (over D (j * 64 + t) bs) j, C, by rw [out _ _ r4.symm, len_blk]; exact r5, r1, r2, r3, r4, by rw [len_blk]; exact Nat.le_refl _, fun x hx => ?_, fun k x hx => ?_, fun _ => rfl⟩
        · obtain ⟨k, hk, rfl⟩ := List.mem_map.1 hx
          unfold over
          split
          · rw [List.getD_eq_getElem?_getD, List.getElem?_eq_getElem (by omega)]; exact hb _ (List.getElem_mem _)
          · rcases S.row j hj with ⟨_, a2, _⟩ | ⟨l, C', _, _, _, _, _, _, a7, _, a9⟩
            · rw [hu] at a2; cases a2
            · exact a7 _ (by rw [a9 hu]; exact List.mem_map.2 ⟨k, hk, rfl⟩)
        · have hk : k < 64 := by have := (List.getElem?_eq_some_iff.1 hx).1; rw [len_blk] at this; exact this
          have hx' : over D (j * 64 + t) bs (j * 64 + k) = x := by
            simp only [blk, List.getElem?_map, List.getElem?_range hk, Option.map_some, Option.some.injEq] at hx; exact hx
          subst hx'
          unfold over
          by_cases e : j * 64 + t ≤ j * 64 + k ∧ j * 64 + k < j * 64 + t + bs.length
          · rw [if_pos e]
            have := World.cell?_setCells_in (R j) (bs.map byteV) t w (fun q hq => by have := (r7 (t + q) (by simp at hq; omega)).1; rw [Nat.zero_add] at this; exact this) (k - t) (by simp; omega)
            rw [show t + (k - t) = k by omega] at this
            rw [this, List.getElem_map, show j * 64 + k - (j * 64 + t) = k - t by omega, List.getD_eq_getElem?_getD, List.getElem?_eq_getElem (by omega)]; rfl
          · rw [if_neg e, World.cell?_setCells_out _ _ _ _ _ (fun _ _ => by simp; omega)]
            exact r6 k _ (by simp [blk, List.getElem?_map, List.getElem?_range hk])
      · have hb2 : blk (over D (i * 64 + t) bs) j = blk D j := by
          unfold blk
          exact List.map_congr_left fun x hx => over_else _ _ _ _ (by have := List.mem_range.1 hx; omega)
        have hne : R j ≠ R i := fun h => e (S.inj i j hi hj hu h.symm).symm
        rcases S.row j hj with ⟨a1, a2, a3⟩ | ⟨l, C', a1, a2, a3, a4, a5, a6, a7, a8, a9⟩
        · exact .inl ⟨by rw [out _ _ r4.symm]; exact a1, a2, a3⟩
        · exact .inr ⟨l, C', by rw [out _ _ r4.symm]; exact a1, a2, a3, a4, a5, a6, a7, fun x y hx => by rw [out _ _ hne]; exact a8 x y hx, fun h => by rw [hb2]; exact a9 h⟩
  · subst hw; exact Mod.setCells (s := F) (R i) r1 _ _ (Mod.refl _ w)
theorem Rf.alloc_some (S : Rf w tb n u D F ob co yb cy R) (i : Nat) (hi : i < n) (hn2 : n ≤ 4096) (h1 : u i = false) (h2 : ∀ j, j < i → u j = true) (hz : blk D i = zeros) :
    Calls Tryd.prog 26 #[.pointer (some ⟨tb, 0, none⟩)] w fun e w' => e = .returned (.tuple #[.int .i64 i, .int .i64 0]) ∧ Rf w' tb n (upd u i true) D (fun k => F k ∨ k = w.heap.size) ob co yb cy (upd R i w.heap.size) ∧ Mod F w w' := by
  obtain ⟨old, hold⟩ : ∃ old, w.cell? ⟨yb, i, none⟩ = some old := by
    rcases S.row i hi with ⟨a1, _⟩ | ⟨l, C, a1, _⟩
    · exact ⟨_, a1⟩
    · exact ⟨_, a1⟩
  have lb := S.lt _ S.tF
  have lo := S.lt _ S.oF
  have ly := S.lt _ S.yF
  refine (ralloc_some w tb n ob co yb cy i hi old S.on S.yn hn2 (fun j hj => by rw [S.oc j (by omega), h2 j hj]) (by rw [S.oc i hi, h1]) hold (S.fz _ _ S.oF) (S.fz _ _ S.yF) S.to S.oy S.ty ly).mono fun e w' ⟨he, m, hw⟩ => ⟨he, ?_, ?_⟩
  · have hs1 : ((w.setCell ⟨ob, i, none⟩ (.bool true)).setCell ⟨yb, i, none⟩ (.slice (some ⟨w.heap.size, 0, none⟩) 64 64)).heap.size = w.heap.size := by simp [World.setCell]
    have past : ∀ k o, k < w.heap.size → w'.cell? ⟨k, o, none⟩ = ((w.setCell ⟨ob, i, none⟩ (.bool true)).setCell ⟨yb, i, none⟩ (.slice (some ⟨w.heap.size, 0, none⟩) 64 64)).cell? ⟨k, o, none⟩ := fun k o hk => by
      subst hw; exact World.cell?_alloc_past _ _ _ (by rw [hs1]; exact hk)
    have far : ∀ k o, k < w.heap.size → k ≠ ob → k ≠ yb → w'.cell? ⟨k, o, none⟩ = w.cell? ⟨k, o, none⟩ := fun k o hk e1 e2 => by
      rw [past k o hk, setCell_out _ _ _ _ _ (fun e => absurd e e2), setCell_out _ _ _ _ _ (fun e => absurd e e1)]
    have new : ∀ j, j < 64 → w'.cell? ⟨w.heap.size, j, none⟩ = some (byteV 0) := fun j hj => by
      subst hw
      show (((w.setCell ⟨ob, i, none⟩ (.bool true)).setCell ⟨yb, i, none⟩ (.slice (some ⟨w.heap.size, 0, none⟩) 64 64)).alloc (.cells zero73 5)).cell? _ = _
      rw [World.cell?_alloc_at _ _ _ _ hs1.symm, zero73, Array.getElem?_replicate, if_pos hj]; rfl
    refine ⟨fun k hk => ?_, fun h => ?_, fun k o hk => ?_, .inl S.tF, .inl S.oF, .inl S.yF, S.to, S.ty, S.oy, ?_, ?_, fun j hj => ?_, fun j hj => ?_, fun j j' hj hj' hu he' => ?_⟩
    · have : w'.heap.size = w.heap.size + 1 := by subst hw; simp [World.setCell]
      rcases hk with h | h
      · have := S.lt k h; omega
      · omega
    · rcases h with h | h
      · exact S.f0 h
      · omega
    · subst hw
      rcases hk with h | h
      · have hl := S.lt k h
        show (((w.setCell ⟨ob, i, none⟩ (.bool true)).setCell ⟨yb, i, none⟩ (.slice (some ⟨w.heap.size, 0, none⟩) 64 64)).alloc (.cells zero73 5)).frozen? _ = _
        rw [World.frozen?_alloc_past _ _ _ (by rw [hs1]; exact hl), setCell_frozen, setCell_frozen]; exact S.fz k o h
      · subst h; exact World.frozen?_alloc_at _ _ _ _ hs1.symm
    · rw [far _ _ lb S.to S.ty]; exact S.on
    · rw [far _ _ lb S.to S.ty]; exact S.yn
    · rw [past _ _ lo, setCell_out _ _ _ _ _ (fun e => absurd e S.oy)]
      by_cases e : j = i
      · subst e; rw [setCell_in _ _ _ _ _ (S.oc j hj)]; simp [upd]
      · rw [setCell_out _ _ _ _ _ (fun _ => e), S.oc j hj]; simp [upd, e]
    · by_cases e : j = i
      · subst e
        refine .inr ⟨zeros, 64, ?_, by simp [upd], by simp [upd]; omega, by simp [upd]; omega, by simp [upd]; omega, Nat.le_refl _, fun x hx => by simp [zeros] at hx; omega, fun k x hx => ?_, fun _ => hz.symm⟩
        · rw [past _ _ ly, setCell_in _ _ _ _ old (by rw [setCell_out _ _ _ _ _ (fun e => absurd e.symm S.oy)]; exact hold)]; simp [upd, len_zeros]
        · have hk : k < 64 := by have := (List.getElem?_eq_some_iff.1 hx).1; rw [len_zeros] at this; exact this
          have : x = 0 := by rw [zeros, List.getElem?_replicate, if_pos hk] at hx; exact (Option.some.inj hx).symm
          subst this; simp only [upd, if_pos]; exact new k hk
      · have hcell : w'.cell? ⟨yb, j, none⟩ = w.cell? ⟨yb, j, none⟩ := by rw [past _ _ ly, setCell_out _ _ _ _ _ (fun _ => e), setCell_out _ _ _ _ _ (fun e => absurd e.symm S.oy)]
        rcases S.row j hj with ⟨a1, a2, a3⟩ | ⟨l, C, a1, a2, a3, a4, a5, a6, a7, a8, a9⟩
        · exact .inl ⟨by rw [hcell]; exact a1, by simp [upd, e]; exact a2, by simp [upd, e]; exact a3⟩
        · refine .inr ⟨l, C, by rw [hcell]; simpa [upd, e] using a1, by simpa [upd, e] using .inl a2, by simpa [upd, e] using a3, by simpa [upd, e] using a4, by simpa [upd, e] using a5, a6, a7, fun x y hx => ?_, fun h => a9 (by simpa [upd, e] using h)⟩
          have := S.lt _ a2
          simp only [upd, if_neg e]
          rw [far _ _ this a4 a5]; exact a8 x y hx
    · have rlt : ∀ q, q < n → R q < w.heap.size := fun q hq => by
        rcases S.row q hq with ⟨_, _, a3⟩ | ⟨l, C, _, a2, _⟩
        · omega
        · exact S.lt _ a2
      unfold upd at hu he'
      by_cases e1 : j = i
      · by_cases e2 : j' = i
        · omega
        · rw [if_pos e1, if_neg e2] at he'; have := rlt j' hj'; omega
      · by_cases e2 : j' = i
        · rw [if_neg e1, if_pos e2] at he'; have := rlt j hj; omega
        · rw [if_neg e1, if_neg e2] at he'; rw [if_neg e1] at hu; exact S.inj j j' hj hj' hu he'
  · subst hw; exact ((((Mod.refl F w).setCell _ _ S.oF).setCell _ _ S.yF).alloc _).drewN m
theorem Rf.alloc_full (S : Rf w tb n u D F ob co yb cy R) (hn2 : n ≤ 4096) (h : ∀ i, i < n → u i = true) : Calls Tryd.prog 26 #[.pointer (some ⟨tb, 0, none⟩)] w fun e w' => e = .returned (.tuple #[.int .i64 0, .int .i64 28]) ∧ w' = w :=
  ralloc_full w tb n ob co S.on hn2 (fun j hj => by rw [S.oc j hj, h j hj])
theorem Rf.read_ok (S : Rf w tb n u D F ob co yb cy R) (i : Nat) (hi : i < n) (hu : u i = true) (hd : ∀ x ∈ blk D i, x < 256) : Calls Tryd.prog 28 #[.pointer (some ⟨tb, 0, none⟩), .int .i64 i] w fun e w' => ∃ v, e = .returned (.tuple #[v, .int .i64 0]) ∧ BytesAt w' v (blk D i) ∧ Mod (fun _ => False) w w' := by
  obtain ⟨_, _, _, _, ⟨C, r5⟩, r6, _⟩ := S.used_row i hi hu
  refine (rread_in w tb n ob co yb cy i (R i) C (blk D i) S.on S.yn hi (by rw [S.oc i hi, hu]) (by rw [len_blk]; exact r5) (by rw [len_blk]; exact Nat.le_refl _) r6).mono fun e w' ⟨v, he, ho, hm⟩ => ⟨v, he, ?_, hm⟩
  obtain ⟨g, cap, rfl, _, _⟩ := ho.form (by rw [len_blk]; omega)
  have hr := rowIs_owned ho
  refine ⟨hd, some ⟨g, 0, none⟩, cap, rfl, fun h => (by cases h), fun ad ha j x hx => ?_⟩
  cases ha
  rw [show (⟨g, 0, none⟩ : Addr).add j = ⟨g, j, none⟩ by unfold Addr.add; split <;> simp_all]
  exact hr.cell j _ (by rw [List.getElem?_map, hx]; rfl)
end
end Go.Proofs.YtipdpifpblaldaaDoor
