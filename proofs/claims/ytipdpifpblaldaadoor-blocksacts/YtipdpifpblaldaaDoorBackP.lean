/- Plain facts for the walk of BlocksBack: the first blocks in use, bytes that are laid over others, slices that can be read. -/
import Derived.Test.YtipdpifpblaldaaDoorUsed
import Derived.Test.YtipdpifpblaldaaDoorSame
import Derived.Test.YtipdpifpblaldaaDoorLives
namespace Go.Proofs.YtipdpifpblaldaaDoor
open Go.RowKit
/-- The first k blocks are in use. -/
def firstN (k : Nat) : Nat → Bool := fun j => decide (j < k)
theorem firstN_upd (k : Nat) : upd (firstN k) k true = firstN (k + 1) := by
  funext j; unfold upd firstN; by_cases h : j = k
  · simp [h]
  · rw [if_neg h]; simp; omega
theorem firstN_cnt (k : Nat) : ∀ n, k ≤ n → Bt.cnt (firstN k) n = k := by
  intro n h
  have h1 : ∀ m, m ≤ k → Bt.cnt (firstN k) m = m := by
    intro m
    induction m with
    | zero => intro _; rfl
    | succ m ih => intro hm; simp only [Bt.cnt]; rw [ih (by omega)]; simp [firstN]; omega
  rw [cnt_split (firstN k) k n h (fun i hi => by simp [firstN]; omega), h1 k (Nat.le_refl _)]
theorem wrap_small (x : Int) (h : 0 ≤ x ∧ x < 100) : wrap64 x = x := by unfold wrap64; omega
theorem Mod.further {s : Nat → Prop} {a b c : World} (h : Mod (fun _ => False) a b) (k : Mod s b c) (hs : ∀ i, i < a.heap.size → ¬ s i) : Mod (fun _ => False) a c :=
  ⟨k.os.trans h.os, k.tape.trans h.tape, k.output.trans h.output, Nat.le_trans h.size k.size, fun i hi hn => (k.block i (Nat.lt_of_lt_of_le hi h.size) (hs i hi)).trans (h.block i hi hn)⟩
theorem add_block (a : Addr) (j : Nat) : (a.add j).block = a.block := by unfold Addr.add; split <;> rfl
theorem BytesAt.keep {w w' : World} {v : Value} {l : List Nat} (h : BytesAt w v l) (m : Mod (fun _ => False) w w') : BytesAt w' v l := by
  obtain ⟨h1, a, cap, h2, h3, h4⟩ := h
  refine ⟨h1, a, cap, h2, h3, fun ad ha j x hj => ?_⟩
  have := h4 ad ha j x hj
  rw [m.cell (block_lt_of_cell this) (fun h => h)]; exact this
theorem BytesAt.new {w : World} {l : List Nat} (t : TypeId) (n cap m : Nat) (hl : ∀ x ∈ l, x < 256) (hn : n ≤ l.length) : BytesAt ((w.alloc (.cells (l.map byteV).toArray t)).drewN m) (.slice (some ⟨w.heap.size, 0, none⟩) n cap) (l.take n) := by
  refine ⟨fun x hx => hl x (List.mem_of_mem_take hx), some ⟨w.heap.size, 0, none⟩, cap, by rw [List.length_take, Nat.min_eq_left hn], fun h => (Option.some_ne_none _ h).elim, fun ad ha j x hj => ?_⟩
  cases ha
  have hj' : l[j]? = some x := by
    rw [List.getElem?_take] at hj; split at hj; exact hj; cases hj
  rw [show (⟨w.heap.size, 0, none⟩ : Addr).add j = ⟨w.heap.size, j, none⟩ by unfold Addr.add; split <;> simp_all]
  show (w.alloc (.cells (l.map byteV).toArray t)).cell? _ = _
  rw [World.cell?_alloc_at _ _ _ _ rfl]
  simp [hj']
theorem blk_lt {D : Nat → Nat} (h : ∀ j, D j < 256) (i : Nat) : ∀ x ∈ blk D i, x < 256 := fun x hx => by
  obtain ⟨j, _, rfl⟩ := List.mem_map.1 hx; exact h _
theorem blk_over (D : Nat → Nat) (i : Nat) (bs : List Nat) (h : bs.length ≤ 64) : (blk (over D (i * 64) bs) i).take bs.length = bs := by
  apply List.ext_getElem?
  intro j
  rw [List.getElem?_take]
  by_cases hj : j < bs.length
  · rw [if_pos hj, blk, List.getElem?_map, List.getElem?_range (by omega)]
    simp only [Option.map_some, over]
    rw [if_pos (by omega), List.getD_eq_getElem?_getD, show i * 64 + j - i * 64 = j by omega, List.getElem?_eq_getElem hj]; rfl
  · rw [if_neg hj, List.getElem?_eq_none (by omega)]
theorem blk_zero (D : Nat → Nat) (i : Nat) : blk (over D (i * 64) zeros) i = zeros := by
  have : blk (over D (i * 64) zeros) i = (List.range 64).map fun _ => 0 := by
    unfold blk
    exact List.map_congr_left fun j hj => over_zero D _ _ (by omega) (by have := List.mem_range.1 hj; omega)
  rw [this]; rfl
theorem St.write0 {w : World} {b c n : Nat} {u : Nat → Bool} {D : Nat → Nat} (S : St w b c n u D) (i : Nat) (sp : Option Addr) (k cap : Nat) (bs : List Nat) (hi : i < n) (h1 : u i = true) (ht : k ≤ 64) (hk : bs.length = k) (hb : BytesAt w (.slice sp k cap) bs) :
    Calls Tryd.prog 23 #[.pointer (some ⟨b, 0, none⟩), .int .i64 i, .int .i64 0, .slice sp k cap] w fun e w' => e = .returned (.int .i64 0) ∧ St w' b c n u (over D (i * 64) bs) ∧ Mod (fun k => k = c) w w' ∧ w'.heap.size = w.heap.size := by
  obtain ⟨g1, a, cap', g2, g3, g4⟩ := hb
  cases g2
  refine S.write_ok i 0 _ _ _ bs hi h1 (by omega) hk g1 (fun hpos => ?_)
  cases sp with
  | none => rw [g3 rfl] at hpos; cases hpos
  | some ad =>
    refine ⟨ad, rfl, fun j v hv => ?_⟩
    rw [List.getElem?_map, Option.map_eq_some_iff] at hv
    obtain ⟨x, hx, rfl⟩ := hv
    exact g4 ad rfl j x hx
theorem slice_of_owns {w : World} {base e size n : Nat} {v : Value} {xs : List Value} (h : w.ownsRow base e size v n xs) : ∃ a cap, v = .slice a n cap := by
  rcases h.2 with ⟨rfl, rfl⟩ | ⟨g, cap, cur, rfl, _⟩
  · exact ⟨none, 0, rfl⟩
  · exact ⟨_, cap, rfl⟩
theorem St.left_first {w : World} {b c n k : Nat} {D : Nat → Nat} (S : St w b c n (firstN k) D) (hk : k ≤ n) : Calls Tryd.prog 15 #[.pointer (some ⟨b, 0, none⟩)] w fun e w' => e = .returned (.int .i64 ((n : Int) - (k : Nat))) ∧ w' = w := by
  have := S.left
  rw [firstN_cnt k n hk] at this
  exact this
theorem used_first {w : World} {b c n k : Nat} {D : Nat → Nat} (S : St w b c n (firstN k) D) (hk : k ≤ n) :
    Calls Tryd.prog 18 #[.pointer (some ⟨b, 0, none⟩)] w fun e w' => ∃ a cap, e = .returned (.slice a k cap) ∧ Mod (fun _ => False) w w' :=
  (used_any S).mono fun e w' ⟨v, he, ho, hm⟩ => by
    obtain ⟨a, cap, rfl⟩ := slice_of_owns ho
    rw [usedL_cnt, firstN_cnt k n hk] at he
    exact ⟨a, cap, he, hm⟩
theorem same_true {w : World} {va vb : Value} {a : List Nat} (ha : BytesAt w va a) (hb : BytesAt w vb a) :
    Calls Tryd.prog 25 #[va, vb] w fun e w' => e = .returned (.bool true) ∧ w' = w := by
  have := same_any ha hb
  rw [show decide (a = a) = true by simp] at this
  exact this
theorem read_bytes {w : World} (D : Nat → Nat) (h L m : Nat) (bs : List Nat) (hD : ∀ j, over D (h * 64) bs j < 256) (hL : bs.length = L) (h64 : L ≤ 64) :
    BytesAt ((w.alloc (.cells ((blk (over D (h * 64) bs) h).map byteV).toArray 73)).drewN m) (.slice (some ⟨w.heap.size, 0, none⟩) L 64) bs := by
  have := BytesAt.new (w := w) 73 L 64 m (blk_lt hD h) (by rw [len_blk]; exact h64)
  subst hL
  rw [blk_over D h bs h64] at this
  exact this
theorem read_zeros {w : World} (D : Nat → Nat) (h m : Nat) :
    BytesAt ((w.alloc (.cells ((blk (over D (h * 64) zeros) h).map byteV).toArray 73)).drewN m) (.slice (some ⟨w.heap.size, 0, none⟩) 64 64) zeros := by
  have hz : ∀ x ∈ zeros, x < 256 := fun x hx => by simp [zeros] at hx; omega
  rw [blk_zero]
  exact BytesAt.new (w := w) (l := zeros) 73 64 64 m hz (by rw [len_zeros]; exact Nat.le_refl _)
theorem made_zeros {w : World} (m : Nat) : BytesAt ((w.alloc (.cells zero73 5)).drewN m) (.slice (some ⟨w.heap.size, 0, none⟩) 64 64) zeros := by
  have hz : ∀ x ∈ zeros, x < 256 := fun x hx => by simp [zeros] at hx; omega
  have := BytesAt.new (w := w) (l := zeros) 5 64 64 m hz (by rw [len_zeros]; exact Nat.le_refl _)
  rw [← zero_list] at this
  exact this
theorem mk64 (w : World) : (Instr.makeSlice 33 (.int .i64 64) (.int .i64 64)).run Tryd.prog w = .ok (.slice (some ⟨w.heap.size, 0, none⟩) 64 64) (w.alloc (.cells zero73 5)) := by kernel_rfl
theorem freed_low (K h : Nat) (hh : h ≤ K) : ∀ j, j < h → upd (firstN (K + 1)) h false j = true := fun j hj => by
  unfold upd firstN; rw [if_neg (by omega)]; simp; omega
end Go.Proofs.YtipdpifpblaldaaDoor
