/- Text of the program. No condition. -/
import Derived.Test.YtmminmdmhefefaaPm2
namespace Go.Proofs.Ytmminmdmhefefaa
open Go.RowKit
namespace Pm
def chr (m q c : Int) : Int := if tb m q then c else 45
/-- The third letter of a class: s, t, S, T, x or -. -/
def trd (m q qs c : Int) : Int := if tb m qs then spc c (chr m q 120) else chr m q 120
def row1 (m : Int) (i : Nat) : Array Value := #[.int .u8 (kindB m), .int .u8 (if 0 < i then chr m 256 114 else 45), .int .u8 (if 1 < i then chr m 128 119 else 45), .int .u8 (if 2 < i then chr m 64 120 else 45), .int .u8 (if 3 < i then chr m 32 114 else 45), .int .u8 (if 4 < i then chr m 16 119 else 45), .int .u8 (if 5 < i then chr m 8 120 else 45), .int .u8 (if 6 < i then chr m 4 114 else 45), .int .u8 (if 7 < i then chr m 2 119 else 45), .int .u8 (if 8 < i then chr m 1 120 else 45)]
def row2 (m : Int) (i : Nat) : Array Value := #[.int .u8 (kindB m), .int .u8 (chr m 256 114), .int .u8 (chr m 128 119), .int .u8 (if 2 < i then trd m 64 2048 115 else chr m 64 120), .int .u8 (chr m 32 114), .int .u8 (chr m 16 119), .int .u8 (if 5 < i then trd m 8 1024 115 else chr m 8 120), .int .u8 (chr m 4 114), .int .u8 (chr m 2 119), .int .u8 (if 8 < i then trd m 1 512 116 else chr m 1 120)]
def b8 (x : Int) : UInt8 := UInt8.ofNat x.toNat
theorem b8_back {x : Int} (h0 : 0 ≤ x) (h1 : x < 256) : (((b8 x).toNat : Nat) : Int) = x := by
  unfold b8
  rw [UInt8.toNat_ofNat']
  omega
def txtI (m : Int) : List Int := [kindB m, chr m 256 114, chr m 128 119, trd m 64 2048 115, chr m 32 114, chr m 16 119, trd m 8 1024 115, chr m 4 114, chr m 2 119, trd m 1 512 116]
/-- The text of a mode. -/
def txt (m : Int) : List UInt8 := (txtI m).map b8
theorem chr_in (m q c : Int) (h0 : 0 ≤ c) (h1 : c < 256) : 0 ≤ chr m q c ∧ chr m q c < 256 := by unfold chr; split <;> omega
theorem spc_in (c b : Int) (h0 : 32 ≤ c) (h1 : c < 256) : 0 ≤ spc c b ∧ spc c b < 256 := by unfold spc; split <;> omega
theorem trd_in (m q qs c : Int) (h0 : 32 ≤ c) (h1 : c < 256) : 0 ≤ trd m q qs c ∧ trd m q qs c < 256 := by
  unfold trd
  split
  · exact spc_in _ _ h0 h1
  · exact chr_in _ _ _ (by decide) (by decide)
theorem kind_in (m : Int) : 0 ≤ kindB m ∧ kindB m < 256 := by 
  unfold kindB
  repeat' split
  all_goals decide
theorem txtI_in (m : Int) : ∀ x ∈ txtI m, 0 ≤ x ∧ x < 256 := by
  intro x hx
  simp only [txtI, List.mem_cons, List.not_mem_nil, or_false] at hx
  rcases hx with rfl | rfl | rfl | rfl | rfl | rfl | rfl | rfl | rfl | rfl
  · exact kind_in m
  all_goals first | exact chr_in _ _ _ (by decide) (by decide) | exact trd_in _ _ _ _ (by decide) (by decide)
end Pm
theorem nxt (w : World) (o : Obj) (S : ByteArray) (i : Nat) (ty : TypeId) (c : Int) (h : i < S.size) (ha : (S[i]'h).toNat < 128) (hc : (((S[i]'h).toNat : Nat) : Int) = c) :
    (Instr.next (.pointer (some ⟨w.heap.size + 1, 0, none⟩)) true ty).run Try.prog ((w.alloc o).iter S i) = .ok (.tuple #[.bool true, .int .i64 i, .int .i32 c]) ((w.alloc o).iter S (i + 1)) := by
  have e := run_next_ascii (P := Try.prog) (w.alloc o) S i ty h ha
  rw [show (w.alloc o).heap.size = w.heap.size + 1 by simp, hc] at e
  exact e
theorem nxt_end (w : World) (o : Obj) (S : ByteArray) (i : Nat) (ty : TypeId) (h : ¬ i < S.size) :
    (Instr.next (.pointer (some ⟨w.heap.size + 1, 0, none⟩)) true ty).run Try.prog ((w.alloc o).iter S i) = .ok (.tuple #[.bool false]) ((w.alloc o).iter S i) := by
  have e := run_next_end (P := Try.prog) (w.alloc o) S i ty h
  rw [show (w.alloc o).heap.size = w.heap.size + 1 by simp] at e
  exact e
theorem nxt2 (w : World) (o : Obj) (R : ByteArray) (j : Nat) (S : ByteArray) (i : Nat) (ty : TypeId) (c : Int) (h : i < S.size) (ha : (S[i]'h).toNat < 128) (hc : (((S[i]'h).toNat : Nat) : Int) = c) :
    (Instr.next (.pointer (some ⟨w.heap.size + 2, 0, none⟩)) true ty).run Try.prog (((w.alloc o).iter R j).iter S i) = .ok (.tuple #[.bool true, .int .i64 i, .int .i32 c]) (((w.alloc o).iter R j).iter S (i + 1)) := by
  have e := run_next_ascii (P := Try.prog) ((w.alloc o).iter R j) S i ty h ha
  rw [show ((w.alloc o).iter R j).heap.size = w.heap.size + 2 by simp [World.iter], hc] at e
  exact e
theorem nxt2_end (w : World) (o : Obj) (R : ByteArray) (j : Nat) (S : ByteArray) (i : Nat) (ty : TypeId) (h : ¬ i < S.size) :
    (Instr.next (.pointer (some ⟨w.heap.size + 2, 0, none⟩)) true ty).run Try.prog (((w.alloc o).iter R j).iter S i) = .ok (.tuple #[.bool false]) (((w.alloc o).iter R j).iter S i) := by
  have e := run_next_end (P := Try.prog) ((w.alloc o).iter R j) S i ty h
  rw [show ((w.alloc o).iter R j).heap.size = w.heap.size + 2 by simp [World.iter]] at e
  exact e
theorem it_cell (w : World) (L : Array Value) (T : TypeId) (S : ByteArray) (p i : Nat) : ((w.alloc (.cells L T)).iter S p).cell? ⟨w.heap.size, i, none⟩ = L[i]? := by
  rw [World.iter, World.cell?_alloc_past _ _ _ (by simp), World.cell?_alloc_at _ _ _ _ rfl]
theorem it_frozen (w : World) (L : Array Value) (T : TypeId) (S : ByteArray) (p i : Nat) : ((w.alloc (.cells L T)).iter S p).frozen? ⟨w.heap.size, i, none⟩ = false := by
  rw [World.iter, World.frozen?_alloc_past _ _ _ (by simp), World.frozen?_alloc_at _ _ _ _ rfl]
theorem it_set (w : World) (L : Array Value) (T : TypeId) (S : ByteArray) (p i : Nat) (v : Value) : ((w.alloc (.cells L T)).iter S p).setCell ⟨w.heap.size, i, none⟩ v = (w.alloc (.cells (L.setIfInBounds i v) T)).iter S p := by
  rw [World.iter, World.setCell_alloc_past _ _ _ _ (by simp), World.setCell_alloc_at _ _ _ _ _ rfl]; rfl
theorem it2_cell (w : World) (L : Array Value) (T : TypeId) (R : ByteArray) (q : Nat) (S : ByteArray) (p i : Nat) : (((w.alloc (.cells L T)).iter R q).iter S p).cell? ⟨w.heap.size, i, none⟩ = L[i]? := by
  rw [World.iter, World.cell?_alloc_past _ _ _ (by simp [World.iter]; omega), it_cell]
theorem it2_frozen (w : World) (L : Array Value) (T : TypeId) (R : ByteArray) (q : Nat) (S : ByteArray) (p i : Nat) : (((w.alloc (.cells L T)).iter R q).iter S p).frozen? ⟨w.heap.size, i, none⟩ = false := by
  rw [World.iter, World.frozen?_alloc_past _ _ _ (by simp [World.iter]; omega), it_frozen]
theorem it2_set (w : World) (L : Array Value) (T : TypeId) (R : ByteArray) (q : Nat) (S : ByteArray) (p i : Nat) (v : Value) : (((w.alloc (.cells L T)).iter R q).iter S p).setCell ⟨w.heap.size, i, none⟩ v = ((w.alloc (.cells (L.setIfInBounds i v) T)).iter R q).iter S p := by
  rw [World.iter, World.setCell_alloc_past _ _ _ _ (by simp [World.iter]; omega), it_set]; rfl
theorem it_pos (w : World) (o : Obj) (S : ByteArray) (p : Nat) : ((w.alloc o).iter S p).iterPos (w.heap.size + 1) = p := by
  have h := World.iterPos_iter (w.alloc o) S p
  rwa [show (w.alloc o).heap.size = w.heap.size + 1 by simp] at h
theorem it2_pos (w : World) (o : Obj) (R : ByteArray) (j : Nat) (S : ByteArray) (p : Nat) : (((w.alloc o).iter R j).iter S p).iterPos (w.heap.size + 2) = p := by
  have h := World.iterPos_iter ((w.alloc o).iter R j) S p
  rwa [show ((w.alloc o).iter R j).heap.size = w.heap.size + 2 by simp [World.iter]] at h
theorem it_size (w : World) (S : ByteArray) (p : Nat) : (w.iter S p).heap.size = w.heap.size + 1 := by simp [World.iter]
theorem conv_it (w : World) (xs : List Int) (hx : ∀ x ∈ xs, 0 ≤ x ∧ x < 256) (n cap : Nat) (hn : xs.length = n) (R : ByteArray) (q : Nat) (S : ByteArray) (p : Nat) :
    (convert 52 9 (.slice (some ⟨w.heap.size, 0, none⟩) n cap)).run Try.prog (((w.alloc (.cells (xs.map (Value.int .u8)).toArray 5)).iter R q).iter S p) = .ok (.string ⟨(xs.map Pm.b8).toArray⟩) (((w.alloc (.cells (xs.map (Value.int .u8)).toArray 5)).iter R q).iter S p) := by
  have h := run_convert_bytes_back (P := Try.prog) (((w.alloc (.cells (xs.map (Value.int .u8)).toArray 5)).iter R q).iter S p) 52 9 5 ⟨w.heap.size, 0, none⟩ cap (xs.map Pm.b8) Try.underlying52 Try.underlying5 Try.underlying9 ?_
  · rw [List.length_map, hn] at h; exact h
  · intro j hj
    rw [List.length_map] at hj
    rw [show (⟨w.heap.size, 0, none⟩ : Addr).add j = ⟨w.heap.size, j, none⟩ by simp [Addr.add]; intro h; omega, it2_cell]
    have hb := hx xs[j] (List.getElem_mem hj)
    simp [hj, Pm.b8_back hb.1 hb.2]
attribute [local go_sem] it_size it_cell it_frozen it_set it2_cell it2_frozen it2_set
set_option maxRecDepth 100000 in
set_option maxHeartbeats 4000000 in
theorem pText (m : Int) (w : World) : Calls Try.prog 9 #[.int .i64 m] w fun e w' => e = .returned (.string ⟨(Pm.txt m).toArray⟩) ∧ Below w.heap.size w w' := by
  go_enter Try.func9, Try.ntmps9
  go_wp2_with fail
  refine (pKind m _).mono ?_
  rintro e w' ⟨rfl, hw'⟩
  rw [hw']; clear hw' w'
  go_wp2_with fail
  go_loopw [4] (fun _ w' => ∃ i : Nat, i ≤ 9 ∧ w' = (w.alloc (.cells (Pm.row1 m i) 5)).iter ⟨#[114, 119, 120, 114, 119, 120, 114, 119, 120]⟩ i) (fun _ w' => 9 - w'.iterPos (w.heap.size + 1))
  case atStart => exact ⟨0, by omega, rfl⟩
  case round =>
    obtain ⟨i, hi, rfl⟩ := hrel
    obtain rfl | rfl | rfl | rfl | rfl | rfl | rfl | rfl | rfl | rfl : i = 0 ∨ i = 1 ∨ i = 2 ∨ i = 3 ∨ i = 4 ∨ i = 5 ∨ i = 6 ∨ i = 7 ∨ i = 8 ∨ i = 9 := by omega
    · have hnx : ∀ ty cs, (Instr.next (.pointer (some ⟨w.heap.size + 1, 0, none⟩)) true ty).run Try.prog ((w.alloc cs).iter ⟨#[114, 119, 120, 114, 119, 120, 114, 119, 120]⟩ 0) = .ok (.tuple #[.bool true, .int .i64 0, .int .i32 114]) ((w.alloc cs).iter ⟨#[114, 119, 120, 114, 119, 120, 114, 119, 120]⟩ 1) :=
        fun ty cs => nxt w cs _ 0 ty _ (by decide) (by decide) (by decide)
      rw [show Pm.row1 m 0 = #[.int .u8 (Pm.kindB m), .int .u8 45, .int .u8 45, .int .u8 45, .int .u8 45, .int .u8 45, .int .u8 45, .int .u8 45, .int .u8 45, .int .u8 45] from rfl]
      have hb := Pm.ne_bit m 256 (by simp)
      cases ht : Pm.tb m 256
      · have HE : Hid (Pm.chr m 256 114 = 45) := by show _ = _; simp [Pm.chr, ht]
        rw [ht] at hb
        go_wp2_with (go_at_call 26; refine (pBitAt 1 (by decide) (by decide) _).mono ?_; rintro e w' ⟨rfl, rfl⟩)
        exact ⟨⟨1, by omega, by rw [show Pm.row1 m 1 = #[.int .u8 (Pm.kindB m), .int .u8 (Pm.chr m 256 114), .int .u8 45, .int .u8 45, .int .u8 45, .int .u8 45, .int .u8 45, .int .u8 45, .int .u8 45, .int .u8 45] from rfl, HE.out]⟩, by rw [it_pos, it_pos]; decide⟩
      · have HE : Hid (Pm.chr m 256 114 = 114) := by show _ = _; simp [Pm.chr, ht]
        rw [ht] at hb
        go_wp2_with (go_at_call 26; refine (pBitAt 1 (by decide) (by decide) _).mono ?_; rintro e w' ⟨rfl, rfl⟩)
        exact ⟨⟨1, by omega, by rw [show Pm.row1 m 1 = #[.int .u8 (Pm.kindB m), .int .u8 (Pm.chr m 256 114), .int .u8 45, .int .u8 45, .int .u8 45, .int .u8 45, .int .u8 45, .int .u8 45, .int .u8 45, .int .u8 45] from rfl, HE.out]⟩, by rw [it_pos, it_pos]; decide⟩
    · have hnx : ∀ ty cs, (Instr.next (.pointer (some ⟨w.heap.size + 1, 0, none⟩)) true ty).run Try.prog ((w.alloc cs).iter ⟨#[114, 119, 120, 114, 119, 120, 114, 119, 120]⟩ 1) = .ok (.tuple #[.bool true, .int .i64 1, .int .i32 119]) ((w.alloc cs).iter ⟨#[114, 119, 120, 114, 119, 120, 114, 119, 120]⟩ 2) :=
        fun ty cs => nxt w cs _ 1 ty _ (by decide) (by decide) (by decide)
      rw [show Pm.row1 m 1 = #[.int .u8 (Pm.kindB m), .int .u8 (Pm.chr m 256 114), .int .u8 45, .int .u8 45, .int .u8 45, .int .u8 45, .int .u8 45, .int .u8 45, .int .u8 45, .int .u8 45] from rfl]
      have hb := Pm.ne_bit m 128 (by simp)
      cases ht : Pm.tb m 128
      · have HE : Hid (Pm.chr m 128 119 = 45) := by show _ = _; simp [Pm.chr, ht]
        rw [ht] at hb
        go_wp2_with (go_at_call 26; refine (pBitAt 2 (by decide) (by decide) _).mono ?_; rintro e w' ⟨rfl, rfl⟩)
        exact ⟨⟨2, by omega, by rw [show Pm.row1 m 2 = #[.int .u8 (Pm.kindB m), .int .u8 (Pm.chr m 256 114), .int .u8 (Pm.chr m 128 119), .int .u8 45, .int .u8 45, .int .u8 45, .int .u8 45, .int .u8 45, .int .u8 45, .int .u8 45] from rfl, HE.out]⟩, by rw [it_pos, it_pos]; decide⟩
      · have HE : Hid (Pm.chr m 128 119 = 119) := by show _ = _; simp [Pm.chr, ht]
        rw [ht] at hb
        go_wp2_with (go_at_call 26; refine (pBitAt 2 (by decide) (by decide) _).mono ?_; rintro e w' ⟨rfl, rfl⟩)
        exact ⟨⟨2, by omega, by rw [show Pm.row1 m 2 = #[.int .u8 (Pm.kindB m), .int .u8 (Pm.chr m 256 114), .int .u8 (Pm.chr m 128 119), .int .u8 45, .int .u8 45, .int .u8 45, .int .u8 45, .int .u8 45, .int .u8 45, .int .u8 45] from rfl, HE.out]⟩, by rw [it_pos, it_pos]; decide⟩
    · have hnx : ∀ ty cs, (Instr.next (.pointer (some ⟨w.heap.size + 1, 0, none⟩)) true ty).run Try.prog ((w.alloc cs).iter ⟨#[114, 119, 120, 114, 119, 120, 114, 119, 120]⟩ 2) = .ok (.tuple #[.bool true, .int .i64 2, .int .i32 120]) ((w.alloc cs).iter ⟨#[114, 119, 120, 114, 119, 120, 114, 119, 120]⟩ 3) :=
        fun ty cs => nxt w cs _ 2 ty _ (by decide) (by decide) (by decide)
      rw [show Pm.row1 m 2 = #[.int .u8 (Pm.kindB m), .int .u8 (Pm.chr m 256 114), .int .u8 (Pm.chr m 128 119), .int .u8 45, .int .u8 45, .int .u8 45, .int .u8 45, .int .u8 45, .int .u8 45, .int .u8 45] from rfl]
      have hb := Pm.ne_bit m 64 (by simp)
      cases ht : Pm.tb m 64
      · have HE : Hid (Pm.chr m 64 120 = 45) := by show _ = _; simp [Pm.chr, ht]
        rw [ht] at hb
        go_wp2_with (go_at_call 26; refine (pBitAt 3 (by decide) (by decide) _).mono ?_; rintro e w' ⟨rfl, rfl⟩)
        exact ⟨⟨3, by omega, by rw [show Pm.row1 m 3 = #[.int .u8 (Pm.kindB m), .int .u8 (Pm.chr m 256 114), .int .u8 (Pm.chr m 128 119), .int .u8 (Pm.chr m 64 120), .int .u8 45, .int .u8 45, .int .u8 45, .int .u8 45, .int .u8 45, .int .u8 45] from rfl, HE.out]⟩, by rw [it_pos, it_pos]; decide⟩
      · have HE : Hid (Pm.chr m 64 120 = 120) := by show _ = _; simp [Pm.chr, ht]
        rw [ht] at hb
        go_wp2_with (go_at_call 26; refine (pBitAt 3 (by decide) (by decide) _).mono ?_; rintro e w' ⟨rfl, rfl⟩)
        exact ⟨⟨3, by omega, by rw [show Pm.row1 m 3 = #[.int .u8 (Pm.kindB m), .int .u8 (Pm.chr m 256 114), .int .u8 (Pm.chr m 128 119), .int .u8 (Pm.chr m 64 120), .int .u8 45, .int .u8 45, .int .u8 45, .int .u8 45, .int .u8 45, .int .u8 45] from rfl, HE.out]⟩, by rw [it_pos, it_pos]; decide⟩
    · have hnx : ∀ ty cs, (Instr.next (.pointer (some ⟨w.heap.size + 1, 0, none⟩)) true ty).run Try.prog ((w.alloc cs).iter ⟨#[114, 119, 120, 114, 119, 120, 114, 119, 120]⟩ 3) = .ok (.tuple #[.bool true, .int .i64 3, .int .i32 114]) ((w.alloc cs).iter ⟨#[114, 119, 120, 114, 119, 120, 114, 119, 120]⟩ 4) :=
        fun ty cs => nxt w cs _ 3 ty _ (by decide) (by decide) (by decide)
      rw [show Pm.row1 m 3 = #[.int .u8 (Pm.kindB m), .int .u8 (Pm.chr m 256 114), .int .u8 (Pm.chr m 128 119), .int .u8 (Pm.chr m 64 120), .int .u8 45, .int .u8 45, .int .u8 45, .int .u8 45, .int .u8 45, .int .u8 45] from rfl]
      have hb := Pm.ne_bit m 32 (by simp)
      cases ht : Pm.tb m 32
      · have HE : Hid (Pm.chr m 32 114 = 45) := by show _ = _; simp [Pm.chr, ht]
        rw [ht] at hb
        go_wp2_with (go_at_call 26; refine (pBitAt 4 (by decide) (by decide) _).mono ?_; rintro e w' ⟨rfl, rfl⟩)
        exact ⟨⟨4, by omega, by rw [show Pm.row1 m 4 = #[.int .u8 (Pm.kindB m), .int .u8 (Pm.chr m 256 114), .int .u8 (Pm.chr m 128 119), .int .u8 (Pm.chr m 64 120), .int .u8 (Pm.chr m 32 114), .int .u8 45, .int .u8 45, .int .u8 45, .int .u8 45, .int .u8 45] from rfl, HE.out]⟩, by rw [it_pos, it_pos]; decide⟩
      · have HE : Hid (Pm.chr m 32 114 = 114) := by show _ = _; simp [Pm.chr, ht]
        rw [ht] at hb
        go_wp2_with (go_at_call 26; refine (pBitAt 4 (by decide) (by decide) _).mono ?_; rintro e w' ⟨rfl, rfl⟩)
        exact ⟨⟨4, by omega, by rw [show Pm.row1 m 4 = #[.int .u8 (Pm.kindB m), .int .u8 (Pm.chr m 256 114), .int .u8 (Pm.chr m 128 119), .int .u8 (Pm.chr m 64 120), .int .u8 (Pm.chr m 32 114), .int .u8 45, .int .u8 45, .int .u8 45, .int .u8 45, .int .u8 45] from rfl, HE.out]⟩, by rw [it_pos, it_pos]; decide⟩
    · have hnx : ∀ ty cs, (Instr.next (.pointer (some ⟨w.heap.size + 1, 0, none⟩)) true ty).run Try.prog ((w.alloc cs).iter ⟨#[114, 119, 120, 114, 119, 120, 114, 119, 120]⟩ 4) = .ok (.tuple #[.bool true, .int .i64 4, .int .i32 119]) ((w.alloc cs).iter ⟨#[114, 119, 120, 114, 119, 120, 114, 119, 120]⟩ 5) :=
        fun ty cs => nxt w cs _ 4 ty _ (by decide) (by decide) (by decide)
      rw [show Pm.row1 m 4 = #[.int .u8 (Pm.kindB m), .int .u8 (Pm.chr m 256 114), .int .u8 (Pm.chr m 128 119), .int .u8 (Pm.chr m 64 120), .int .u8 (Pm.chr m 32 114), .int .u8 45, .int .u8 45, .int .u8 45, .int .u8 45, .int .u8 45] from rfl]
      have hb := Pm.ne_bit m 16 (by simp)
      cases ht : Pm.tb m 16
      · have HE : Hid (Pm.chr m 16 119 = 45) := by show _ = _; simp [Pm.chr, ht]
        rw [ht] at hb
        go_wp2_with (go_at_call 26; refine (pBitAt 5 (by decide) (by decide) _).mono ?_; rintro e w' ⟨rfl, rfl⟩)
        exact ⟨⟨5, by omega, by rw [show Pm.row1 m 5 = #[.int .u8 (Pm.kindB m), .int .u8 (Pm.chr m 256 114), .int .u8 (Pm.chr m 128 119), .int .u8 (Pm.chr m 64 120), .int .u8 (Pm.chr m 32 114), .int .u8 (Pm.chr m 16 119), .int .u8 45, .int .u8 45, .int .u8 45, .int .u8 45] from rfl, HE.out]⟩, by rw [it_pos, it_pos]; decide⟩
      · have HE : Hid (Pm.chr m 16 119 = 119) := by show _ = _; simp [Pm.chr, ht]
        rw [ht] at hb
        go_wp2_with (go_at_call 26; refine (pBitAt 5 (by decide) (by decide) _).mono ?_; rintro e w' ⟨rfl, rfl⟩)
        exact ⟨⟨5, by omega, by rw [show Pm.row1 m 5 = #[.int .u8 (Pm.kindB m), .int .u8 (Pm.chr m 256 114), .int .u8 (Pm.chr m 128 119), .int .u8 (Pm.chr m 64 120), .int .u8 (Pm.chr m 32 114), .int .u8 (Pm.chr m 16 119), .int .u8 45, .int .u8 45, .int .u8 45, .int .u8 45] from rfl, HE.out]⟩, by rw [it_pos, it_pos]; decide⟩
    · have hnx : ∀ ty cs, (Instr.next (.pointer (some ⟨w.heap.size + 1, 0, none⟩)) true ty).run Try.prog ((w.alloc cs).iter ⟨#[114, 119, 120, 114, 119, 120, 114, 119, 120]⟩ 5) = .ok (.tuple #[.bool true, .int .i64 5, .int .i32 120]) ((w.alloc cs).iter ⟨#[114, 119, 120, 114, 119, 120, 114, 119, 120]⟩ 6) :=
        fun ty cs => nxt w cs _ 5 ty _ (by decide) (by decide) (by decide)
      rw [show Pm.row1 m 5 = #[.int .u8 (Pm.kindB m), .int .u8 (Pm.chr m 256 114), .int .u8 (Pm.chr m 128 119), .int .u8 (Pm.chr m 64 120), .int .u8 (Pm.chr m 32 114), .int .u8 (Pm.chr m 16 119), .int .u8 45, .int .u8 45, .int .u8 45, .int .u8 45] from rfl]
      have hb := Pm.ne_bit m 8 (by simp)
      cases ht : Pm.tb m 8
      · have HE : Hid (Pm.chr m 8 120 = 45) := by show _ = _; simp [Pm.chr, ht]
        rw [ht] at hb
        go_wp2_with (go_at_call 26; refine (pBitAt 6 (by decide) (by decide) _).mono ?_; rintro e w' ⟨rfl, rfl⟩)
        exact ⟨⟨6, by omega, by rw [show Pm.row1 m 6 = #[.int .u8 (Pm.kindB m), .int .u8 (Pm.chr m 256 114), .int .u8 (Pm.chr m 128 119), .int .u8 (Pm.chr m 64 120), .int .u8 (Pm.chr m 32 114), .int .u8 (Pm.chr m 16 119), .int .u8 (Pm.chr m 8 120), .int .u8 45, .int .u8 45, .int .u8 45] from rfl, HE.out]⟩, by rw [it_pos, it_pos]; decide⟩
      · have HE : Hid (Pm.chr m 8 120 = 120) := by show _ = _; simp [Pm.chr, ht]
        rw [ht] at hb
        go_wp2_with (go_at_call 26; refine (pBitAt 6 (by decide) (by decide) _).mono ?_; rintro e w' ⟨rfl, rfl⟩)
        exact ⟨⟨6, by omega, by rw [show Pm.row1 m 6 = #[.int .u8 (Pm.kindB m), .int .u8 (Pm.chr m 256 114), .int .u8 (Pm.chr m 128 119), .int .u8 (Pm.chr m 64 120), .int .u8 (Pm.chr m 32 114), .int .u8 (Pm.chr m 16 119), .int .u8 (Pm.chr m 8 120), .int .u8 45, .int .u8 45, .int .u8 45] from rfl, HE.out]⟩, by rw [it_pos, it_pos]; decide⟩
    · have hnx : ∀ ty cs, (Instr.next (.pointer (some ⟨w.heap.size + 1, 0, none⟩)) true ty).run Try.prog ((w.alloc cs).iter ⟨#[114, 119, 120, 114, 119, 120, 114, 119, 120]⟩ 6) = .ok (.tuple #[.bool true, .int .i64 6, .int .i32 114]) ((w.alloc cs).iter ⟨#[114, 119, 120, 114, 119, 120, 114, 119, 120]⟩ 7) :=
        fun ty cs => nxt w cs _ 6 ty _ (by decide) (by decide) (by decide)
      rw [show Pm.row1 m 6 = #[.int .u8 (Pm.kindB m), .int .u8 (Pm.chr m 256 114), .int .u8 (Pm.chr m 128 119), .int .u8 (Pm.chr m 64 120), .int .u8 (Pm.chr m 32 114), .int .u8 (Pm.chr m 16 119), .int .u8 (Pm.chr m 8 120), .int .u8 45, .int .u8 45, .int .u8 45] from rfl]
      have hb := Pm.ne_bit m 4 (by simp)
      cases ht : Pm.tb m 4
      · have HE : Hid (Pm.chr m 4 114 = 45) := by show _ = _; simp [Pm.chr, ht]
        rw [ht] at hb
        go_wp2_with (go_at_call 26; refine (pBitAt 7 (by decide) (by decide) _).mono ?_; rintro e w' ⟨rfl, rfl⟩)
        exact ⟨⟨7, by omega, by rw [show Pm.row1 m 7 = #[.int .u8 (Pm.kindB m), .int .u8 (Pm.chr m 256 114), .int .u8 (Pm.chr m 128 119), .int .u8 (Pm.chr m 64 120), .int .u8 (Pm.chr m 32 114), .int .u8 (Pm.chr m 16 119), .int .u8 (Pm.chr m 8 120), .int .u8 (Pm.chr m 4 114), .int .u8 45, .int .u8 45] from rfl, HE.out]⟩, by rw [it_pos, it_pos]; decide⟩
      · have HE : Hid (Pm.chr m 4 114 = 114) := by show _ = _; simp [Pm.chr, ht]
        rw [ht] at hb
        go_wp2_with (go_at_call 26; refine (pBitAt 7 (by decide) (by decide) _).mono ?_; rintro e w' ⟨rfl, rfl⟩)
        exact ⟨⟨7, by omega, by rw [show Pm.row1 m 7 = #[.int .u8 (Pm.kindB m), .int .u8 (Pm.chr m 256 114), .int .u8 (Pm.chr m 128 119), .int .u8 (Pm.chr m 64 120), .int .u8 (Pm.chr m 32 114), .int .u8 (Pm.chr m 16 119), .int .u8 (Pm.chr m 8 120), .int .u8 (Pm.chr m 4 114), .int .u8 45, .int .u8 45] from rfl, HE.out]⟩, by rw [it_pos, it_pos]; decide⟩
    · have hnx : ∀ ty cs, (Instr.next (.pointer (some ⟨w.heap.size + 1, 0, none⟩)) true ty).run Try.prog ((w.alloc cs).iter ⟨#[114, 119, 120, 114, 119, 120, 114, 119, 120]⟩ 7) = .ok (.tuple #[.bool true, .int .i64 7, .int .i32 119]) ((w.alloc cs).iter ⟨#[114, 119, 120, 114, 119, 120, 114, 119, 120]⟩ 8) :=
        fun ty cs => nxt w cs _ 7 ty _ (by decide) (by decide) (by decide)
      rw [show Pm.row1 m 7 = #[.int .u8 (Pm.kindB m), .int .u8 (Pm.chr m 256 114), .int .u8 (Pm.chr m 128 119), .int .u8 (Pm.chr m 64 120), .int .u8 (Pm.chr m 32 114), .int .u8 (Pm.chr m 16 119), .int .u8 (Pm.chr m 8 120), .int .u8 (Pm.chr m 4 114), .int .u8 45, .int .u8 45] from rfl]
      have hb := Pm.ne_bit m 2 (by simp)
      cases ht : Pm.tb m 2
      · have HE : Hid (Pm.chr m 2 119 = 45) := by show _ = _; simp [Pm.chr, ht]
        rw [ht] at hb
        go_wp2_with (go_at_call 26; refine (pBitAt 8 (by decide) (by decide) _).mono ?_; rintro e w' ⟨rfl, rfl⟩)
        exact ⟨⟨8, by omega, by rw [show Pm.row1 m 8 = #[.int .u8 (Pm.kindB m), .int .u8 (Pm.chr m 256 114), .int .u8 (Pm.chr m 128 119), .int .u8 (Pm.chr m 64 120), .int .u8 (Pm.chr m 32 114), .int .u8 (Pm.chr m 16 119), .int .u8 (Pm.chr m 8 120), .int .u8 (Pm.chr m 4 114), .int .u8 (Pm.chr m 2 119), .int .u8 45] from rfl, HE.out]⟩, by rw [it_pos, it_pos]; decide⟩
      · have HE : Hid (Pm.chr m 2 119 = 119) := by show _ = _; simp [Pm.chr, ht]
        rw [ht] at hb
        go_wp2_with (go_at_call 26; refine (pBitAt 8 (by decide) (by decide) _).mono ?_; rintro e w' ⟨rfl, rfl⟩)
        exact ⟨⟨8, by omega, by rw [show Pm.row1 m 8 = #[.int .u8 (Pm.kindB m), .int .u8 (Pm.chr m 256 114), .int .u8 (Pm.chr m 128 119), .int .u8 (Pm.chr m 64 120), .int .u8 (Pm.chr m 32 114), .int .u8 (Pm.chr m 16 119), .int .u8 (Pm.chr m 8 120), .int .u8 (Pm.chr m 4 114), .int .u8 (Pm.chr m 2 119), .int .u8 45] from rfl, HE.out]⟩, by rw [it_pos, it_pos]; decide⟩
    · have hnx : ∀ ty cs, (Instr.next (.pointer (some ⟨w.heap.size + 1, 0, none⟩)) true ty).run Try.prog ((w.alloc cs).iter ⟨#[114, 119, 120, 114, 119, 120, 114, 119, 120]⟩ 8) = .ok (.tuple #[.bool true, .int .i64 8, .int .i32 120]) ((w.alloc cs).iter ⟨#[114, 119, 120, 114, 119, 120, 114, 119, 120]⟩ 9) :=
        fun ty cs => nxt w cs _ 8 ty _ (by decide) (by decide) (by decide)
      rw [show Pm.row1 m 8 = #[.int .u8 (Pm.kindB m), .int .u8 (Pm.chr m 256 114), .int .u8 (Pm.chr m 128 119), .int .u8 (Pm.chr m 64 120), .int .u8 (Pm.chr m 32 114), .int .u8 (Pm.chr m 16 119), .int .u8 (Pm.chr m 8 120), .int .u8 (Pm.chr m 4 114), .int .u8 (Pm.chr m 2 119), .int .u8 45] from rfl]
      have hb := Pm.ne_bit m 1 (by simp)
      cases ht : Pm.tb m 1
      · have HE : Hid (Pm.chr m 1 120 = 45) := by show _ = _; simp [Pm.chr, ht]
        rw [ht] at hb
        go_wp2_with (go_at_call 26; refine (pBitAt 9 (by decide) (by decide) _).mono ?_; rintro e w' ⟨rfl, rfl⟩)
        exact ⟨⟨9, by omega, by rw [show Pm.row1 m 9 = #[.int .u8 (Pm.kindB m), .int .u8 (Pm.chr m 256 114), .int .u8 (Pm.chr m 128 119), .int .u8 (Pm.chr m 64 120), .int .u8 (Pm.chr m 32 114), .int .u8 (Pm.chr m 16 119), .int .u8 (Pm.chr m 8 120), .int .u8 (Pm.chr m 4 114), .int .u8 (Pm.chr m 2 119), .int .u8 (Pm.chr m 1 120)] from rfl, HE.out]⟩, by rw [it_pos, it_pos]; decide⟩
      · have HE : Hid (Pm.chr m 1 120 = 120) := by show _ = _; simp [Pm.chr, ht]
        rw [ht] at hb
        go_wp2_with (go_at_call 26; refine (pBitAt 9 (by decide) (by decide) _).mono ?_; rintro e w' ⟨rfl, rfl⟩)
        exact ⟨⟨9, by omega, by rw [show Pm.row1 m 9 = #[.int .u8 (Pm.kindB m), .int .u8 (Pm.chr m 256 114), .int .u8 (Pm.chr m 128 119), .int .u8 (Pm.chr m 64 120), .int .u8 (Pm.chr m 32 114), .int .u8 (Pm.chr m 16 119), .int .u8 (Pm.chr m 8 120), .int .u8 (Pm.chr m 4 114), .int .u8 (Pm.chr m 2 119), .int .u8 (Pm.chr m 1 120)] from rfl, HE.out]⟩, by rw [it_pos, it_pos]; decide⟩
    · have hnx : ∀ ty cs, (Instr.next (.pointer (some ⟨w.heap.size + 1, 0, none⟩)) true ty).run Try.prog ((w.alloc cs).iter ⟨#[114, 119, 120, 114, 119, 120, 114, 119, 120]⟩ 9) = .ok (.tuple #[.bool false]) ((w.alloc cs).iter ⟨#[114, 119, 120, 114, 119, 120, 114, 119, 120]⟩ 9) :=
        fun ty cs => nxt_end w cs _ 9 ty (by decide)
      rw [show Pm.row1 m 9 = #[.int .u8 (Pm.kindB m), .int .u8 (Pm.chr m 256 114), .int .u8 (Pm.chr m 128 119), .int .u8 (Pm.chr m 64 120), .int .u8 (Pm.chr m 32 114), .int .u8 (Pm.chr m 16 119), .int .u8 (Pm.chr m 8 120), .int .u8 (Pm.chr m 4 114), .int .u8 (Pm.chr m 2 119), .int .u8 (Pm.chr m 1 120)] from rfl]
      go_wp2_with fail
      go_loopw [6] (fun _ w' => ∃ i : Nat, i ≤ 9 ∧ w' = ((w.alloc (.cells (Pm.row2 m i) 5)).iter ⟨#[114, 119, 120, 114, 119, 120, 114, 119, 120]⟩ 9).iter ⟨#[45, 45, 115, 45, 45, 115, 45, 45, 116]⟩ i) (fun _ w' => 9 - w'.iterPos (w.heap.size + 2))
      case atStart => exact ⟨0, by omega, rfl⟩
      case round =>
        obtain ⟨i, hi, rfl⟩ := hrel
        clear hnx
        obtain rfl | rfl | rfl | rfl | rfl | rfl | rfl | rfl | rfl | rfl : i = 0 ∨ i = 1 ∨ i = 2 ∨ i = 3 ∨ i = 4 ∨ i = 5 ∨ i = 6 ∨ i = 7 ∨ i = 8 ∨ i = 9 := by omega
        · have hnx : ∀ ty cs, (Instr.next (.pointer (some ⟨w.heap.size + 2, 0, none⟩)) true ty).run Try.prog (((w.alloc cs).iter ⟨#[114, 119, 120, 114, 119, 120, 114, 119, 120]⟩ 9).iter ⟨#[45, 45, 115, 45, 45, 115, 45, 45, 116]⟩ 0) = .ok (.tuple #[.bool true, .int .i64 0, .int .i32 45]) (((w.alloc cs).iter ⟨#[114, 119, 120, 114, 119, 120, 114, 119, 120]⟩ 9).iter ⟨#[45, 45, 115, 45, 45, 115, 45, 45, 116]⟩ 1) :=
            fun ty cs => nxt2 w cs _ _ _ 0 ty _ (by decide) (by decide) (by decide)
          rw [show Pm.row2 m 0 = #[.int .u8 (Pm.kindB m), .int .u8 (Pm.chr m 256 114), .int .u8 (Pm.chr m 128 119), .int .u8 (Pm.chr m 64 120), .int .u8 (Pm.chr m 32 114), .int .u8 (Pm.chr m 16 119), .int .u8 (Pm.chr m 8 120), .int .u8 (Pm.chr m 4 114), .int .u8 (Pm.chr m 2 119), .int .u8 (Pm.chr m 1 120)] from rfl]
          go_wp2_with fail
          exact ⟨⟨1, by omega, rfl⟩, by rw [it2_pos, it2_pos]; decide⟩
        · have hnx : ∀ ty cs, (Instr.next (.pointer (some ⟨w.heap.size + 2, 0, none⟩)) true ty).run Try.prog (((w.alloc cs).iter ⟨#[114, 119, 120, 114, 119, 120, 114, 119, 120]⟩ 9).iter ⟨#[45, 45, 115, 45, 45, 115, 45, 45, 116]⟩ 1) = .ok (.tuple #[.bool true, .int .i64 1, .int .i32 45]) (((w.alloc cs).iter ⟨#[114, 119, 120, 114, 119, 120, 114, 119, 120]⟩ 9).iter ⟨#[45, 45, 115, 45, 45, 115, 45, 45, 116]⟩ 2) :=
            fun ty cs => nxt2 w cs _ _ _ 1 ty _ (by decide) (by decide) (by decide)
          rw [show Pm.row2 m 1 = #[.int .u8 (Pm.kindB m), .int .u8 (Pm.chr m 256 114), .int .u8 (Pm.chr m 128 119), .int .u8 (Pm.chr m 64 120), .int .u8 (Pm.chr m 32 114), .int .u8 (Pm.chr m 16 119), .int .u8 (Pm.chr m 8 120), .int .u8 (Pm.chr m 4 114), .int .u8 (Pm.chr m 2 119), .int .u8 (Pm.chr m 1 120)] from rfl]
          go_wp2_with fail
          exact ⟨⟨2, by omega, rfl⟩, by rw [it2_pos, it2_pos]; decide⟩
        · have hnx : ∀ ty cs, (Instr.next (.pointer (some ⟨w.heap.size + 2, 0, none⟩)) true ty).run Try.prog (((w.alloc cs).iter ⟨#[114, 119, 120, 114, 119, 120, 114, 119, 120]⟩ 9).iter ⟨#[45, 45, 115, 45, 45, 115, 45, 45, 116]⟩ 2) = .ok (.tuple #[.bool true, .int .i64 2, .int .i32 115]) (((w.alloc cs).iter ⟨#[114, 119, 120, 114, 119, 120, 114, 119, 120]⟩ 9).iter ⟨#[45, 45, 115, 45, 45, 115, 45, 45, 116]⟩ 3) :=
            fun ty cs => nxt2 w cs _ _ _ 2 ty _ (by decide) (by decide) (by decide)
          rw [show Pm.row2 m 2 = #[.int .u8 (Pm.kindB m), .int .u8 (Pm.chr m 256 114), .int .u8 (Pm.chr m 128 119), .int .u8 (Pm.chr m 64 120), .int .u8 (Pm.chr m 32 114), .int .u8 (Pm.chr m 16 119), .int .u8 (Pm.chr m 8 120), .int .u8 (Pm.chr m 4 114), .int .u8 (Pm.chr m 2 119), .int .u8 (Pm.chr m 1 120)] from rfl]
          have hb := Pm.ne_bit m 2048 (by simp)
          cases ht : Pm.tb m 2048
          · have HE : Hid (Pm.trd m 64 2048 115 = Pm.chr m 64 120) := by show _ = _; simp [Pm.trd, ht]
            rw [ht] at hb
            go_wp2_with (go_at_call 27; refine (pSpecialAt 3 (by decide) (by decide) _).mono ?_; rintro e w' ⟨rfl, rfl⟩)
            exact ⟨⟨3, by omega, by rw [show Pm.row2 m 3 = #[.int .u8 (Pm.kindB m), .int .u8 (Pm.chr m 256 114), .int .u8 (Pm.chr m 128 119), .int .u8 (Pm.trd m 64 2048 115), .int .u8 (Pm.chr m 32 114), .int .u8 (Pm.chr m 16 119), .int .u8 (Pm.chr m 8 120), .int .u8 (Pm.chr m 4 114), .int .u8 (Pm.chr m 2 119), .int .u8 (Pm.chr m 1 120)] from rfl, HE.out]⟩, by rw [it2_pos, it2_pos]; decide⟩
          · have HE : Hid (Pm.trd m 64 2048 115 = Pm.spc 115 (Pm.chr m 64 120)) := by show _ = _; simp [Pm.trd, ht]
            rw [ht] at hb
            go_wp2_with (first | (go_at_call 27; refine (pSpecialAt 3 (by decide) (by decide) _).mono ?_; rintro e w' ⟨rfl, rfl⟩) | (go_at_call 28; refine (pSpecial 115 (Pm.chr m 64 120) (by decide) (by decide) _).mono ?_; rintro e w' ⟨rfl, rfl⟩))
            exact ⟨⟨3, by omega, by rw [show Pm.row2 m 3 = #[.int .u8 (Pm.kindB m), .int .u8 (Pm.chr m 256 114), .int .u8 (Pm.chr m 128 119), .int .u8 (Pm.trd m 64 2048 115), .int .u8 (Pm.chr m 32 114), .int .u8 (Pm.chr m 16 119), .int .u8 (Pm.chr m 8 120), .int .u8 (Pm.chr m 4 114), .int .u8 (Pm.chr m 2 119), .int .u8 (Pm.chr m 1 120)] from rfl, HE.out]⟩, by rw [it2_pos, it2_pos]; decide⟩
        · have hnx : ∀ ty cs, (Instr.next (.pointer (some ⟨w.heap.size + 2, 0, none⟩)) true ty).run Try.prog (((w.alloc cs).iter ⟨#[114, 119, 120, 114, 119, 120, 114, 119, 120]⟩ 9).iter ⟨#[45, 45, 115, 45, 45, 115, 45, 45, 116]⟩ 3) = .ok (.tuple #[.bool true, .int .i64 3, .int .i32 45]) (((w.alloc cs).iter ⟨#[114, 119, 120, 114, 119, 120, 114, 119, 120]⟩ 9).iter ⟨#[45, 45, 115, 45, 45, 115, 45, 45, 116]⟩ 4) :=
            fun ty cs => nxt2 w cs _ _ _ 3 ty _ (by decide) (by decide) (by decide)
          rw [show Pm.row2 m 3 = #[.int .u8 (Pm.kindB m), .int .u8 (Pm.chr m 256 114), .int .u8 (Pm.chr m 128 119), .int .u8 (Pm.trd m 64 2048 115), .int .u8 (Pm.chr m 32 114), .int .u8 (Pm.chr m 16 119), .int .u8 (Pm.chr m 8 120), .int .u8 (Pm.chr m 4 114), .int .u8 (Pm.chr m 2 119), .int .u8 (Pm.chr m 1 120)] from rfl]
          go_wp2_with fail
          exact ⟨⟨4, by omega, rfl⟩, by rw [it2_pos, it2_pos]; decide⟩
        · have hnx : ∀ ty cs, (Instr.next (.pointer (some ⟨w.heap.size + 2, 0, none⟩)) true ty).run Try.prog (((w.alloc cs).iter ⟨#[114, 119, 120, 114, 119, 120, 114, 119, 120]⟩ 9).iter ⟨#[45, 45, 115, 45, 45, 115, 45, 45, 116]⟩ 4) = .ok (.tuple #[.bool true, .int .i64 4, .int .i32 45]) (((w.alloc cs).iter ⟨#[114, 119, 120, 114, 119, 120, 114, 119, 120]⟩ 9).iter ⟨#[45, 45, 115, 45, 45, 115, 45, 45, 116]⟩ 5) :=
            fun ty cs => nxt2 w cs _ _ _ 4 ty _ (by decide) (by decide) (by decide)
          rw [show Pm.row2 m 4 = #[.int .u8 (Pm.kindB m), .int .u8 (Pm.chr m 256 114), .int .u8 (Pm.chr m 128 119), .int .u8 (Pm.trd m 64 2048 115), .int .u8 (Pm.chr m 32 114), .int .u8 (Pm.chr m 16 119), .int .u8 (Pm.chr m 8 120), .int .u8 (Pm.chr m 4 114), .int .u8 (Pm.chr m 2 119), .int .u8 (Pm.chr m 1 120)] from rfl]
          go_wp2_with fail
          exact ⟨⟨5, by omega, rfl⟩, by rw [it2_pos, it2_pos]; decide⟩
        · have hnx : ∀ ty cs, (Instr.next (.pointer (some ⟨w.heap.size + 2, 0, none⟩)) true ty).run Try.prog (((w.alloc cs).iter ⟨#[114, 119, 120, 114, 119, 120, 114, 119, 120]⟩ 9).iter ⟨#[45, 45, 115, 45, 45, 115, 45, 45, 116]⟩ 5) = .ok (.tuple #[.bool true, .int .i64 5, .int .i32 115]) (((w.alloc cs).iter ⟨#[114, 119, 120, 114, 119, 120, 114, 119, 120]⟩ 9).iter ⟨#[45, 45, 115, 45, 45, 115, 45, 45, 116]⟩ 6) :=
            fun ty cs => nxt2 w cs _ _ _ 5 ty _ (by decide) (by decide) (by decide)
          rw [show Pm.row2 m 5 = #[.int .u8 (Pm.kindB m), .int .u8 (Pm.chr m 256 114), .int .u8 (Pm.chr m 128 119), .int .u8 (Pm.trd m 64 2048 115), .int .u8 (Pm.chr m 32 114), .int .u8 (Pm.chr m 16 119), .int .u8 (Pm.chr m 8 120), .int .u8 (Pm.chr m 4 114), .int .u8 (Pm.chr m 2 119), .int .u8 (Pm.chr m 1 120)] from rfl]
          have hb := Pm.ne_bit m 1024 (by simp)
          cases ht : Pm.tb m 1024
          · have HE : Hid (Pm.trd m 8 1024 115 = Pm.chr m 8 120) := by show _ = _; simp [Pm.trd, ht]
            rw [ht] at hb
            go_wp2_with (go_at_call 27; refine (pSpecialAt 6 (by decide) (by decide) _).mono ?_; rintro e w' ⟨rfl, rfl⟩)
            exact ⟨⟨6, by omega, by rw [show Pm.row2 m 6 = #[.int .u8 (Pm.kindB m), .int .u8 (Pm.chr m 256 114), .int .u8 (Pm.chr m 128 119), .int .u8 (Pm.trd m 64 2048 115), .int .u8 (Pm.chr m 32 114), .int .u8 (Pm.chr m 16 119), .int .u8 (Pm.trd m 8 1024 115), .int .u8 (Pm.chr m 4 114), .int .u8 (Pm.chr m 2 119), .int .u8 (Pm.chr m 1 120)] from rfl, HE.out]⟩, by rw [it2_pos, it2_pos]; decide⟩
          · have HE : Hid (Pm.trd m 8 1024 115 = Pm.spc 115 (Pm.chr m 8 120)) := by show _ = _; simp [Pm.trd, ht]
            rw [ht] at hb
            go_wp2_with (first | (go_at_call 27; refine (pSpecialAt 6 (by decide) (by decide) _).mono ?_; rintro e w' ⟨rfl, rfl⟩) | (go_at_call 28; refine (pSpecial 115 (Pm.chr m 8 120) (by decide) (by decide) _).mono ?_; rintro e w' ⟨rfl, rfl⟩))
            exact ⟨⟨6, by omega, by rw [show Pm.row2 m 6 = #[.int .u8 (Pm.kindB m), .int .u8 (Pm.chr m 256 114), .int .u8 (Pm.chr m 128 119), .int .u8 (Pm.trd m 64 2048 115), .int .u8 (Pm.chr m 32 114), .int .u8 (Pm.chr m 16 119), .int .u8 (Pm.trd m 8 1024 115), .int .u8 (Pm.chr m 4 114), .int .u8 (Pm.chr m 2 119), .int .u8 (Pm.chr m 1 120)] from rfl, HE.out]⟩, by rw [it2_pos, it2_pos]; decide⟩
        · have hnx : ∀ ty cs, (Instr.next (.pointer (some ⟨w.heap.size + 2, 0, none⟩)) true ty).run Try.prog (((w.alloc cs).iter ⟨#[114, 119, 120, 114, 119, 120, 114, 119, 120]⟩ 9).iter ⟨#[45, 45, 115, 45, 45, 115, 45, 45, 116]⟩ 6) = .ok (.tuple #[.bool true, .int .i64 6, .int .i32 45]) (((w.alloc cs).iter ⟨#[114, 119, 120, 114, 119, 120, 114, 119, 120]⟩ 9).iter ⟨#[45, 45, 115, 45, 45, 115, 45, 45, 116]⟩ 7) :=
            fun ty cs => nxt2 w cs _ _ _ 6 ty _ (by decide) (by decide) (by decide)
          rw [show Pm.row2 m 6 = #[.int .u8 (Pm.kindB m), .int .u8 (Pm.chr m 256 114), .int .u8 (Pm.chr m 128 119), .int .u8 (Pm.trd m 64 2048 115), .int .u8 (Pm.chr m 32 114), .int .u8 (Pm.chr m 16 119), .int .u8 (Pm.trd m 8 1024 115), .int .u8 (Pm.chr m 4 114), .int .u8 (Pm.chr m 2 119), .int .u8 (Pm.chr m 1 120)] from rfl]
          go_wp2_with fail
          exact ⟨⟨7, by omega, rfl⟩, by rw [it2_pos, it2_pos]; decide⟩
        · have hnx : ∀ ty cs, (Instr.next (.pointer (some ⟨w.heap.size + 2, 0, none⟩)) true ty).run Try.prog (((w.alloc cs).iter ⟨#[114, 119, 120, 114, 119, 120, 114, 119, 120]⟩ 9).iter ⟨#[45, 45, 115, 45, 45, 115, 45, 45, 116]⟩ 7) = .ok (.tuple #[.bool true, .int .i64 7, .int .i32 45]) (((w.alloc cs).iter ⟨#[114, 119, 120, 114, 119, 120, 114, 119, 120]⟩ 9).iter ⟨#[45, 45, 115, 45, 45, 115, 45, 45, 116]⟩ 8) :=
            fun ty cs => nxt2 w cs _ _ _ 7 ty _ (by decide) (by decide) (by decide)
          rw [show Pm.row2 m 7 = #[.int .u8 (Pm.kindB m), .int .u8 (Pm.chr m 256 114), .int .u8 (Pm.chr m 128 119), .int .u8 (Pm.trd m 64 2048 115), .int .u8 (Pm.chr m 32 114), .int .u8 (Pm.chr m 16 119), .int .u8 (Pm.trd m 8 1024 115), .int .u8 (Pm.chr m 4 114), .int .u8 (Pm.chr m 2 119), .int .u8 (Pm.chr m 1 120)] from rfl]
          go_wp2_with fail
          exact ⟨⟨8, by omega, rfl⟩, by rw [it2_pos, it2_pos]; decide⟩
        · have hnx : ∀ ty cs, (Instr.next (.pointer (some ⟨w.heap.size + 2, 0, none⟩)) true ty).run Try.prog (((w.alloc cs).iter ⟨#[114, 119, 120, 114, 119, 120, 114, 119, 120]⟩ 9).iter ⟨#[45, 45, 115, 45, 45, 115, 45, 45, 116]⟩ 8) = .ok (.tuple #[.bool true, .int .i64 8, .int .i32 116]) (((w.alloc cs).iter ⟨#[114, 119, 120, 114, 119, 120, 114, 119, 120]⟩ 9).iter ⟨#[45, 45, 115, 45, 45, 115, 45, 45, 116]⟩ 9) :=
            fun ty cs => nxt2 w cs _ _ _ 8 ty _ (by decide) (by decide) (by decide)
          rw [show Pm.row2 m 8 = #[.int .u8 (Pm.kindB m), .int .u8 (Pm.chr m 256 114), .int .u8 (Pm.chr m 128 119), .int .u8 (Pm.trd m 64 2048 115), .int .u8 (Pm.chr m 32 114), .int .u8 (Pm.chr m 16 119), .int .u8 (Pm.trd m 8 1024 115), .int .u8 (Pm.chr m 4 114), .int .u8 (Pm.chr m 2 119), .int .u8 (Pm.chr m 1 120)] from rfl]
          have hb := Pm.ne_bit m 512 (by simp)
          cases ht : Pm.tb m 512
          · have HE : Hid (Pm.trd m 1 512 116 = Pm.chr m 1 120) := by show _ = _; simp [Pm.trd, ht]
            rw [ht] at hb
            go_wp2_with (go_at_call 27; refine (pSpecialAt 9 (by decide) (by decide) _).mono ?_; rintro e w' ⟨rfl, rfl⟩)
            exact ⟨⟨9, by omega, by rw [show Pm.row2 m 9 = #[.int .u8 (Pm.kindB m), .int .u8 (Pm.chr m 256 114), .int .u8 (Pm.chr m 128 119), .int .u8 (Pm.trd m 64 2048 115), .int .u8 (Pm.chr m 32 114), .int .u8 (Pm.chr m 16 119), .int .u8 (Pm.trd m 8 1024 115), .int .u8 (Pm.chr m 4 114), .int .u8 (Pm.chr m 2 119), .int .u8 (Pm.trd m 1 512 116)] from rfl, HE.out]⟩, by rw [it2_pos, it2_pos]; decide⟩
          · have HE : Hid (Pm.trd m 1 512 116 = Pm.spc 116 (Pm.chr m 1 120)) := by show _ = _; simp [Pm.trd, ht]
            rw [ht] at hb
            go_wp2_with (first | (go_at_call 27; refine (pSpecialAt 9 (by decide) (by decide) _).mono ?_; rintro e w' ⟨rfl, rfl⟩) | (go_at_call 28; refine (pSpecial 116 (Pm.chr m 1 120) (by decide) (by decide) _).mono ?_; rintro e w' ⟨rfl, rfl⟩))
            exact ⟨⟨9, by omega, by rw [show Pm.row2 m 9 = #[.int .u8 (Pm.kindB m), .int .u8 (Pm.chr m 256 114), .int .u8 (Pm.chr m 128 119), .int .u8 (Pm.trd m 64 2048 115), .int .u8 (Pm.chr m 32 114), .int .u8 (Pm.chr m 16 119), .int .u8 (Pm.trd m 8 1024 115), .int .u8 (Pm.chr m 4 114), .int .u8 (Pm.chr m 2 119), .int .u8 (Pm.trd m 1 512 116)] from rfl, HE.out]⟩, by rw [it2_pos, it2_pos]; decide⟩
        · have hnx : ∀ ty cs, (Instr.next (.pointer (some ⟨w.heap.size + 2, 0, none⟩)) true ty).run Try.prog (((w.alloc cs).iter ⟨#[114, 119, 120, 114, 119, 120, 114, 119, 120]⟩ 9).iter ⟨#[45, 45, 115, 45, 45, 115, 45, 45, 116]⟩ 9) = .ok (.tuple #[.bool false]) (((w.alloc cs).iter ⟨#[114, 119, 120, 114, 119, 120, 114, 119, 120]⟩ 9).iter ⟨#[45, 45, 115, 45, 45, 115, 45, 45, 116]⟩ 9) :=
            fun ty cs => nxt2_end w cs _ _ _ 9 ty (by decide)
          rw [show Pm.row2 m 9 = #[.int .u8 (Pm.kindB m), .int .u8 (Pm.chr m 256 114), .int .u8 (Pm.chr m 128 119), .int .u8 (Pm.trd m 64 2048 115), .int .u8 (Pm.chr m 32 114), .int .u8 (Pm.chr m 16 119), .int .u8 (Pm.trd m 8 1024 115), .int .u8 (Pm.chr m 4 114), .int .u8 (Pm.chr m 2 119), .int .u8 (Pm.trd m 1 512 116)] from rfl]
          have hcv := conv_it w (Pm.txtI m) (Pm.txtI_in m) 10 10 rfl ⟨#[114, 119, 120, 114, 119, 120, 114, 119, 120]⟩ 9 ⟨#[45, 45, 115, 45, 45, 115, 45, 45, 116]⟩ 9
          rw [show ((Pm.txtI m).map (Value.int .u8)).toArray = #[.int .u8 (Pm.kindB m), .int .u8 (Pm.chr m 256 114), .int .u8 (Pm.chr m 128 119), .int .u8 (Pm.trd m 64 2048 115), .int .u8 (Pm.chr m 32 114), .int .u8 (Pm.chr m 16 119), .int .u8 (Pm.trd m 8 1024 115), .int .u8 (Pm.chr m 4 114), .int .u8 (Pm.chr m 2 119), .int .u8 (Pm.trd m 1 512 116)] from rfl] at hcv
          have HB : Hid (∀ o R q S p, Below w.heap.size w (((w.alloc o).iter R q).iter S p)) := fun o R q S p => (((Below.refl _ _).alloc (Nat.le_refl _) _).alloc (by simp) _).alloc (by simp; omega) _
          go_wp2_with fail
          go_ret
          exact ⟨rfl, HB.out _ _ _ _ _⟩
end Go.Proofs.Ytmminmdmhefefaa
