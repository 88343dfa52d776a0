/- Several texts of this claim, one behind the other, in their order. -/
import Derived.Test.YtfmemkninmpfjaaGreatDoorM2
import Derived.Laws.BytesString
import Derived.Test.YtfmemkninmpfjaaGreatDoorM3
import Derived.Test.YtfmemkninmpfjaaGreatDoorM7
import Derived.Test.YtfmemkninmpfjaaGreatDoorShelf
import Derived.Lib.Strings
import Derived.Lib.Join
import Derived.Lib.Bytealg
import Derived.Shelf.Strings.Trim
/- Bytes as a string. Condition: the slice can be read. -/
namespace Go.Proofs.YtfmemkninmpfjaaGreatDoor
open Go.RowKit
/-- The slice v can be read, as the bytes l. -/
def BytesAt (w : World) (v : Value) (l : List Nat) : Prop :=
  (∀ x ∈ l, x < 256) ∧ ∃ a cap, v = .slice a l.length cap ∧ (a = none → l = []) ∧ ∀ ad, a = some ad → ∀ j x, l[j]? = some x → w.cell? (ad.add j) = some (byteV x)
def strOf (l : List Nat) : ByteArray := ⟨(l.map UInt8.ofNat).toArray⟩
theorem strOf_foldl (l : List Nat) : ∀ s : ByteArray, (l.map Int.ofNat).foldl (fun r n => r.push (UInt8.ofNat n.toNat)) s = ⟨(s.data.toList ++ l.map UInt8.ofNat).toArray⟩ := by
  induction l with
  | nil => intro s; simp
  | cons x l ih =>
    intro s
    simp only [List.map_cons, List.foldl_cons]
    rw [ih]
    simp
theorem strOf_inj {a b : List Nat} (ha : ∀ x ∈ a, x < 256) (hb : ∀ x ∈ b, x < 256) (h : strOf a = strOf b) : a = b := by
  have h1 : a.map UInt8.ofNat = b.map UInt8.ofNat := by
    have := congrArg (fun s => s.data.toList) h
    simpa [strOf] using this
  have back : ∀ l : List Nat, (∀ x ∈ l, x < 256) → (l.map UInt8.ofNat).map UInt8.toNat = l := by
    intro l hl
    rw [List.map_map]
    conv => rhs; rw [← List.map_id l]
    exact List.map_congr_left fun x hx => by simp [Nat.mod_eq_of_lt (hl x hx)]
  rw [← back a ha, ← back b hb, h1]
theorem conv_bytes {w : World} {v : Value} {l : List Nat} (h : BytesAt w v l) : (convert 28 9 v).run Tryz.prog w = .ok (.string (strOf l)) w := by
  obtain ⟨hl, a, cap, rfl, hn, hs⟩ := h
  rw [run_convert_bytes_string w 28 9 5 a l.length cap (by kernel_rfl) (by kernel_rfl) (by kernel_rfl)]
  cases a with
  | none =>
    obtain rfl := hn rfl
    rfl
  | some ad =>
    have hload := run_loadCells_list (P := Tryz.prog) w ad (l.map byteV) (fun j v hv => by
      rw [List.getElem?_map, Option.map_eq_some_iff] at hv
      obtain ⟨x, hx, rfl⟩ := hv
      exact hs ad rfl j x hx)
    have := run_bytesToString (P := Tryz.prog) w ad l.length cap (l.map Int.ofNat) (by
      have e : (l.map Int.ofNat).map (Value.int .u8) = l.map byteV := by rw [List.map_map]; rfl
      rw [e]; simpa using hload)
    rw [this, strOf_foldl]
    rfl
end Go.Proofs.YtfmemkninmpfjaaGreatDoor
/- A slot: the walks of ino and free. Condition: the array holds 32 bytes. -/
namespace Go.Proofs.YtfmemkninmpfjaaGreatDoor
open Go.RowKit
/-- A list of values that are the bytes of a slot. -/
structure Slot (L : List Value) (s : Nat → Nat) : Prop where
  len : L.length = 32
  at_ : ∀ j, j < 32 → L[j]? = some (.int .u8 (s j : Nat))
  lt : ∀ j, s j < 256
def zeroSl : Array Value := Array.replicate 32 (.int .u8 0)
theorem sizeSl : zeroSl.size = 32 := rfl
theorem zvSl (w : World) : (zeroValue 109).run Tryz.prog w = .ok (.agg zeroSl) w := by kernel_rfl
theorem undS : Tryz.prog.underlying 109 = some (.array 32 5) := by kernel_rfl
theorem infS : (Tryz.prog.info? 109).map (·.size) = some 32 := by kernel_rfl
theorem Slot.one {L : List Value} {s : Nat → Nat} (h : Slot L s) : ∀ v ∈ L, v.oneCell' = true := fun v hv => by
  obtain ⟨j, hj, rfl⟩ := List.getElem_of_mem hv
  have := h.at_ j (by have := h.len; omega)
  rw [List.getElem?_eq_getElem hj] at this
  rw [Option.some.inj this]; rfl
theorem Slot.inf {L : List Value} {s : Nat → Nat} (h : Slot L s) : (Tryz.prog.info? 109).map (·.size) = some L.length := by rw [h.len]; exact infS
theorem range_new (w : World) (L : List Value) (t : TypeId) : (w.alloc (.cells L.toArray t)).rangeAt w.heap.size 0 L := fun j v hv => by
  rw [Nat.zero_add, World.cell?_alloc_at _ _ _ _ rfl]; simpa using hv
set_option maxRecDepth 100000 in
set_option maxHeartbeats 1000000 in
theorem sIno (L : List Value) (s : Nat → Nat) (w : World) (h : Slot L s) : Calls Tryz.prog 60 #[.agg L.toArray] w fun e w' => e = .returned (.int .i64 (le4 s 0 : Nat)) ∧ Below w.heap.size w w' := by
  have HC : Hid (∀ j, j < 32 → (w.alloc (.cells L.toArray 109)).cell? ⟨w.heap.size, j, none⟩ = some (.int .u8 (s j : Nat))) := fun j hj => by
    rw [World.cell?_alloc_at _ _ _ _ rfl]; simpa using h.at_ j hj
  have HD := (show Hid (∀ j, s j < 256) from h.lt)
  have hsz : L.toArray.size = 32 := by simpa using h.len
  generalize L.toArray = A at *
  clear h
  go_enter Tryz.func60, Tryz.ntmps60
  go_wp2
  go_loop [3, 5] (fun x y => ∃ j z : Nat, j ≤ 4 ∧ y = .int .i64 j ∧ x = .int .i64 (z : Nat) ∧ Hid (z = lePart s 0 j)) (fun _ y => 4 - (intOf y).toNat)
  case atStart => exact ⟨0, 0, by omega, rfl, rfl, rfl⟩
  case round =>
    obtain ⟨j, z, hj, rfl, rfl, HZ⟩ := hrel
    by_cases hlj : j < 4
    · have hc := HC.out j (by omega)
      have hstep := le_step s HD.out 0 j hlj
      rw [Nat.zero_add, ← HZ.out] at hstep
      have hb := HD.out j
      generalize s j = y at *
      obtain ⟨z', HZ'⟩ : ∃ z', Hid (z' = lePart s 0 (j + 1)) := ⟨_, rfl⟩
      rw [← HZ'.out] at hstep
      obtain rfl | rfl | rfl | rfl : j = 0 ∨ j = 1 ∨ j = 2 ∨ j = 3 := by omega
      all_goals go_wp2
      · rw [show ((y * 2 ^ (8 * 0) : Nat) : Int) = (y : Int) by simp] at hstep
        rw [hstep]
        exact ⟨⟨1, _, by omega, rfl, rfl, HZ'⟩, by simp [intOf]⟩
      · rw [show ((y * 2 ^ (8 * 1) : Nat) : Int) = (y : Int) * 256 by omega] at hstep
        rw [hstep]
        exact ⟨⟨2, _, by omega, rfl, rfl, HZ'⟩, by simp [intOf]⟩
      · rw [show ((y * 2 ^ (8 * 2) : Nat) : Int) = (y : Int) * 65536 by omega] at hstep
        rw [hstep]
        exact ⟨⟨3, _, by omega, rfl, rfl, HZ'⟩, by simp [intOf]⟩
      · rw [show ((y * 2 ^ (8 * 3) : Nat) : Int) = (y : Int) * 16777216 by omega] at hstep
        rw [hstep]
        exact ⟨⟨4, _, by omega, rfl, rfl, HZ'⟩, by simp [intOf]⟩
    · obtain rfl : j = 4 := by omega
      go_wp2
      go_ret
      exact ⟨by rw [HZ.out]; rfl, (Below.refl _ _).alloc (Nat.le_refl _) _⟩
theorem nat_beq0 (n : Nat) : ((n : Int) == 0) = decide (n = 0) := by
  by_cases h : n = 0
  · subst h; rfl
  · simp [h]
set_option maxRecDepth 100000 in
set_option maxHeartbeats 1000000 in
theorem sFree (L : List Value) (s : Nat → Nat) (w : World) (h : Slot L s) : Calls Tryz.prog 97 #[.agg L.toArray] w fun e w' => e = .returned (.bool (decide (le4 s 0 = 0))) ∧ Below w.heap.size w w' := by
  have HH : Hid (Slot L s) := h
  have HR : Hid ((w.alloc (.cells L.toArray 109)).rangeAt w.heap.size 0 L) := range_new w L _
  clear h
  go_enter Tryz.func97, Tryz.ntmps97
  go_wp2_with (first | (refine wpList_load_mid rfl 109 _ rfl w.heap.size 0 rfl L _ HR.out undS rfl HH.out.inf ?_) | (go_at_call 60; refine (sIno L s _ HH.out).mono ?_; rintro e w1 ⟨rfl, HB1⟩))
  go_ret
  refine ⟨?_, ((Below.refl w.heap.size w).alloc (Nat.le_refl _) _).trans (HB1.mono (by simp))⟩
  show Ending.returned (.bool (((le4 s 0 : Nat) : Int) == 0)) = _
  rw [nat_beq0]
end Go.Proofs.YtfmemkninmpfjaaGreatDoor
/- A slot: the walks of with and count. Condition: the array holds 32 bytes. -/
namespace Go.Proofs.YtfmemkninmpfjaaGreatDoor
open Go.RowKit
def wth (s : Nat → Nat) (n j : Nat) : Nat → Nat := fun i => if i < j then n / 2 ^ (8 * i) % 256 else s i
structure WithAt (A : Array Value) (s : Nat → Nat) (n j : Nat) : Prop where
  size : A.size = 32
  at_ : ∀ i, i < 32 → A[i]? = some (.int .u8 (wth s n j i : Nat))
theorem WithAt.next {A : Array Value} {s : Nat → Nat} {n j x : Nat} (h : WithAt A s n j) (hj : j < 32) (hx : x = n / 2 ^ (8 * j) % 256) : WithAt (A.setIfInBounds j (.int .u8 (x : Nat))) s n (j + 1) := by
  refine ⟨by simpa using h.size, fun i hi => ?_⟩
  by_cases e : i = j
  · subst e
    rw [Array.getElem?_setIfInBounds_self_of_lt (by rw [h.size]; exact hj), hx]
    simp [wth]
  · rw [Array.getElem?_setIfInBounds_ne (fun h => e h.symm), h.at_ i hi]
    have : (i < j) ↔ (i < j + 1) := by omega
    simp only [wth, this]
theorem below_setCells {n : Nat} {a w : World} (h : Below n a w) {b : Nat} (hb : n ≤ b) (L : List Value) : ∀ o, Below n a (w.setCells b o L) := by
  induction L generalizing w with
  | nil => intro o; exact h
  | cons v r ih => intro o; exact ih (h.setCell (p := ⟨b, o, none⟩) hb v) (o + 1)
set_option maxRecDepth 100000 in
set_option maxHeartbeats 1000000 in
theorem sWith (L : List Value) (s : Nat → Nat) (n : Nat) (w : World) (h : Slot L s) (hn : n < 4294967296) : Calls Tryz.prog 69 #[.agg L.toArray, .int .i64 n] w fun e w' => (∃ L', e = .returned (.agg L'.toArray) ∧ Slot L' (wth s n 4)) ∧ Below w.heap.size w w' := by
  have HH : Hid (Slot L s) := h
  have hz := zvSl
  have HA : Hid (WithAt L.toArray s n 0) := ⟨by simpa using h.len, fun i hi => by simpa [wth] using h.at_ i hi⟩
  clear h
  generalize L.toArray = A at *
  go_enter Tryz.func69, Tryz.ntmps69
  go_wp2
  go_loopw [6] (fun x W => ∃ (j : Nat) (A' : Array Value), j ≤ 4 ∧ x = .int .i64 j ∧ W = (w.alloc (.cells A' 109)).alloc (.cells zeroSl 109) ∧ Hid (WithAt A' s n j)) (fun x _ => 4 - (intOf x).toNat)
  case atStart => exact ⟨0, A, by omega, rfl, rfl, HA⟩
  case round =>
    obtain ⟨j, A', hj, rfl, rfl, HJ⟩ := hrel
    by_cases hlj : j < 4
    · have hsz := HJ.out.size
      have hcl : (w.alloc (.cells A' 109)).cell? ⟨w.heap.size, j, none⟩ = some (.int .u8 (wth s n j j : Nat)) := by rw [World.cell?_alloc_at _ _ _ _ rfl]; exact HJ.out.at_ j (by omega)
      generalize wth s n j j = y0 at *
      obtain rfl | rfl | rfl | rfl : j = 0 ∨ j = 1 ∨ j = 2 ∨ j = 3 := by omega
      all_goals go_wp2
      · rw [show ((n : Int) % 256) = ((n / 2 ^ (8 * 0) % 256 : Nat) : Int) by simp]
        exact ⟨⟨1, _, by omega, rfl, rfl, HJ.out.next (by omega) rfl⟩, by simp [intOf]⟩
      · rw [show ((n : Int) / 256 % 256) = ((n / 2 ^ (8 * 1) % 256 : Nat) : Int) by omega]
        exact ⟨⟨2, _, by omega, rfl, rfl, HJ.out.next (by omega) rfl⟩, by simp [intOf]⟩
      · rw [show ((n : Int) / 65536 % 256) = ((n / 2 ^ (8 * 2) % 256 : Nat) : Int) by omega]
        exact ⟨⟨3, _, by omega, rfl, rfl, HJ.out.next (by omega) rfl⟩, by simp [intOf]⟩
      · rw [show ((n : Int) / 16777216) = ((n / 2 ^ (8 * 3) % 256 : Nat) : Int) by omega]
        exact ⟨⟨4, _, by omega, rfl, rfl, HJ.out.next (by omega) rfl⟩, by simp [intOf]⟩
    · obtain rfl : j = 4 := by omega
      obtain ⟨L', hL'⟩ : ∃ L', L' = A'.toList := ⟨_, rfl⟩
      obtain rfl : A' = L'.toArray := by rw [hL']
      have HS' : Hid (Slot L' (wth s n 4)) := ⟨by simpa using HJ.out.size, fun i hi => by simpa using HJ.out.at_ i hi, fun i => by
        unfold wth; split
        · exact Nat.mod_lt _ (by omega)
        · exact HH.out.lt i⟩
      clear hL'
      have HR : Hid (((w.alloc (.cells L'.toArray 109)).alloc (.cells zeroSl 109)).rangeAt w.heap.size 0 L') := World.rangeAt_alloc (range_new w L' _) _
      have HTh : Hid (((w.alloc (.cells L'.toArray 109)).alloc (.cells zeroSl 109)).there (w.heap.size + 1) 0 L'.toArray.size) := by
        have := there_new (w.alloc (.cells L'.toArray 109)) 109 zeroSl (n := 32) sizeSl
        rw [World.size_alloc] at this
        show World.there _ _ _ _
        rw [show L'.toArray.size = 32 by simpa using HS'.out.len]; exact this
      have HI : Hid ((Tryz.prog.info? 109).map (·.size) = some L'.toArray.size) := by show _ = _; rw [show L'.toArray.size = L'.length by simp]; exact HS'.out.inf
      go_wp2_with (first | (refine wpList_load_mid rfl 109 _ rfl w.heap.size 0 rfl L' _ HR.out undS rfl HS'.out.inf ?_) | (refine wpList_store_mid rfl 109 _ _ rfl (w.heap.size + 1) 0 L'.toArray rfl rfl HTh.out HI.out (all_oneCell_toArray HS'.out.one) ?_))
      have hq := World.rangeAt_setCells_same _ (w.heap.size + 1) 0 L' (by have := HTh.out; simpa using this)
      refine bodyPost_ret (v := .agg L'.toArray) (results_cell1 rfl _ _ _ _ rfl (run_loadVar_mid _ _ _ _ L' _ hq undS rfl HS'.out.inf)) rfl ⟨⟨L', rfl, HS'.out⟩, ?_⟩
      exact below_setCells (((Below.refl w.heap.size w).alloc (Nat.le_refl _) _).alloc (by simp) _) (by omega) _ _
end Go.Proofs.YtfmemkninmpfjaaGreatDoor
/- Plain facts on lists of bytes: names between slashes, clean paths, their texts. No condition. -/
namespace Go.Proofs.YtfmemkninmpfjaaGreatDoor
namespace Pa
/-- One byte more: the names so far, and the name that is being read. -/
def nmStep (st : List (List UInt8) × List UInt8) (c : UInt8) : List (List UInt8) × List UInt8 :=
  if c = 47 then (if st.2 = [] then st.1 else st.1 ++ [st.2], []) else (st.1, st.2 ++ [c])
def nmFold (l : List UInt8) : List (List UInt8) × List UInt8 := l.foldl nmStep ([], [])
/-- The names of a path: what stands between slashes. -/
def nms (l : List UInt8) : List (List UInt8) := if (nmFold l).2 = [] then (nmFold l).1 else (nmFold l).1 ++ [(nmFold l).2]
def absB (l : List UInt8) : Bool := l.head? == some 47
def dd : List UInt8 := [46, 46]
def clStep (a : Bool) (out : List (List UInt8)) (n : List UInt8) : List (List UInt8) :=
  if n = [46] then out
  else if n = dd then (if out ≠ [] ∧ out.getLast? ≠ some dd then out.dropLast else if a then out else out ++ [n])
  else out ++ [n]
/-- The names that are left when a path is clean. -/
def cl (a : Bool) (ns : List (List UInt8)) : List (List UInt8) := ns.foldl (clStep a) []
def lft (l : List UInt8) : List (List UInt8) := cl (absB l) (nms l)
def jn (ns : List (List UInt8)) : List UInt8 := Lib.join ns [47]
/-- The path of parts. -/
def strg (a : Bool) (ns : List (List UInt8)) (sl : Bool) : List UInt8 :=
  if ns = [] ∧ a = false then [46] else (if a then [47] else []) ++ jn ns ++ (if sl ∧ ns ≠ [] then [47] else [])
def clean (l : List UInt8) : List UInt8 := strg (absB l) (lft l) false
def some' (xs : List (List UInt8)) : List (List UInt8) := xs.filter (fun x => !x.isEmpty)
def join (xs : List (List UInt8)) : List UInt8 := if some' xs = [] then [] else clean (jn (some' xs))
def splC (l : List UInt8) : Int :=
  if l = [] then 2 else if 255 < l.length then 36 else if (nms l).any (fun n => decide (27 < n.length)) then 36 else if l.contains 0 then 22 else 0
def splA (l : List UInt8) : Bool := decide (splC l = 0) && absB l
def splN (l : List UInt8) : List (List UInt8) := if splC l = 0 then nms l else []
def splS (l : List UInt8) : Bool := decide (splC l = 0) && (decide (nms l ≠ []) && (l.getLast? == some 47))
theorem nmFold_snoc (l : List UInt8) (c : UInt8) : nmFold (l ++ [c]) = nmStep (nmFold l) c := by simp [nmFold]
theorem fold_first (r : List UInt8) : ∀ (p : List (List UInt8)) (q : List UInt8), r.foldl nmStep (p, q) = (p ++ (r.foldl nmStep ([], q)).1, (r.foldl nmStep ([], q)).2) := by
  induction r with
  | nil => intro p q; simp
  | cons c r ih =>
    intro p q
    simp only [List.foldl_cons]
    by_cases h : c = 47
    · by_cases hq : q = []
      · have e : ∀ p : List (List UInt8), nmStep (p, q) c = (p, []) := by intro p; simp [nmStep, h, hq]
        rw [e, e, ih]
      · have e : ∀ p : List (List UInt8), nmStep (p, q) c = (p ++ [q], []) := by intro p; simp [nmStep, h, hq]
        rw [e, e, ih, ih ([] ++ [q])]; simp
    · have e : ∀ p : List (List UInt8), nmStep (p, q) c = (p, q ++ [c]) := by intro p; simp [nmStep, h]
      rw [e, e, ih]
theorem fold_plain (s : List UInt8) (hs : 47 ∉ s) : ∀ (p : List (List UInt8)) (q : List UInt8), s.foldl nmStep (p, q) = (p, q ++ s) := by
  induction s with
  | nil => intro p q; simp
  | cons c s ih =>
    intro p q
    have hc : c ≠ 47 := fun e => hs (by simp [e])
    have hs' : 47 ∉ s := fun h => hs (by simp [h])
    simp [nmStep, hc, ih hs']
/-- No slash: one name, if it is not empty. -/
theorem nms_plain (s : List UInt8) (hs : 47 ∉ s) : nms s = if s = [] then [] else [s] := by
  have e : nmFold s = ([], s) := by rw [nmFold, fold_plain s hs]; simp
  rw [nms, e]; by_cases h : s = [] <;> simp [h]
/-- Up to the first slash, and behind it. -/
theorem nms_cut (s r : List UInt8) (hs : 47 ∉ s) : nms (s ++ 47 :: r) = (if s = [] then [] else [s]) ++ nms r := by
  have e : nmFold (s ++ 47 :: r) = ((if s = [] then [] else [s]) ++ (nmFold r).1, (nmFold r).2) := by
    rw [nmFold, List.foldl_append, fold_plain s hs, List.foldl_cons]
    by_cases h : s = []
    · simp only [nmStep, h, if_true, List.nil_append, List.append_nil]; rw [fold_first]; simp [nmFold]
    · have : nmStep ([], [] ++ s) 47 = ([s], []) := by simp [nmStep, h]
      rw [this, fold_first]; simp [h, nmFold]
  unfold nms; rw [e]; by_cases h : (nmFold r).2 = [] <;> simp [h]
theorem indexByte_cut (c : UInt8) : ∀ (l : List UInt8), (Lib.indexByte l c = -1 ∧ c ∉ l) ∨ (∃ k : Nat, Lib.indexByte l c = k ∧ k < l.length ∧ c ∉ l.take k ∧ l = l.take k ++ c :: l.drop (k + 1))
  | [] => .inl ⟨rfl, by simp⟩
  | b :: l => by
    by_cases h : b = c
    · subst h; exact .inr ⟨0, by simp [Lib.indexByte], by simp, by simp, by simp⟩
    · rcases indexByte_cut c l with ⟨e, hn⟩ | ⟨k, e, hk, hn, hl⟩
      · exact .inl ⟨by simp [Lib.indexByte, h, e], by simp [hn, Ne.symm h]⟩
      · refine .inr ⟨k + 1, ?_, by simp; omega, by simp [hn, Ne.symm h], ?_⟩
        · have : ((k : Int) == -1) = false := by rw [beq_eq_false_iff_ne]; omega
          simp [Lib.indexByte, h, e, this]
        · simp only [List.take_succ_cons, List.drop_succ_cons, List.cons_append]; rw [← hl]
theorem nms_nil : nms [] = [] := rfl
theorem nms_length_aux (n : Nat) : ∀ l : List UInt8, l.length ≤ n → (nms l).length ≤ l.length := by
  induction n with
  | zero => intro l h; have : l = [] := List.length_eq_zero_iff.1 (by omega); subst this; simp [nms_nil]
  | succ n ih =>
    intro l h
    rcases indexByte_cut 47 l with ⟨_, hn⟩ | ⟨k, _, hk, hn, hl⟩
    · rw [nms_plain l hn]; split
      · simp
      · rename_i hne; have := List.length_pos_iff.2 hne; simp; omega
    · rw [hl, nms_cut _ _ hn]
      have h2 := ih (l.drop (k + 1)) (by simp; omega)
      simp only [List.length_drop] at h2
      simp only [List.length_append, List.length_cons, List.length_take, List.length_drop]
      split
      · simp; omega
      · rename_i hne; have := List.length_pos_iff.2 hne; simp at this; simp; omega
theorem nms_length (l : List UInt8) : (nms l).length ≤ l.length := nms_length_aux _ l (Nat.le_refl _)
end Pa
end Go.Proofs.YtfmemkninmpfjaaGreatDoor
