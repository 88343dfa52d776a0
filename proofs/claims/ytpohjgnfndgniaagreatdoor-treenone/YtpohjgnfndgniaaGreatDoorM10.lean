/- Several texts of this claim, one behind the other, in their order. -/
import Derived.Test.YtpohjgnfndgniaaGreatDoorM2
import Derived.Laws.BytesString
import Derived.Test.YtpohjgnfndgniaaGreatDoorM7
import Derived.Laws.ResultCell
/- Bytes as a string. Condition: the slice can be read. -/
namespace Go.Proofs.YtpohjgnfndgniaaGreatDoor
open Go.RowKit
/-- The slice v can be read, as the bytes l. -/
def BytesAt (w : World) (v : Value) (l : List Nat) : Prop :=
  (∀ x ∈ l, x < 256) ∧ ∃ a cap, v = .slice a l.length cap ∧ (a = none → l = []) ∧ ∀ ad, a = some ad → ∀ j x, l[j]? = some x → w.cell? (ad.add j) = some (byteV x)
def strOf (l : List Nat) : ByteArray := ⟨(l.map UInt8.ofNat).toArray⟩
theorem strOf_foldl (l : List Nat) : ∀ s : ByteArray, (l.map Int.ofNat).foldl (fun r n => r.push (UInt8.ofNat n.toNat)) s = ⟨(s.data.toList ++ l.map UInt8.ofNat).toArray⟩ := by
  induction l with
  | nil => intro s; simp
  | cons x l ih =>
    intro s
    simp only [List.map_cons, List.foldl_cons]
    rw [ih]
    simp
theorem strOf_inj {a b : List Nat} (ha : ∀ x ∈ a, x < 256) (hb : ∀ x ∈ b, x < 256) (h : strOf a = strOf b) : a = b := by
  have h1 : a.map UInt8.ofNat = b.map UInt8.ofNat := by
    have := congrArg (fun s => s.data.toList) h
    simpa [strOf] using this
  have back : ∀ l : List Nat, (∀ x ∈ l, x < 256) → (l.map UInt8.ofNat).map UInt8.toNat = l := by
    intro l hl
    rw [List.map_map]
    conv => rhs; rw [← List.map_id l]
    exact List.map_congr_left fun x hx => by simp [Nat.mod_eq_of_lt (hl x hx)]
  rw [← back a ha, ← back b hb, h1]
theorem conv_bytes {w : World} {v : Value} {l : List Nat} (h : BytesAt w v l) : (convert 26 9 v).run Tryz.prog w = .ok (.string (strOf l)) w := by
  obtain ⟨hl, a, cap, rfl, hn, hs⟩ := h
  rw [run_convert_bytes_string w 26 9 5 a l.length cap (by kernel_rfl) (by kernel_rfl) (by kernel_rfl)]
  cases a with
  | none =>
    obtain rfl := hn rfl
    rfl
  | some ad =>
    have hload := run_loadCells_list (P := Tryz.prog) w ad (l.map byteV) (fun j v hv => by
      rw [List.getElem?_map, Option.map_eq_some_iff] at hv
      obtain ⟨x, hx, rfl⟩ := hv
      exact hs ad rfl j x hx)
    have := run_bytesToString (P := Tryz.prog) w ad l.length cap (l.map Int.ofNat) (by
      have e : (l.map Int.ofNat).map (Value.int .u8) = l.map byteV := by rw [List.map_map]; rfl
      rw [e]; simpa using hload)
    rw [this, strOf_foldl]
    rfl
end Go.Proofs.YtpohjgnfndgniaaGreatDoor
/- The table's calls on a table that no call made (nil, or the zero one): each answers nothing, and EFAULT. Condition: 'made' answers false of it. -/
namespace Go.Proofs.YtpohjgnfndgniaaGreatDoor
open Go.RowKit
theorem results_tmp4 {fn : Func} {a b c d : Tmp} (h : fn.results = #[.tmp a, .tmp b, .tmp c, .tmp d]) (tmps : Array Value) (P : Program) (w : World) :
    (results fn tmps).run P w = .ok (.tuple #[tmps.getD a undef, tmps.getD b undef, tmps.getD c undef, tmps.getD d undef]) w := by
  simp only [results, h]
  simp
/-- 'made' says no of this receiver. -/
def NoT (p : Value) (w : World) : Prop := Calls Tryz.prog 174 #[p] w fun e w' => e = .returned (.bool false) ∧ w' = w
theorem NoT.out {p : Value} {w : World} (h : NoT p w) : Calls Tryz.prog 174 #[p] w fun e w' => e = .returned (.bool false) ∧ w' = w := h
theorem find_none' (p v : Value) (w : World) (h : Calls Tryz.prog 174 #[p] w fun e w' => e = .returned (.bool false) ∧ w' = w) : Calls Tryz.prog 132 #[p, v] w fun e w' => e = .returned (.tuple #[.pointer none, .int .i64 14]) ∧ w' = w := by
  go_enter Tryz.func132, Tryz.ntmps132
  go_wp2_with (go_at_call 174; refine h.mono ?_; rintro e w1 ⟨rfl, hw1⟩; rw [hw1]; clear hw1 w1)
  go_ret2
  exact ⟨by simp, rfl⟩
set_option maxHeartbeats 400000 in
theorem tn_alloc (p : Value) (w : World) (H : NoT p w) (a b c : Value) : Calls Tryz.prog 139 #[p, a, b, c] w fun e w' => e = .returned (.tuple #[.int .i64 0, .int .i64 14]) ∧ w' = w := by
  go_enter Tryz.func139, Tryz.ntmps139
  go_wp2_with (first | (go_at_call 174; refine H.out.mono ?_; rintro e w1 ⟨rfl, hw1⟩; rw [hw1]; clear hw1 w1))
  go_ret2
  exact ⟨by simp, rfl⟩
set_option maxHeartbeats 400000 in
theorem tn_read (p : Value) (w : World) (H : NoT p w) (a b c : Value) : Calls Tryz.prog 105 #[p, a, b, c] w fun e w' => e = .returned (.tuple #[.slice none 0 0, .int .i64 14]) ∧ w' = w := by
  go_enter Tryz.func105, Tryz.ntmps105
  go_wp2_with (first | (go_at_call 132; refine (find_none' p _ w H.out).mono ?_; rintro e w1 ⟨rfl, hw1⟩; rw [hw1]; clear hw1 w1))
  go_ret2
  exact ⟨by simp, rfl⟩
set_option maxHeartbeats 400000 in
theorem tn_write (p : Value) (w : World) (H : NoT p w) (a b c : Value) : Calls Tryz.prog 79 #[p, a, b, c] w fun e w' => e = .returned (.tuple #[.int .i64 0, .int .i64 14]) ∧ w' = w := by
  go_enter Tryz.func79, Tryz.ntmps79
  go_wp2_with (first | (go_at_call 132; refine (find_none' p _ w H.out).mono ?_; rintro e w1 ⟨rfl, hw1⟩; rw [hw1]; clear hw1 w1))
  go_ret2
  exact ⟨by simp, rfl⟩
set_option maxHeartbeats 400000 in
theorem tn_owned (p : Value) (w : World) (H : NoT p w) (a : Value) : Calls Tryz.prog 114 #[p, a] w fun e w' => e = .returned (.tuple #[.slice none 0 0, .int .i64 14]) ∧ w' = w := by
  go_enter Tryz.func114, Tryz.ntmps114
  go_wp2_with (first | (go_at_call 132; refine (find_none' p _ w H.out).mono ?_; rintro e w1 ⟨rfl, hw1⟩; rw [hw1]; clear hw1 w1))
  go_ret2
  exact ⟨by simp, rfl⟩
set_option maxHeartbeats 400000 in
theorem tn_room (p : Value) (w : World) (H : NoT p w) : Calls Tryz.prog 115 #[p] w fun e w' => e = .returned (.tuple #[.int .i64 0, .int .i64 0, .int .i64 0, .int .i64 0]) ∧ w' = w := by
  go_enter Tryz.func115, Tryz.ntmps115
  go_wp2_with (first | (go_at_call 174; refine H.out.mono ?_; rintro e w1 ⟨rfl, hw1⟩; rw [hw1]; clear hw1 w1))
  exact bodyPost_ret (results_tmp4 rfl _ _ _) rfl ⟨rfl, rfl⟩
set_option maxHeartbeats 400000 in
theorem tn_clock (p : Value) (w : World) (H : NoT p w) (a : Value) : Calls Tryz.prog 116 #[p, a] w fun e w' => e = .returned (.tuple #[]) ∧ w' = w := by
  go_enter Tryz.func116, Tryz.ntmps116
  go_wp2_with (first | (go_at_call 174; refine H.out.mono ?_; rintro e w1 ⟨rfl, hw1⟩; rw [hw1]; clear hw1 w1))
  exact ⟨rfl, _, results_none rfl _ _ _, rfl, rfl⟩
set_option maxHeartbeats 400000 in
theorem tn_trunc (p : Value) (w : World) (H : NoT p w) (a b : Value) : Calls Tryz.prog 58 #[p, a, b] w fun e w' => e = .returned (.int .i64 14) ∧ w' = w := by
  go_enter Tryz.func58, Tryz.ntmps58
  go_wp2_with (first | (go_at_call 132; refine (find_none' p _ w H.out).mono ?_; rintro e w1 ⟨rfl, hw1⟩; rw [hw1]; clear hw1 w1))
  go_ret
  exact ⟨by simp, rfl⟩
set_option maxHeartbeats 400000 in
theorem tn_setmode (p : Value) (w : World) (H : NoT p w) (a b : Value) : Calls Tryz.prog 91 #[p, a, b] w fun e w' => e = .returned (.int .i64 14) ∧ w' = w := by
  go_enter Tryz.func91, Tryz.ntmps91
  go_wp2_with (first | (go_at_call 132; refine (find_none' p _ w H.out).mono ?_; rintro e w1 ⟨rfl, hw1⟩; rw [hw1]; clear hw1 w1))
  go_ret
  exact ⟨by simp, rfl⟩
set_option maxHeartbeats 400000 in
theorem tn_setowner (p : Value) (w : World) (H : NoT p w) (a b c : Value) : Calls Tryz.prog 94 #[p, a, b, c] w fun e w' => e = .returned (.int .i64 14) ∧ w' = w := by
  go_enter Tryz.func94, Tryz.ntmps94
  go_wp2_with (first | (go_at_call 132; refine (find_none' p _ w H.out).mono ?_; rintro e w1 ⟨rfl, hw1⟩; rw [hw1]; clear hw1 w1))
  go_ret
  exact ⟨by simp, rfl⟩
set_option maxHeartbeats 400000 in
theorem tn_settimes (p : Value) (w : World) (H : NoT p w) (a b c : Value) : Calls Tryz.prog 96 #[p, a, b, c] w fun e w' => e = .returned (.int .i64 14) ∧ w' = w := by
  go_enter Tryz.func96, Tryz.ntmps96
  go_wp2_with (first | (go_at_call 132; refine (find_none' p _ w H.out).mono ?_; rintro e w1 ⟨rfl, hw1⟩; rw [hw1]; clear hw1 w1))
  go_ret
  exact ⟨by simp, rfl⟩
set_option maxHeartbeats 400000 in
theorem tn_links (p : Value) (w : World) (H : NoT p w) (a b : Value) : Calls Tryz.prog 141 #[p, a, b] w fun e w' => e = .returned (.int .i64 14) ∧ w' = w := by
  go_enter Tryz.func141, Tryz.ntmps141
  go_wp2_with (first | (go_at_call 132; refine (find_none' p _ w H.out).mono ?_; rintro e w1 ⟨rfl, hw1⟩; rw [hw1]; clear hw1 w1))
  go_ret
  exact ⟨by simp, rfl⟩
set_option maxHeartbeats 400000 in
theorem tn_hold (p : Value) (w : World) (H : NoT p w) (a : Value) : Calls Tryz.prog 100 #[p, a] w fun e w' => e = .returned (.int .i64 14) ∧ w' = w := by
  go_enter Tryz.func100, Tryz.ntmps100
  go_wp2_with (first | (go_at_call 132; refine (find_none' p _ w H.out).mono ?_; rintro e w1 ⟨rfl, hw1⟩; rw [hw1]; clear hw1 w1))
  go_ret
  exact ⟨by simp, rfl⟩
set_option maxHeartbeats 400000 in
theorem tn_release (p : Value) (w : World) (H : NoT p w) (a : Value) : Calls Tryz.prog 101 #[p, a] w fun e w' => e = .returned (.int .i64 14) ∧ w' = w := by
  go_enter Tryz.func101, Tryz.ntmps101
  go_wp2_with (first | (go_at_call 132; refine (find_none' p _ w H.out).mono ?_; rintro e w1 ⟨rfl, hw1⟩; rw [hw1]; clear hw1 w1))
  go_ret
  exact ⟨by simp, rfl⟩
set_option maxHeartbeats 400000 in
theorem tn_is (p : Value) (w : World) (H : NoT p w) (a : Value) : Calls Tryz.prog 143 #[p, a] w fun e w' => e = .returned (.bool false) ∧ w' = w := by
  go_enter Tryz.func143, Tryz.ntmps143
  go_wp2_with (first | (go_at_call 132; refine (find_none' p _ w H.out).mono ?_; rintro e w1 ⟨rfl, hw1⟩; rw [hw1]; clear hw1 w1))
  go_ret
  exact ⟨by simp, rfl⟩
set_option maxHeartbeats 400000 in
theorem tn_used (p : Value) (w : World) (H : NoT p w) : Calls Tryz.prog 118 #[p] w fun e w' => e = .returned (.slice none 0 0) ∧ w' = w := by
  go_enter Tryz.func118, Tryz.ntmps118
  go_wp2_with (first | (go_at_call 174; refine H.out.mono ?_; rintro e w1 ⟨rfl, hw1⟩; rw [hw1]; clear hw1 w1))
  go_ret
  exact ⟨by simp, rfl⟩
set_option maxHeartbeats 400000 in
theorem tn_blocks (p : Value) (w : World) (H : NoT p w) : Calls Tryz.prog 117 #[p] w fun e w' => e = .returned (.slice none 0 0) ∧ w' = w := by
  go_enter Tryz.func117, Tryz.ntmps117
  go_wp2_with (first | (go_at_call 174; refine H.out.mono ?_; rintro e w1 ⟨rfl, hw1⟩; rw [hw1]; clear hw1 w1))
  go_ret
  exact ⟨by simp, rfl⟩
set_option maxHeartbeats 400000 in
theorem tn_now (p : Value) (w : World) (H : NoT p w) : Calls Tryz.prog 119 #[p] w fun e w' => e = .returned (.int .i64 0) ∧ w' = w := by
  go_enter Tryz.func119, Tryz.ntmps119
  go_wp2_with (first | (go_at_call 174; refine H.out.mono ?_; rintro e w1 ⟨rfl, hw1⟩; rw [hw1]; clear hw1 w1))
  go_ret
  exact ⟨by simp, rfl⟩
set_option maxHeartbeats 400000 in
theorem tn_copy (p : Value) (w : World) (H : NoT p w) : Calls Tryz.prog 120 #[p] w fun e w' => e = .returned (.pointer none) ∧ w' = w := by
  go_enter Tryz.func120, Tryz.ntmps120
  go_wp2_with (first | (go_at_call 174; refine H.out.mono ?_; rintro e w1 ⟨rfl, hw1⟩; rw [hw1]; clear hw1 w1))
  go_ret
  exact ⟨by simp, rfl⟩
abbrev zeroS : Array Value := #[.int .i64 0, .int .i64 0, .int .i64 0, .int .i64 0, .int .i64 0, .int .i64 0, .int .i64 0, .int .i64 0, .int .i64 0, .int .i64 0]
theorem zvS (w : World) : (zeroValue 38).run Tryz.prog w = .ok (.agg zeroS) w := by kernel_rfl
set_option maxHeartbeats 400000 in
theorem tn_stat (p : Value) (w : World) (H : NoT p (w.alloc (.cells zeroS 38))) (a : Value) : Calls Tryz.prog 107 #[p, a] w fun e w' => e = .returned (.tuple #[.agg zeroS, .int .i64 14]) ∧ w' = w.alloc (.cells zeroS 38) := by
  have HF : Hid (Calls Tryz.prog 132 #[p, a] (w.alloc (.cells zeroS 38)) fun e w' => e = .returned (.tuple #[.pointer none, .int .i64 14]) ∧ w' = w.alloc (.cells zeroS 38)) := find_none' p a _ H
  clear H
  go_enter Tryz.func107, Tryz.ntmps107
  go_wp2_with (first | (go_at_call 132; refine HF.out.mono ?_; rintro e w1 ⟨rfl, hw1⟩; rw [hw1]; clear hw1 w1))

  refine bodyPost_ret (v := .tuple #[.agg zeroS, .int .i64 14]) ?_ rfl ⟨rfl, rfl⟩
  rw [results_cell_tmp (fn := Tryz.f107) (p := 4) (ty := 38) (u := 5) rfl]
  simp [go_sem, zeroS]
end Go.Proofs.YtpohjgnfndgniaaGreatDoor
