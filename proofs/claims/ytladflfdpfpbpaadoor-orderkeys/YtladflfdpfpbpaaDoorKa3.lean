/- The walk of the program's letterFlags. Condition: a text that fits. -/
import Derived.Test.YtladflfdpfpbpaaDoorKa2
import Derived.Laws.IdiomStrings
namespace Go.Proofs.YtladflfdpfpbpaaDoor
open Go.RowKit
attribute [local go_sem] ext_eq app_eq get_eq
theorem conv_str (s : List UInt8) (w : World) : ∃ (c : Nat) (W : World), (convert 9 55 (.string ⟨s.toArray⟩)).run Tryd.prog w = .ok (.slice (some ⟨w.heap.size, 0, none⟩) s.length c) W ∧ (∀ j (h : j < s.length), W.cell? ⟨w.heap.size, j, none⟩ = some (.int .u8 s[j].toNat)) ∧ Below w.heap.size w W := by
  refine ⟨_, _, run_bytes_of_string w 9 55 5 ⟨s.toArray⟩ Tryd.underlying9 Tryd.underlying55 Tryd.underlying5, fun j hj => ?_, (bl_drew w 1).alloc (Nat.le_refl _) _⟩
  have h1 : ∀ (o : Obj), (w.drew.alloc o).heap[w.heap.size]? = some o := fun o => by show (w.heap.push o)[w.heap.size]? = _; simp
  simp only [World.cell?, h1]
  simp [bytesRow, Array.getElem?_append, hj]
namespace Ok
theorem fl_take {s : List UInt8} {k : Nat} (h : k < s.length) : fl (s.take (k + 1)) = orI (fl (s.take k)) (lf s[k]) := by
  unfold fl
  rw [List.take_succ_eq_append_getElem h, List.foldl_append]; rfl
theorem all_take {s : List UInt8} {k : Nat} (h : k < s.length) (hk : (s.take k).all lt = true) : (s.take (k + 1)).all lt = lt s[k] := by
  rw [List.take_succ_eq_append_getElem h, List.all_append, hk]; simp
theorem all_no {s : List UInt8} {k : Nat} (h : (s.take k).all lt = false) : s.all lt = false := by
  rw [← List.take_append_drop k s, List.all_append, h]; rfl
end Ok
set_option maxRecDepth 100000 in
set_option maxHeartbeats 2000000 in
theorem kLF (s : List UInt8) (hs : s.length ≤ 2 ^ 60) (w : World) : Calls Tryd.prog 17 #[.string ⟨s.toArray⟩] w fun e w' => e = .returned (.tuple #[.int .i64 (if s.all Ok.lt then Ok.fl s else 0), .bool (s.all Ok.lt)]) ∧ Below w.heap.size w w' := by
  obtain ⟨c, W, hcv, hcell, hB⟩ := conv_str s w
  have HC := hidA hcell
  have HB := hidA hB
  clear hcell hB
  obtain ⟨R1, HR1⟩ : ∃ r : Int, Hid (r = if s.all Ok.lt then Ok.fl s else 0) := ⟨_, hidA rfl⟩
  obtain ⟨R2, HR2⟩ : ∃ r : Bool, Hid (r = s.all Ok.lt) := ⟨_, hidA rfl⟩
  rw [← HR1.out, ← HR2.out]
  generalize w.heap.size = g at *
  go_enter Tryd.func17, Tryd.ntmps17
  go_wp2
  go_loop [4, 10] (fun s4 s10 => ∃ (k : Nat) (A : Int), k ≤ s.length ∧ s10 = .int .i64 k ∧ s4 = .int .i64 A ∧ Hid (A = Ok.fl (s.take k)) ∧ Hid ((s.take k).all Ok.lt = true)) (fun _ s10 => s.length - (intOf s10).toNat)
  case atStart => exact ⟨0, 0, Nat.zero_le _, rfl, rfl, hidA rfl, hidA rfl⟩
  case round =>
    obtain ⟨k, A, hk, rfl, rfl, HA, HL⟩ := hrel
    by_cases hlt : k < s.length
    · have hw1 : IntKind.i64.wrap ((k : Int) + 1) = ((k + 1 : Nat) : Int) := by rw [IntKind.wrap_i64]; omega
      have hc := HC.out k hlt
      have HE := hidA (Ok.fl_take hlt)
      have HT := hidA (Ok.all_take hlt HL.out)
      rw [← HA.out] at HE
      clear HC HA HL
      generalize s[k] = x at *
      by_cases h110 : x = 110
      · subst h110
        go_wp2
        exact ⟨⟨k + 1, Ok.orI A (Ok.lf 110), hlt, by first | rfl | go_num, rfl, hidA HE.out.symm, hidA (by rw [HT.out]; rfl)⟩, by simp [intOf]; omega⟩
      have e110 := byte_no x 110 110 rfl h110
      by_cases h114 : x = 114
      · subst h114
        go_wp2
        exact ⟨⟨k + 1, Ok.orI A (Ok.lf 114), hlt, by first | rfl | go_num, rfl, hidA HE.out.symm, hidA (by rw [HT.out]; rfl)⟩, by simp [intOf]; omega⟩
      have e114 := byte_no x 114 114 rfl h114
      by_cases h102 : x = 102
      · subst h102
        go_wp2
        exact ⟨⟨k + 1, Ok.orI A (Ok.lf 102), hlt, by first | rfl | go_num, rfl, hidA HE.out.symm, hidA (by rw [HT.out]; rfl)⟩, by simp [intOf]; omega⟩
      have e102 := byte_no x 102 102 rfl h102
      by_cases h98 : x = 98
      · subst h98
        go_wp2
        exact ⟨⟨k + 1, Ok.orI A (Ok.lf 98), hlt, by first | rfl | go_num, rfl, hidA HE.out.symm, hidA (by rw [HT.out]; rfl)⟩, by simp [intOf]; omega⟩
      have e98 := byte_no x 98 98 rfl h98
      by_cases h100 : x = 100
      · subst h100
        go_wp2
        exact ⟨⟨k + 1, Ok.orI A (Ok.lf 100), hlt, by first | rfl | go_num, rfl, hidA HE.out.symm, hidA (by rw [HT.out]; rfl)⟩, by simp [intOf]; omega⟩
      have e100 := byte_no x 100 100 rfl h100
      have hlf : Ok.lt x = false := by
        unfold Ok.lt
        rw [decide_eq_false h110, decide_eq_false h114, decide_eq_false h102, decide_eq_false h98, decide_eq_false h100]; rfl
      have HF : Hid (s.all Ok.lt = false) := hidA (Ok.all_no (k := k + 1) (HT.out.trans hlf))
      have r1 : R1 = 0 := by rw [HR1.out, HF.out]; rfl
      have r2 : R2 = false := by rw [HR2.out, HF.out]
      subst r1 r2
      clear hlf HF HR1 HR2
      clear h110 h114 h102 h98 h100 HE HT
      go_wp2
      go_ret2
      exact ⟨rfl, HB.out⟩
    · have HA2 := HA.out
      have HL2 := HL.out
      rw [List.take_of_length_le (by omega)] at HA2 HL2
      have HX := hidA HA2
      have HY := hidA HL2
      have r1 : R1 = A := by rw [HR1.out, HY.out, HX.out]; rfl
      have r2 : R2 = true := by rw [HR2.out, HY.out]
      subst r1 r2
      clear HA HL HA2 HL2 HC HX HY HR1 HR2
      go_wp2
      go_ret2
      exact ⟨rfl, HB.out⟩
end Go.Proofs.YtladflfdpfpbpaaDoor
