/- Octal of the program. No condition. -/
import Derived.Test.YtmminmdmhefefaaPma
import Derived.Lib.SlBytesConst
namespace Go.Proofs.Ytmminmdmhefefaa
open Go.RowKit
namespace Pm
def od (m q : Int) : Int := 48 + bits .and .i64 (m / q) 7
def octI (m : Int) : List Int := [od m 512, od m 64, od m 8, od m 1]
/-- Four octal digits. -/
def oct (m : Int) : List UInt8 := (octI m).map b8
theorem octI_in (m : Int) : ∀ x ∈ octI m, 0 ≤ x ∧ x < 256 := by
  intro x hx
  simp only [octI, List.mem_cons, List.not_mem_nil, or_false] at hx
  rcases hx with rfl | rfl | rfl | rfl
  all_goals
    unfold od
    have := and7 (m / 512)
    have := and7 (m / 64)
    have := and7 (m / 8)
    have := and7 (m / 1)
    omega
def orow (m : Int) (i : Nat) : Array Value := #[.int .u8 (if 0 < i then od m 512 else 48), .int .u8 (if 1 < i then od m 64 else 48), .int .u8 (if 2 < i then od m 8 else 48), .int .u8 (if 3 < i then od m 1 else 48)]
end Pm
theorem mk_cell (w : World) (C : Array Value) (t : TypeId) (fr : Nat × Nat) (n i : Nat) (hn : n = w.heap.size) : (w.alloc (.cells C t fr)).cell? ⟨n, i, none⟩ = C[i]? := by subst hn; exact World.cell?_alloc_mark w C t fr i
theorem mk_frozen (w : World) (C : Array Value) (t : TypeId) (lo hi n i : Nat) (hn : n = w.heap.size) (h : i < lo) : (w.alloc (.cells C t (lo, hi))).frozen? ⟨n, i, none⟩ = false := by subst hn; rw [World.frozen?_alloc_mark]; simp; omega
theorem mk_set (w : World) (C : Array Value) (t : TypeId) (fr : Nat × Nat) (n i : Nat) (v : Value) (hn : n = w.heap.size) : (w.alloc (.cells C t fr)).setCell ⟨n, i, none⟩ v = w.alloc (.cells (C.setIfInBounds i v) t fr) := by
  subst hn
  unfold World.setCell World.alloc
  congr 1
  apply Array.ext_getElem?
  intro k
  simp only [Array.getElem?_modify, Array.getElem?_push]
  by_cases hk : k = w.heap.size
  · subst hk; simp
  · simp [hk, Ne.symm hk]
theorem conv_al (w : World) (xs : List Int) (hx : ∀ x ∈ xs, 0 ≤ x ∧ x < 256) (n cap b : Nat) (hb : w.heap.size = b) (hn : xs.length = n) :
    (convert 52 9 (.slice (some ⟨b, 0, none⟩) n cap)).run Try.prog (w.alloc (.cells (xs.map (Value.int .u8)).toArray 5 (4, 5))) = .ok (.string ⟨(xs.map Pm.b8).toArray⟩) (w.alloc (.cells (xs.map (Value.int .u8)).toArray 5 (4, 5))) := by
  subst hb
  have h := run_convert_bytes_back (P := Try.prog) (w.alloc (.cells (xs.map (Value.int .u8)).toArray 5 (4, 5))) 52 9 5 ⟨w.heap.size, 0, none⟩ cap (xs.map Pm.b8) Try.underlying52 Try.underlying5 Try.underlying9 ?_
  · rw [List.length_map, hn] at h; exact h
  · intro j hj
    rw [List.length_map] at hj
    rw [show (⟨w.heap.size, 0, none⟩ : Addr).add j = ⟨w.heap.size, j, none⟩ by simp [Addr.add]; intro h; omega, World.cell?_alloc_mark]
    have hb := hx xs[j] (List.getElem_mem hj)
    simp [hj, Pm.b8_back hb.1 hb.2]
attribute [local go_sem] mk_cell mk_frozen mk_set
set_option maxRecDepth 100000 in
set_option maxHeartbeats 2000000 in
theorem pOctal (m : Int) (w : World) : Calls Try.prog 11 #[.int .i64 m] w fun e w' => e = .returned (.string ⟨(Pm.oct m).toArray⟩) ∧ Below w.heap.size w w' := by
  generalize hb : w.heap.size = b
  have hcc := Lib.run_convert_bytes_const (P := Try.prog) w 52 5 #[.int .u8 48, .int .u8 48, .int .u8 48, .int .u8 48] 4 4 Try.underlying52 Try.underlying5
  rw [hb] at hcc
  go_enter Try.func11, Try.ntmps11
  go_wp2_with fail
  go_loopw [9] (fun t w' => ∃ (i : Nat) (w2 : World), i ≤ 4 ∧ t = .int .i64 i ∧ Dr w w2 ∧ w' = w2.alloc (.cells (Pm.orow m i) 5 (4, 5))) (fun t _ => 4 - (intOf t).toNat)
  case atStart => exact ⟨0, w, by omega, rfl, Dr.refl w, rfl⟩
  case round =>
    obtain ⟨i, w2, hi, rfl, hD, rfl⟩ := hrel
    have hb2 : w2.heap.size = b := by rw [hD.size, hb]
    have HD : Hid (Dr w w2) := hD
    clear hD
    obtain rfl | rfl | rfl | rfl | rfl : i = 0 ∨ i = 1 ∨ i = 2 ∨ i = 3 ∨ i = 4 := by omega
    · rw [show Pm.orow m 0 = #[.int .u8 48, .int .u8 48, .int .u8 48, .int .u8 48] from rfl]
      have h7 := Pm.and7 (m / 512)
      have h7a := h7.1
      have h7b := h7.2
      clear h7
      have h8a := (Pm.and7 m).1
      have h8b := (Pm.and7 m).2
      have HO : Hid (Pm.od m 512 = 48 + bits .and .i64 (m / 512) 7) := rfl
      have q0 : IntKind.i64.wrap 0 = 0 := rfl
      have q3 : IntKind.i64.wrap 3 = 3 := rfl
      have q6 : IntKind.i64.wrap 6 = 6 := rfl
      have q9 : IntKind.i64.wrap 9 = 9 := rfl
      go_wp2_with fail
      go_region_with fail
      all_goals go_wp2_with fail
      all_goals first | exact ⟨⟨1, w2.drew, by omega, rfl, HD.out.trans (Dr.drew w2), rfl⟩, by decide⟩ | exact ⟨⟨1, w2.drew, by omega, rfl, HD.out.trans (Dr.drew w2), by simp only [Pm.orow, Pm.od, Int.ediv_one]; rfl⟩, by decide⟩
    · rw [show Pm.orow m 1 = #[.int .u8 (Pm.od m 512), .int .u8 48, .int .u8 48, .int .u8 48] from rfl]
      have h7 := Pm.and7 (m / 64)
      have h7a := h7.1
      have h7b := h7.2
      clear h7
      have h8a := (Pm.and7 m).1
      have h8b := (Pm.and7 m).2
      have HO : Hid (Pm.od m 64 = 48 + bits .and .i64 (m / 64) 7) := rfl
      have q0 : IntKind.i64.wrap 0 = 0 := rfl
      have q3 : IntKind.i64.wrap 3 = 3 := rfl
      have q6 : IntKind.i64.wrap 6 = 6 := rfl
      have q9 : IntKind.i64.wrap 9 = 9 := rfl
      go_wp2_with fail
      go_region_with fail
      all_goals go_wp2_with fail
      all_goals first | exact ⟨⟨2, w2.drew, by omega, rfl, HD.out.trans (Dr.drew w2), rfl⟩, by decide⟩ | exact ⟨⟨2, w2.drew, by omega, rfl, HD.out.trans (Dr.drew w2), by simp only [Pm.orow, Pm.od, Int.ediv_one]; rfl⟩, by decide⟩
    · rw [show Pm.orow m 2 = #[.int .u8 (Pm.od m 512), .int .u8 (Pm.od m 64), .int .u8 48, .int .u8 48] from rfl]
      have h7 := Pm.and7 (m / 8)
      have h7a := h7.1
      have h7b := h7.2
      clear h7
      have h8a := (Pm.and7 m).1
      have h8b := (Pm.and7 m).2
      have HO : Hid (Pm.od m 8 = 48 + bits .and .i64 (m / 8) 7) := rfl
      have q0 : IntKind.i64.wrap 0 = 0 := rfl
      have q3 : IntKind.i64.wrap 3 = 3 := rfl
      have q6 : IntKind.i64.wrap 6 = 6 := rfl
      have q9 : IntKind.i64.wrap 9 = 9 := rfl
      go_wp2_with fail
      go_region_with fail
      all_goals go_wp2_with fail
      all_goals first | exact ⟨⟨3, w2.drew, by omega, rfl, HD.out.trans (Dr.drew w2), rfl⟩, by decide⟩ | exact ⟨⟨3, w2.drew, by omega, rfl, HD.out.trans (Dr.drew w2), by simp only [Pm.orow, Pm.od, Int.ediv_one]; rfl⟩, by decide⟩
    · rw [show Pm.orow m 3 = #[.int .u8 (Pm.od m 512), .int .u8 (Pm.od m 64), .int .u8 (Pm.od m 8), .int .u8 48] from rfl]
      have h7 := Pm.and7 (m / 1)
      have h7a := h7.1
      have h7b := h7.2
      clear h7
      have h8a := (Pm.and7 m).1
      have h8b := (Pm.and7 m).2
      have HO : Hid (Pm.od m 1 = 48 + bits .and .i64 (m / 1) 7) := rfl
      have q0 : IntKind.i64.wrap 0 = 0 := rfl
      have q3 : IntKind.i64.wrap 3 = 3 := rfl
      have q6 : IntKind.i64.wrap 6 = 6 := rfl
      have q9 : IntKind.i64.wrap 9 = 9 := rfl
      go_wp2_with fail
      go_region_with fail
      all_goals go_wp2_with fail
      all_goals first | exact ⟨⟨4, w2.drew, by omega, rfl, HD.out.trans (Dr.drew w2), rfl⟩, by decide⟩ | exact ⟨⟨4, w2.drew, by omega, rfl, HD.out.trans (Dr.drew w2), by simp only [Pm.orow, Pm.od, Int.ediv_one]; rfl⟩, by decide⟩
    · rw [show Pm.orow m 4 = ((Pm.octI m).map (Value.int .u8)).toArray from rfl]
      have hcv := conv_al w2 (Pm.octI m) (Pm.octI_in m) 4 4 b hb2 rfl
      have HB : Hid (∀ o, Below b w (w2.alloc o)) := fun o => (HD.out.below b).alloc (by omega) o
      go_wp2_with fail
      go_ret
      exact ⟨rfl, HB.out _⟩
end Go.Proofs.Ytmminmdmhefefaa
