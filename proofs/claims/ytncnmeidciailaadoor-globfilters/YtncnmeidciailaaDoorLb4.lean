/- The names of the classes in memory; the walks of the program's isClass and Class. Condition: the table of names reads as its text lays it. -/
import Derived.Test.YtncnmeidciailaaDoorLb3
namespace Go.Proofs.YtncnmeidciailaaDoor
open Go.RowKit
attribute [local go_sem] ext_eq app_eq get_eq
theorem lt_of_cell {w : World} {a : Addr} {v : Value} (h : w.cell? a = some v) : a.block < w.heap.size := by
  unfold World.cell? at h
  cases hb : w.heap[a.block]? with
  | none => rw [hb] at h; simp at h
  | some o => exact heap_lt hb
/-- The table of names. -/
def CN (w : World) : Prop := ∀ j (h : j < 12), w.cell? ⟨0, j, none⟩ = some (.string ⟨(Gl.names[j]'h).toArray⟩)
/-- A number lies where a library's variable does. -/
def ML (w : World) : Prop := ∃ m, w.cell? ⟨1, 0, none⟩ = some (.int .i64 m)
theorem CN.grow {w w' : World} {B : Nat} (h : CN w) (hB : Below B w w') (hs : w.heap.size ≤ B) : CN w' := fun j hj => by
  have hc := h j hj
  exact (hB.cell (p := ⟨0, j, none⟩) (Nat.lt_of_lt_of_le (lt_of_cell hc) hs)).trans hc
theorem ML.grow {w w' : World} {B : Nat} (h : ML w) (hB : Below B w w') (hs : w.heap.size ≤ B) : ML w' := by
  obtain ⟨m, hc⟩ := h
  exact ⟨m, (hB.cell (p := ⟨1, 0, none⟩) (Nat.lt_of_lt_of_le (lt_of_cell hc) hs)).trans hc⟩
abbrev namesV : Value := .agg #[.string ⟨#[97, 108, 110, 117, 109]⟩, .string ⟨#[97, 108, 112, 104, 97]⟩, .string ⟨#[98, 108, 97, 110, 107]⟩, .string ⟨#[99, 110, 116, 114, 108]⟩, .string ⟨#[100, 105, 103, 105, 116]⟩, .string ⟨#[103, 114, 97, 112, 104]⟩, .string ⟨#[108, 111, 119, 101, 114]⟩, .string ⟨#[112, 114, 105, 110, 116]⟩, .string ⟨#[112, 117, 110, 99, 116]⟩, .string ⟨#[115, 112, 97, 99, 101]⟩, .string ⟨#[117, 112, 112, 101, 114]⟩, .string ⟨#[120, 100, 105, 103, 105, 116]⟩]
theorem names_ix (k : Nat) (hk : k < 12) (w : World) : (Instr.index 95 namesV (.int .i64 k)).run Tryd.prog w = .ok (.string ⟨(Gl.names[k]'hk).toArray⟩) w := by
  obtain rfl | rfl | rfl | rfl | rfl | rfl | rfl | rfl | rfl | rfl | rfl | rfl : k = 0 ∨ k = 1 ∨ k = 2 ∨ k = 3 ∨ k = 4 ∨ k = 5 ∨ k = 6 ∨ k = 7 ∨ k = 8 ∨ k = 9 ∨ k = 10 ∨ k = 11 := by omega
  all_goals kernel_rfl
set_option maxRecDepth 100000 in
set_option maxHeartbeats 2000000 in
theorem gIsClass (n : List UInt8) (w : World) (hc : CN w) : Calls Tryd.prog 49 #[.string ⟨n.toArray⟩] w fun e w' => e = .returned (.bool (decide (n ∈ Gl.names))) ∧ w' = w := by
  have d0 := hc 0 (by decide)
  have d1 := hc 1 (by decide)
  have d2 := hc 2 (by decide)
  have d3 := hc 3 (by decide)
  have d4 := hc 4 (by decide)
  have d5 := hc 5 (by decide)
  have d6 := hc 6 (by decide)
  have d7 := hc 7 (by decide)
  have d8 := hc 8 (by decide)
  have d9 := hc 9 (by decide)
  have d10 := hc 10 (by decide)
  have d11 := hc 11 (by decide)
  dsimp only [Gl.names, List.getElem_cons_zero, List.getElem_cons_succ, Gl.nAlnum, Gl.nAlpha, Gl.nBlank, Gl.nCntrl, Gl.nDigit, Gl.nGraph, Gl.nLower, Gl.nPrint, Gl.nPunct, Gl.nSpace, Gl.nUpper, Gl.nXdigit] at d0 d1 d2 d3 d4 d5 d6 d7 d8 d9 d10 d11
  clear hc
  go_enter Tryd.func49, Tryd.ntmps49
  go_wp2
  go_loop [6] (fun s6 => ∃ k : Nat, s6 = .int .i64 k ∧ k ≤ 12 ∧ Hid (∀ j (hj : j < 12), j < k → Gl.names[j]'hj ≠ n)) (fun s6 => 12 - (intOf s6).toNat)
  case atStart => exact ⟨0, rfl, Nat.zero_le _, fun j hj h => by omega⟩
  case round =>
    obtain ⟨k, rfl, hk, HK⟩ := hrel
    by_cases hlt : k < 12
    · have hix := names_ix k hlt w
      have HM : Hid (Gl.names[k] ∈ Gl.names) := List.getElem_mem hlt
      have HN : Hid (Gl.names[k] ≠ n → ∀ j (hj : j < 12), j < k + 1 → Gl.names[j]'hj ≠ n) := fun h j hj hjk => by
        by_cases e : j = k
        · subst e; exact h
        · exact HK.out j hj (by omega)
      generalize Gl.names[k] = nk at *
      by_cases hnk : nk = n
      · have hnk' : (nk == n) = true := by simpa using hnk
        have HE : Hid (decide (n ∈ Gl.names) = true) := decide_eq_true (hnk ▸ HM.out)
        clear hnk
        go_wp2
        go_ret
        exact ⟨by rw [HE.out]; rfl, rfl⟩
      · have hnk' : (nk == n) = false := by simpa using hnk
        have HN2 := hidA (HN.out hnk)
        clear hnk
        go_wp2
        exact ⟨⟨k + 1, by first | rfl | go_num, hlt, HN2⟩, by simp [intOf]; omega⟩
    · have HE : Hid (decide (n ∈ Gl.names) = false) := decide_eq_false (fun h => by
        obtain ⟨j, hj, e⟩ := List.getElem_of_mem h
        exact HK.out j hj (by have : j < 12 := hj; omega) e)
      go_wp2
      go_ret
      exact ⟨by rw [HE.out]; rfl, rfl⟩
theorem zero71 : Tryd.zeroCells71 = Array.replicate 256 (.bool false) := by kernel_rfl
/-- A new set is empty. -/
theorem SetT.new (w : World) : SetT (w.alloc (.cells Tryd.zeroCells71 71)) w.heap.size (fun _ => false) := by
  refine ⟨_, heap_new _ _, fun k => ?_⟩
  rw [zero71, Array.getElem?_replicate, if_pos k.toNat_lt]
/-- What Class tells. -/
def ClOut (n : List UInt8) (w : World) (e : Ending) (w' : World) : Prop := Below w.heap.size w w' ∧ ((n ∈ Gl.names ∧ ∃ v, e = .returned (.tuple #[v, .int .i64 0]) ∧ By w.heap.size w' v (Gl.lst (Gl.inC n) 256)) ∨ (n ∉ Gl.names ∧ e = .returned (.tuple #[.slice none 0 0, .int .i64 22])))
set_option maxRecDepth 100000 in
set_option maxHeartbeats 2000000 in
theorem gClass (n : List UInt8) (w : World) (hc : CN w) : Calls Tryd.prog 24 #[.string ⟨n.toArray⟩] w (ClOut n w) := by
  have HI := hidA (gIsClass n w hc)
  by_cases hn : n ∈ Gl.names
  · rw [decide_eq_true hn] at HI
    have HS := hidA (SetT.new w)
    have HM := hidA ((Md.refl (fun k => k = w.heap.size) w).alloc (.cells Tryd.zeroCells71 71))
    have HA := hidA (fun g W h => gAddClass w.heap.size n hn g W h)
    have HBy := hidA (fun g W h => gBytes w.heap.size g W h)
    have HN := hidA hn
    clear hn
    go_enter Tryd.func24, Tryd.ntmps24
    go_wp2_with (first | (go_at_call 49; refine HI.out.mono ?_; rintro e w1 ⟨rfl, hw'⟩; rw [hw']; clear hw' w1) | (go_at_call 50; refine (HA.out _ _ HS.out).mono ?_; rintro e w1 ⟨rfl, hs1, hm1⟩; have HS1 := hidA hs1; have HM1 := hidA (HM.out.trans hm1); clear hs1 hm1) | (go_at_call 51; refine (HBy.out _ _ HS1.out).mono ?_; rintro e w2 ⟨v, rfl, hy, hb⟩; have HY := hidA hy; have HB := hidA hb; clear hy hb))
    go_ret2
    have hb1 : Below w.heap.size w w1 := HM1.out.below (Nat.le_refl _) (fun k hk h => by omega)
    refine ⟨hb1.trans (HB.out.mono hb1.size), .inl ⟨HN.out, v, rfl, HY.out.1, ?_⟩⟩
    rcases HY.out.2 with h | ⟨g, cap, cur, h1, h2, h3⟩
    · exact .inl h
    · exact .inr ⟨g, cap, cur, h1, Nat.le_trans hb1.size h2, h3⟩
  · rw [decide_eq_false hn] at HI
    go_enter Tryd.func24, Tryd.ntmps24
    go_wp2_with (go_at_call 49; refine HI.out.mono ?_; rintro e w1 ⟨rfl, hw'⟩; rw [hw']; clear hw' w1)
    go_ret2
    exact ⟨Below.refl _ _, .inr ⟨hn, rfl⟩⟩
end Go.Proofs.YtncnmeidciailaaDoor
