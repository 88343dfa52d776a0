/- The reader of clauses, letter by letter. Condition: the reader lies in a block of its own behind which nothing but the range's own block lies. -/
import Derived.Test.YtmminmdmhefefaaPm4
import Derived.Deep.RegionHeld
namespace Go.Proofs.Ytmminmdmhefefaa
open Go.RowKit
theorem at_cell (w : World) (L : Array Value) (T : TypeId) (S : ByteArray) (p n i : Nat) (hn : n = w.heap.size) : ((w.alloc (.cells L T)).iter S p).cell? ⟨n, i, none⟩ = L[i]? := by subst hn; exact it_cell w L T S p i
theorem at_frozen (w : World) (L : Array Value) (T : TypeId) (S : ByteArray) (p n i : Nat) (hn : n = w.heap.size) : ((w.alloc (.cells L T)).iter S p).frozen? ⟨n, i, none⟩ = false := by subst hn; exact it_frozen w L T S p i
theorem at_set (w : World) (L : Array Value) (T : TypeId) (S : ByteArray) (p n i : Nat) (v : Value) (hn : n = w.heap.size) : ((w.alloc (.cells L T)).iter S p).setCell ⟨n, i, none⟩ v = (w.alloc (.cells (L.setIfInBounds i v) T)).iter S p := by subst hn; exact it_set w L T S p i v
attribute [local go_sem] it_size at_cell at_frozen at_set
set_option maxRecDepth 100000 in
set_option maxHeartbeats 1000000 in
theorem pBits (r : Pm.Rd) (c x : Int) (hx : Pm.bitsB r.now r.mx c = some x) (w : World) (b : Nat) (hb : w.heap.size = b) (S : ByteArray) (p : Nat) :
    Calls Try.prog 48 #[.pointer (some ⟨b, 0, none⟩), .int .i32 c] ((w.alloc (.cells r.row 67)).iter S p) fun e w' => e = .returned (.int .i64 x) ∧ w' = (w.alloc (.cells r.row 67)).iter S p := by
  have hc : (c = 114 ∧ x = 292) ∨ (c = 119 ∧ x = 146) ∨ (c = 120 ∧ x = 73) ∨ (c = 88 ∧ x = r.mx) ∨ (c = 115 ∧ x = 3072) ∨ (c = 116 ∧ x = 512) ∨ (c = 117 ∧ x = Pm.fa (r.now / 64)) ∨ (c = 103 ∧ x = Pm.fa (r.now / 8)) ∨ (c = 111 ∧ x = Pm.fa r.now) := by
    unfold Pm.bitsB at hx
    repeat' split at hx
    all_goals simp at hx
    all_goals simp_all
  clear hx
  unfold Pm.Rd.row
  rcases hc with ⟨rfl, rfl⟩ | ⟨rfl, rfl⟩ | ⟨rfl, rfl⟩ | ⟨rfl, rfl⟩ | ⟨rfl, rfl⟩ | ⟨rfl, rfl⟩ | ⟨rfl, rfl⟩ | ⟨rfl, rfl⟩ | ⟨rfl, rfl⟩
  all_goals
    go_enter Try.func48, Try.ntmps48
    go_wp2_with (go_at_call 49; refine (pForAll _ _).mono ?_; rintro e w' ⟨rfl, rfl⟩)
    go_ret
    exact ⟨rfl, rfl⟩
set_option maxRecDepth 100000 in
set_option maxHeartbeats 1000000 in
theorem pBits_no (r : Pm.Rd) (c : Int) (hx : Pm.bitsB r.now r.mx c = none) (w : World) (b : Nat) (S : ByteArray) (p : Nat) :
    Calls Try.prog 48 #[.pointer (some ⟨b, 0, none⟩), .int .i32 c] ((w.alloc (.cells r.row 67)).iter S p) fun e w' => e = .panicked Pm.EI ∧ w' = (w.alloc (.cells r.row 67)).iter S p := by
  have hc : ¬ c = 114 ∧ ¬ c = 119 ∧ ¬ c = 120 ∧ ¬ c = 88 ∧ ¬ c = 115 ∧ ¬ c = 116 ∧ ¬ c = 117 ∧ ¬ c = 103 ∧ ¬ c = 111 := by
    unfold Pm.bitsB at hx
    repeat' split at hx
    all_goals simp_all
  clear hx
  obtain ⟨h1, h2, h3, h4, h5, h6, h7, h8, h9⟩ := hc
  have k1 : (c == 114) = false := by simpa using h1
  have k2 : (c == 119) = false := by simpa using h2
  have k3 : (c == 120) = false := by simpa using h3
  have k4 : (c == 88) = false := by simpa using h4
  have k5 : (c == 115) = false := by simpa using h5
  have k6 : (c == 116) = false := by simpa using h6
  have k7 : (c == 117) = false := by simpa using h7
  have k8 : (c == 103) = false := by simpa using h8
  have k9 : (c == 111) = false := by simpa using h9
  clear h1 h2 h3 h4 h5 h6 h7 h8 h9
  go_enter Try.func48, Try.ntmps48
  go_wp2_with fail
  refine (pGive _).mono ?_
  rintro e w' ⟨rfl, rfl⟩
  go_wp2
  exact ⟨rfl, rfl, rfl⟩
set_option maxRecDepth 100000 in
set_option maxHeartbeats 2000000 in
theorem pDo (r : Pm.Rd) (hs : r.sign = 0 ∨ r.sign = 43 ∨ r.sign = 45 ∨ r.sign = 61) (w : World) (b : Nat) (hb : w.heap.size = b) (S : ByteArray) (p : Nat) :
    Calls Try.prog 45 #[.pointer (some ⟨b, 0, none⟩)] ((w.alloc (.cells r.row 67)).iter S p) fun e w' => e = .returned (.tuple #[]) ∧ w' = (w.alloc (.cells ({ r with now := Pm.nowB r } : Pm.Rd).row 67)).iter S p := by
  obtain ⟨now, mx, un, who, sign, what, bare, closed⟩ := r
  simp only at hs
  by_cases hw : who = 0
  · subst hw
    rcases hs with rfl | rfl | rfl | rfl
    all_goals
      unfold Pm.Rd.row
      simp only [Pm.nowB, Pm.whoB, if_true]
      go_enter Try.func45, Try.ntmps45
      go_wp2
      go_end0
      exact ⟨rfl, rfl⟩
  · have hw' : (who == 0) = false := by simpa using hw
    rcases hs with rfl | rfl | rfl | rfl
    all_goals
      unfold Pm.Rd.row
      simp only [Pm.nowB, Pm.whoB, if_neg hw]
      go_enter Try.func45, Try.ntmps45
      go_wp2
      go_end0
      exact ⟨rfl, rfl⟩
end Go.Proofs.Ytmminmdmhefefaa
