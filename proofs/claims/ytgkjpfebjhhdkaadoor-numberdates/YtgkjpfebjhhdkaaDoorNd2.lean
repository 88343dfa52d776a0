/- Dates: seconds. Condition: the table of days reads as its text lays it. -/
import Derived.Test.YtgkjpfebjhhdkaaDoorNd1
namespace Go.Proofs.YtgkjpfebjhhdkaaDoor
open Go.RowKit
namespace Na
def secP (y : Int) (j : Nat) (d h mi s : Int) : Int := (yb y + mb y j + d - 1 - 719528) * 86400 + (h * 3600 + mi * 60 + s)
theorem yb_rng {y : Int} (h0 : 0 ≤ y) (h1 : y ≤ 10001) : 0 ≤ yb y ∧ yb y ≤ 4000000 := by unfold yb; omega
theorem da_rng : ∀ i : Fin 26, 0 ≤ daTab.getD i.val 0 ∧ daTab.getD i.val 0 ≤ 366 := by decide
theorem mb_rng (y : Int) {j : Nat} (hj : j < 13) : 0 ≤ mb y j ∧ mb y j ≤ 366 := by
  have := leapN_le y
  exact da_rng ⟨leapN y * 13 + j, by omega⟩
end Na
def mV (y m d h mi s : Int) : Value := .agg #[.int .i64 y, .int .i64 m, .int .i64 d, .int .i64 h, .int .i64 mi, .int .i64 s]
set_option maxRecDepth 100000 in
set_option maxHeartbeats 2000000 in
theorem nSeconds (y : Int) (j : Nat) (d h mi s : Int) (h0 : 0 ≤ y) (h1 : y ≤ 10000) (hj : j < 12) (hd : 0 ≤ d ∧ d ≤ 99) (hh : 0 ≤ h ∧ h ≤ 99) (hm : 0 ≤ mi ∧ mi ≤ 99) (hs : 0 ≤ s ∧ s ≤ 99) (w : World) (ht : DT w) :
    Calls Tryd.prog 55 #[mV y ((j : Int) + 1) d h mi s] w fun e w' => e = .returned (.int .i64 (Na.secP y j d h mi s)) ∧ Below w.heap.size w w' := by
  unfold mV
  have HY := hidA (fun w => nYearBegin y h0 (by omega) w)
  have HM := hidA (fun w ht => nMonthBegin y h0 j (by omega) w ht)
  obtain ⟨y0, y1⟩ := Na.yb_rng h0 (show y ≤ 10001 by omega)
  obtain ⟨m0, m1⟩ := Na.mb_rng y (show j < 13 by omega)
  have HE : Hid (Na.secP y j d h mi s = (Na.yb y + Na.mb y j + d - 1 - 719528) * 86400 + (h * 3600 + mi * 60 + s)) := rfl
  have HB : Hid (∀ o n, Below w.heap.size w ((w.alloc o).drewN n)) := fun o n => bl2 ((Below.refl _ _).alloc (Nat.le_refl _) o) (bl_drew _ _)
  have HT : Hid (∀ o n, DT ((w.alloc o).drewN n)) := fun o n => ht.on (HB.out o n)
  obtain ⟨d0, d1⟩ := hd
  obtain ⟨q0, q1⟩ := hh
  obtain ⟨r0, r1⟩ := hm
  obtain ⟨s0, s1⟩ := hs
  generalize Na.yb y = Y at *
  generalize Na.mb y j = M at *
  clear ht
  go_enter Tryd.func55, Tryd.ntmps55
  go_wp2_with fail
  go_quiet (first | (go_at_call 74; refine Calls.quiet_of_same (HY.out _)) | (go_at_call 73; refine Calls.quiet_of_same (HM.out _ (HT.out _ _))))
  go_wp2
  go_ret
  exact ⟨by rw [HE.out]; rfl, HB.out _ _⟩
end Go.Proofs.YtgkjpfebjhhdkaaDoor
