/- Dates: two, exists, yearOf. Condition: the table of days reads as its text lays it. -/
import Derived.Test.YtgkjpfebjhhdkaaDoorNd3
import Derived.Test.YtgkjpfebjhhdkaaDoorNa4
namespace Go.Proofs.YtgkjpfebjhhdkaaDoor
open Go.RowKit
attribute [local go_sem] ext_eq app_eq get_eq
namespace Na
/-- The number of a text's first two digits. -/
def tw : List UInt8 → Int
  | a :: b :: _ => 10 * ((a.toNat : Int) - 48) + ((b.toNat : Int) - 48)
  | _ => 0
/-- Is there such a day, and such a time of it? -/
def exB (y m d h mi s : Int) : Bool := !(decide (m < 1) || decide (12 < m) || decide (d < 1)) && (decide (d ≤ mb y m.toNat - mb y (m.toNat - 1)) && decide (h ≤ 23) && decide (mi ≤ 59) && decide (s ≤ 59))
theorem tw_rng {l : List UInt8} (h : l.all (dig 10) = true) : 0 ≤ tw l ∧ tw l ≤ 99 := by
  match l, h with
  | [], _ => exact ⟨Int.le_refl _, (by decide : (0 : Int) ≤ 99)⟩
  | [_], _ => exact ⟨Int.le_refl _, (by decide : (0 : Int) ≤ 99)⟩
  | a :: b :: r, h =>
    obtain ⟨⟨a1, a2⟩, h2⟩ := all_cons h
    obtain ⟨⟨b1, b2⟩, _⟩ := all_cons h2
    show 0 ≤ 10 * ((a.toNat : Int) - 48) + ((b.toNat : Int) - 48) ∧ 10 * ((a.toNat : Int) - 48) + ((b.toNat : Int) - 48) ≤ 99
    omega
theorem all_drop {l : List UInt8} (h : l.all (dig 10) = true) (k : Nat) : (l.drop k).all (dig 10) = true := by
  rw [List.all_eq_true] at h ⊢
  exact fun x hx => h x (List.mem_of_mem_drop hx)
end Na
set_option maxHeartbeats 1000000 in
theorem nTwo (l : List UInt8) (hd : l.all (Na.dig 10) = true) (hl : 2 ≤ l.length) (w : World) : Calls Tryd.prog 53 #[.string ⟨l.toArray⟩] w fun e w' => e = .returned (.int .i64 (Na.tw l)) ∧ ∃ m, w' = w.drewN m := by
  match l, hd, hl with
  | a :: b :: r, hd, _ =>
    obtain ⟨⟨a1, a2⟩, h2⟩ := Na.all_cons hd
    obtain ⟨⟨b1, b2⟩, _⟩ := Na.all_cons h2
    have HE : Hid (Na.tw (a :: b :: r) = 10 * ((a.toNat : Int) - 48) + ((b.toNat : Int) - 48)) := rfl
    have hwa : IntKind.u8.wrap ((a.toNat : Int) - 48) = (a.toNat : Int) - 48 := by rw [IntKind.wrap_u8]; omega
    have hwb : IntKind.u8.wrap ((b.toNat : Int) - 48) = (b.toNat : Int) - 48 := by rw [IntKind.wrap_u8]; omega
    have g0 : (a :: b :: r)[0]? = some a := rfl
    have g1 : (a :: b :: r)[1]? = some b := rfl
    have hlen : 2 ≤ (a :: b :: r).length := by simp
    clear hd h2
    go_enter Tryd.func53, Tryd.ntmps53
    go_wp2_with (go_quiet (fail))
    go_ret
    exact ⟨by rw [HE.out]; rfl, _, rfl⟩
set_option maxRecDepth 100000 in
set_option maxHeartbeats 2000000 in
theorem nExists (y m d h mi s : Int) (h0 : 0 ≤ y) (hm : 0 ≤ m ∧ m ≤ 99) (w : World) (ht : DT w) :
    Calls Tryd.prog 54 #[mV y m d h mi s] w fun e w' => e = .returned (.bool (Na.exB y m d h mi s)) ∧ Below w.heap.size w w' := by
  unfold mV
  have HB : Hid (∀ o n, Below w.heap.size w ((w.alloc o).drewN n)) := fun o n => bl2 ((Below.refl _ _).alloc (Nat.le_refl _) o) (bl_drew _ _)
  have HB0 : Hid (∀ o, Below w.heap.size w (w.alloc o)) := fun o => (Below.refl _ _).alloc (Nat.le_refl _) o
  have HT : Hid (∀ o n, DT ((w.alloc o).drewN n)) := fun o n => ht.on (HB.out o n)
  obtain ⟨m0, m1⟩ := hm
  clear ht
  by_cases hm1 : m < 1
  · have HE : Hid (Na.exB y m d h mi s = false) := by show _ = _; unfold Na.exB; rw [decide_eq_true hm1]; rfl
    go_enter Tryd.func54, Tryd.ntmps54
    go_wp2
    go_ret
    exact ⟨by rw [HE.out]; rfl, HB0.out _⟩
  by_cases hm2 : 12 < m
  · have HE : Hid (Na.exB y m d h mi s = false) := by show _ = _; unfold Na.exB; rw [decide_eq_true hm2]; simp
    go_enter Tryd.func54, Tryd.ntmps54
    go_wp2
    go_ret
    exact ⟨by rw [HE.out]; rfl, HB0.out _⟩
  by_cases hd1 : d < 1
  · have HE : Hid (Na.exB y m d h mi s = false) := by show _ = _; unfold Na.exB; rw [decide_eq_true hd1]; simp
    go_enter Tryd.func54, Tryd.ntmps54
    go_wp2
    go_ret
    exact ⟨by rw [HE.out]; rfl, HB0.out _⟩
  obtain ⟨j, rfl⟩ : ∃ j : Nat, m = (j : Int) + 1 := ⟨(m - 1).toNat, by omega⟩
  have hj : j < 12 := by omega
  have e1 : ((j : Int) + 1).toNat = j + 1 := by omega
  have HM1 := hidA (fun w ht => nMonthBegin y h0 (j + 1) (by omega) w ht)
  have HM0 := hidA (fun w ht => nMonthBegin y h0 j (by omega) w ht)
  have hcast : ((j + 1 : Nat) : Int) = (j : Int) + 1 := by omega
  rw [hcast] at HM1
  obtain ⟨a0, a1⟩ := Na.mb_rng y (show j + 1 < 13 by omega)
  obtain ⟨b0, b1⟩ := Na.mb_rng y (show j < 13 by omega)
  have HE : Hid (Na.exB y ((j : Int) + 1) d h mi s = (decide (d ≤ Na.mb y (j + 1) - Na.mb y j) && decide (h ≤ 23) && decide (mi ≤ 59) && decide (s ≤ 59))) := by
    show _ = _
    unfold Na.exB
    rw [e1, decide_eq_false hm1, decide_eq_false hm2, decide_eq_false hd1]
    simp
  have hwj : IntKind.i64.wrap ((j : Int) + 1 + 1) = (j : Int) + 1 + 1 := by rw [IntKind.wrap_i64]; omega
  generalize Na.mb y (j + 1) = M1 at *
  generalize Na.mb y j = M0 at *
  clear e1 hcast
  have hk : ∀ b1 b2 b3 b4 : Bool, decide (d ≤ M1 - M0) = b1 → decide (h ≤ 23) = b2 → decide (mi ≤ 59) = b3 → decide (s ≤ 59) = b4 → Calls Tryd.prog 54 #[.agg #[.int .i64 y, .int .i64 ((j : Int) + 1), .int .i64 d, .int .i64 h, .int .i64 mi, .int .i64 s]] w fun e w' => e = .returned (.bool (Na.exB y ((j : Int) + 1) d h mi s)) ∧ Below w.heap.size w w' := by
    intro c1 c2 c3 c4 k1 k2 k3 k4
    rw [k1, k2, k3, k4] at HE
    cases c1 <;> cases c2 <;> cases c3 <;> cases c4
    all_goals
      go_enter Tryd.func54, Tryd.ntmps54
      go_wp2_with fail
      go_quiet (first | (go_at_call 73; first | (with_reducible refine Calls.quiet_of_same (HM1.out _ (HT.out _ _))) | (with_reducible refine Calls.quiet_of_same (HM0.out _ (HT.out _ _)))))
      go_wp2
      go_ret
      exact ⟨by rw [HE.out]; rfl, HB.out _ _⟩
  exact hk _ _ _ _ rfl rfl rfl rfl
end Go.Proofs.YtgkjpfebjhhdkaaDoor
