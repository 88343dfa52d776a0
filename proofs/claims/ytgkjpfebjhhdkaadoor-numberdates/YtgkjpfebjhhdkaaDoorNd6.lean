/- Dates: yearOf. Condition: the table of days reads as its text lays it. -/
import Derived.Test.YtgkjpfebjhhdkaaDoorNd5
import Derived.Deep.RegionHeld3
namespace Go.Proofs.YtgkjpfebjhhdkaaDoor
open Go.RowKit
attribute [local go_sem] ext_eq app_eq get_eq
/-- The year of a second; none: it is not 0 to 9999. -/
def Yn (now : Int) (Y : Option Int) : Prop :=
  if now < -62167219200 ∨ 253402300800 ≤ now then Y = none
  else ∃ (y : Int) (j : Nat), Na.Cv ((now + 62167219200) / 86400) y j ∧ Y = some y
/-- The year that digits tell. -/
def Yr (l : List UInt8) (now : Int) (Y : Option Int) : Prop :=
  if l.length = 8 then Yn now Y
  else if l.length = 10 then Y = some (if Na.tw l < 69 then 2000 + Na.tw l else 1900 + Na.tw l)
  else if l.length = 12 then Y = some (100 * Na.tw l + Na.tw (l.drop 2))
  else Y = none
set_option maxRecDepth 100000 in
set_option maxHeartbeats 2000000 in
theorem nYearOf (l : List UInt8) (hd : l.all (Na.dig 10) = true) (now : Int) (h0 : -9223372036854775808 ≤ now) (h1 : now ≤ 9223372036854775807) (w : World) (ht : DT w) :
    Calls Tryd.prog 52 #[.string ⟨l.toArray⟩, .int .i64 now] w fun e w' => (∃ (Y : Option Int) (r : List UInt8), Yr l now Y ∧ (Y.isSome = true → r = l.drop (l.length - 8)) ∧ e = .returned (.tuple #[.int .i64 (Y.getD 0), .string ⟨r.toArray⟩, .bool Y.isSome])) ∧ Below w.heap.size w w' := by
  by_cases h8 : l.length = 8
  · have HM := hidA (nMomentOf now h0 h1 w ht)
    have HY : Hid (∀ Y, Yn now Y → Yr l now Y) := fun Y h => by unfold Yr; rw [if_pos h8]; exact h
    have hdr : l.drop (l.length - 8) = l := by rw [h8]; rfl
    by_cases hb : now < -62167219200 ∨ 253402300800 ≤ now
    · have HM2 : Hid (Calls Tryd.prog 59 #[.int .i64 now] w fun e w' => e = .returned (.tuple #[mV 0 0 0 0 0 0, .bool false]) ∧ Below w.heap.size w w') := HM.out.mono fun e w' h => ⟨by have := h.1; unfold OutM at this; rw [if_pos hb] at this; exact this, h.2⟩
      have HY2 := hidA (HY.out none (by unfold Yn; rw [if_pos hb]))
      unfold mV at HM2
      clear HM HY hb hdr ht
      go_enter Tryd.func52, Tryd.ntmps52
      go_wp2_with (go_at_call 59; refine HM2.out.mono ?_; rintro e w1 ⟨rfl, b1⟩)
      go_ret3
      exact ⟨⟨none, l, HY2.out, (fun h => by cases h), rfl⟩, b1.alloc b1.size _⟩
    · have HM2 : Hid (Calls Tryd.prog 59 #[.int .i64 now] w fun e w' => (∃ (y : Int) (j : Nat) (d h mi s : Int), Na.Cv ((now + 62167219200) / 86400) y j ∧ e = .returned (.tuple #[mV y ((j : Int) + 1) d h mi s, .bool true])) ∧ Below w.heap.size w w') := HM.out.mono fun e w' h => ⟨by
        have h3 := h.1
        unfold OutM at h3
        rw [if_neg hb] at h3
        obtain ⟨y, j, hc, he⟩ := h3
        exact ⟨y, j, _, _, _, _, hc, he⟩, h.2⟩
      have HY2 : Hid (∀ (y : Int) (j : Nat), Na.Cv ((now + 62167219200) / 86400) y j → Yr l now (some y)) := fun y j hc => HY.out _ (by unfold Yn; rw [if_neg hb]; exact ⟨y, j, hc, rfl⟩)
      have HDr := hidA hdr
      unfold mV at HM2
      clear HM HY hb ht hdr
      go_enter Tryd.func52, Tryd.ntmps52
      go_wp2_with (go_at_call 59; refine HM2.out.mono ?_; rintro e w1 ⟨⟨y, j, d, h, mi, s, hc, rfl⟩, b1⟩; have HC := hidA (HY2.out y j hc); clear hc)
      go_ret3
      exact ⟨⟨some y, l, HC.out, fun _ => HDr.out.symm, rfl⟩, b1.alloc b1.size _⟩
  · have h8' : ((l.length : Int) == 8) = false := by simp; omega
    by_cases h10 : l.length = 10
    · have h10' : ((l.length : Int) == 10) = true := by simp; omega
      have HT := hidA (nTwo l hd (by omega) w)
      obtain ⟨t0, t1⟩ := Na.tw_rng hd
      have HY : Hid (Yr l now (some (if Na.tw l < 69 then 2000 + Na.tw l else 1900 + Na.tw l))) := by unfold Yr; rw [if_neg h8, if_pos h10]; exact rfl
      have htl : List.take 10 l = l := List.take_of_length_le (by omega)
      have HDr : Hid (l.drop (l.length - 8) = l.drop 2) := by show _ = _; rw [h10]
      have h2l : (2 : Int) ≤ l.length := by omega
      generalize Na.tw l = t at *
      clear ht hd
      by_cases h69 : t < 69
      · rw [if_pos h69] at HY
        go_enter Tryd.func52, Tryd.ntmps52
        go_wp2_with (first | (go_at_call 53; refine HT.out.mono ?_; rintro e w1 ⟨rfl, m, hw⟩; have b1 := bl_drew w m; rw [← hw] at b1; clear hw) | go_quiet (fail))
        go_ret3
        exact ⟨⟨some (2000 + t), _, HY.out, fun _ => HDr.out.symm, rfl⟩, by first | exact bl2 b1 (bl_drew _ _) | exact b1⟩
      · rw [if_neg h69] at HY
        go_enter Tryd.func52, Tryd.ntmps52
        go_wp2_with (first | (go_at_call 53; refine HT.out.mono ?_; rintro e w1 ⟨rfl, m, hw⟩; have b1 := bl_drew w m; rw [← hw] at b1; clear hw) | go_quiet (fail))
        go_ret3
        exact ⟨⟨some (1900 + t), _, HY.out, fun _ => HDr.out.symm, rfl⟩, by first | exact bl2 b1 (bl_drew _ _) | exact b1⟩
    · have h10' : ((l.length : Int) == 10) = false := by simp; omega
      by_cases h12 : l.length = 12
      · have h12' : ((l.length : Int) == 12) = true := by simp; omega
        have HT1 := hidA (fun w => nTwo l hd (by omega) w)
        have HT2 := hidA (fun w => nTwo (l.drop 2) (Na.all_drop hd 2) (by rw [List.length_drop]; omega) w)
        obtain ⟨t0, t1⟩ := Na.tw_rng hd
        obtain ⟨s0, s1⟩ := Na.tw_rng (Na.all_drop hd 2)
        have HY : Hid (Yr l now (some (100 * Na.tw l + Na.tw (l.drop 2)))) := by unfold Yr; rw [if_neg h8, if_neg h10, if_pos h12]; exact rfl
        have htl : List.take 12 l = l := List.take_of_length_le (by omega)
        have HDr : Hid (l.drop (l.length - 8) = l.drop 4) := by show _ = _; rw [h12]
        have h2l : (2 : Int) ≤ l.length := by omega
        have h4l : (4 : Int) ≤ l.length := by omega
        have HB0 := hidA (fun (W : World) m => bl_drew W m)
        generalize Na.tw l = t at *
        generalize Na.tw (l.drop 2) = s at *
        have hw1 : IntKind.i64.wrap (100 * t) = 100 * t := by rw [IntKind.wrap_i64]; omega
        have hw2 : IntKind.i64.wrap (100 * t + s) = 100 * t + s := by rw [IntKind.wrap_i64]; omega
        clear ht hd
        go_enter Tryd.func52, Tryd.ntmps52
        go_wp2_with fail
        go_region_held3 (fun _ => True) (trivial) (first | (go_at_call 53; first | (with_reducible refine Calls.mono (HT1.out _) ?_; rintro e w1 ⟨rfl, m1, hw1⟩; have b1 := HB0.out w.drew m1; rw [← hw1] at b1; clear hw1) | (with_reducible refine Calls.mono (HT2.out _) ?_; rintro e w2 ⟨rfl, m2, hw2⟩; have b2 := HB0.out w1 m2; rw [← hw2] at b2; clear hw2)) | fail)
        go_wp2
        go_ret3
        exact ⟨⟨some (100 * t + s), _, HY.out, fun _ => HDr.out.symm, rfl⟩, bl2 (bl2 (HB0.out w 1) b1) b2⟩
      · have h12' : ((l.length : Int) == 12) = false := by simp; omega
        have HY : Hid (Yr l now none) := by unfold Yr; rw [if_neg h8, if_neg h10, if_neg h12]; exact rfl
        clear ht hd
        go_enter Tryd.func52, Tryd.ntmps52
        go_wp2
        go_ret3
        exact ⟨⟨none, [], HY.out, (fun h => by cases h), rfl⟩, Below.refl _ _⟩
end Go.Proofs.YtgkjpfebjhhdkaaDoor
