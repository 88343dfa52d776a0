/- The walks of the plain list's calls that only read or make a list: Is, Left, Used, and of Ints. Conditions: the cells are as said. -/
import Derived.Test.YtipdpifpblaldaaDoorUsed
namespace Go.Proofs.YtipdpifpblaldaaDoor
open Go.RowKit
section
variable (w : World) (tb n ob co : Nat) (u : Nat → Bool)
set_option maxHeartbeats 400000 in
theorem ris_out (i : Int) (hon : w.cell? ⟨tb, 0, none⟩ = some (.slice (some ⟨ob, 0, none⟩) n co)) (hi : i < 0 ∨ n ≤ i) :
    Calls Tryd.prog 32 #[.pointer (some ⟨tb, 0, none⟩), .int .i64 i] w fun e w' => e = .returned (.bool false) ∧ w' = w := by
  rcases hi with hi | hi
  · have hd : decide (0 ≤ i) = false := by simp; omega
    go_enter Tryd.func32, Tryd.ntmps32
    go_wp2
    go_ret
    exact ⟨rfl, rfl⟩
  · have hd : 0 ≤ i := by omega
    have hd2 : ¬ i < n := by omega
    go_enter Tryd.func32, Tryd.ntmps32
    go_wp2
    go_ret
    exact ⟨rfl, rfl⟩
set_option maxHeartbeats 400000 in
theorem ris_in (i : Nat) (b : Bool) (hon : w.cell? ⟨tb, 0, none⟩ = some (.slice (some ⟨ob, 0, none⟩) n co)) (hi : i < n) (hc : w.cell? ⟨ob, i, none⟩ = some (.bool b)) :
    Calls Tryd.prog 32 #[.pointer (some ⟨tb, 0, none⟩), .int .i64 i] w fun e w' => e = .returned (.bool b) ∧ w' = w := by
  have hd : (0 : Int) ≤ i := by omega
  have hd2 : (i : Int) < n := by omega
  go_enter Tryd.func32, Tryd.ntmps32
  go_wp2
  go_ret
  exact ⟨rfl, rfl⟩
set_option maxHeartbeats 800000 in
theorem rleft_any (hon : w.cell? ⟨tb, 0, none⟩ = some (.slice (some ⟨ob, 0, none⟩) n co)) (hn2 : n ≤ 4096) (hoc : ∀ i, i < n → w.cell? ⟨ob, i, none⟩ = some (.bool (u i))) :
    Calls Tryd.prog 16 #[.pointer (some ⟨tb, 0, none⟩)] w fun e w' => e = .returned (.int .i64 ((n : Int) - (Bt.cnt u n : Nat))) ∧ w' = w := by
  have HC : Hid (∀ i, i < n → w.cell? ⟨ob, i, none⟩ = some (.bool (u i))) := hoc
  clear hoc
  go_enter Tryd.func16, Tryd.ntmps16
  go_wp2
  go_loop [3, 11] (fun l i => ∃ k : Nat, k ≤ n ∧ i = .int .i64 k ∧ l = .int .i64 ((k : Int) - (Bt.cnt u k : Nat))) (fun _ i => n - (intOf i).toNat)
  case atStart => exact ⟨0, by omega, rfl, by simp [Bt.cnt]⟩
  case round =>
    obtain ⟨k, hk, rfl, rfl⟩ := hrel
    by_cases hlt : k < n
    · have hc := HC.out k hlt
      have hb := Bt.cnt_le u k
      cases hu : u k with
      | false =>
        have HU : Hid (Bt.cnt u (k + 1) = Bt.cnt u k) := by show Bt.cnt u (k + 1) = Bt.cnt u k; simp [Bt.cnt, hu]
        rw [hu] at hc
        clear hu
        go_wp2
        go_round
        case rel => exact ⟨k + 1, hlt, by go_num, by rw [HU.out]; congr 1; omega⟩
        case measure => simp [intOf]; omega
      | true =>
        have HU : Hid (Bt.cnt u (k + 1) = Bt.cnt u k + 1) := by show Bt.cnt u (k + 1) = Bt.cnt u k + 1; simp [Bt.cnt, hu]
        rw [hu] at hc
        clear hu
        go_wp2
        go_round
        case rel => exact ⟨k + 1, hlt, by go_num, by rw [HU.out]; congr 1; omega⟩
        case measure => simp [intOf]; omega
    · obtain rfl : k = n := by omega
      go_wp2
      go_ret
      exact ⟨rfl, rfl⟩
set_option maxHeartbeats 1000000 in
theorem rused_any (hon : w.cell? ⟨tb, 0, none⟩ = some (.slice (some ⟨ob, 0, none⟩) n co)) (hn2 : n ≤ 4096) (hoc : ∀ i, i < n → w.cell? ⟨ob, i, none⟩ = some (.bool (u i))) (hlt0 : ob < w.heap.size) :
    Calls Tryd.prog 19 #[.pointer (some ⟨tb, 0, none⟩)] w fun e w' => ∃ v, e = .returned v ∧ w'.ownsRow w.heap.size 3 1 v (usedL u n).length ((usedL u n).map intV) ∧ Mod (fun _ => False) w w' := by
  obtain ⟨i3, hi, hz0, hz1, hz2⟩ := info3
  have HI : Hid (Tryd.prog.info? 3 = some i3 ∧ i3.zero = some (.int .i64 0) ∧ i3.size = 1 ∧ i3.bytes = 8) := ⟨hi, hz0, hz1, hz2⟩
  have HC : Hid (∀ i, i < n → w.cell? ⟨ob, i, none⟩ = some (.bool (u i))) := hoc
  clear hoc hi hz0 hz1 hz2
  go_enter Tryd.func19, Tryd.ntmps19
  go_wp2
  go_loopw [3, 11] (fun v i wr => ∃ k : Nat, k ≤ n ∧ i = .int .i64 k ∧ Hid (wr.ownsRow w.heap.size 3 1 v (usedL u k).length ((usedL u k).map intV)) ∧ Hid (Mod (fun _ => False) w wr)) (fun _ i _ => n - (intOf i).toNat)
  case atStart => exact ⟨0, Nat.zero_le _, rfl, World.ownsRow_nil _ _ _ _, Mod.refl _ _⟩
  case round =>
    obtain ⟨k, hk, rfl, hown, hmod⟩ := hrel
    by_cases hlt : k < n
    · have hc : wr.cell? ⟨ob, k, none⟩ = some (.bool (u k)) := by rw [hmod.out.cell (p := ⟨ob, k, none⟩) hlt0 (fun h => h)]; exact HC.out k hlt
      cases hu : u k with
      | false =>
        have hU : Hid (u k = false) := hu
        rw [hu] at hc
        clear hu
        go_wp2
        exact ⟨⟨k + 1, hlt, by go_num, by rw [usedL_no u k hU.out]; exact hown, hmod⟩, by simp [intOf]; omega⟩
      | true =>
        have hU : Hid (u k = true) := hu
        rw [hu] at hc
        clear hu
        have hle := usedL_le u k
        have hO : Hid ((wr.alloc (.cells #[.int .i64 k] 3)).ownsRow w.heap.size 3 1 u3 (usedL u k).length ((usedL u k).map intV)) := hown.out.alloc _
        have hsz := hmod.out.size
        go_wp2_with (at_builtin; refine wpList_append_own _ rfl _ _ 43 rfl w.heap.size 3 i3 (.int .i64 0) 1 8 und43 HI.out.1 HI.out.2.1 HI.out.2.2.1 HI.out.2.2.2 rfl (by decide) _ _ _ rfl hO.out ⟨wr.heap.size, 0, none⟩ 1 1 [intV k] rfl rfl ?c1 ?c2 ?c3 ?c4 ?c5 ?_)
        case c1 =>
          intro j x hj
          match j, hj with
          | 0, hj =>
            simp at hj; subst hj
            show ((wr.alloc (.cells #[.int .i64 k] 3)).cell? _) = _
            rw [show (⟨wr.heap.size, 0, none⟩ : Addr).add 0 = ⟨wr.heap.size, 0, none⟩ from rfl, World.cell?_alloc_at _ _ _ _ rfl]; rfl
        case c2 => intro x hx; simp at hx; subst hx; rfl
        case c3 => unfold maxLen; omega
        case c4 => omega
        case c5 => simp; omega
        intro v' w1 hown' hgrow _
        have hO' : Hid (w1.ownsRow w.heap.size 3 1 v' (usedL u (k + 1)).length ((usedL u (k + 1)).map intV)) := by
          show w1.ownsRow _ _ _ _ _ _
          rw [usedL_yes u k hU.out, List.length_append, List.map_append]; exact hown'
        have hM' : Hid (Mod (fun _ => False) w w1) := ((hmod.out.alloc (.cells #[.int .i64 k] 3)).grown hgrow (fun j hj => (hown.out.lt j hj).1))
        clear hown' hgrow
        go_wp2
        first | exact ⟨⟨k + 1, hlt, by go_num, hO', hM'⟩, by simp [intOf]; omega⟩ | ((repeat apply Exists.intro); exact ⟨⟨k + 1, hlt, by go_num, hO', hM'⟩, rfl⟩)
    · obtain rfl : k = n := by omega
      go_wp2
      go_ret
      exact ⟨_, rfl, hown, hmod⟩
end
/-- The slice v can be read, as the numbers l. -/
def IntsAt (w : World) (v : Value) (l : List Nat) : Prop := ∃ a cap, v = .slice a l.length cap ∧ ∀ j x, l[j]? = some x → ∃ g, a = some ⟨g, 0, none⟩ ∧ w.cell? ⟨g, j, none⟩ = some (intV x)
theorem ints_owned {w : World} {base : Nat} {v : Value} {l : List Nat} (h : w.ownsRow base 3 1 v l.length (l.map intV)) : IntsAt w v l := by
  rcases h.2 with ⟨rfl, hl⟩ | ⟨g, cap, cur, rfl, _, hh, _, _, _, ht⟩
  · refine ⟨none, 0, by rw [hl], fun j x hj => ?_⟩
    have := (List.getElem?_eq_some_iff.1 hj).1; omega
  · refine ⟨_, cap, rfl, fun j x hj => ⟨g, rfl, ?_⟩⟩
    have hj2 := (List.getElem?_eq_some_iff.1 hj).1
    rw [cell_of_row w g j cur 3 (0, 0) hh]
    have h1 : (cur.toList.take (l.length * 1))[j]? = some (intV x) := by rw [ht, List.getElem?_map, hj]; rfl
    rw [List.getElem?_take, if_pos (by omega)] at h1
    simpa using h1
set_option maxHeartbeats 800000 in
theorem ints_true (w : World) (va vb : Value) (l : List Nat) (hl : l.length ≤ 4096) (ha : IntsAt w va l) (hb : IntsAt w vb l) :
    Calls Tryd.prog 17 #[va, vb] w fun e w' => e = .returned (.bool true) ∧ ∃ m, w' = w.drewN m := by
  obtain ⟨a, ca, rfl, ha⟩ := ha
  obtain ⟨b, cb, rfl, hb⟩ := hb
  have HA : Hid (∀ j x, l[j]? = some x → ∃ g, a = some ⟨g, 0, none⟩ ∧ w.cell? ⟨g, j, none⟩ = some (intV x)) := ha
  have HB : Hid (∀ j x, l[j]? = some x → ∃ g, b = some ⟨g, 0, none⟩ ∧ w.cell? ⟨g, j, none⟩ = some (intV x)) := hb
  clear ha hb
  go_enter Tryd.func17, Tryd.ntmps17
  go_wp2
  go_loopw [13] (fun i wr => ∃ k m : Nat, k ≤ l.length ∧ i = .int .i64 k ∧ Hid (wr = w.drewN m)) (fun i _ => l.length - (intOf i).toNat)
  case atStart => exact ⟨0, 0, by omega, rfl, rfl⟩
  case round =>
    obtain ⟨k, m, hk, rfl, hwr⟩ := hrel
    obtain rfl := hwr.out
    by_cases hlt : k < l.length
    · obtain ⟨ga, ea, hca⟩ := HA.out k l[k] (List.getElem?_eq_getElem hlt)
      obtain ⟨gb, eb, hcb⟩ := HB.out k l[k] (List.getElem?_eq_getElem hlt)
      subst ea; subst eb
      unfold intV at hca hcb
      have hlt' : (k : Int) < (l.length : Int) := by omega
      generalize l[k] = x at *
      go_wp2
      go_quiet (fail)
      go_wp2
      exact ⟨⟨k + 1, _, hlt, by go_num, rfl⟩, by simp [intOf]; omega⟩
    · go_wp2
      go_ret
      exact ⟨rfl, m, rfl⟩
end Go.Proofs.YtipdpifpblaldaaDoor
