/- The walk of Used: the blocks in use, rising, in new memory. Condition: the store lies in memory as 'St' says. -/
import Derived.Test.YtgplmgliockbcaaDoorSt
namespace Go.Proofs.YtgplmgliockbcaaDoor
open Go.RowKit
theorem Mod.grown {s : Nat → Prop} {a w w' : World} {row : Option Nat} (h : Mod s a w) (hg : w.grownBy w' row) (hr : ∀ k, row = some k → a.heap.size ≤ k) : Mod s a w' :=
  ⟨hg.os.trans h.os, hg.tape.trans h.tape, hg.output.trans h.output, Nat.le_trans h.size hg.size, fun k hk hs =>
    (hg.block k (Nat.lt_of_lt_of_le hk h.size) (fun e => by have := hr k e.symm; omega)).trans (h.block k hk hs)⟩
def usedL (u : Nat → Bool) (k : Nat) : List Nat := (List.range k).filter u
def intV (x : Nat) : Value := .int .i64 x
theorem usedL_yes (u : Nat → Bool) (k : Nat) (h : u k = true) : usedL u (k + 1) = usedL u k ++ [k] := by
  simp [usedL, List.range_succ, List.filter_append, h]
theorem usedL_no (u : Nat → Bool) (k : Nat) (h : u k = false) : usedL u (k + 1) = usedL u k := by
  simp [usedL, List.range_succ, List.filter_append, h]
theorem usedL_le (u : Nat → Bool) (k : Nat) : (usedL u k).length ≤ k := by
  have := List.length_filter_le u (List.range k)
  simpa [usedL] using this
theorem usedL_cnt (u : Nat → Bool) : ∀ k, (usedL u k).length = Bt.cnt u k
  | 0 => rfl
  | k + 1 => by
    have ih := usedL_cnt u k
    cases h : u k with
    | false => rw [usedL_no u k h, ih]; simp [Bt.cnt, h]
    | true => rw [usedL_yes u k h, List.length_append, ih]; simp [Bt.cnt, h]
theorem info3 : ∃ i, Tryd.prog.info? 3 = some i ∧ i.zero = some (.int .i64 0) ∧ i.size = 1 ∧ i.bytes = 8 := info_of (by kernel_rfl)
theorem und43 : Tryd.prog.underlying 33 = some (.slice 3) := by kernel_rfl
set_option maxHeartbeats 1000000 in
theorem used_any {w : World} {b c n : Nat} {u : Nat → Bool} {D : Nat → Nat} (S : St w b c n u D) :
    Calls Tryd.prog 38 #[.pointer (some ⟨b, 0, none⟩)] w fun e w' => ∃ v, e = .returned v ∧ w'.ownsRow w.heap.size 3 1 v (usedL u n).length ((usedL u n).map intV) ∧ Mod (fun _ => False) w w' := by
  obtain ⟨i3, hi, hz0, hz1, hz2⟩ := info3
  have hn1 := S.n1
  have hn2 := S.n2
  obtain ⟨cc, hsl⟩ := S.sl
  have HS : Hid (St w b c n u D) := S
  have HI : Hid (Tryd.prog.info? 3 = some i3 ∧ i3.zero = some (.int .i64 0) ∧ i3.size = 1 ∧ i3.bytes = 8) := ⟨hi, hz0, hz1, hz2⟩
  clear S hi hz0 hz1 hz2
  go_enter Tryd.func38, Tryd.ntmps38
  go_wp2_with (go_at_call 57; refine (made_yes b _ n cc _ hsl hn1).mono ?_; rintro e w' ⟨rfl, hw'⟩; rw [hw']; clear hw' w')
  go_loopw [3, 13] (fun v i wr => ∃ k : Nat, k ≤ n ∧ i = .int .i64 k ∧ Hid (wr.ownsRow w.heap.size 3 1 v (usedL u k).length ((usedL u k).map intV)) ∧ Hid (Mod (fun _ => False) w wr)) (fun _ i _ => n - (intOf i).toNat)
  case atStart => exact ⟨0, Nat.zero_le _, rfl, World.ownsRow_nil _ _ _ _, Mod.refl _ _⟩
  case round =>
    obtain ⟨k, hk, rfl, hown, hmod⟩ := hrel
    by_cases hlt : k < n
    · have HSr : Hid (St wr b c n u D) := HS.out.mod hmod.out (fun h => h) (fun h => h) (fun h => h)
      cases hu : u k with
      | false =>
        have hU : Hid (u k = false) := hu
        clear hu
        go_wp2_with (go_at_call 58; refine (HSr.out.is_in k hlt).mono ?_; rw [hU.out]; rintro e w' ⟨rfl, m, rfl⟩)
        exact ⟨⟨k + 1, hlt, by go_num, by rw [usedL_no u k hU.out]; exact hown, hmod.out.drewN m⟩, by simp [intOf]; omega⟩
      | true =>
        have hU : Hid (u k = true) := hu
        clear hu
        have hle := usedL_le u k
        have hO : Hid ((wr.alloc (.cells #[.int .i64 k] 3)).ownsRow w.heap.size 3 1 u3 (usedL u k).length ((usedL u k).map intV)) := hown.out.alloc _
        have hsz := hmod.out.size
        go_wp2_with (first | (go_at_call 58; refine (HSr.out.is_in k hlt).mono ?_; rw [hU.out]; rintro e w' ⟨rfl, m, rfl⟩) | (at_builtin; refine wpList_append_own _ rfl _ _ 33 rfl w.heap.size 3 i3 (.int .i64 0) 1 8 und43 HI.out.1 HI.out.2.1 HI.out.2.2.1 HI.out.2.2.2 rfl (by decide) _ _ _ rfl hO.out ⟨wr.heap.size, 0, none⟩ 1 1 [intV k] rfl rfl ?c1 ?c2 ?c3 ?c4 ?c5 ?_))
        case c1 =>
          intro j x hj
          match j, hj with
          | 0, hj =>
            simp at hj; subst hj
            show ((wr.alloc (.cells #[.int .i64 k] 3)).cell? _) = _
            rw [show (⟨wr.heap.size, 0, none⟩ : Addr).add 0 = ⟨wr.heap.size, 0, none⟩ from rfl, World.cell?_alloc_at _ _ _ _ rfl]; rfl
        case c2 => intro x hx; simp at hx; subst hx; rfl
        case c3 => unfold maxLen; omega
        case c4 => omega
        case c5 => simp; omega
        intro v' w1 hown' hgrow _
        have hO' : Hid (w1.ownsRow w.heap.size 3 1 v' (usedL u (k + 1)).length ((usedL u (k + 1)).map intV)) := by
          show w1.ownsRow _ _ _ _ _ _
          rw [usedL_yes u k hU.out, List.length_append, List.map_append]; exact hown'
        have hM' : Hid (Mod (fun _ => False) w w1) := (((hmod.out.alloc (.cells #[.int .i64 k] 3)).drewN _).grown hgrow (fun j hj => (hown.out.lt j hj).1))
        clear hown' hgrow
        go_wp2
        first | exact ⟨⟨k + 1, hlt, by go_num, hO', hM'⟩, by simp [intOf]; omega⟩ | ((repeat apply Exists.intro); exact ⟨⟨k + 1, hlt, by go_num, hO', hM'⟩, rfl⟩)
    · obtain rfl : k = n := by omega
      go_wp2
      go_ret
      exact ⟨_, rfl, hown, hmod⟩
end Go.Proofs.YtgplmgliockbcaaDoor
