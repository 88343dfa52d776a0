/- The walks of the program's cut, optional, ownerNumber, Owner. Conditions: lengths that fit. -/
import Derived.Test.YtgkjpfebjhhdkaaDoorNa1
import Derived.OwnWalk
namespace Go.Proofs.YtgkjpfebjhhdkaaDoor
open Go.RowKit
attribute [local go_sem] ext_eq app_eq get_eq
theorem aheads {m : UInt8} {l : List UInt8} {pos : Nat} (hp : pos < l.length) (h : ∀ j (hj : j < l.length), j < pos → l[j] ≠ m) (he : l[pos] = m) : Na.ahead m l = l.take pos ∧ Na.behind m l = l.drop (pos + 1) ∧ Na.has m l = true := by
  have hpre : ∀ x ∈ l.take pos, decide (x ≠ m) = true := by
    intro x hx
    obtain ⟨j, hj, rfl⟩ := List.mem_iff_getElem.1 hx
    rw [List.getElem_take]
    rw [List.length_take] at hj
    exact decide_eq_true (h j (by omega) (by omega))
  have hl : l = l.take pos ++ l[pos] :: l.drop (pos + 1) := by rw [← List.drop_eq_getElem_cons hp, List.take_append_drop]
  have h1 : Na.ahead m l = l.take pos := by
    unfold Na.ahead
    conv => lhs; rw [hl]
    rw [List.takeWhile_append_of_pos hpre, List.takeWhile_cons_of_neg (by simp [he]), List.append_nil]
  have h2 : Na.behind m l = l.drop (pos + 1) := by
    unfold Na.behind
    conv => lhs; rw [hl]
    rw [List.dropWhile_append_of_pos hpre, List.dropWhile_cons_of_neg (by simp [he]), List.tail_cons]
  exact ⟨h1, h2, by unfold Na.has; rw [List.any_eq_true]; exact ⟨l[pos], List.getElem_mem hp, decide_eq_true he⟩⟩
theorem aheads_no {m : UInt8} {l : List UInt8} (h : ∀ j (hj : j < l.length), j < l.length → l[j] ≠ m) : Na.ahead m l = l ∧ Na.behind m l = [] ∧ Na.has m l = false := by
  have hpre : ∀ x ∈ l, decide (x ≠ m) = true := by
    intro x hx
    obtain ⟨j, hj, rfl⟩ := List.mem_iff_getElem.1 hx
    exact decide_eq_true (h j hj hj)
  refine ⟨?_, ?_, ?_⟩
  · unfold Na.ahead; rw [← List.append_nil l, List.takeWhile_append_of_pos (by simpa using hpre)]; simp
  · unfold Na.behind; rw [← List.append_nil l, List.dropWhile_append_of_pos (by simpa using hpre)]; simp
  · unfold Na.has; rw [List.any_eq_false]; intro x hx; simpa using hpre x hx
set_option maxRecDepth 100000 in
set_option maxHeartbeats 2000000 in
theorem nCut (m : UInt8) (hm : m.toNat < 128) (l : List UInt8) (w : World) (hl : l.length ≤ 2 ^ 47) : Calls Tryd.prog 34 #[.string ⟨l.toArray⟩, .int .i32 m.toNat] w fun e w' => e = .returned (.tuple #[.string ⟨(Na.ahead m l).toArray⟩, .string ⟨(Na.behind m l).toArray⟩, .bool (Na.has m l)]) ∧ Below w.heap.size w w' := by
  have HB : Hid (∀ p m, Below w.heap.size w ((w.iter ⟨l.toArray⟩ p).drewN m)) := fun p m => (below_iter w _ p).trans ⟨rfl, rfl, rfl, Nat.le_refl _, fun _ _ => rfl⟩
  have HB0 : Hid (∀ p, Below w.heap.size w (w.iter ⟨l.toArray⟩ p)) := fun p => below_iter w _ p
  generalize hbk : w.heap.size = bk at *
  go_enter Tryd.func34, Tryd.ntmps34
  go_wp2_with fail
  go_loopw [7] (fun _ w' => ∃ (pos : Nat), w' = w.iter ⟨l.toArray⟩ pos ∧ pos ≤ l.length ∧ Hid (∀ j (hj : j < l.length), j < pos → l[j] ≠ m)) (fun _ w' => l.length - w'.iterPos bk)
  case atStart => exact ⟨0, rfl, Nat.zero_le _, fun j _ hj => by omega⟩
  case round =>
    obtain ⟨pos, rfl, hle, HN⟩ := hrel
    by_cases hp : pos < l.length
    · by_cases hc : l[pos].toNat < 128
      · have hnx : ∀ ty, (Instr.next (.pointer (some ⟨bk, 0, none⟩)) true ty).run Tryd.prog (w.iter ⟨l.toArray⟩ pos) = .ok (.tuple #[.bool true, .int .i64 pos, .int .i32 l[pos].toNat]) (w.iter ⟨l.toArray⟩ (pos + 1)) := fun ty => nit_low w bk hbk l pos hp hc ty
        by_cases h1 : l[pos] = m
        · have h1' := byte_yes l[pos] m m.toNat rfl h1
          have HE := hidA (aheads hp HN.out h1)
          clear HN h1
          have hw : IntKind.i64.wrap ((pos : Int) + 1) = ((pos + 1 : Nat) : Int) := by rw [IntKind.wrap_i64]; omega
          have htl : List.take l.length l = l := List.take_length
          go_wp2_with (go_quiet (fail))
          refine bodyPost_ret (results_tmp3 rfl _ _ _) rfl ?_
          exact ⟨by rw [HE.out.1, HE.out.2.1, HE.out.2.2]; rfl, HB.out _ _⟩
        · have h1' := byte_no l[pos] m m.toNat rfl h1
          have HE : Hid (∀ j (hj : j < l.length), j < pos + 1 → l[j] ≠ m) := by
            intro j hj hj2
            by_cases e : j = pos
            · subst e; exact h1
            · exact HN.out j hj (by omega)
          clear HN h1
          go_wp2_with fail
          exact ⟨⟨pos + 1, rfl, hp, HE⟩, by rw [nit_pos w bk hbk, nit_pos w bk hbk]; omega⟩
      · obtain ⟨hh1, hh2⟩ := dec_high l pos hp (by omega)
        obtain ⟨hs1, hs2⟩ := dec_skip l pos hp
        have hnx : ∀ ty, (Instr.next (.pointer (some ⟨bk, 0, none⟩)) true ty).run Tryd.prog (w.iter ⟨l.toArray⟩ pos) = _ := fun ty => nit_any w bk hbk l pos hp ty
        generalize Utf8.decode ⟨l.toArray⟩ pos = D at hnx hh1 hh2 hs1 hs2
        have h1 : ((D.1 : Int) == (m.toNat : Int)) = false := by simp; omega
        have HE : Hid (∀ j (hj : j < l.length), j < pos + D.2 → l[j] ≠ m) := by
          intro j hj hj2 hjm
          by_cases e : j < pos
          · exact HN.out j hj e hjm
          · by_cases e2 : j = pos
            · subst e2; rw [hjm] at hc; exact hc hm
            · have := hs2 j hj (by omega) hj2
              rw [hjm] at this; omega
        clear HN hs2 hh1
        go_wp2_with fail
        exact ⟨⟨pos + D.2, rfl, hs1, HE⟩, by rw [nit_pos w bk hbk, nit_pos w bk hbk]; omega⟩
    · have hnx : ∀ ty, (Instr.next (.pointer (some ⟨bk, 0, none⟩)) true ty).run Tryd.prog (w.iter ⟨l.toArray⟩ pos) = _ := fun ty => nit_fin w bk hbk l pos hp ty
      obtain rfl : pos = l.length := by omega
      have HE := hidA (aheads_no HN.out)
      clear HN
      go_wp2_with fail
      refine bodyPost_ret (results_tmp3 rfl _ _ _) rfl ?_
      exact ⟨by rw [HE.out.1, HE.out.2.1, HE.out.2.2]; rfl, HB0.out _⟩
set_option maxHeartbeats 1000000 in
theorem nOptional (l : List UInt8) (w : World) : Calls Tryd.prog 35 #[.string ⟨l.toArray⟩] w fun e w' => e = .returned (.bool (Na.opt l)) ∧ Below w.heap.size w w' := by
  have HP := hidA (nPlain 10 (by decide) l w)
  have HE : Hid (Na.opt l = (l.isEmpty || Na.pl 10 l)) := rfl
  cases he : l.isEmpty with
  | true =>
    rw [he] at HE
    go_enter Tryd.func35, Tryd.ntmps35
    go_wp2
    go_ret
    exact ⟨by rw [HE.out]; rfl, Below.refl _ _⟩
  | false =>
    rw [he] at HE
    go_enter Tryd.func35, Tryd.ntmps35
    go_wp2_with (go_at_call 51; refine HP.out.mono ?_; rintro e w1 ⟨rfl, b1⟩)
    go_ret
    exact ⟨by rw [HE.out]; rfl, b1⟩
set_option maxHeartbeats 1000000 in
theorem nOwnerNumber (l : List UInt8) (w : World) (ho : Na.opt l = true) : Calls Tryd.prog 36 #[.string ⟨l.toArray⟩] w fun e w' => e = .returned (.tuple #[.int .i64 ((Na.own l).getD 0), .bool (Na.own l).isSome]) ∧ Below w.heap.size w w' := by
  have HE : Hid (Na.own l = if l.isEmpty then some (-1) else Na.vl 10 2147483647 0 l) := rfl
  have HO : Hid ((l.isEmpty || Na.pl 10 l) = true) := ho
  clear ho
  cases he : l.isEmpty with
  | true =>
    rw [he] at HE
    clear HO
    go_enter Tryd.func36, Tryd.ntmps36
    go_wp2
    go_ret2
    exact ⟨by rw [HE.out]; rfl, Below.refl _ _⟩
  | false =>
    rw [he] at HE HO
    have hd : l.all (Na.dig 10) = true := by have := HO.out; rw [Bool.false_or] at this; unfold Na.pl at this; rw [Bool.and_eq_true] at this; exact this.1
    have HV := hidA (nValue 10 2147483647 (by decide) (by decide) l hd w)
    rw [if_neg (by simp)] at HE
    clear HO
    go_enter Tryd.func36, Tryd.ntmps36
    go_wp2_with (go_at_call 62; refine HV.out.mono ?_; rintro e w1 ⟨rfl, b1⟩)
    go_ret2
    exact ⟨by rw [HE.out]; rfl, b1⟩
end Go.Proofs.YtgkjpfebjhhdkaaDoor
