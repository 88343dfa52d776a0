/- The walks of the plain answers that make lists of names. Conditions: lengths that fit. -/
import Derived.Test.YteggjpogaljafaaDoorPa1
import Derived.Deep.AppendLies
import Derived.Laws.OwnMore
import Derived.Maps.AppendAt
import Derived.RangeFuncBox
import Derived.WalkSmall
namespace Go.Proofs.YteggjpogaljafaaDoor
open Go.RowKit
attribute [local go_sem] ext_eq app_eq get_eq toL_eq
def sv (l : List UInt8) : Value := .string ⟨l.toArray⟩
theorem info9 : (Tryd.prog.info? 9).map (fun i => (i.zero, i.size, i.bytes)) = some (some (.string ⟨#[]⟩), 1, 16) := by kernel_rfl
/-- Behind an append to a row of one's own, all that lay below the base lies as it lay. -/
theorem below_app {w W w1 : World} {n₀ : Nat} {e : TypeId} {size : Nat} {v : Value} {n : Nat} {xs : List Value} {o : Obj} (hB : Below n₀ w W) (hn : n₀ ≤ w.heap.size) (hrow : W.ownsRow n₀ e size v n xs) (hg : (W.alloc o).grownBy w1 v.ownBlock) : Below n₀ w w1 := by
  have hz := hB.size
  refine (hB.alloc (by omega) o).grown hg (by simp; omega) fun j ej => ?_
  exact (hrow.lt j ej).1
theorem drop_one (l : List UInt8) (k : Nat) (h : k < l.length) : (l.take (k + 1)).drop k = [l[k]] := by rw [take_get l k h, List.drop_append]; simp [Nat.min_eq_left (Nat.le_of_lt h)]
theorem one_cell (x : List UInt8) : ∀ u ∈ [Value.string ⟨x.toArray⟩], u.oneCell' = true := fun u hu => by simp at hu; subst hu; rfl
theorem fold_le2 (l : List UInt8) : ∀ (p : List (List UInt8)) (q : List UInt8), (l.foldl Pa.nmStep (p, q)).2.length ≤ q.length + l.length := by
  induction l with
  | nil => intro p q; simp
  | cons c l ih =>
    intro p q
    rw [List.foldl_cons]
    by_cases h : c = 47
    · simp only [Pa.nmStep, h, if_true]; have := ih (if q = [] then p else p ++ [q]) []; simp at this ⊢; omega
    · simp only [Pa.nmStep, h, if_false]; have := ih p (q ++ [c]); simp at this ⊢; omega
theorem nmFold_le2 (l : List UInt8) : (Pa.nmFold l).2.length ≤ l.length := by have := fold_le2 l [] []; simpa [Pa.nmFold] using this
theorem nmFold_le (l : List UInt8) : (Pa.nmFold l).1.length ≤ l.length := by
  have h := Pa.nms_length l
  unfold Pa.nms at h
  split at h
  · exact h
  · simp at h; omega
set_option maxRecDepth 100000 in
set_option maxHeartbeats 400000 in
theorem rNames (l : List UInt8) (w : World) (hs : l.length ≤ 2 ^ 40) : Calls Tryd.prog 31 #[.string ⟨l.toArray⟩] w fun e w' => ∃ v, e = .returned v ∧ w'.ownsRow w.heap.size 9 1 v (Pa.nms l).length ((Pa.nms l).map sv) ∧ Below w.heap.size w w' := by
  obtain ⟨i0, hi, hz0, hz1, hz2⟩ := info_parts info9
  go_enter Tryd.func31, Tryd.ntmps31
  go_wp2
  go_loopw [3, 4, 5] (fun v t i W => ∃ k : Nat, k ≤ l.length ∧ i = .int .i64 k ∧ t = .string ⟨(Pa.nmFold (l.take k)).2.toArray⟩ ∧ W.ownsRow w.heap.size 9 1 v (Pa.nmFold (l.take k)).1.length ((Pa.nmFold (l.take k)).1.map sv) ∧ Below w.heap.size w W) (fun _ _ i _ => l.length - (intOf i).toNat)
  case atStart => exact ⟨0, Nat.zero_le _, rfl, rfl, World.ownsRow_nil _ _ _ _, Below.refl _ _⟩
  case round =>
    obtain ⟨k, hk, rfl, rfl, hrow, hB⟩ := hrel
    have hle := nmFold_le (l.take k)
    rw [List.length_take, Nat.min_eq_left hk] at hle
    have hle2 := nmFold_le2 (l.take k)
    rw [List.length_take, Nat.min_eq_left hk] at hle2
    by_cases hlt : k < l.length
    · have HF : Hid (Pa.nmFold (l.take (k + 1)) = Pa.nmStep (Pa.nmFold (l.take k)) l[k]) := by show _ = _; rw [take_get l k hlt, Pa.nmFold_snoc]
      by_cases hc : l[k] = 47
      · have hc' : ((l[k].toNat : Int) == 47) = true := by rw [byte_slash]; simpa using hc
        rw [hc] at HF
        clear hc
        by_cases he : (Pa.nmFold (l.take k)).2 = []
        · have he' : (Pa.nmFold (l.take k)).2.isEmpty = true := by simp [he]
          have HE : Hid ((Pa.nmFold (l.take k)).2 = []) := he
          clear he
          go_wp2
          exact ⟨⟨k + 1, by omega, by go_num, by rw [HF.out]; simp [Pa.nmStep], by rw [HF.out]; simpa [Pa.nmStep, HE.out] using hrow, hB⟩, by simp [intOf]; omega⟩
        · have he' : (Pa.nmFold (l.take k)).2.isEmpty = false := by simp [he]
          have HE : Hid (¬ (Pa.nmFold (l.take k)).2 = []) := he
          clear he
          have hsz := hB.size
          go_wp2_with (at_builtin; refine wpList_append_own _ rfl _ _ 22 rfl w.heap.size 9 i0 (.string ⟨#[]⟩) 1 16 Tryd.underlying22 hi hz0 hz1 hz2 rfl (by decide) _ _ _ rfl (hrow.alloc _) ⟨wr.heap.size, 0, none⟩ 1 1 [.string ⟨(Pa.nmFold (l.take k)).2.toArray⟩] rfl rfl (cell_one_new _ _ _) (one_cell _) (by unfold maxLen; omega) (by omega) (by simp; omega) ?_; intro v' w1 hown' hgrow _)
          exact ⟨⟨k + 1, by omega, by go_num, by rw [HF.out]; simp [Pa.nmStep], by rw [HF.out]; simpa [Pa.nmStep, HE.out, sv] using hown', below_app hB (Nat.le_refl _) hrow hgrow⟩, by simp [intOf]; omega⟩
      · have hc' : ((l[k].toNat : Int) == 47) = false := by rw [byte_slash]; simpa using hc
        have HC : Hid (¬ l[k] = 47) := hc
        clear hc
        have hmin : min (k + 1) l.length - k = 1 := by omega
        go_wp2
        exact ⟨⟨k + 1, by omega, by go_num, by rw [HF.out, drop_one l k hlt]; simp [Pa.nmStep, HC.out], by rw [HF.out]; simpa [Pa.nmStep, HC.out] using hrow, hB⟩, by simp [intOf]; omega⟩
    · have hkl : l.take k = l := List.take_of_length_le (by omega)
      rw [hkl] at hrow hle hle2 ⊢
      have HL : Hid (Pa.nms l = if (Pa.nmFold l).2 = [] then (Pa.nmFold l).1 else (Pa.nmFold l).1 ++ [(Pa.nmFold l).2]) := rfl
      clear hkl
      by_cases he : (Pa.nmFold l).2 = []
      · have he' : (Pa.nmFold l).2.isEmpty = true := by simp [he]
        have HE : Hid ((Pa.nmFold l).2 = []) := he
        clear he
        go_wp2
        go_ret
        exact ⟨_, rfl, by rw [HL.out, if_pos HE.out]; exact hrow, hB⟩
      · have he' : (Pa.nmFold l).2.isEmpty = false := by simp [he]
        have HE : Hid (¬ (Pa.nmFold l).2 = []) := he
        clear he
        have hsz := hB.size
        go_wp2_with (at_builtin; refine wpList_append_own _ rfl _ _ 22 rfl w.heap.size 9 i0 (.string ⟨#[]⟩) 1 16 Tryd.underlying22 hi hz0 hz1 hz2 rfl (by decide) _ _ _ rfl (hrow.alloc _) ⟨wr.heap.size, 0, none⟩ 1 1 [.string ⟨(Pa.nmFold l).2.toArray⟩] rfl rfl (cell_one_new _ _ _) (one_cell _) (by unfold maxLen; omega) (by omega) (by simp; omega) ?_; intro v' w1 hown' hgrow _)
        go_ret
        exact ⟨_, rfl, by rw [HL.out, if_neg HE.out]; simpa [sv] using hown', below_app hB (Nat.le_refl _) hrow hgrow⟩
end Go.Proofs.YteggjpogaljafaaDoor
