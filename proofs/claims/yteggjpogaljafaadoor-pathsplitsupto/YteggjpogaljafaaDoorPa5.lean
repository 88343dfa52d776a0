/- The walks of the plain answers Clean and Join. Conditions: lengths that fit. -/
import Derived.Test.YteggjpogaljafaaDoorPa4
namespace Go.Proofs.YteggjpogaljafaaDoor
open Go.RowKit
attribute [local go_sem] ext_eq app_eq get_eq toL_eq
def wt (ns : List (List UInt8)) : Nat := (ns.map List.length).sum + ns.length
theorem wt_app (a b : List (List UInt8)) : wt (a ++ b) = wt a + wt b := by simp [wt]; omega
theorem wt_one (n : List UInt8) : wt [n] = n.length + 1 := by simp [wt]
theorem wt_dropLast (a : List (List UInt8)) : wt a.dropLast ≤ wt a := by
  rcases nil_or_snoc a with rfl | ⟨ys, y, rfl⟩
  · simp
  · simp [wt_app]
theorem wt_clStep (b : Bool) (out : List (List UInt8)) (n : List UInt8) : wt (Pa.clStep b out n) ≤ wt out + wt [n] := by
  unfold Pa.clStep
  repeat' split
  all_goals (first | (have := wt_dropLast out; omega) | (rw [wt_app]; omega) | omega)
theorem wt_cl (b : Bool) (ns : List (List UInt8)) : wt (Pa.cl b ns) ≤ wt ns := by
  have h : ∀ (ns out : List (List UInt8)), wt (ns.foldl (Pa.clStep b) out) ≤ wt out + wt ns := by
    intro ns
    induction ns with
    | nil => intro out; simp [wt]
    | cons n ns ih => intro out; have h1 := ih (Pa.clStep b out n); have h2 := wt_clStep b out n; have h3 : wt (n :: ns) = wt [n] + wt ns := wt_app [n] ns; simp only [List.foldl_cons]; omega
  have := h ns []
  simpa [Pa.cl, wt] using this
theorem wt_nms_aux (n : Nat) : ∀ l : List UInt8, l.length ≤ n → wt (Pa.nms l) ≤ l.length + 1 := by
  induction n with
  | zero => intro l h; have : l = [] := List.length_eq_zero_iff.1 (by omega); subst this; simp [Pa.nms_nil, wt]
  | succ n ih =>
    intro l h
    rcases Pa.indexByte_cut 47 l with ⟨_, hn⟩ | ⟨k, _, hk, hn, hl⟩
    · rw [Pa.nms_plain l hn]; split
      · simp [wt]
      · rw [wt_one]; exact Nat.le_refl _
    · have h2 := ih (l.drop (k + 1)) (by simp; omega)
      have h3 : wt (Pa.nms l) = wt (if l.take k = [] then [] else [l.take k]) + wt (Pa.nms (l.drop (k + 1))) := by
        conv => lhs; rw [hl, Pa.nms_cut _ _ hn]
        rw [wt_app]
      have h4 : wt (if l.take k = [] then [] else [l.take k]) ≤ k + 1 := by
        split
        · simp [wt]
        · rw [wt_one]; simp; omega
      simp only [List.length_drop] at h2
      omega
theorem wt_nms (l : List UInt8) : wt (Pa.nms l) ≤ l.length + 1 := wt_nms_aux _ l (Nat.le_refl _)
theorem wt_lft (l : List UInt8) : wt (Pa.lft l) ≤ l.length + 1 := Nat.le_trans (wt_cl _ _) (wt_nms l)
theorem jn_wt (ns : List (List UInt8)) : (Pa.jn ns).length ≤ wt ns := jn_le_of ns
theorem len_wt (ns : List (List UInt8)) : ns.length ≤ wt ns := by unfold wt; omega
/-- The list of a path's names, clean, in fresh memory. -/
def Fresh (w w' : World) (v : Value) (xs : List (List UInt8)) : Prop := w'.ownsRow w.heap.size 9 1 v xs.length (xs.map sv)
theorem Fresh.form {w w' : World} {v : Value} {xs : List (List UInt8)} (h : Fresh w w' v xs) : ∃ a c, v = .slice a xs.length c ∧ xs.length ≤ c ∧ Strs w' a xs ∧ (∀ b, a.map (·.block) = some b → w.heap.size ≤ b ∧ b < w'.heap.size) := (own_strs h).2
set_option maxRecDepth 100000 in
set_option maxHeartbeats 1000000 in
theorem rCleanS (l : List UInt8) (w : World) (hs : l.length ≤ 2 ^ 39) : Calls Tryd.prog 16 #[.string ⟨l.toArray⟩] w fun e w' => e = .returned (.string ⟨(Pa.clean l).toArray⟩) ∧ Below w.heap.size w w' := by
  have hw := wt_lft l
  have hj := jn_wt (Pa.lft l)
  have hl := len_wt (Pa.lft l)
  have hn := Pa.nms_length l
  have hm : l.length ≤ maxLen := by unfold maxLen; omega
  have HM : Hid (l.length ≤ maxLen) := hm
  clear hm
  go_enter Tryd.func16, Tryd.ntmps16
  go_wp2_with (first | (go_at_call 32; refine (rAbs l _ HM.out).mono ?_; rintro e w1 ⟨rfl, rfl⟩) | (go_at_call 31; refine (rNames l _ (by omega)).mono ?_; rintro e w1 ⟨v, rfl, hv, HB1⟩; obtain ⟨-, a, c, rfl, hc, HS, hb⟩ := own_strs hv; clear hv))
  refine (rClean (Pa.absB l) (Pa.nms l) a c _ HS (by omega)).mono ?_
  rintro e w2 ⟨v, rfl, hv, HB2⟩
  obtain ⟨-, a2, c2, rfl, hc2, HS2, hb2⟩ := own_strs hv
  clear hv
  go_wp2_with fail
  refine (rString (Pa.absB l) false (Pa.lft l) a2 c2 _ HS2 (by omega) (by omega)).mono ?_
  rintro e w3 ⟨rfl, HB3⟩
  go_wp2
  go_ret
  exact ⟨rfl, (HB1.trans (HB2.mono HB1.size)).trans (HB3.mono (by have := HB1.size; have := HB2.size; omega))⟩
end Go.Proofs.YteggjpogaljafaaDoor
