/- Several texts of this claim, one behind the other, in their order. -/
import Derived.Test.YtpcbpikhiooafaaGreatDoorPa0
import Derived.Test.YtpcbpikhiooafaaGreatDoorShelf
import Derived.WalkKit
import Derived.WalkSpells
import Derived.WalkLawsBesides
import Derived.Handy
import Derived.Deep.QuietTactic
import Derived.BigQuiet
import Derived.Deep.AppendLies
import Derived.Laws.OwnMore
import Derived.Maps.AppendAt
import Derived.RangeFuncBox
import Derived.WalkSmall
/- The walks of the plain answers on texts alone. Conditions: lengths that fit. -/
namespace Go.Proofs.YtpcbpikhiooafaaGreatDoor
open Go.RowKit
theorem ext_eq (l : List UInt8) (a b : Nat) : (⟨l.toArray⟩ : ByteArray).extract a b = ⟨((l.take b).drop a).toArray⟩ := by
  apply ByteArray.ext
  simp [ByteArray.data_extract, List.drop_take]
theorem app_eq (a b : List UInt8) : (⟨a.toArray⟩ : ByteArray) ++ (⟨b.toArray⟩ : ByteArray) = ⟨(a ++ b).toArray⟩ := by
  apply ByteArray.ext
  simp [ByteArray.data_append]
theorem get_eq (l : List UInt8) (i : Nat) (h : i < (⟨l.toArray⟩ : ByteArray).size) : (⟨l.toArray⟩ : ByteArray)[i] = l[i]'(by simpa [ByteArray.size] using h) := rfl
theorem byte_eq (c d : UInt8) : (((c.toNat : Int) == (d.toNat : Int))) = decide (c = d) := by
  rw [Bool.eq_iff_iff]; simp [← UInt8.toNat_inj]; omega
theorem byte_slash (c : UInt8) : (((c.toNat : Int) == 47)) = decide (c = 47) := byte_eq c 47
theorem byte_slash' (c : UInt8) : (((c.toNat : Int) != 47)) = !decide (c = 47) := congrArg (!·) (byte_slash c)
theorem toL_eq (l : List UInt8) : (⟨l.toArray⟩ : ByteArray).toList = l := by rw [ByteArray.toList_eq]
theorem str_size (l : List UInt8) : (⟨l.toArray⟩ : ByteArray).size = l.length := by simp [ByteArray.size]
theorem ret_bool {a b : Bool} (h : a = b) : Ending.returned (.bool a) = .returned (.bool b) := by rw [h]
theorem ret_int {k : IntKind} {a b : Int} (h : a = b) : Ending.returned (.int k a) = .returned (.int k b) := by rw [h]
theorem ret_str {a b : List UInt8} (h : a = b) : Ending.returned (.string ⟨a.toArray⟩) = .returned (.string ⟨b.toArray⟩) := by rw [h]
def sizeS : Value → Nat
  | .string s => s.size
  | _ => 0
attribute [local go_sem] ext_eq app_eq get_eq
theorem absB_cons (c : UInt8) (r : List UInt8) : Pa.absB (c :: r) = decide (c = 47) := by
  rw [Bool.eq_iff_iff]; simp [Pa.absB]
theorem trim_nil (c : UInt8) : Lib.trimRightB [] c = [] := rfl
theorem trim_snoc (l : List UInt8) (c : UInt8) : Lib.trimRightB (l ++ [c]) c = Lib.trimRightB l c := by simp [Lib.trimRightB]
theorem trim_snoc_no (l : List UInt8) (c d : UInt8) (h : d ≠ c) : Lib.trimRightB (l ++ [d]) c = l ++ [d] := by simp [Lib.trimRightB, h]
theorem take_get (l : List UInt8) (k : Nat) (h : k < l.length) : l.take (k + 1) = l.take k ++ [l[k]] := List.take_succ_eq_append_getElem h
/-- The place behind the last slash. -/
def lastL (l : List UInt8) : Nat := l.length - (l.reverse.takeWhile (· != 47)).length
theorem lastL_snoc (l : List UInt8) (c : UInt8) : lastL (l ++ [c]) = if c = 47 then l.length + 1 else lastL l := by
  by_cases h : c = 47
  · simp [lastL, h]
  · have : (l.reverse.takeWhile (· != 47)).length ≤ l.length := by have := (List.takeWhile_prefix (fun c : UInt8 => c != 47) (l := l.reverse)).length_le; simpa using this
    simp [lastL, h]
theorem lastL_le (l : List UInt8) : lastL l ≤ l.length := by unfold lastL; omega
end Go.Proofs.YtpcbpikhiooafaaGreatDoor
/- The walks of the plain answers that make lists of names. Conditions: lengths that fit. -/
namespace Go.Proofs.YtpcbpikhiooafaaGreatDoor
open Go.RowKit
attribute [local go_sem] ext_eq app_eq get_eq toL_eq
def sv (l : List UInt8) : Value := .string ⟨l.toArray⟩
theorem info9 : (Tryz.prog.info? 9).map (fun i => (i.zero, i.size, i.bytes)) = some (some (.string ⟨#[]⟩), 1, 16) := by kernel_rfl
/-- Behind an append to a row of one's own, all that lay below the base lies as it lay. -/
theorem below_app {w W w1 : World} {n₀ : Nat} {e : TypeId} {size : Nat} {v : Value} {n : Nat} {xs : List Value} {o : Obj} (hB : Below n₀ w W) (hn : n₀ ≤ w.heap.size) (hrow : W.ownsRow n₀ e size v n xs) (hg : (W.alloc o).grownBy w1 v.ownBlock) : Below n₀ w w1 := by
  have hz := hB.size
  refine (hB.alloc (by omega) o).grown hg (by simp; omega) fun j ej => ?_
  exact (hrow.lt j ej).1
theorem drop_one (l : List UInt8) (k : Nat) (h : k < l.length) : (l.take (k + 1)).drop k = [l[k]] := by rw [take_get l k h, List.drop_append]; simp [Nat.min_eq_left (Nat.le_of_lt h)]
theorem one_cell (x : List UInt8) : ∀ u ∈ [Value.string ⟨x.toArray⟩], u.oneCell' = true := fun u hu => by simp at hu; subst hu; rfl
theorem fold_le2 (l : List UInt8) : ∀ (p : List (List UInt8)) (q : List UInt8), (l.foldl Pa.nmStep (p, q)).2.length ≤ q.length + l.length := by
  induction l with
  | nil => intro p q; simp
  | cons c l ih =>
    intro p q
    rw [List.foldl_cons]
    by_cases h : c = 47
    · simp only [Pa.nmStep, h, if_true]; have := ih (if q = [] then p else p ++ [q]) []; simp at this ⊢; omega
    · simp only [Pa.nmStep, h, if_false]; have := ih p (q ++ [c]); simp at this ⊢; omega
theorem nmFold_le2 (l : List UInt8) : (Pa.nmFold l).2.length ≤ l.length := by have := fold_le2 l [] []; simpa [Pa.nmFold] using this
theorem nmFold_le (l : List UInt8) : (Pa.nmFold l).1.length ≤ l.length := by
  have h := Pa.nms_length l
  unfold Pa.nms at h
  split at h
  · exact h
  · simp at h; omega
end Go.Proofs.YtpcbpikhiooafaaGreatDoor
/- The walks of the plain answers that read lists of names. Conditions: the list's cells are as said; lengths that fit. -/
namespace Go.Proofs.YtpcbpikhiooafaaGreatDoor
open Go.RowKit
attribute [local go_sem] ext_eq app_eq get_eq toL_eq
/-- The cells behind a slice's address hold these texts. -/
def Strs (W : World) (a : Option Addr) (xs : List (List UInt8)) : Prop := ∀ (j : Nat) x, xs[j]? = some x → ∃ bk o, a = some ⟨bk, o, none⟩ ∧ bk < W.heap.size ∧ W.cell? ⟨bk, o + j, none⟩ = some (.string ⟨x.toArray⟩)
theorem Strs.below {W W' : World} {n : Nat} {a : Option Addr} {xs : List (List UInt8)} (h : Strs W a xs) (hB : Below n W W') (hn : ∀ b, a.map (·.block) = some b → b < n) : Strs W' a xs := by
  intro j x hx
  obtain ⟨bk, o, rfl, hlt, hc⟩ := h j x hx
  exact ⟨bk, o, rfl, by have := hB.size; have := hn bk rfl; omega, (hB.cell (p := ⟨bk, o + j, none⟩) (hn bk rfl)).trans hc⟩
theorem Strs.grow {W W' : World} {a : Option Addr} {xs : List (List UInt8)} (h : Strs W a xs) (hB : Below W.heap.size W W') : Strs W' a xs := by
  intro j x hx
  obtain ⟨bk, o, rfl, hlt, hc⟩ := h j x hx
  exact ⟨bk, o, rfl, by have := hB.size; omega, (hB.cell (p := ⟨bk, o + j, none⟩) hlt).trans hc⟩
theorem Strs.nil (W : World) (a : Option Addr) : Strs W a [] := fun j x h => by simp at h
/-- A list of names of one's own, as a slice that is read. -/
theorem own_strs {W : World} {base n : Nat} {v : Value} {xs : List (List UInt8)} (h : W.ownsRow base 9 1 v n (xs.map sv)) : n = xs.length ∧ ∃ a c, v = .slice a xs.length c ∧ xs.length ≤ c ∧ Strs W a xs ∧ (∀ b, a.map (·.block) = some b → base ≤ b ∧ b < W.heap.size) := by
  have hn : n = xs.length := by have := h.1; simp at this; omega
  subst hn
  refine ⟨rfl, ?_⟩
  rcases h.2 with ⟨rfl, h0⟩ | ⟨g, cap, cur, rfl, hb, hg, hnc, _, _, ht⟩
  · have : xs = [] := List.length_eq_zero_iff.1 h0
    subst this
    exact ⟨none, 0, rfl, Nat.le_refl _, Strs.nil _ _, by simp⟩
  · have hlt : g < W.heap.size := (Array.getElem?_eq_some_iff.1 hg).1
    refine ⟨_, cap, rfl, hnc, fun j x hx => ⟨g, 0, rfl, hlt, ?_⟩, by simp; omega⟩
    have hj : j < xs.length := (List.getElem?_eq_some_iff.1 hx).1
    have := h.cellAt j (by simpa using hj)
    rw [Nat.zero_add, this]; simp [hx, sv]
theorem jn_snoc (ys : List (List UInt8)) (x : List UInt8) : Pa.jn (ys ++ [x]) = if ys = [] then x else Pa.jn ys ++ ([47] ++ x) := by
  cases ys with
  | nil => simp [Pa.jn, Lib.join_one]
  | cons y r => simp [Pa.jn, Lib.join_cons, Lib.joinTail]
theorem jn_take_le (xs : List (List UInt8)) (k : Nat) : (Pa.jn (xs.take k)).length ≤ (Pa.jn xs).length := by
  induction xs generalizing k with
  | nil => simp
  | cons y r ih =>
    cases k with
    | zero => simp [Pa.jn, Lib.join_nil]
    | succ k =>
      simp only [List.take_succ_cons, Pa.jn, Lib.join_cons, List.length_append, Lib.joinTail]
      have h1 : (List.map (fun x => [(47 : UInt8)] ++ x) (List.take k r)).flatten <+: (List.map (fun x => [(47 : UInt8)] ++ x) r).flatten := by
        conv => rhs; rw [← List.take_append_drop k r, List.map_append, List.flatten_append]
        exact List.prefix_append _ _
      have := h1.length_le
      omega
theorem take_ne (xs : List (List UInt8)) (k : Nat) (h0 : 0 < k) (hlt : k < xs.length) : ¬ xs.take k = [] := by
  rw [List.take_eq_nil_iff]; rintro (e | rfl)
  · omega
  · simp at hlt
theorem take_getL (xs : List (List UInt8)) (k : Nat) (h : k < xs.length) : xs.take (k + 1) = xs.take k ++ [xs[k]] := List.take_succ_eq_append_getElem h
theorem cl_snoc (b : Bool) (ns : List (List UInt8)) (n : List UInt8) : Pa.cl b (ns ++ [n]) = Pa.clStep b (Pa.cl b ns) n := by simp [Pa.cl]
theorem clStep_le (b : Bool) (out : List (List UInt8)) (n : List UInt8) : (Pa.clStep b out n).length ≤ out.length + 1 := by
  unfold Pa.clStep
  repeat' split
  all_goals simp
  omega
theorem fold_cl_le (b : Bool) (ns : List (List UInt8)) : ∀ out : List (List UInt8), (ns.foldl (Pa.clStep b) out).length ≤ out.length + ns.length := by
  induction ns with
  | nil => intro out; simp
  | cons n ns ih => intro out; have h1 := ih (Pa.clStep b out n); have h2 := clStep_le b out n; simp; omega
theorem cl_le (b : Bool) (ns : List (List UInt8)) : (Pa.cl b ns).length ≤ ns.length := by have := fold_cl_le b ns []; simpa [Pa.cl] using this
theorem own_slice {W : World} {base n : Nat} {e : TypeId} {v : Value} {xs : List Value} (h : W.ownsRow base e 1 v n xs) (hn : 0 < n) : ∃ g cap, v = .slice (some ⟨g, 0, none⟩) n cap ∧ n ≤ cap ∧ cap ≤ maxLen := by
  rcases h.2 with ⟨rfl, h0⟩ | ⟨g, cap, cur, rfl, hb, hg, hnc, hm, _⟩
  · omega
  · exact ⟨g, cap, rfl, hnc, hm⟩
theorem own_form {W : World} {base n : Nat} {e : TypeId} {v : Value} {xs : List Value} (h : W.ownsRow base e 1 v n xs) : ∃ a cap, v = .slice a n cap := by
  rcases h.2 with ⟨rfl, h0⟩ | ⟨g, cap, cur, rfl, _⟩
  · exact ⟨none, 0, by rw [h0]⟩
  · exact ⟨_, cap, rfl⟩
theorem nil_or_snoc (l : List (List UInt8)) : l = [] ∨ ∃ ys y, l = ys ++ [y] := by
  rcases List.eq_nil_or_concat l with h | ⟨ys, y, h⟩
  · exact .inl h
  · exact .inr ⟨ys, y, by simpa using h⟩
end Go.Proofs.YtpcbpikhiooafaaGreatDoor
/- The walks of the plain answers String, Clean, Join, Base, Dir. Conditions: lengths that fit. -/
namespace Go.Proofs.YtpcbpikhiooafaaGreatDoor
open Go.RowKit
attribute [local go_sem] ext_eq app_eq get_eq toL_eq
theorem strg_le (a : Bool) (ns : List (List UInt8)) (sl : Bool) : (Pa.strg a ns sl).length ≤ (Pa.jn ns).length + 2 := by
  unfold Pa.strg; split
  · simp
  · cases a <;> cases sl <;> simp <;> split <;> simp <;> omega
theorem len0 {α : Type} (xs : List α) (h : xs = []) : ((xs.length : Int) == 0) = true := by simp [h]
theorem lenN {α : Type} (xs : List α) (h : ¬ xs = []) : ((xs.length : Int) == 0) = false := by
  rw [beq_eq_false_iff_ne]; have := List.length_pos_iff.2 h; omega
theorem jn_le_of (xs : List (List UInt8)) : (Pa.jn xs).length ≤ (xs.map List.length).sum + xs.length := by
  cases xs with
  | nil => simp [Pa.jn, Lib.join_nil]
  | cons y r =>
    simp only [Pa.jn, Lib.join_cons, Lib.joinTail, List.length_append, List.length_flatten, List.map_map, List.map_cons, List.sum_cons, List.length_cons]
    have : (r.map (List.length ∘ fun x => [(47 : UInt8)] ++ x)).sum = (r.map List.length).sum + r.length := by
      clear y; induction r with
      | nil => rfl
      | cons z r ih => simp only [List.map_cons, List.sum_cons, ih, List.length_cons, Function.comp]; simp; omega
    omega
end Go.Proofs.YtpcbpikhiooafaaGreatDoor
/- The walks of the plain answers Clean and Join. Conditions: lengths that fit. -/
namespace Go.Proofs.YtpcbpikhiooafaaGreatDoor
open Go.RowKit
attribute [local go_sem] ext_eq app_eq get_eq toL_eq
def wt (ns : List (List UInt8)) : Nat := (ns.map List.length).sum + ns.length
theorem wt_app (a b : List (List UInt8)) : wt (a ++ b) = wt a + wt b := by simp [wt]; omega
theorem wt_one (n : List UInt8) : wt [n] = n.length + 1 := by simp [wt]
theorem wt_dropLast (a : List (List UInt8)) : wt a.dropLast ≤ wt a := by
  rcases nil_or_snoc a with rfl | ⟨ys, y, rfl⟩
  · simp
  · simp [wt_app]
theorem wt_clStep (b : Bool) (out : List (List UInt8)) (n : List UInt8) : wt (Pa.clStep b out n) ≤ wt out + wt [n] := by
  unfold Pa.clStep
  repeat' split
  all_goals (first | (have := wt_dropLast out; omega) | (rw [wt_app]; omega) | omega)
theorem wt_cl (b : Bool) (ns : List (List UInt8)) : wt (Pa.cl b ns) ≤ wt ns := by
  have h : ∀ (ns out : List (List UInt8)), wt (ns.foldl (Pa.clStep b) out) ≤ wt out + wt ns := by
    intro ns
    induction ns with
    | nil => intro out; simp [wt]
    | cons n ns ih => intro out; have h1 := ih (Pa.clStep b out n); have h2 := wt_clStep b out n; have h3 : wt (n :: ns) = wt [n] + wt ns := wt_app [n] ns; simp only [List.foldl_cons]; omega
  have := h ns []
  simpa [Pa.cl, wt] using this
theorem wt_nms_aux (n : Nat) : ∀ l : List UInt8, l.length ≤ n → wt (Pa.nms l) ≤ l.length + 1 := by
  induction n with
  | zero => intro l h; have : l = [] := List.length_eq_zero_iff.1 (by omega); subst this; simp [Pa.nms_nil, wt]
  | succ n ih =>
    intro l h
    rcases Pa.indexByte_cut 47 l with ⟨_, hn⟩ | ⟨k, _, hk, hn, hl⟩
    · rw [Pa.nms_plain l hn]; split
      · simp [wt]
      · rw [wt_one]; exact Nat.le_refl _
    · have h2 := ih (l.drop (k + 1)) (by simp; omega)
      have h3 : wt (Pa.nms l) = wt (if l.take k = [] then [] else [l.take k]) + wt (Pa.nms (l.drop (k + 1))) := by
        conv => lhs; rw [hl, Pa.nms_cut _ _ hn]
        rw [wt_app]
      have h4 : wt (if l.take k = [] then [] else [l.take k]) ≤ k + 1 := by
        split
        · simp [wt]
        · rw [wt_one]; simp; omega
      simp only [List.length_drop] at h2
      omega
theorem wt_nms (l : List UInt8) : wt (Pa.nms l) ≤ l.length + 1 := wt_nms_aux _ l (Nat.le_refl _)
theorem wt_lft (l : List UInt8) : wt (Pa.lft l) ≤ l.length + 1 := Nat.le_trans (wt_cl _ _) (wt_nms l)
theorem jn_wt (ns : List (List UInt8)) : (Pa.jn ns).length ≤ wt ns := jn_le_of ns
theorem len_wt (ns : List (List UInt8)) : ns.length ≤ wt ns := by unfold wt; omega
/-- The list of a path's names, clean, in fresh memory. -/
def Fresh (w w' : World) (v : Value) (xs : List (List UInt8)) : Prop := w'.ownsRow w.heap.size 9 1 v xs.length (xs.map sv)
theorem Fresh.form {w w' : World} {v : Value} {xs : List (List UInt8)} (h : Fresh w w' v xs) : ∃ a c, v = .slice a xs.length c ∧ xs.length ≤ c ∧ Strs w' a xs ∧ (∀ b, a.map (·.block) = some b → w.heap.size ≤ b ∧ b < w'.heap.size) := (own_strs h).2
end Go.Proofs.YtpcbpikhiooafaaGreatDoor
/- The walks of the plain answers Join, Base, Dir. Conditions: lengths that fit. -/
namespace Go.Proofs.YtpcbpikhiooafaaGreatDoor
open Go.RowKit
attribute [local go_sem] ext_eq app_eq get_eq toL_eq
theorem some_snoc (ys : List (List UInt8)) (x : List UInt8) : Pa.some' (ys ++ [x]) = if x = [] then Pa.some' ys else Pa.some' ys ++ [x] := by
  by_cases h : x = [] <;> simp [Pa.some', h]
theorem jn_nil_iff (ns : List (List UInt8)) (h : ∀ n ∈ ns, n ≠ []) : Pa.jn ns = [] ↔ ns = [] := by
  cases ns with
  | nil => simp [Pa.jn, Lib.join_nil]
  | cons n r => have := h n (by simp); simp [Pa.jn, Lib.join_cons, this]
theorem some_ne (xs : List (List UInt8)) : ∀ n ∈ Pa.some' xs, n ≠ [] := by intro n hn; simp [Pa.some'] at hn; exact hn.2
theorem jn_some_nil (xs : List (List UInt8)) : Pa.jn (Pa.some' xs) = [] ↔ Pa.some' xs = [] := jn_nil_iff _ (some_ne xs)
theorem some_take_le (xs : List (List UInt8)) (k : Nat) : (Pa.jn (Pa.some' (xs.take k))).length ≤ (Pa.jn (Pa.some' xs)).length := by
  have : Pa.some' (xs.take k) <+: Pa.some' xs := by
    conv => rhs; rw [← List.take_append_drop k xs]
    simp only [Pa.some', List.filter_append]
    exact List.prefix_append _ _
  rw [List.prefix_iff_eq_take.1 this]
  exact jn_take_le _ _
/-- basename. -/
def Pa.base (l suf : List UInt8) : List UInt8 :=
  if l = [] then [46] else if Lib.trimRightB l 47 = [] then [47] else
    if suf.length < ((Lib.trimRightB l 47).drop (lastL (Lib.trimRightB l 47))).length ∧ ((Lib.trimRightB l 47).drop (lastL (Lib.trimRightB l 47))).drop (((Lib.trimRightB l 47).drop (lastL (Lib.trimRightB l 47))).length - suf.length) = suf
    then ((Lib.trimRightB l 47).drop (lastL (Lib.trimRightB l 47))).take (((Lib.trimRightB l 47).drop (lastL (Lib.trimRightB l 47))).length - suf.length)
    else (Lib.trimRightB l 47).drop (lastL (Lib.trimRightB l 47))
/-- dirname. -/
def Pa.dir (l : List UInt8) : List UInt8 :=
  if l = [] then [46] else if Lib.trimRightB l 47 = [] then [47] else if lastL (Lib.trimRightB l 47) = 0 then [46] else
    if Lib.trimRightB ((Lib.trimRightB l 47).take (lastL (Lib.trimRightB l 47))) 47 = [] then [47] else Lib.trimRightB ((Lib.trimRightB l 47).take (lastL (Lib.trimRightB l 47))) 47
theorem trim_len (l : List UInt8) (c : UInt8) : (Lib.trimRightB l c).length ≤ l.length := by
  simp only [Lib.trimRightB, List.length_reverse]
  have := (List.dropWhile_suffix (fun x => x == c) (l := l.reverse)).length_le
  simpa using this
theorem drop_last_len (t : List UInt8) (a b : Nat) : (t.take b).drop a = (t.drop a).take (b - a) := List.drop_take ..
end Go.Proofs.YtpcbpikhiooafaaGreatDoor
