/- Several texts of this claim, one behind the other, in their order. -/
import Derived.Test.YtgkkbplecfhmdaaGreatDoorPa0
import Derived.Test.YtgkkbplecfhmdaaGreatDoorShelf
import Derived.WalkKit
import Derived.WalkSpells
import Derived.WalkLawsBesides
import Derived.Handy
import Derived.Deep.QuietTactic
import Derived.BigQuiet
import Derived.Deep.AppendLies
import Derived.Laws.OwnMore
import Derived.Maps.AppendAt
import Derived.RangeFuncBox
import Derived.WalkSmall
import Derived.Test.YtgkkbplecfhmdaaGreatDoorM3
import Derived.Test.YtgkkbplecfhmdaaGreatDoorM11
import Derived.Test.YtgkkbplecfhmdaaGreatDoorSt
import Derived.Laws.BytesString
/- The walks of the plain answers on texts alone. Conditions: lengths that fit. -/
namespace Go.Proofs.YtgkkbplecfhmdaaGreatDoor
open Go.RowKit
theorem ext_eq (l : List UInt8) (a b : Nat) : (⟨l.toArray⟩ : ByteArray).extract a b = ⟨((l.take b).drop a).toArray⟩ := by
  apply ByteArray.ext
  simp [ByteArray.data_extract, List.drop_take]
theorem app_eq (a b : List UInt8) : (⟨a.toArray⟩ : ByteArray) ++ (⟨b.toArray⟩ : ByteArray) = ⟨(a ++ b).toArray⟩ := by
  apply ByteArray.ext
  simp [ByteArray.data_append]
theorem get_eq (l : List UInt8) (i : Nat) (h : i < (⟨l.toArray⟩ : ByteArray).size) : (⟨l.toArray⟩ : ByteArray)[i] = l[i]'(by simpa [ByteArray.size] using h) := rfl
theorem byte_eq (c d : UInt8) : (((c.toNat : Int) == (d.toNat : Int))) = decide (c = d) := by
  rw [Bool.eq_iff_iff]; simp [← UInt8.toNat_inj]; omega
theorem byte_slash (c : UInt8) : (((c.toNat : Int) == 47)) = decide (c = 47) := byte_eq c 47
theorem byte_slash' (c : UInt8) : (((c.toNat : Int) != 47)) = !decide (c = 47) := congrArg (!·) (byte_slash c)
theorem toL_eq (l : List UInt8) : (⟨l.toArray⟩ : ByteArray).toList = l := by rw [ByteArray.toList_eq]
theorem str_size (l : List UInt8) : (⟨l.toArray⟩ : ByteArray).size = l.length := by simp [ByteArray.size]
theorem ret_int {k : IntKind} {a b : Int} (h : a = b) : Ending.returned (.int k a) = .returned (.int k b) := by rw [h]
theorem ret_str {a b : List UInt8} (h : a = b) : Ending.returned (.string ⟨a.toArray⟩) = .returned (.string ⟨b.toArray⟩) := by rw [h]
def sizeS : Value → Nat
  | .string s => s.size
  | _ => 0
attribute [local go_sem] ext_eq app_eq get_eq
theorem absB_cons (c : UInt8) (r : List UInt8) : Pa.absB (c :: r) = decide (c = 47) := by
  rw [Bool.eq_iff_iff]; simp [Pa.absB]
theorem trim_nil (c : UInt8) : Lib.trimRightB [] c = [] := rfl
theorem trim_snoc (l : List UInt8) (c : UInt8) : Lib.trimRightB (l ++ [c]) c = Lib.trimRightB l c := by simp [Lib.trimRightB]
theorem trim_snoc_no (l : List UInt8) (c d : UInt8) (h : d ≠ c) : Lib.trimRightB (l ++ [d]) c = l ++ [d] := by simp [Lib.trimRightB, h]
theorem take_get (l : List UInt8) (k : Nat) (h : k < l.length) : l.take (k + 1) = l.take k ++ [l[k]] := List.take_succ_eq_append_getElem h
/-- The place behind the last slash. -/
def lastL (l : List UInt8) : Nat := l.length - (l.reverse.takeWhile (· != 47)).length
theorem lastL_snoc (l : List UInt8) (c : UInt8) : lastL (l ++ [c]) = if c = 47 then l.length + 1 else lastL l := by
  by_cases h : c = 47
  · simp [lastL, h]
  · have : (l.reverse.takeWhile (· != 47)).length ≤ l.length := by have := (List.takeWhile_prefix (fun c : UInt8 => c != 47) (l := l.reverse)).length_le; simpa using this
    simp [lastL, h]
theorem lastL_le (l : List UInt8) : lastL l ≤ l.length := by unfold lastL; omega
end Go.Proofs.YtgkkbplecfhmdaaGreatDoor
/- The walks of the plain answers that make lists of names. Conditions: lengths that fit. -/
namespace Go.Proofs.YtgkkbplecfhmdaaGreatDoor
open Go.RowKit
attribute [local go_sem] ext_eq app_eq get_eq toL_eq
def sv (l : List UInt8) : Value := .string ⟨l.toArray⟩
theorem info9 : (Tryz.prog.info? 9).map (fun i => (i.zero, i.size, i.bytes)) = some (some (.string ⟨#[]⟩), 1, 16) := by kernel_rfl
/-- Behind an append to a row of one's own, all that lay below the base lies as it lay. -/
theorem below_app {w W w1 : World} {n₀ : Nat} {e : TypeId} {size : Nat} {v : Value} {n : Nat} {xs : List Value} {o : Obj} (hB : Below n₀ w W) (hn : n₀ ≤ w.heap.size) (hrow : W.ownsRow n₀ e size v n xs) (hg : (W.alloc o).grownBy w1 v.ownBlock) : Below n₀ w w1 := by
  have hz := hB.size
  refine (hB.alloc (by omega) o).grown hg (by simp; omega) fun j ej => ?_
  exact (hrow.lt j ej).1
theorem drop_one (l : List UInt8) (k : Nat) (h : k < l.length) : (l.take (k + 1)).drop k = [l[k]] := by rw [take_get l k h, List.drop_append]; simp [Nat.min_eq_left (Nat.le_of_lt h)]
theorem one_cell (x : List UInt8) : ∀ u ∈ [Value.string ⟨x.toArray⟩], u.oneCell' = true := fun u hu => by simp at hu; subst hu; rfl
theorem fold_le2 (l : List UInt8) : ∀ (p : List (List UInt8)) (q : List UInt8), (l.foldl Pa.nmStep (p, q)).2.length ≤ q.length + l.length := by
  induction l with
  | nil => intro p q; simp
  | cons c l ih =>
    intro p q
    rw [List.foldl_cons]
    by_cases h : c = 47
    · simp only [Pa.nmStep, h, if_true]; have := ih (if q = [] then p else p ++ [q]) []; simp at this ⊢; omega
    · simp only [Pa.nmStep, h, if_false]; have := ih p (q ++ [c]); simp at this ⊢; omega
theorem nmFold_le2 (l : List UInt8) : (Pa.nmFold l).2.length ≤ l.length := by have := fold_le2 l [] []; simpa [Pa.nmFold] using this
theorem nmFold_le (l : List UInt8) : (Pa.nmFold l).1.length ≤ l.length := by
  have h := Pa.nms_length l
  unfold Pa.nms at h
  split at h
  · exact h
  · simp at h; omega
end Go.Proofs.YtgkkbplecfhmdaaGreatDoor
/- The walks of the plain answers that read lists of names. Conditions: the list's cells are as said; lengths that fit. -/
namespace Go.Proofs.YtgkkbplecfhmdaaGreatDoor
open Go.RowKit
attribute [local go_sem] ext_eq app_eq get_eq toL_eq
/-- The cells behind a slice's address hold these texts. -/
def Strs (W : World) (a : Option Addr) (xs : List (List UInt8)) : Prop := ∀ (j : Nat) x, xs[j]? = some x → ∃ bk o, a = some ⟨bk, o, none⟩ ∧ bk < W.heap.size ∧ W.cell? ⟨bk, o + j, none⟩ = some (.string ⟨x.toArray⟩)
theorem Strs.below {W W' : World} {n : Nat} {a : Option Addr} {xs : List (List UInt8)} (h : Strs W a xs) (hB : Below n W W') (hn : ∀ b, a.map (·.block) = some b → b < n) : Strs W' a xs := by
  intro j x hx
  obtain ⟨bk, o, rfl, hlt, hc⟩ := h j x hx
  exact ⟨bk, o, rfl, by have := hB.size; have := hn bk rfl; omega, (hB.cell (p := ⟨bk, o + j, none⟩) (hn bk rfl)).trans hc⟩
theorem Strs.grow {W W' : World} {a : Option Addr} {xs : List (List UInt8)} (h : Strs W a xs) (hB : Below W.heap.size W W') : Strs W' a xs := by
  intro j x hx
  obtain ⟨bk, o, rfl, hlt, hc⟩ := h j x hx
  exact ⟨bk, o, rfl, by have := hB.size; omega, (hB.cell (p := ⟨bk, o + j, none⟩) hlt).trans hc⟩
theorem Strs.nil (W : World) (a : Option Addr) : Strs W a [] := fun j x h => by simp at h
/-- A list of names of one's own, as a slice that is read. -/
theorem own_strs {W : World} {base n : Nat} {v : Value} {xs : List (List UInt8)} (h : W.ownsRow base 9 1 v n (xs.map sv)) : n = xs.length ∧ ∃ a c, v = .slice a xs.length c ∧ xs.length ≤ c ∧ Strs W a xs ∧ (∀ b, a.map (·.block) = some b → base ≤ b ∧ b < W.heap.size) := by
  have hn : n = xs.length := by have := h.1; simp at this; omega
  subst hn
  refine ⟨rfl, ?_⟩
  rcases h.2 with ⟨rfl, h0⟩ | ⟨g, cap, cur, rfl, hb, hg, hnc, _, _, ht⟩
  · have : xs = [] := List.length_eq_zero_iff.1 h0
    subst this
    exact ⟨none, 0, rfl, Nat.le_refl _, Strs.nil _ _, by simp⟩
  · have hlt : g < W.heap.size := (Array.getElem?_eq_some_iff.1 hg).1
    refine ⟨_, cap, rfl, hnc, fun j x hx => ⟨g, 0, rfl, hlt, ?_⟩, by simp; omega⟩
    have hj : j < xs.length := (List.getElem?_eq_some_iff.1 hx).1
    have := h.cellAt j (by simpa using hj)
    rw [Nat.zero_add, this]; simp [hx, sv]
theorem jn_snoc (ys : List (List UInt8)) (x : List UInt8) : Pa.jn (ys ++ [x]) = if ys = [] then x else Pa.jn ys ++ ([47] ++ x) := by
  cases ys with
  | nil => simp [Pa.jn, Lib.join_one]
  | cons y r => simp [Pa.jn, Lib.join_cons, Lib.joinTail]
theorem jn_take_le (xs : List (List UInt8)) (k : Nat) : (Pa.jn (xs.take k)).length ≤ (Pa.jn xs).length := by
  induction xs generalizing k with
  | nil => simp
  | cons y r ih =>
    cases k with
    | zero => simp [Pa.jn, Lib.join_nil]
    | succ k =>
      simp only [List.take_succ_cons, Pa.jn, Lib.join_cons, List.length_append, Lib.joinTail]
      have h1 : (List.map (fun x => [(47 : UInt8)] ++ x) (List.take k r)).flatten <+: (List.map (fun x => [(47 : UInt8)] ++ x) r).flatten := by
        conv => rhs; rw [← List.take_append_drop k r, List.map_append, List.flatten_append]
        exact List.prefix_append _ _
      have := h1.length_le
      omega
theorem take_ne (xs : List (List UInt8)) (k : Nat) (h0 : 0 < k) (hlt : k < xs.length) : ¬ xs.take k = [] := by
  rw [List.take_eq_nil_iff]; rintro (e | rfl)
  · omega
  · simp at hlt
theorem take_getL (xs : List (List UInt8)) (k : Nat) (h : k < xs.length) : xs.take (k + 1) = xs.take k ++ [xs[k]] := List.take_succ_eq_append_getElem h
theorem cl_snoc (b : Bool) (ns : List (List UInt8)) (n : List UInt8) : Pa.cl b (ns ++ [n]) = Pa.clStep b (Pa.cl b ns) n := by simp [Pa.cl]
theorem clStep_le (b : Bool) (out : List (List UInt8)) (n : List UInt8) : (Pa.clStep b out n).length ≤ out.length + 1 := by
  unfold Pa.clStep
  repeat' split
  all_goals simp
  omega
theorem fold_cl_le (b : Bool) (ns : List (List UInt8)) : ∀ out : List (List UInt8), (ns.foldl (Pa.clStep b) out).length ≤ out.length + ns.length := by
  induction ns with
  | nil => intro out; simp
  | cons n ns ih => intro out; have h1 := ih (Pa.clStep b out n); have h2 := clStep_le b out n; simp; omega
theorem cl_le (b : Bool) (ns : List (List UInt8)) : (Pa.cl b ns).length ≤ ns.length := by have := fold_cl_le b ns []; simpa [Pa.cl] using this
theorem own_slice {W : World} {base n : Nat} {e : TypeId} {v : Value} {xs : List Value} (h : W.ownsRow base e 1 v n xs) (hn : 0 < n) : ∃ g cap, v = .slice (some ⟨g, 0, none⟩) n cap ∧ n ≤ cap ∧ cap ≤ maxLen := by
  rcases h.2 with ⟨rfl, h0⟩ | ⟨g, cap, cur, rfl, hb, hg, hnc, hm, _⟩
  · omega
  · exact ⟨g, cap, rfl, hnc, hm⟩
theorem own_form {W : World} {base n : Nat} {e : TypeId} {v : Value} {xs : List Value} (h : W.ownsRow base e 1 v n xs) : ∃ a cap, v = .slice a n cap := by
  rcases h.2 with ⟨rfl, h0⟩ | ⟨g, cap, cur, rfl, _⟩
  · exact ⟨none, 0, by rw [h0]⟩
  · exact ⟨_, cap, rfl⟩
theorem nil_or_snoc (l : List (List UInt8)) : l = [] ∨ ∃ ys y, l = ys ++ [y] := by
  rcases List.eq_nil_or_concat l with h | ⟨ys, y, h⟩
  · exact .inl h
  · exact .inr ⟨ys, y, by simpa using h⟩
end Go.Proofs.YtgkkbplecfhmdaaGreatDoor
/- The task's calls begin and find. Conditions: the task lies in memory as 'TkAt' says (no groups); what Split, Stat and Find tell. -/
namespace Go.Proofs.YtgkkbplecfhmdaaGreatDoor
open Go.RowKit
/-- What Split tells of a text, in whatever world. -/
def SplOf (l : List UInt8) (ab : Bool) (xs : List (List UInt8)) (sl : Bool) : Prop := ∀ W : World, Calls Tryz.prog 144 #[.string ⟨l.toArray⟩] W fun e w' => ∃ a c, e = .returned (.tuple #[.agg #[.bool ab, .slice a xs.length c, .bool sl], .int .i64 0]) ∧ xs.length ≤ c ∧ w'.ownsRow W.heap.size 9 1 (.slice a xs.length c) xs.length (xs.map sv) ∧ Below W.heap.size W w'
theorem infSp : (Tryz.prog.info? 105).map (·.size) = some 4 := by kernel_rfl
/-- Four cells were set, and two blocks laid. -/
def w4 (w1 : World) (B : Nat) (v0 v1 v2 v3 : Value) : World := (((w1.setCell ⟨B, 0, none⟩ v0).setCell ⟨B, 1, none⟩ v1).setCell ⟨B, 2, none⟩ v2).setCell ⟨B, 3, none⟩ v3
theorem w4_mod (w1 : World) (B : Nat) (v0 v1 v2 v3 : Value) : Mod (fun b => b = B) w1 (w4 w1 B v0 v1 v2 v3) := by
  unfold w4
  exact (((((Mod.refl (fun b => b = B) w1).setCell ⟨B, 0, none⟩ v0 rfl).setCell ⟨B, 1, none⟩ v1 rfl).setCell ⟨B, 2, none⟩ v2 rfl).setCell ⟨B, 3, none⟩ v3 rfl)
theorem w4_range {w1 : World} {B : Nat} {x0 x1 x2 x3 : Value} (k0 : w1.cell? ⟨B, 0, none⟩ = some x0) (k1 : w1.cell? ⟨B, 1, none⟩ = some x1) (k2 : w1.cell? ⟨B, 2, none⟩ = some x2) (k3 : w1.cell? ⟨B, 3, none⟩ = some x3) (v0 v1 v2 v3 : Value) : (w4 w1 B v0 v1 v2 v3).rangeAt B 0 [v0, v1, v2, v3] := by
  unfold w4
  intro j v hv
  match j, hv with
  | 0, hv => cases hv; simp [go_sem, k0]
  | 1, hv => cases hv; simp [go_sem, k1]
  | 2, hv => cases hv; simp [go_sem, k2]
  | 3, hv => cases hv; simp [go_sem, k3]
theorem range_mod6 {w w' : World} {B : Nat} {L : List Value} (h : w.rangeAt B 0 L) (hM : Mod (fun _ => False) w w') (hB : B < w.heap.size) : w'.rangeAt B 0 L := fun j v hv => (hM.cell (p := ⟨B, 0 + j, none⟩) hB (fun e => e)).trans (h j v hv)
theorem ret_begin {W : World} {B : Nat} {L : List Value} {v : Value} (h : W.rangeAt B 0 L) (hl : L.length = 4) (tmps : Array Value) (h4 : tmps[4]?.getD undef = .pointer (some ⟨B, 0, none⟩)) (h5 : tmps[5]?.getD undef = v) :
    (results Tryz.f95 tmps).run Tryz.prog W = .ok (.tuple #[.agg L.toArray, v]) W := by
  have h2 := run_loadVar_mid (P := Tryz.prog) W B 0 105 L _ h Tryz.underlying105 rfl (by rw [hl]; exact infSp)
  unfold results
  rw [Tryz.results95]
  simp [h4, h5, asAddr, Result.andThen, h2]
set_option maxRecDepth 100000 in
set_option maxHeartbeats 2000000 in
theorem tBegin {w : World} {k t : Nat} {u g : Int} {ga : Option Addr} {gc : Nat} {um cw : Int} (h : TkAt w k t u g ga gc um cw) (l : List UInt8) (ab sl : Bool) (xs : List (List UInt8)) (hP : SplOf l ab xs sl) (ino : Int) (hi : (ab = true ∨ (cw == 0) = true) ∧ ino = 1 ∨ ab = false ∧ (cw == 0) = false ∧ ino = cw) :
    Calls Tryz.prog 95 #[.pointer (some ⟨k, 0, none⟩), .string ⟨l.toArray⟩] w fun e w' => ∃ a c, e = .returned (.tuple #[spA 0 [] ino sl, .slice a xs.length c]) ∧ xs.length ≤ c ∧ Strs w' a xs ∧ (∀ b, a.map (·.block) = some b → w.heap.size ≤ b ∧ b < w'.heap.size) ∧ Mod (fun _ => False) w w' := by
  have HP : Hid (SplOf l ab xs sl) := hP
  clear hP
  have hk := h.lt
  have c5 := h.c5
  clear h
  unfold spA
  go_enter Tryz.func95, Tryz.ntmps95
  go_wp2_with fail
  refine Calls.mono (HP.out _) ?_
  rintro e w1 ⟨a, c, rfl, hc, hv, hB⟩
  obtain ⟨-, a', c', he, -, hSt, hbl⟩ := own_strs hv
  cases he
  have HSt : Hid (Strs w1 a xs) := hSt
  have HBl : Hid (∀ b, a.map (·.block) = some b → w.heap.size + 1 ≤ b ∧ b < w1.heap.size) := fun b hb => by have := hbl b hb; simp at this; exact ⟨by omega, this.2⟩
  have HM : Hid (Mod (fun _ => False) w w1) := ((Mod.refl _ w).alloc _).trans (mod_below hB)
  have c5' : w1.cell? ⟨k, 5, none⟩ = some (.int .i64 cw) := (HM.out.cell (p := ⟨k, 5, none⟩) hk (fun e => e)).trans c5
  have kk : w.heap.size < w1.heap.size := by have := hB.size; simp at this; omega
  have k0 : w1.cell? ⟨w.heap.size, 0, none⟩ = some (.int .i64 0) := by rw [hB.cell (p := ⟨w.heap.size, 0, none⟩) (by simp)]; simp [go_sem]
  have k1 : w1.cell? ⟨w.heap.size, 1, none⟩ = some (.string ⟨#[]⟩) := by rw [hB.cell (p := ⟨w.heap.size, 1, none⟩) (by simp)]; simp [go_sem]
  have k2 : w1.cell? ⟨w.heap.size, 2, none⟩ = some (.int .i64 0) := by rw [hB.cell (p := ⟨w.heap.size, 2, none⟩) (by simp)]; simp [go_sem]
  have k3 : w1.cell? ⟨w.heap.size, 3, none⟩ = some (.bool false) := by rw [hB.cell (p := ⟨w.heap.size, 3, none⟩) (by simp)]; simp [go_sem]
  have kf : ∀ o, w1.frozen? ⟨w.heap.size, o, none⟩ = false := fun o => by rw [hB.frozen (p := ⟨w.heap.size, o, none⟩) (by simp)]; simp [go_sem]
  clear hv hSt hbl hB c5
  have hk1 : k < w1.heap.size := by omega
  have hkw : ¬ k = w.heap.size := by omega
  have HE : Hid (∀ v0 v1 v2 v3 o o1, Mod (fun _ => False) w (((w4 w1 w.heap.size v0 v1 v2 v3).alloc o).alloc o1).drew ∧ Strs (((w4 w1 w.heap.size v0 v1 v2 v3).alloc o).alloc o1).drew a xs ∧ (∀ b, a.map (·.block) = some b → w.heap.size ≤ b ∧ b < (((w4 w1 w.heap.size v0 v1 v2 v3).alloc o).alloc o1).drew.heap.size) ∧ (((w4 w1 w.heap.size v0 v1 v2 v3).alloc o).alloc o1).drew.rangeAt w.heap.size 0 [v0, v1, v2, v3]) := fun v0 v1 v2 v3 o o1 => by
    have hm := w4_mod w1 w.heap.size v0 v1 v2 v3
    have hm' : Mod (fun _ => False) (w4 w1 w.heap.size v0 v1 v2 v3) (((w4 w1 w.heap.size v0 v1 v2 v3).alloc o).alloc o1).drew := (((Mod.refl _ _).alloc o).alloc o1).drewN 1
    have hm2 : Mod (fun b => b = w.heap.size) w1 (((w4 w1 w.heap.size v0 v1 v2 v3).alloc o).alloc o1).drew := hm.trans (hm'.mono (fun _ _ h => h.elim))
    refine ⟨HM.out.new6 hm2 (fun k e => by rw [e]; exact Nat.le_refl _), fun j x hx => ?_, fun b hb => ?_, ?_⟩
    · obtain ⟨bk, o', ha, hlt, hc'⟩ := HSt.out j x hx
      have hb := (HBl.out bk (by rw [ha]; rfl)).1
      exact ⟨bk, o', ha, Nat.lt_of_lt_of_le hlt hm2.size, (hm2.cell (p := ⟨bk, o' + j, none⟩) hlt (by show ¬ bk = w.heap.size; omega)).trans hc'⟩
    · have := HBl.out b hb
      exact ⟨by omega, Nat.lt_of_lt_of_le this.2 hm2.size⟩
    · exact range_mod6 (w4_range k0 k1 k2 k3 v0 v1 v2 v3) hm' (Nat.lt_of_lt_of_le kk hm.size)
  have HC := hid6 hc
  clear hc
  rcases hi with ⟨rfl | hcw, rfl⟩ | ⟨rfl, hcw, rfl⟩
  · go_wp2_with (first | (go_at_call 52; refine (must_no _).mono ?_; rintro e w2 ⟨rfl, hw2⟩; rw [hw2]; clear hw2 w2))
    go_region
    all_goals (go_wp2; exact bodyPost_ret (ret_begin (HE.out _ _ _ _ _ _).2.2.2 rfl _ rfl rfl) rfl ⟨a, c, rfl, HC.out, (HE.out _ _ _ _ _ _).2.1, (HE.out _ _ _ _ _ _).2.2.1, (HE.out _ _ _ _ _ _).1⟩)
  · cases ab
    all_goals
      go_wp2_with (first | (go_at_call 52; refine (must_no _).mono ?_; rintro e w2 ⟨rfl, hw2⟩; rw [hw2]; clear hw2 w2))
    all_goals go_region
    all_goals (go_wp2; exact bodyPost_ret (ret_begin (HE.out _ _ _ _ _ _).2.2.2 rfl _ rfl rfl) rfl ⟨a, c, rfl, HC.out, (HE.out _ _ _ _ _ _).2.1, (HE.out _ _ _ _ _ _).2.2.1, (HE.out _ _ _ _ _ _).1⟩)
  · go_wp2_with (first | (go_at_call 52; refine (must_no _).mono ?_; rintro e w2 ⟨rfl, hw2⟩; rw [hw2]; clear hw2 w2))
    go_region
    all_goals (go_wp2; exact bodyPost_ret (ret_begin (HE.out _ _ _ _ _ _).2.2.2 rfl _ rfl rfl) rfl ⟨a, c, rfl, HC.out, (HE.out _ _ _ _ _ _).2.1, (HE.out _ _ _ _ _ _).2.2.1, (HE.out _ _ _ _ _ _).1⟩)
end Go.Proofs.YtgkkbplecfhmdaaGreatDoor
/- The work of Open where a new file is made. Conditions: the task lies in memory as 'TkAt' says (no groups); what follow, newFile and Hold do. -/
namespace Go.Proofs.YtgkkbplecfhmdaaGreatDoor
open Go.RowKit
section
variable {w : World} {t q b c n N : Nat} {clk : Int} {F3 F4 : Nat → Nat → Int} {R2 : Nat → Nat → Nat} {u2 : Nat → Bool} {D2 : Nat → Nat}
set_option maxRecDepth 100000 in
set_option maxHeartbeats 4000000 in
theorem tOpenNew {k b1 b2 b3 : Nat} (l l' : List UInt8) (d m r : Int) (c1 : w.cell? ⟨b1, 0, none⟩ = some (.int .i64 10)) (c2 : w.cell? ⟨b2, 0, none⟩ = some (.string ⟨l.toArray⟩)) (c3 : w.cell? ⟨b3, 0, none⟩ = some (.int .i64 m))
    (hF : ∀ W, Mod (fun _ => False) w W → Calls Tryz.prog 45 #[.pointer (some ⟨k, 0, none⟩), .string ⟨l.toArray⟩, .int .i64 0] W fun e w' => e = .returned (.agg #[.int .i64 d, .string ⟨l'.toArray⟩, .int .i64 0, .bool false]) ∧ Mod (fun _ => False) W w')
    (hN : ∀ W, Mod (fun _ => False) w W → Calls Tryz.prog 49 #[.pointer (some ⟨k, 0, none⟩), .agg #[.int .i64 d, .string ⟨l'.toArray⟩, .int .i64 0, .bool false], .int .i64 m] W fun e w' => e = .returned (.int .i64 r) ∧ Tb w' t q b c n N clk F3 R2 u2 D2 ∧ Mod (fun x => x = b ∨ x = c ∨ x = q ∨ x = k) W w' ∧ w'.cell? ⟨k, 0, none⟩ = some (.pointer (some ⟨t, 0, none⟩)))
    (hH : ∀ W, Tb W t q b c n N clk F3 R2 u2 D2 → Calls Tryz.prog 87 #[.pointer (some ⟨t, 0, none⟩), .int .i64 r] W fun e w' => e = .returned (.int .i64 0) ∧ Tb w' t q b c n N clk F4 R2 u2 D2 ∧ Mod (fun x => x = q) W w') :
    Calls Tryz.prog 42 #[.pointer (some ⟨k, 0, none⟩), .pointer (some ⟨b1, 0, none⟩), .pointer (some ⟨b2, 0, none⟩), .pointer (some ⟨b3, 0, none⟩)] w fun e w' => e = .returned (.int .i64 r) ∧ Tb w' t q b c n N clk F4 R2 u2 D2 ∧ Mod (fun x => x = b ∨ x = c ∨ x = q ∨ x = k) w w' := by
  have HF := hid6 hF
  have HN := hid6 hN
  have HH := hid6 hH
  have hb2 := block_lt_of_cell c2
  have hb3 := block_lt_of_cell c3
  clear hF hN hH
  go_enter Tryz.func42, Tryz.ntmps42
  go_upto_region 3 with (first | (go_at_call 44; refine (fFit10 _).mono ?_; rintro e w3 ⟨rfl, hw3⟩; rw [hw3]; clear hw3 w3) | (go_at_call 43; refine (refuse_no _ _).mono ?_; rintro e w3 ⟨rfl, hw3⟩; rw [hw3]; clear hw3 w3))
  go_cut [7] (fun v7 wc => ∃ B7 : Nat, v7 = .pointer (some ⟨B7, 0, none⟩) ∧ wc.cell? ⟨B7, 0, none⟩ = some (.int .i64 d) ∧ wc.cell? ⟨B7, 1, none⟩ = some (.string ⟨l'.toArray⟩) ∧ wc.cell? ⟨B7, 2, none⟩ = some (.int .i64 0) ∧ wc.cell? ⟨B7, 3, none⟩ = some (.bool false) ∧ Hid (Mod (fun _ => False) w wc))
  case first =>
    go_region_held (fun W' => W'.cell? ⟨b2, 0, none⟩ = some (.string ⟨l.toArray⟩)) (first | with_reducible exact hS1 | go_keep | (simp only [hco, hsz, Nat.le_refl]; with_reducible exact hS1))
      (first | (go_at_call 46; refine (fEnd10 _).mono ?_; rintro e w3 ⟨rfl, hw3⟩; rw [hw3]; clear hw3 w3) | (go_at_call 45; refine (HF.out _ (by first | exact (Mod.refl _ _).drewN 1 | exact ((Mod.refl _ _).drewN 1).alloc _)).mono ?_; rintro e w1 ⟨rfl, M1⟩; have hcl := (fun (p : Addr) (hp : p.block < _) => M1.cell (p := p) hp (fun e => e)); have hfz := (fun (p : Addr) (hp : p.block < _) => M1.frozen (p := p) hp (fun e => e)); have HM1 := hid6 M1; have hsz : w.heap.size ≤ w1.heap.size := (by have := M1.size; simp at this; omega); have hS1 : w1.cell? ⟨b2, 0, none⟩ = some (.string ⟨l.toArray⟩) := ((M1.cell (p := ⟨b2, 0, none⟩) (by first | exact hb2 | (simp; omega)) (fun e => e)).trans (by first | assumption | go_keep)); have hco := (fun (W : World) (B o : Nat) (v : Value) (hB : w.heap.size ≤ B) => setCell_out W B o v ⟨b2, 0, none⟩ (fun e => by have h1 : b2 = B := e; omega)); clear M1))
    all_goals
      go_wp2_with fail
      go_meet
      first
        | exact ⟨w1.heap.size, rfl, by rw [World.cell?_alloc_at _ _ _ _ rfl]; rfl, by rw [World.cell?_alloc_at _ _ _ _ rfl]; rfl, by rw [World.cell?_alloc_at _ _ _ _ rfl]; rfl, by rw [World.cell?_alloc_at _ _ _ _ rfl]; rfl, (((Mod.refl _ _).drewN 1).trans HM1.out).alloc _⟩
        | exact ⟨w.heap.size, rfl, by simp [go_sem, hcl], by simp [go_sem, hcl], by simp [go_sem, hcl], by simp [go_sem, hcl], Mod.new6 ((((Mod.refl _ _).drewN 1).alloc _).trans HM1.out) (w4_mod w1 w.heap.size _ _ _ _) (fun x e => by rw [e]; exact Nat.le_refl _)⟩
  case rest =>
    obtain ⟨B7, rfl, g0, g1, g2, g3, HM⟩ := hcut
    have h3 : wc.cell? ⟨b3, 0, none⟩ = some (.int .i64 m) := (HM.out.cell (p := ⟨b3, 0, none⟩) hb3 (fun e => e)).trans c3
    go_wp2_with (first | (go_at_call 47; refine (fHas10 _).mono ?_; rintro e w3 ⟨rfl, hw3⟩; rw [hw3]; clear hw3 w3))
    refine Calls.mono (HN.out _ HM.out) ?_
    rintro e w5 ⟨rfl, T5, M5, k5⟩
    have HT5 := hid6 T5
    have HM5 := hid6 ((HM.out.mono (t := fun x => x = b ∨ x = c ∨ x = q ∨ x = k) (fun _ _ e => e.elim)).trans M5)
    clear T5 M5
    go_wp2_with fail
    refine Calls.mono (tHold k5 r (fun w' => Tb w' t q b c n N clk F4 R2 u2 D2 ∧ Mod (fun x => x = q) w5 w') (HH.out _ HT5.out)) ?_
    rintro e w6 ⟨rfl, T6, M6⟩
    have HT6 := hid6 T6
    have HM6 := hid6 (HM5.out.trans (M6.mono (fun _ _ e => .inr (.inr (.inl e)))))
    clear T6 M6
    go_wp2
    go_ret
    exact ⟨rfl, HT6.out, HM6.out⟩
end
end Go.Proofs.YtgkkbplecfhmdaaGreatDoor
/- Bytes as a string. Condition: the slice can be read. -/
namespace Go.Proofs.YtgkkbplecfhmdaaGreatDoor
open Go.RowKit
/-- The slice v can be read, as the bytes l. -/
def BytesAt (w : World) (v : Value) (l : List Nat) : Prop :=
  (∀ x ∈ l, x < 256) ∧ ∃ a cap, v = .slice a l.length cap ∧ (a = none → l = []) ∧ ∀ ad, a = some ad → ∀ j x, l[j]? = some x → w.cell? (ad.add j) = some (byteV x)
def strOf (l : List Nat) : ByteArray := ⟨(l.map UInt8.ofNat).toArray⟩
theorem strOf_foldl (l : List Nat) : ∀ s : ByteArray, (l.map Int.ofNat).foldl (fun r n => r.push (UInt8.ofNat n.toNat)) s = ⟨(s.data.toList ++ l.map UInt8.ofNat).toArray⟩ := by
  induction l with
  | nil => intro s; simp
  | cons x l ih =>
    intro s
    simp only [List.map_cons, List.foldl_cons]
    rw [ih]
    simp
theorem strOf_inj {a b : List Nat} (ha : ∀ x ∈ a, x < 256) (hb : ∀ x ∈ b, x < 256) (h : strOf a = strOf b) : a = b := by
  have h1 : a.map UInt8.ofNat = b.map UInt8.ofNat := by
    have := congrArg (fun s => s.data.toList) h
    simpa [strOf] using this
  have back : ∀ l : List Nat, (∀ x ∈ l, x < 256) → (l.map UInt8.ofNat).map UInt8.toNat = l := by
    intro l hl
    rw [List.map_map]
    conv => rhs; rw [← List.map_id l]
    exact List.map_congr_left fun x hx => by simp [Nat.mod_eq_of_lt (hl x hx)]
  rw [← back a ha, ← back b hb, h1]
theorem conv_bytes {w : World} {v : Value} {l : List Nat} (h : BytesAt w v l) : (convert 22 9 v).run Tryz.prog w = .ok (.string (strOf l)) w := by
  obtain ⟨hl, a, cap, rfl, hn, hs⟩ := h
  rw [run_convert_bytes_string w 22 9 5 a l.length cap (by kernel_rfl) (by kernel_rfl) (by kernel_rfl)]
  cases a with
  | none =>
    obtain rfl := hn rfl
    rfl
  | some ad =>
    have hload := run_loadCells_list (P := Tryz.prog) w ad (l.map byteV) (fun j v hv => by
      rw [List.getElem?_map, Option.map_eq_some_iff] at hv
      obtain ⟨x, hx, rfl⟩ := hv
      exact hs ad rfl j x hx)
    have := run_bytesToString (P := Tryz.prog) w ad l.length cap (l.map Int.ofNat) (by
      have e : (l.map Int.ofNat).map (Value.int .u8) = l.map byteV := by rw [List.map_map]; rfl
      rw [e]; simpa using hload)
    rw [this, strOf_foldl]
    rfl
end Go.Proofs.YtgkkbplecfhmdaaGreatDoor
