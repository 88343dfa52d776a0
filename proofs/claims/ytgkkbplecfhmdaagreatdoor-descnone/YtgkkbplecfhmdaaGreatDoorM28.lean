/- Several texts of this claim, one behind the other, in their order. -/
import Derived.Test.YtgkkbplecfhmdaaGreatDoorM12
import Derived.Deep.LoopGhost
import Derived.WalkMore
import Derived.Deep.DeepCutAuto
import Derived.Lib.LastIndexByte
import Derived.RangeFuncNested
import Derived.RangeFuncBound
import Derived.RangeFuncCalls
import Derived.RangeFuncLeaves
import Derived.RangeFuncFrom
import Derived.RangeFuncBox
import Derived.Shelf.Abstract
import Derived.Shelf.RegionOpen
import Derived.OwnWalkIn
import Derived.TacticsInMore
import Derived.LoopNIn
import Derived.LoopIn
/- The task's call follow, along names of which none is a link. Conditions: the task lies in memory as 'TkAt' says (no groups); what Split tells; what stat and find tell along the way; no slash at the end. -/
namespace Go.Proofs.YtgkkbplecfhmdaaGreatDoor
open Go.RowKit
/-- The way along names from where one stands: where it ends. -/
def Way (w : World) (k : Nat) : Int → List UInt8 → Int → List (List UInt8) → Int → List UInt8 → Int → Prop
  | d, nm, i, [], fd, fx, fi => fd = d ∧ fx = nm ∧ fi = i
  | _, _, i, x :: xs, fd, fx, fi => ∃ r, TfA w k i x r ∧ ((r = 0 ∧ xs = [] ∧ fd = i ∧ fx = x ∧ fi = 0) ∨ ((r == 0) = false ∧ (∃ f, StA w k r f ∧ (bits .and .i64 (f 0) 61440 != 40960) = true) ∧ Way w k i x r xs fd fx fi))
theorem infSp' : (Tryz.prog.info? 105).map (·.size) = some 4 := infSp
theorem ret_follow {W : World} {B : Nat} {L : List Value} (h : W.rangeAt B 0 L) (hl : L.length = 4) (tmps : Array Value) (h4 : tmps[6]?.getD undef = .pointer (some ⟨B, 0, none⟩)) :
    (results Tryz.f45 tmps).run Tryz.prog W = .ok (.agg L.toArray) W := by
  have h2 := run_loadVar_mid (P := Tryz.prog) W B 0 105 L _ h Tryz.underlying105 rfl (by rw [hl]; exact infSp)
  unfold results
  rw [Tryz.results45]
  simp [h4, asAddr, h2]
/-- Where one stands lies in memory. -/
structure SpAt (W : World) (B : Nat) (d : Int) (nm : List UInt8) (i : Int) (sl : Bool) : Prop where
  c0 : W.cell? ⟨B, 0, none⟩ = some (.int .i64 d)
  c1 : W.cell? ⟨B, 1, none⟩ = some (.string ⟨nm.toArray⟩)
  c2 : W.cell? ⟨B, 2, none⟩ = some (.int .i64 i)
  c3 : W.cell? ⟨B, 3, none⟩ = some (.bool sl)
  fr : ∀ o, W.frozen? ⟨B, o, none⟩ = false
theorem SpAt.lt {W : World} {B : Nat} {d : Int} {nm : List UInt8} {i : Int} {sl : Bool} (h : SpAt W B d nm i sl) : B < W.heap.size := block_lt_of_cell h.c0
theorem SpAt.mod {W W' : World} {B : Nat} {d : Int} {nm : List UInt8} {i : Int} {sl : Bool} (h : SpAt W B d nm i sl) {s : Nat → Prop} (hM : Mod s W W') (hs : ¬ s B) : SpAt W' B d nm i sl where
  c0 := (hM.cell (p := ⟨B, 0, none⟩) h.lt hs).trans h.c0
  c1 := (hM.cell (p := ⟨B, 1, none⟩) h.lt hs).trans h.c1
  c2 := (hM.cell (p := ⟨B, 2, none⟩) h.lt hs).trans h.c2
  c3 := (hM.cell (p := ⟨B, 3, none⟩) h.lt hs).trans h.c3
  fr := fun o => (hM.frozen (p := ⟨B, o, none⟩) h.lt hs).trans (h.fr o)
theorem SpAt.fresh (W : World) (d : Int) (nm : List UInt8) (i : Int) (sl : Bool) (t : TypeId) : SpAt (W.alloc (.cells #[.int .i64 d, .string ⟨nm.toArray⟩, .int .i64 i, .bool sl] t)) W.heap.size d nm i sl where
  c0 := by rw [World.cell?_alloc_at _ _ _ _ rfl]; rfl
  c1 := by rw [World.cell?_alloc_at _ _ _ _ rfl]; rfl
  c2 := by rw [World.cell?_alloc_at _ _ _ _ rfl]; rfl
  c3 := by rw [World.cell?_alloc_at _ _ _ _ rfl]; rfl
  fr := fun o => World.frozen?_alloc_at _ _ _ _ rfl
theorem SpAt.step {W : World} {B : Nat} {d : Int} {nm : List UInt8} {i : Int} {sl : Bool} (h : SpAt W B d nm i sl) (d' : Int) (nm' : List UInt8) : SpAt ((W.setCell ⟨B, 0, none⟩ (.int .i64 d')).setCell ⟨B, 1, none⟩ (.string ⟨nm'.toArray⟩)).drew B d' nm' i sl where
  c0 := by have := h.c0; simp [go_sem, this]
  c1 := by have := h.c1; simp [go_sem, this]
  c2 := by have := h.c2; simp [go_sem, this]
  c3 := by have := h.c3; simp [go_sem, this]
  fr := fun o => by have := h.fr o; simp [go_sem, this]
theorem SpAt.ino {W : World} {B : Nat} {d : Int} {nm : List UInt8} {i : Int} {sl : Bool} (h : SpAt W B d nm i sl) (r : Int) : SpAt (W.setCell ⟨B, 2, none⟩ (.int .i64 r)) B d nm r sl where
  c0 := by have := h.c0; simp [go_sem, this]
  c1 := by have := h.c1; simp [go_sem, this]
  c2 := by have := h.c2; simp [go_sem, this]
  c3 := by have := h.c3; simp [go_sem, this]
  fr := fun o => by have := h.fr o; simp [go_sem, this]
theorem mod_step (W : World) (B : Nat) (v0 v1 : Value) : Mod (fun b => b = B) W ((W.setCell ⟨B, 0, none⟩ v0).setCell ⟨B, 1, none⟩ v1).drew := (((Mod.refl (fun b => b = B) W).setCell ⟨B, 0, none⟩ v0 rfl).setCell ⟨B, 1, none⟩ v1 rfl).drewN 1
theorem mod_ino (W : World) (B : Nat) (v : Value) : Mod (fun b => b = B) W (W.setCell ⟨B, 2, none⟩ v) := (Mod.refl (fun b => b = B) W).setCell ⟨B, 2, none⟩ v rfl
theorem Strs.mod {W W' : World} {a : Option Addr} {xs : List (List UInt8)} (h : Strs W a xs) {s : Nat → Prop} (hM : Mod s W W') (hn : ∀ b, a.map (·.block) = some b → ¬ s b) : Strs W' a xs := by
  intro j x hx
  obtain ⟨bk, o, rfl, hlt, hc⟩ := h j x hx
  exact ⟨bk, o, rfl, Nat.lt_of_lt_of_le hlt hM.size, (hM.cell (p := ⟨bk, o + j, none⟩) hlt (hn bk rfl)).trans hc⟩
theorem Strs.tail {W : World} {bk o c : Nat} {x : List UInt8} {xs : List (List UInt8)} (h : Strs W (some ⟨bk, o, none⟩) (x :: xs)) (hc : xs.length + 1 ≤ c) : Strs W (if c = 1 then some ⟨bk, o, none⟩ else some ⟨bk, o + 1, none⟩) xs := by
  intro j y hy
  have hj := (List.getElem?_eq_some_iff.1 hy).1
  rw [if_neg (by omega)]
  obtain ⟨bk', o', he, hlt, hc'⟩ := h (j + 1) y (by simpa using hy)
  cases he
  exact ⟨bk, o + 1, rfl, hlt, by rw [show o + 1 + j = o + (j + 1) by omega]; exact hc'⟩
/-- What the loop keeps: the blocks that follow laid, and where one stands. -/
structure FoAt (w w2 W : World) (B6 B7 k : Nat) (d : Int) (nm : List UInt8) (i : Int) (a : Option Addr) (xs : List (List UInt8)) (fd : Int) (fx : List UInt8) (fi : Int) : Prop where
  M0 : Mod (fun _ => False) w W
  P6 : SpAt W B6 0 [] 0 false
  P7 : SpAt W B7 d nm i false
  lt : w.heap.size ≤ B6 ∧ B6 < B7
  S : Strs W a xs
  ne : ∀ b, a.map (·.block) = some b → b ≠ B7 ∧ b ≠ B6
  way : Way w k d nm i xs fd fx fi
set_option maxRecDepth 100000 in
set_option maxHeartbeats 4000000 in
theorem tFollow {w : World} {k t : Nat} {u g : Int} {ga : Option Addr} {gc : Nat} {um cw : Int} (h : TkAt w k t u g ga gc um cw) (l : List UInt8) (ab : Bool) (xs : List (List UInt8)) (hP : SplOf l ab xs false) (ino : Int) (hi : (ab = true ∨ (cw == 0) = true) ∧ ino = 1 ∨ ab = false ∧ (cw == 0) = false ∧ ino = cw) (en : Int) (fd : Int) (fx : List UInt8) (fi : Int) (hW : Way w k 0 [] ino xs fd fx fi) (hn : xs.length ≤ 2 ^ 40) :
    Calls Tryz.prog 45 #[.pointer (some ⟨k, 0, none⟩), .string ⟨l.toArray⟩, .int .i64 en] w fun e w' => e = .returned (.agg #[.int .i64 fd, .string ⟨fx.toArray⟩, .int .i64 fi, .bool false]) ∧ Mod (fun _ => False) w w' := by
  have HB := hid6 (tBegin (h.new ((Mod.refl _ w).alloc (.cells #[.int .i64 0, .string ⟨#[]⟩, .int .i64 0, .bool false] 105))) l ab false xs hP ino hi)
  have HW := hid6 hW
  have HN := hid6 hn
  unfold spA at HB
  clear hW hP hi h hn
  go_enter Tryz.func45, Tryz.ntmps45
  go_wp2_with fail
  go_step3
  go_wp2_with fail
  refine Calls.mono HB.out ?_
  rintro e w1 ⟨a, c, rfl, hc, HS, hbl, M1⟩
  clear HB
  obtain ⟨n, hn⟩ : ∃ n, n = xs.length := ⟨_, rfl⟩
  rw [← hn]
  have HN' := hid6 hn
  have hkk : w.heap.size < w1.heap.size := by have := M1.size; simp at this; omega
  clear hn
  have HF : Hid (FoAt w w (w1.alloc (.cells #[.int .i64 0, .string ⟨#[]⟩, .int .i64 ino, .bool false] 105)) w.heap.size w1.heap.size k 0 [] ino a xs fd fx fi) := {
    M0 := (((Mod.refl _ w).alloc _).trans M1).alloc _
    P6 := ((SpAt.fresh w 0 [] 0 false 105).mod M1 (fun e => e)).mod ((Mod.refl (fun _ => False) _).alloc _) (fun e => e)
    P7 := SpAt.fresh w1 0 [] ino false 105
    lt := ⟨Nat.le_refl _, hkk⟩
    S := HS.grow ((Below.refl _ _).alloc (Nat.le_refl _) _)
    ne := fun b hb => by have := hbl b hb; simp at this; exact ⟨by omega, by omega⟩
    way := HW.out }
  have HL := hid6 (show n ≤ 2 ^ 40 by rw [HN'.out]; exact HN.out)
  clear HS hbl M1 HW
  go_wp2_with fail
  go_step3
  go_wp2_with fail
  generalize w.heap.size = B6 at *
  generalize w1.heap.size = B7 at *
  go_loopg [8, 9] n (fun gh r lk wr => ∃ (m : Nat) (d i : Int) (nm : List UInt8) (a' : Option Addr) (c' : Nat) (ys : List (List UInt8)), r = .slice a' m c' ∧ lk = .int .i64 0 ∧ m ≤ c' ∧ m ≤ 2 ^ 40 ∧ m = gh ∧ Hid (FoAt w w wr B6 B7 k d nm i a' ys fd fx fi) ∧ Hid (m = ys.length))
  case atStart => exact ⟨n, 0, ino, [], a, c, xs, rfl, rfl, by rw [HN'.out]; exact hc, HL.out, rfl, HF, HN'⟩
  case round =>
    obtain ⟨m, d, i, nm, a', c', ys, rfl, rfl, hmc, hm40, rfl, HK, HY⟩ := hrel
    clear HF
    by_cases hm : m = 0
    · subst hm
      have hy : ys = [] := by have := HY.out; exact List.length_eq_zero_iff.mp this.symm
      subst hy
      obtain ⟨rfl, rfl, rfl⟩ : fd = d ∧ fx = nm ∧ fi = i := HK.out.way
      obtain ⟨p0, p1, p2, p3, pf⟩ := HK.out.P7
      obtain ⟨q0, q1, q2, q3, qf⟩ := HK.out.P6
      go_wp2_with (first | (go_at_call 43; refine (refuse_no _ _).mono ?_; rintro e w3 ⟨rfl, hw3⟩; rw [hw3]; clear hw3 w3))
      rw [Exit.noGoto_ret]
      exact bodyPost_ret (ret_follow (w4_range q0 q1 q2 q3 _ _ _ _) rfl _ rfl) rfl ⟨rfl, HK.out.M0.new6 (w4_mod wr B6 _ _ _ _) (fun b e => by rw [e]; exact HK.out.lt.1)⟩
    · obtain ⟨x, ys', hys⟩ : ∃ x ys', ys = x :: ys' := by
        cases ys with
        | nil => exact absurd HY.out hm
        | cons x ys' => exact ⟨x, ys', rfl⟩
      subst hys
      obtain ⟨r, hTf, hor⟩ := HK.out.way
      obtain ⟨bk, o, rfl, hbk, hx⟩ := HK.out.S 0 x rfl
      rw [Nat.add_zero] at hx
      have hnb := HK.out.ne bk rfl
      have hb7 := HK.out.P7.lt
      obtain ⟨p0, p1, p2, p3, pf⟩ := HK.out.P7
      have hm1 : (0 : Int) < (m : Int) := by omega
      have hm2 : (1 : Int) ≤ (m : Int) := by omega
      have hm3 : (m : Int) ≤ (c' : Int) := by omega
      have hne7 : ¬ bk = B7 := hnb.1
      have HTf := hid6 hTf
      have HOr := hid6 hor
      clear hTf hor hnb
      go_wp2_with fail
      go_region
      have HA2 : Hid (Strs wr (if c' = 1 then some (⟨bk, o, none⟩ : Addr) else some ⟨bk, o + 1, none⟩) ys' ∧ (∀ b, (if c' = 1 then some (⟨bk, o, none⟩ : Addr) else some ⟨bk, o + 1, none⟩).map (·.block) = some b → b ≠ B7 ∧ b ≠ B6)) := by
        refine ⟨HK.out.S.tail (by have := HY.out; simp at this; omega), fun b hb => ?_⟩
        have : b = bk := by split at hb <;> (cases hb; rfl)
        rw [this]; exact HK.out.ne bk rfl
      generalize (if c' = 1 then some (⟨bk, o, none⟩ : Addr) else some ⟨bk, o + 1, none⟩) = a2 at *
      have HP4 := hid6 (HK.out.P7.step i x)
      have HM4 := hid6 (mod_step wr B7 (.int .i64 i) (.string ⟨x.toArray⟩))
      have HQ4 := hid6 (HK.out.P6.mod HM4.out (by have := HK.out.lt; show ¬ B6 = B7; omega))
      have HS4 := hid6 (HA2.out.1.mod HM4.out (fun b hb => (HA2.out.2 b hb).1))
      have HN4 := hid6 (HK.out.M0.new6 HM4.out (fun b e => by have := HK.out.lt; rw [e]; omega))
      clear p0 p1 p2 p3 pf hx hbk hb7
      generalize ((wr.setCell ⟨B7, 0, none⟩ (.int .i64 i)).setCell ⟨B7, 1, none⟩ (.string ⟨x.toArray⟩)).drew = W4 at *
      obtain ⟨p0, p1, p2, p3, pf⟩ := HP4.out
      go_wp2_with fail
      refine Calls.mono (HTf.out _ HN4.out) ?_
      rintro e w5 ⟨rfl, M5⟩
      have HP5 := hid6 ((HP4.out.mod M5 (fun e => e)).ino r)
      have HN5 := hid6 ((HN4.out.trans M5).new6 (mod_ino w5 B7 (.int .i64 r)) (fun b e => by have := HK.out.lt; rw [e]; omega))
      have HM5 := hid6 ((M5.mono (t := fun b => b = B7) (fun _ _ h => h.elim)).trans (mod_ino w5 B7 (.int .i64 r)))
      have HQ5 := hid6 (HQ4.out.mod HM5.out (by have := HK.out.lt; show ¬ B6 = B7; omega))
      have HS5 := hid6 (HS4.out.mod HM5.out (fun b hb => (HA2.out.2 b hb).1))
      have t2 := (HP4.out.mod M5 (fun e => e)).c2
      have tf := (HP4.out.mod M5 (fun e => e)).fr
      clear p0 p1 p2 p3 pf M5 HP4 HQ4 HS4 HN4 HM4 HM5
      rcases HOr.out with ⟨rfl, rfl, rfl, rfl, rfl⟩ | ⟨hr0, ⟨f, hSt, hlk⟩, hway⟩
      · have hm0 : m = 1 := by have := HY.out; simpa using this
        obtain ⟨p0, p1, p2, p3, pf⟩ := HP5.out
        obtain ⟨q0, q1, q2, q3, qf⟩ := HQ5.out
        subst hm0
        go_wp2_with (first | (go_at_call 43; refine (refuse_no _ _).mono ?_; rintro e w3 ⟨rfl, hw3⟩; rw [hw3]; clear hw3 w3))
        rw [Exit.noGoto_ret]
        exact bodyPost_ret (ret_follow (w4_range q0 q1 q2 q3 _ _ _ _) rfl _ rfl) rfl ⟨rfl, HN5.out.new6 (w4_mod _ B6 _ _ _ _) (fun b e => by rw [e]; exact HK.out.lt.1)⟩
      · have HSt := hid6 hSt
        have HWy := hid6 hway
        have HKd : Hid (∀ s0 s1 s2 s3 s4 s5 s7 s8 s9 W, _) := fun s0 s1 s2 s3 s4 s5 s7 s8 s9 W => tKind s0 s1 s2 s3 s4 s5 (f 0) s7 s8 s9 W
        unfold sA at HKd
        clear hSt hway HOr
        obtain ⟨p0, p1, p2, p3, pf⟩ := HP5.out
        go_wp2_with fail
        refine Calls.mono (HSt.out _ HN5.out) ?_
        rintro e w6 ⟨⟨bl, rfl⟩, M6⟩
        have HM6 := hid6 (fun o => M6.alloc o)
        clear M6 p0 p1 p2 p3 pf t2 tf
        go_wp2_with fail
        refine Calls.mono (HKd.out _ _ _ _ _ _ _ _ _ _) ?_
        rintro e w7 ⟨rfl, M7⟩
        have HM7 := hid6 ((HM6.out _).trans M7)
        clear M7
        have HE : Hid (FoAt w w w7 B6 B7 k i x r a2 ys' fd fx fi) := {
          M0 := HN5.out.trans HM7.out
          P6 := HQ5.out.mod HM7.out (fun e => e)
          P7 := HP5.out.mod HM7.out (fun e => e)
          lt := HK.out.lt
          S := HS5.out.mod HM7.out (fun _ _ e => e)
          ne := HA2.out.2
          way := HWy.out }
        clear HK HQ5 HP5 HS5 HN5 HM6 HM7 HTf HWy HSt HKd
        go_wp2_with fail
        go_roundg (m - 1)
        case measure => omega
        case rel => exact ⟨m - 1, i, r, x, a2, c' - 1, ys', rfl, rfl, by omega, by omega, rfl, HE, by have := HY.out; show _ = _; simp at this; omega⟩
end Go.Proofs.YtgkkbplecfhmdaaGreatDoor
/- The walks of the plain answers String, Clean, Join, Base, Dir. Conditions: lengths that fit. -/
namespace Go.Proofs.YtgkkbplecfhmdaaGreatDoor
open Go.RowKit
attribute [local go_sem] ext_eq app_eq get_eq toL_eq
theorem strg_le (a : Bool) (ns : List (List UInt8)) (sl : Bool) : (Pa.strg a ns sl).length ≤ (Pa.jn ns).length + 2 := by
  unfold Pa.strg; split
  · simp
  · cases a <;> cases sl <;> simp <;> split <;> simp <;> omega
theorem len0 {α : Type} (xs : List α) (h : xs = []) : ((xs.length : Int) == 0) = true := by simp [h]
theorem lenN {α : Type} (xs : List α) (h : ¬ xs = []) : ((xs.length : Int) == 0) = false := by
  rw [beq_eq_false_iff_ne]; have := List.length_pos_iff.2 h; omega
theorem jn_le_of (xs : List (List UInt8)) : (Pa.jn xs).length ≤ (xs.map List.length).sum + xs.length := by
  cases xs with
  | nil => simp [Pa.jn, Lib.join_nil]
  | cons y r =>
    simp only [Pa.jn, Lib.join_cons, Lib.joinTail, List.length_append, List.length_flatten, List.map_map, List.map_cons, List.sum_cons, List.length_cons]
    have : (r.map (List.length ∘ fun x => [(47 : UInt8)] ++ x)).sum = (r.map List.length).sum + r.length := by
      clear y; induction r with
      | nil => rfl
      | cons z r ih => simp only [List.map_cons, List.sum_cons, ih, List.length_cons, Function.comp]; simp; omega
    omega
end Go.Proofs.YtgkkbplecfhmdaaGreatDoor
/- The walks of the plain answers Clean and Join. Conditions: lengths that fit. -/
namespace Go.Proofs.YtgkkbplecfhmdaaGreatDoor
open Go.RowKit
attribute [local go_sem] ext_eq app_eq get_eq toL_eq
def wt (ns : List (List UInt8)) : Nat := (ns.map List.length).sum + ns.length
theorem wt_app (a b : List (List UInt8)) : wt (a ++ b) = wt a + wt b := by simp [wt]; omega
theorem wt_one (n : List UInt8) : wt [n] = n.length + 1 := by simp [wt]
theorem wt_dropLast (a : List (List UInt8)) : wt a.dropLast ≤ wt a := by
  rcases nil_or_snoc a with rfl | ⟨ys, y, rfl⟩
  · simp
  · simp [wt_app]
theorem wt_clStep (b : Bool) (out : List (List UInt8)) (n : List UInt8) : wt (Pa.clStep b out n) ≤ wt out + wt [n] := by
  unfold Pa.clStep
  repeat' split
  all_goals (first | (have := wt_dropLast out; omega) | (rw [wt_app]; omega) | omega)
theorem wt_cl (b : Bool) (ns : List (List UInt8)) : wt (Pa.cl b ns) ≤ wt ns := by
  have h : ∀ (ns out : List (List UInt8)), wt (ns.foldl (Pa.clStep b) out) ≤ wt out + wt ns := by
    intro ns
    induction ns with
    | nil => intro out; simp [wt]
    | cons n ns ih => intro out; have h1 := ih (Pa.clStep b out n); have h2 := wt_clStep b out n; have h3 : wt (n :: ns) = wt [n] + wt ns := wt_app [n] ns; simp only [List.foldl_cons]; omega
  have := h ns []
  simpa [Pa.cl, wt] using this
theorem wt_nms_aux (n : Nat) : ∀ l : List UInt8, l.length ≤ n → wt (Pa.nms l) ≤ l.length + 1 := by
  induction n with
  | zero => intro l h; have : l = [] := List.length_eq_zero_iff.1 (by omega); subst this; simp [Pa.nms_nil, wt]
  | succ n ih =>
    intro l h
    rcases Pa.indexByte_cut 47 l with ⟨_, hn⟩ | ⟨k, _, hk, hn, hl⟩
    · rw [Pa.nms_plain l hn]; split
      · simp [wt]
      · rw [wt_one]; exact Nat.le_refl _
    · have h2 := ih (l.drop (k + 1)) (by simp; omega)
      have h3 : wt (Pa.nms l) = wt (if l.take k = [] then [] else [l.take k]) + wt (Pa.nms (l.drop (k + 1))) := by
        conv => lhs; rw [hl, Pa.nms_cut _ _ hn]
        rw [wt_app]
      have h4 : wt (if l.take k = [] then [] else [l.take k]) ≤ k + 1 := by
        split
        · simp [wt]
        · rw [wt_one]; simp; omega
      simp only [List.length_drop] at h2
      omega
theorem wt_nms (l : List UInt8) : wt (Pa.nms l) ≤ l.length + 1 := wt_nms_aux _ l (Nat.le_refl _)
theorem wt_lft (l : List UInt8) : wt (Pa.lft l) ≤ l.length + 1 := Nat.le_trans (wt_cl _ _) (wt_nms l)
theorem jn_wt (ns : List (List UInt8)) : (Pa.jn ns).length ≤ wt ns := jn_le_of ns
theorem len_wt (ns : List (List UInt8)) : ns.length ≤ wt ns := by unfold wt; omega
/-- The list of a path's names, clean, in fresh memory. -/
def Fresh (w w' : World) (v : Value) (xs : List (List UInt8)) : Prop := w'.ownsRow w.heap.size 9 1 v xs.length (xs.map sv)
theorem Fresh.form {w w' : World} {v : Value} {xs : List (List UInt8)} (h : Fresh w w' v xs) : ∃ a c, v = .slice a xs.length c ∧ xs.length ≤ c ∧ Strs w' a xs ∧ (∀ b, a.map (·.block) = some b → w.heap.size ≤ b ∧ b < w'.heap.size) := (own_strs h).2
end Go.Proofs.YtgkkbplecfhmdaaGreatDoor
/- The walks of the plain answers Join, Base, Dir. Conditions: lengths that fit. -/
namespace Go.Proofs.YtgkkbplecfhmdaaGreatDoor
open Go.RowKit
attribute [local go_sem] ext_eq app_eq get_eq toL_eq
theorem some_snoc (ys : List (List UInt8)) (x : List UInt8) : Pa.some' (ys ++ [x]) = if x = [] then Pa.some' ys else Pa.some' ys ++ [x] := by
  by_cases h : x = [] <;> simp [Pa.some', h]
theorem jn_nil_iff (ns : List (List UInt8)) (h : ∀ n ∈ ns, n ≠ []) : Pa.jn ns = [] ↔ ns = [] := by
  cases ns with
  | nil => simp [Pa.jn, Lib.join_nil]
  | cons n r => have := h n (by simp); simp [Pa.jn, Lib.join_cons, this]
theorem some_ne (xs : List (List UInt8)) : ∀ n ∈ Pa.some' xs, n ≠ [] := by intro n hn; simp [Pa.some'] at hn; exact hn.2
theorem jn_some_nil (xs : List (List UInt8)) : Pa.jn (Pa.some' xs) = [] ↔ Pa.some' xs = [] := jn_nil_iff _ (some_ne xs)
theorem some_take_le (xs : List (List UInt8)) (k : Nat) : (Pa.jn (Pa.some' (xs.take k))).length ≤ (Pa.jn (Pa.some' xs)).length := by
  have : Pa.some' (xs.take k) <+: Pa.some' xs := by
    conv => rhs; rw [← List.take_append_drop k xs]
    simp only [Pa.some', List.filter_append]
    exact List.prefix_append _ _
  rw [List.prefix_iff_eq_take.1 this]
  exact jn_take_le _ _
/-- basename. -/
def Pa.base (l suf : List UInt8) : List UInt8 :=
  if l = [] then [46] else if Lib.trimRightB l 47 = [] then [47] else
    if suf.length < ((Lib.trimRightB l 47).drop (lastL (Lib.trimRightB l 47))).length ∧ ((Lib.trimRightB l 47).drop (lastL (Lib.trimRightB l 47))).drop (((Lib.trimRightB l 47).drop (lastL (Lib.trimRightB l 47))).length - suf.length) = suf
    then ((Lib.trimRightB l 47).drop (lastL (Lib.trimRightB l 47))).take (((Lib.trimRightB l 47).drop (lastL (Lib.trimRightB l 47))).length - suf.length)
    else (Lib.trimRightB l 47).drop (lastL (Lib.trimRightB l 47))
/-- dirname. -/
def Pa.dir (l : List UInt8) : List UInt8 :=
  if l = [] then [46] else if Lib.trimRightB l 47 = [] then [47] else if lastL (Lib.trimRightB l 47) = 0 then [46] else
    if Lib.trimRightB ((Lib.trimRightB l 47).take (lastL (Lib.trimRightB l 47))) 47 = [] then [47] else Lib.trimRightB ((Lib.trimRightB l 47).take (lastL (Lib.trimRightB l 47))) 47
theorem trim_len (l : List UInt8) (c : UInt8) : (Lib.trimRightB l c).length ≤ l.length := by
  simp only [Lib.trimRightB, List.length_reverse]
  have := (List.dropWhile_suffix (fun x => x == c) (l := l.reverse)).length_le
  simpa using this
theorem drop_last_len (t : List UInt8) (a b : Nat) : (t.take b).drop a = (t.drop a).take (b - a) := List.drop_take ..
end Go.Proofs.YtgkkbplecfhmdaaGreatDoor
/- The walks of the program's absolute, Base, Dir, String. Conditions: lengths that fit. -/
namespace Go.Proofs.YtgkkbplecfhmdaaGreatDoor
open Go.RowKit
attribute [local go_sem] ext_eq app_eq get_eq toL_eq
theorem absB_prefix (l : List UInt8) : Lib.hasPrefix l [47] = Pa.absB l := by
  cases l with
  | nil => rfl
  | cons c r => rw [Bool.eq_iff_iff]; simp [Lib.hasPrefix, Pa.absB]; exact ⟨Eq.symm, Eq.symm⟩
set_option maxHeartbeats 400000 in
theorem pAbs (l : List UInt8) (w : World) : Calls Tryz.prog 171 #[.string ⟨l.toArray⟩] w fun e w' => e = .returned (.bool (Pa.absB l)) ∧ w' = w := by
  have HP : Hid (Calls Tryz.prog 191 #[.string ⟨l.toArray⟩, .string ⟨#[47]⟩] w fun e w' => e = .returned (.bool (Lib.hasPrefix l [47])) ∧ w' = w) := Tryz.strings_HasPrefix ⟨l.toArray⟩ ⟨#[47]⟩ w
  rw [absB_prefix] at HP
  go_enter Tryz.func171, Tryz.ntmps171
  go_wp2_with fail
  refine HP.out.mono ?_
  rintro e w1 ⟨rfl, rfl⟩
  go_wp2
  go_ret
  exact ⟨rfl, rfl⟩
theorem lastL_spec_aux (n : Nat) : ∀ l : List UInt8, l.length = n → (lastL l = 0 ∧ ∀ j (h : j < l.length), l[j] ≠ 47) ∨ (∃ i, ∃ h : i < l.length, lastL l = i + 1 ∧ l[i] = 47 ∧ ∀ j (hj : j < l.length), i < j → l[j] ≠ 47) := by
  induction n with
  | zero => intro l hn; have : l = [] := List.length_eq_zero_iff.1 hn; subst this; exact .inl ⟨rfl, fun j h => absurd h (Nat.not_lt_zero _)⟩
  | succ n ih =>
    intro l hn
    have hn0 : l ≠ [] := fun e => by rw [e] at hn; simp at hn
    obtain ⟨m, c, hl⟩ : ∃ m c, l = m ++ [c] := ⟨l.dropLast, l.getLast hn0, (List.dropLast_concat_getLast hn0).symm⟩
    subst hl
    have hm : m.length = n := by simpa using hn
    rw [lastL_snoc]
    by_cases hc : c = 47
    · rw [if_pos hc]
      refine .inr ⟨m.length, by omega, rfl, by simp [hc], fun j hj h => ?_⟩
      omega
    · rw [if_neg hc]
      rcases ih m hm with ⟨h0, hall⟩ | ⟨i, hi, h0, hi47, hall⟩
      · refine .inl ⟨h0, fun j h => ?_⟩
        by_cases hj : j < m.length
        · rw [List.getElem_append_left hj]; exact hall j (by omega)
        · have : j = m.length := by omega
          subst this; simpa using hc
      · refine .inr ⟨i, by omega, h0, by rw [List.getElem_append_left (by omega)]; exact hi47, fun j h hij => ?_⟩
        by_cases hj : j < m.length
        · rw [List.getElem_append_left hj]; exact hall j (by omega) hij
        · have : j = m.length := by omega
          subst this; simpa using hc
theorem lastL_spec (l : List UInt8) : (lastL l = 0 ∧ ∀ j (h : j < l.length), l[j] ≠ 47) ∨ (∃ i, ∃ h : i < l.length, lastL l = i + 1 ∧ l[i] = 47 ∧ ∀ j (hj : j < l.length), i < j → l[j] ≠ 47) := lastL_spec_aux _ l rfl
theorem lastIndex_eq (l : List UInt8) : Lib.lastIndexByte ⟨l.toArray⟩ 47 = (lastL l : Int) - 1 := by
  have hg : ∀ j (h : j < l.length), ((⟨l.toArray⟩ : ByteArray).data[j]!) = l[j] := by intro j h; simp [h]
  have h47 : ∀ j (h : j < l.length), (((l[j]).toNat : Int) = 47 ↔ l[j] = 47) := by
    intro j h
    have := byte_slash l[j]
    constructor
    · intro e; rw [beq_iff_eq.2 e] at this; simpa using this.symm
    · intro e; rw [e]; rfl
  unfold Lib.lastIndexByte
  rw [str_size]
  rcases Lib.lastIdx_spec ⟨l.toArray⟩ 47 l.length with ⟨e, hall⟩ | ⟨i, hi, e, h1, hall⟩
  · rcases lastL_spec l with ⟨h0, _⟩ | ⟨k, hk, h0, hk47, _⟩
    · rw [e, h0]; rfl
    · exact absurd ((h47 k hk).2 hk47) (by rw [← hg k hk]; exact hall k hk)
  · rw [hg i hi, h47 i hi] at h1
    rcases lastL_spec l with ⟨_, hno⟩ | ⟨k, hk, h0, hk47, hafter⟩
    · exact absurd h1 (hno i hi)
    · have : i = k := by
        rcases Nat.lt_trichotomy i k with h | h | h
        · exact absurd ((h47 k hk).2 hk47) (by rw [← hg k hk]; exact hall k h hk)
        · exact h
        · exact absurd h1 (hafter i hi h)
      rw [e, h0, this]; omega
theorem base_eq (u suf : List UInt8) : (if suf.length < u.length ∧ u.drop (u.length - suf.length) = suf then u.take (u.length - suf.length) else u) = if u = suf then u else Lib.trimSuffix u suf := by
  by_cases h : u = suf
  · subst h; simp
  · rw [if_neg h, Lib.trimSuffix, Lib.hasSuffix]
    by_cases hs : suf <:+ u
    · have h1 : suf.isSuffixOf u = true := List.isSuffixOf_iff_suffix.2 hs
      obtain ⟨p, rfl⟩ := hs
      have hp : p ≠ [] := fun e => h (by simp [e])
      have := List.length_pos_iff.2 hp
      rw [if_pos (by refine ⟨by simp; omega, by simp⟩), if_pos h1]
    · have h1 : ¬ suf.isSuffixOf u = true := fun e => hs (List.isSuffixOf_iff_suffix.1 e)
      rw [if_neg h1, if_neg]
      rintro ⟨_, e⟩
      exact hs ⟨u.take (u.length - suf.length), by conv => lhs; rhs; rw [← e]
                                                   exact List.take_append_drop _ _⟩
/-- What lies ahead of the last slash, bare: the slash itself makes no difference. -/
theorem dir_cut (t : List UInt8) (h : lastL t ≠ 0) : Lib.trimRightB (t.take (lastL t)) 47 = Lib.trimRightB (t.take (lastL t - 1)) 47 := by
  rcases lastL_spec t with ⟨h0, _⟩ | ⟨i, hi, h0, hi47, _⟩
  · exact absurd h0 h
  · rw [h0, Nat.add_sub_cancel, take_get t i hi, hi47, trim_snoc]
end Go.Proofs.YtgkkbplecfhmdaaGreatDoor
/- The walks of the program's String and of its iterator over names. Conditions: lengths that fit; the list's cells are as said. -/
namespace Go.Proofs.YtgkkbplecfhmdaaGreatDoor
open Go.RowKit Go.Shelf
attribute [local go_sem] ext_eq app_eq get_eq toL_eq
attribute [local go_sem] Oper.semAt_some
theorem sJoin (xs : List (List UInt8)) (a : Option Addr) (c : Nat) (w : World) (hS : Strs w a xs) (hn : xs.length ≤ 2 ^ 40) (hc : xs.length ≤ c) (hj : (Pa.jn xs).length ≤ 2 ^ 40) :
    Calls Tryz.prog 67 #[.slice a xs.length c, .string ⟨#[47]⟩] w fun e w' => e = .returned (.string ⟨(Pa.jn xs).toArray⟩) ∧ Below w.heap.size w w' := by
  cases xs with
  | nil => exact (Tryz.strings_Join_none a c ⟨#[47]⟩ w).mono fun e w' h => ⟨h.1, h.2 ▸ Below.refl _ _⟩
  | cons x r =>
    obtain ⟨bk, o, rfl, hlt, _⟩ := hS 0 x rfl
    have e1 : Lib.join (((x :: r).map (fun l : List UInt8 => (⟨l.toArray⟩ : ByteArray))).map (·.data.toList)) [47] = Pa.jn (x :: r) := by
      rw [List.map_map]; unfold Pa.jn; congr 1; exact List.map_id' _
    have h := Tryz.strings_Join bk o c ((x :: r).map (fun l : List UInt8 => (⟨l.toArray⟩ : ByteArray))) ⟨#[47]⟩ w (by
      intro j u hu
      rw [List.getElem?_map] at hu
      obtain ⟨z, hz, rfl⟩ := Option.map_eq_some_iff.1 hu
      obtain ⟨bk', o', he, _, hcell⟩ := hS j z hz
      cases he
      exact hcell) hlt (by rw [List.length_map]; omega) (by rw [List.length_map]; exact hc) (by rw [show (#[(47 : UInt8)] : Array UInt8).toList = [47] from rfl, e1]; omega)
    rw [List.length_map, show (#[(47 : UInt8)] : Array UInt8).toList = [47] from rfl, e1] at h
    exact h
end Go.Proofs.YtgkkbplecfhmdaaGreatDoor
