/- Several texts of this claim, one behind the other, in their order. -/
import Derived.Test.YtpcbpikhiooafaaGreatDoorM17
import Derived.Test.YtpcbpikhiooafaaGreatDoorM11
import Derived.Deep.LoopGhost
import Derived.WalkMore
import Derived.Deep.DeepCutAuto
/- The task's calls begin and find. Conditions: the task lies in memory as 'TkAt' says (no groups); what Split, Stat and Find tell. -/
namespace Go.Proofs.YtpcbpikhiooafaaGreatDoor
open Go.RowKit
/-- What Split tells of a text, in whatever world. -/
def SplOf (l : List UInt8) (ab : Bool) (xs : List (List UInt8)) (sl : Bool) : Prop := ∀ W : World, Calls Tryz.prog 91 #[.string ⟨l.toArray⟩] W fun e w' => ∃ a c, e = .returned (.tuple #[.agg #[.bool ab, .slice a xs.length c, .bool sl], .int .i64 0]) ∧ xs.length ≤ c ∧ w'.ownsRow W.heap.size 9 1 (.slice a xs.length c) xs.length (xs.map sv) ∧ Below W.heap.size W w'
theorem infSp : (Tryz.prog.info? 112).map (·.size) = some 4 := by kernel_rfl
/-- Four cells were set, and two blocks laid. -/
def w4 (w1 : World) (B : Nat) (v0 v1 v2 v3 : Value) : World := (((w1.setCell ⟨B, 0, none⟩ v0).setCell ⟨B, 1, none⟩ v1).setCell ⟨B, 2, none⟩ v2).setCell ⟨B, 3, none⟩ v3
theorem w4_mod (w1 : World) (B : Nat) (v0 v1 v2 v3 : Value) : Mod (fun b => b = B) w1 (w4 w1 B v0 v1 v2 v3) := by
  unfold w4
  exact (((((Mod.refl (fun b => b = B) w1).setCell ⟨B, 0, none⟩ v0 rfl).setCell ⟨B, 1, none⟩ v1 rfl).setCell ⟨B, 2, none⟩ v2 rfl).setCell ⟨B, 3, none⟩ v3 rfl)
theorem w4_range {w1 : World} {B : Nat} {x0 x1 x2 x3 : Value} (k0 : w1.cell? ⟨B, 0, none⟩ = some x0) (k1 : w1.cell? ⟨B, 1, none⟩ = some x1) (k2 : w1.cell? ⟨B, 2, none⟩ = some x2) (k3 : w1.cell? ⟨B, 3, none⟩ = some x3) (v0 v1 v2 v3 : Value) : (w4 w1 B v0 v1 v2 v3).rangeAt B 0 [v0, v1, v2, v3] := by
  unfold w4
  intro j v hv
  match j, hv with
  | 0, hv => cases hv; simp [go_sem, k0]
  | 1, hv => cases hv; simp [go_sem, k1]
  | 2, hv => cases hv; simp [go_sem, k2]
  | 3, hv => cases hv; simp [go_sem, k3]
theorem range_mod6 {w w' : World} {B : Nat} {L : List Value} (h : w.rangeAt B 0 L) (hM : Mod (fun _ => False) w w') (hB : B < w.heap.size) : w'.rangeAt B 0 L := fun j v hv => (hM.cell (p := ⟨B, 0 + j, none⟩) hB (fun e => e)).trans (h j v hv)
theorem ret_begin {W : World} {B : Nat} {L : List Value} {v : Value} (h : W.rangeAt B 0 L) (hl : L.length = 4) (tmps : Array Value) (h4 : tmps[4]?.getD undef = .pointer (some ⟨B, 0, none⟩)) (h5 : tmps[5]?.getD undef = v) :
    (results Tryz.f71 tmps).run Tryz.prog W = .ok (.tuple #[.agg L.toArray, v]) W := by
  have h2 := run_loadVar_mid (P := Tryz.prog) W B 0 112 L _ h Tryz.underlying112 rfl (by rw [hl]; exact infSp)
  unfold results
  rw [Tryz.results71]
  simp [h4, h5, asAddr, Result.andThen, h2]
set_option maxRecDepth 100000 in
set_option maxHeartbeats 2000000 in
theorem tBegin {w : World} {k t : Nat} {u g : Int} {ga : Option Addr} {gc : Nat} {um cw : Int} (h : TkAt w k t u g ga gc um cw) (l : List UInt8) (ab sl : Bool) (xs : List (List UInt8)) (hP : SplOf l ab xs sl) (ino : Int) (hi : (ab = true ∨ (cw == 0) = true) ∧ ino = 1 ∨ ab = false ∧ (cw == 0) = false ∧ ino = cw) :
    Calls Tryz.prog 71 #[.pointer (some ⟨k, 0, none⟩), .string ⟨l.toArray⟩] w fun e w' => ∃ a c, e = .returned (.tuple #[spA 0 [] ino sl, .slice a xs.length c]) ∧ xs.length ≤ c ∧ Strs w' a xs ∧ (∀ b, a.map (·.block) = some b → w.heap.size ≤ b ∧ b < w'.heap.size) ∧ Mod (fun _ => False) w w' := by
  have HP : Hid (SplOf l ab xs sl) := hP
  clear hP
  have hk := h.lt
  have c5 := h.c5
  clear h
  unfold spA
  go_enter Tryz.func71, Tryz.ntmps71
  go_wp2_with fail
  refine Calls.mono (HP.out _) ?_
  rintro e w1 ⟨a, c, rfl, hc, hv, hB⟩
  obtain ⟨-, a', c', he, -, hSt, hbl⟩ := own_strs hv
  cases he
  have HSt : Hid (Strs w1 a xs) := hSt
  have HBl : Hid (∀ b, a.map (·.block) = some b → w.heap.size + 1 ≤ b ∧ b < w1.heap.size) := fun b hb => by have := hbl b hb; simp at this; exact ⟨by omega, this.2⟩
  have HM : Hid (Mod (fun _ => False) w w1) := ((Mod.refl _ w).alloc _).trans (mod_below hB)
  have c5' : w1.cell? ⟨k, 5, none⟩ = some (.int .i64 cw) := (HM.out.cell (p := ⟨k, 5, none⟩) hk (fun e => e)).trans c5
  have kk : w.heap.size < w1.heap.size := by have := hB.size; simp at this; omega
  have k0 : w1.cell? ⟨w.heap.size, 0, none⟩ = some (.int .i64 0) := by rw [hB.cell (p := ⟨w.heap.size, 0, none⟩) (by simp)]; simp [go_sem]
  have k1 : w1.cell? ⟨w.heap.size, 1, none⟩ = some (.string ⟨#[]⟩) := by rw [hB.cell (p := ⟨w.heap.size, 1, none⟩) (by simp)]; simp [go_sem]
  have k2 : w1.cell? ⟨w.heap.size, 2, none⟩ = some (.int .i64 0) := by rw [hB.cell (p := ⟨w.heap.size, 2, none⟩) (by simp)]; simp [go_sem]
  have k3 : w1.cell? ⟨w.heap.size, 3, none⟩ = some (.bool false) := by rw [hB.cell (p := ⟨w.heap.size, 3, none⟩) (by simp)]; simp [go_sem]
  have kf : ∀ o, w1.frozen? ⟨w.heap.size, o, none⟩ = false := fun o => by rw [hB.frozen (p := ⟨w.heap.size, o, none⟩) (by simp)]; simp [go_sem]
  clear hv hSt hbl hB c5
  have hk1 : k < w1.heap.size := by omega
  have hkw : ¬ k = w.heap.size := by omega
  have HE : Hid (∀ v0 v1 v2 v3 o o1, Mod (fun _ => False) w (((w4 w1 w.heap.size v0 v1 v2 v3).alloc o).alloc o1).drew ∧ Strs (((w4 w1 w.heap.size v0 v1 v2 v3).alloc o).alloc o1).drew a xs ∧ (∀ b, a.map (·.block) = some b → w.heap.size ≤ b ∧ b < (((w4 w1 w.heap.size v0 v1 v2 v3).alloc o).alloc o1).drew.heap.size) ∧ (((w4 w1 w.heap.size v0 v1 v2 v3).alloc o).alloc o1).drew.rangeAt w.heap.size 0 [v0, v1, v2, v3]) := fun v0 v1 v2 v3 o o1 => by
    have hm := w4_mod w1 w.heap.size v0 v1 v2 v3
    have hm' : Mod (fun _ => False) (w4 w1 w.heap.size v0 v1 v2 v3) (((w4 w1 w.heap.size v0 v1 v2 v3).alloc o).alloc o1).drew := (((Mod.refl _ _).alloc o).alloc o1).drewN 1
    have hm2 : Mod (fun b => b = w.heap.size) w1 (((w4 w1 w.heap.size v0 v1 v2 v3).alloc o).alloc o1).drew := hm.trans (hm'.mono (fun _ _ h => h.elim))
    refine ⟨HM.out.new6 hm2 (fun k e => by rw [e]; exact Nat.le_refl _), fun j x hx => ?_, fun b hb => ?_, ?_⟩
    · obtain ⟨bk, o', ha, hlt, hc'⟩ := HSt.out j x hx
      have hb := (HBl.out bk (by rw [ha]; rfl)).1
      exact ⟨bk, o', ha, Nat.lt_of_lt_of_le hlt hm2.size, (hm2.cell (p := ⟨bk, o' + j, none⟩) hlt (by show ¬ bk = w.heap.size; omega)).trans hc'⟩
    · have := HBl.out b hb
      exact ⟨by omega, Nat.lt_of_lt_of_le this.2 hm2.size⟩
    · exact range_mod6 (w4_range k0 k1 k2 k3 v0 v1 v2 v3) hm' (Nat.lt_of_lt_of_le kk hm.size)
  have HC := hid6 hc
  clear hc
  rcases hi with ⟨rfl | hcw, rfl⟩ | ⟨rfl, hcw, rfl⟩
  · go_wp2_with (first | (go_at_call 57; refine (must_no _).mono ?_; rintro e w2 ⟨rfl, hw2⟩; rw [hw2]; clear hw2 w2))
    go_region
    all_goals (go_wp2; exact bodyPost_ret (ret_begin (HE.out _ _ _ _ _ _).2.2.2 rfl _ rfl rfl) rfl ⟨a, c, rfl, HC.out, (HE.out _ _ _ _ _ _).2.1, (HE.out _ _ _ _ _ _).2.2.1, (HE.out _ _ _ _ _ _).1⟩)
  · cases ab
    all_goals
      go_wp2_with (first | (go_at_call 57; refine (must_no _).mono ?_; rintro e w2 ⟨rfl, hw2⟩; rw [hw2]; clear hw2 w2))
    all_goals go_region
    all_goals (go_wp2; exact bodyPost_ret (ret_begin (HE.out _ _ _ _ _ _).2.2.2 rfl _ rfl rfl) rfl ⟨a, c, rfl, HC.out, (HE.out _ _ _ _ _ _).2.1, (HE.out _ _ _ _ _ _).2.2.1, (HE.out _ _ _ _ _ _).1⟩)
  · go_wp2_with (first | (go_at_call 57; refine (must_no _).mono ?_; rintro e w2 ⟨rfl, hw2⟩; rw [hw2]; clear hw2 w2))
    go_region
    all_goals (go_wp2; exact bodyPost_ret (ret_begin (HE.out _ _ _ _ _ _).2.2.2 rfl _ rfl rfl) rfl ⟨a, c, rfl, HC.out, (HE.out _ _ _ _ _ _).2.1, (HE.out _ _ _ _ _ _).2.2.1, (HE.out _ _ _ _ _ _).1⟩)
end Go.Proofs.YtpcbpikhiooafaaGreatDoor
/- The task's call follow, along names of which none is a link. Conditions: the task lies in memory as 'TkAt' says (no groups); what Split tells; what stat and find tell along the way; no slash at the end. -/
namespace Go.Proofs.YtpcbpikhiooafaaGreatDoor
open Go.RowKit
/-- The way along names from where one stands: where it ends. -/
def Way (w : World) (k : Nat) : Int → List UInt8 → Int → List (List UInt8) → Int → List UInt8 → Int → Prop
  | d, nm, i, [], fd, fx, fi => fd = d ∧ fx = nm ∧ fi = i
  | _, _, i, x :: xs, fd, fx, fi => ∃ r, TfA w k i x r ∧ ((r = 0 ∧ xs = [] ∧ fd = i ∧ fx = x ∧ fi = 0) ∨ ((r == 0) = false ∧ (∃ f, StA w k r f ∧ (bits .and .i64 (f 0) 61440 != 40960) = true) ∧ Way w k i x r xs fd fx fi))
theorem infSp' : (Tryz.prog.info? 112).map (·.size) = some 4 := infSp
theorem ret_follow {W : World} {B : Nat} {L : List Value} (h : W.rangeAt B 0 L) (hl : L.length = 4) (tmps : Array Value) (h4 : tmps[6]?.getD undef = .pointer (some ⟨B, 0, none⟩)) :
    (results Tryz.f50 tmps).run Tryz.prog W = .ok (.agg L.toArray) W := by
  have h2 := run_loadVar_mid (P := Tryz.prog) W B 0 112 L _ h Tryz.underlying112 rfl (by rw [hl]; exact infSp)
  unfold results
  rw [Tryz.results50]
  simp [h4, asAddr, h2]
/-- Where one stands lies in memory. -/
structure SpAt (W : World) (B : Nat) (d : Int) (nm : List UInt8) (i : Int) (sl : Bool) : Prop where
  c0 : W.cell? ⟨B, 0, none⟩ = some (.int .i64 d)
  c1 : W.cell? ⟨B, 1, none⟩ = some (.string ⟨nm.toArray⟩)
  c2 : W.cell? ⟨B, 2, none⟩ = some (.int .i64 i)
  c3 : W.cell? ⟨B, 3, none⟩ = some (.bool sl)
  fr : ∀ o, W.frozen? ⟨B, o, none⟩ = false
theorem SpAt.lt {W : World} {B : Nat} {d : Int} {nm : List UInt8} {i : Int} {sl : Bool} (h : SpAt W B d nm i sl) : B < W.heap.size := block_lt_of_cell h.c0
theorem SpAt.mod {W W' : World} {B : Nat} {d : Int} {nm : List UInt8} {i : Int} {sl : Bool} (h : SpAt W B d nm i sl) {s : Nat → Prop} (hM : Mod s W W') (hs : ¬ s B) : SpAt W' B d nm i sl where
  c0 := (hM.cell (p := ⟨B, 0, none⟩) h.lt hs).trans h.c0
  c1 := (hM.cell (p := ⟨B, 1, none⟩) h.lt hs).trans h.c1
  c2 := (hM.cell (p := ⟨B, 2, none⟩) h.lt hs).trans h.c2
  c3 := (hM.cell (p := ⟨B, 3, none⟩) h.lt hs).trans h.c3
  fr := fun o => (hM.frozen (p := ⟨B, o, none⟩) h.lt hs).trans (h.fr o)
theorem SpAt.fresh (W : World) (d : Int) (nm : List UInt8) (i : Int) (sl : Bool) (t : TypeId) : SpAt (W.alloc (.cells #[.int .i64 d, .string ⟨nm.toArray⟩, .int .i64 i, .bool sl] t)) W.heap.size d nm i sl where
  c0 := by rw [World.cell?_alloc_at _ _ _ _ rfl]; rfl
  c1 := by rw [World.cell?_alloc_at _ _ _ _ rfl]; rfl
  c2 := by rw [World.cell?_alloc_at _ _ _ _ rfl]; rfl
  c3 := by rw [World.cell?_alloc_at _ _ _ _ rfl]; rfl
  fr := fun o => World.frozen?_alloc_at _ _ _ _ rfl
theorem SpAt.step {W : World} {B : Nat} {d : Int} {nm : List UInt8} {i : Int} {sl : Bool} (h : SpAt W B d nm i sl) (d' : Int) (nm' : List UInt8) : SpAt ((W.setCell ⟨B, 0, none⟩ (.int .i64 d')).setCell ⟨B, 1, none⟩ (.string ⟨nm'.toArray⟩)).drew B d' nm' i sl where
  c0 := by have := h.c0; simp [go_sem, this]
  c1 := by have := h.c1; simp [go_sem, this]
  c2 := by have := h.c2; simp [go_sem, this]
  c3 := by have := h.c3; simp [go_sem, this]
  fr := fun o => by have := h.fr o; simp [go_sem, this]
theorem SpAt.ino {W : World} {B : Nat} {d : Int} {nm : List UInt8} {i : Int} {sl : Bool} (h : SpAt W B d nm i sl) (r : Int) : SpAt (W.setCell ⟨B, 2, none⟩ (.int .i64 r)) B d nm r sl where
  c0 := by have := h.c0; simp [go_sem, this]
  c1 := by have := h.c1; simp [go_sem, this]
  c2 := by have := h.c2; simp [go_sem, this]
  c3 := by have := h.c3; simp [go_sem, this]
  fr := fun o => by have := h.fr o; simp [go_sem, this]
theorem mod_step (W : World) (B : Nat) (v0 v1 : Value) : Mod (fun b => b = B) W ((W.setCell ⟨B, 0, none⟩ v0).setCell ⟨B, 1, none⟩ v1).drew := (((Mod.refl (fun b => b = B) W).setCell ⟨B, 0, none⟩ v0 rfl).setCell ⟨B, 1, none⟩ v1 rfl).drewN 1
theorem mod_ino (W : World) (B : Nat) (v : Value) : Mod (fun b => b = B) W (W.setCell ⟨B, 2, none⟩ v) := (Mod.refl (fun b => b = B) W).setCell ⟨B, 2, none⟩ v rfl
theorem Strs.mod {W W' : World} {a : Option Addr} {xs : List (List UInt8)} (h : Strs W a xs) {s : Nat → Prop} (hM : Mod s W W') (hn : ∀ b, a.map (·.block) = some b → ¬ s b) : Strs W' a xs := by
  intro j x hx
  obtain ⟨bk, o, rfl, hlt, hc⟩ := h j x hx
  exact ⟨bk, o, rfl, Nat.lt_of_lt_of_le hlt hM.size, (hM.cell (p := ⟨bk, o + j, none⟩) hlt (hn bk rfl)).trans hc⟩
theorem Strs.tail {W : World} {bk o c : Nat} {x : List UInt8} {xs : List (List UInt8)} (h : Strs W (some ⟨bk, o, none⟩) (x :: xs)) (hc : xs.length + 1 ≤ c) : Strs W (if c = 1 then some ⟨bk, o, none⟩ else some ⟨bk, o + 1, none⟩) xs := by
  intro j y hy
  have hj := (List.getElem?_eq_some_iff.1 hy).1
  rw [if_neg (by omega)]
  obtain ⟨bk', o', he, hlt, hc'⟩ := h (j + 1) y (by simpa using hy)
  cases he
  exact ⟨bk, o + 1, rfl, hlt, by rw [show o + 1 + j = o + (j + 1) by omega]; exact hc'⟩
/-- What the loop keeps: the blocks that follow laid, and where one stands. -/
structure FoAt (w w2 W : World) (B6 B7 k : Nat) (d : Int) (nm : List UInt8) (i : Int) (a : Option Addr) (xs : List (List UInt8)) (fd : Int) (fx : List UInt8) (fi : Int) : Prop where
  M0 : Mod (fun _ => False) w W
  P6 : SpAt W B6 0 [] 0 false
  P7 : SpAt W B7 d nm i false
  lt : w.heap.size ≤ B6 ∧ B6 < B7
  S : Strs W a xs
  ne : ∀ b, a.map (·.block) = some b → b ≠ B7 ∧ b ≠ B6
  way : Way w k d nm i xs fd fx fi
set_option maxRecDepth 100000 in
set_option maxHeartbeats 4000000 in
theorem tFollow {w : World} {k t : Nat} {u g : Int} {ga : Option Addr} {gc : Nat} {um cw : Int} (h : TkAt w k t u g ga gc um cw) (l : List UInt8) (ab : Bool) (xs : List (List UInt8)) (hP : SplOf l ab xs false) (ino : Int) (hi : (ab = true ∨ (cw == 0) = true) ∧ ino = 1 ∨ ab = false ∧ (cw == 0) = false ∧ ino = cw) (en : Int) (fd : Int) (fx : List UInt8) (fi : Int) (hW : Way w k 0 [] ino xs fd fx fi) (hn : xs.length ≤ 2 ^ 40) :
    Calls Tryz.prog 50 #[.pointer (some ⟨k, 0, none⟩), .string ⟨l.toArray⟩, .int .i64 en] w fun e w' => e = .returned (.agg #[.int .i64 fd, .string ⟨fx.toArray⟩, .int .i64 fi, .bool false]) ∧ Mod (fun _ => False) w w' := by
  have HB := hid6 (tBegin (h.new ((Mod.refl _ w).alloc (.cells #[.int .i64 0, .string ⟨#[]⟩, .int .i64 0, .bool false] 112))) l ab false xs hP ino hi)
  have HW := hid6 hW
  have HN := hid6 hn
  unfold spA at HB
  clear hW hP hi h hn
  go_enter Tryz.func50, Tryz.ntmps50
  go_wp2_with fail
  go_step3
  go_wp2_with fail
  refine Calls.mono HB.out ?_
  rintro e w1 ⟨a, c, rfl, hc, HS, hbl, M1⟩
  clear HB
  obtain ⟨n, hn⟩ : ∃ n, n = xs.length := ⟨_, rfl⟩
  rw [← hn]
  have HN' := hid6 hn
  have hkk : w.heap.size < w1.heap.size := by have := M1.size; simp at this; omega
  clear hn
  have HF : Hid (FoAt w w (w1.alloc (.cells #[.int .i64 0, .string ⟨#[]⟩, .int .i64 ino, .bool false] 112)) w.heap.size w1.heap.size k 0 [] ino a xs fd fx fi) := {
    M0 := (((Mod.refl _ w).alloc _).trans M1).alloc _
    P6 := ((SpAt.fresh w 0 [] 0 false 112).mod M1 (fun e => e)).mod ((Mod.refl (fun _ => False) _).alloc _) (fun e => e)
    P7 := SpAt.fresh w1 0 [] ino false 112
    lt := ⟨Nat.le_refl _, hkk⟩
    S := HS.grow ((Below.refl _ _).alloc (Nat.le_refl _) _)
    ne := fun b hb => by have := hbl b hb; simp at this; exact ⟨by omega, by omega⟩
    way := HW.out }
  have HL := hid6 (show n ≤ 2 ^ 40 by rw [HN'.out]; exact HN.out)
  clear HS hbl M1 HW
  go_wp2_with fail
  go_step3
  go_wp2_with fail
  generalize w.heap.size = B6 at *
  generalize w1.heap.size = B7 at *
  go_loopg [8, 9] n (fun gh r lk wr => ∃ (m : Nat) (d i : Int) (nm : List UInt8) (a' : Option Addr) (c' : Nat) (ys : List (List UInt8)), r = .slice a' m c' ∧ lk = .int .i64 0 ∧ m ≤ c' ∧ m ≤ 2 ^ 40 ∧ m = gh ∧ Hid (FoAt w w wr B6 B7 k d nm i a' ys fd fx fi) ∧ Hid (m = ys.length))
  case atStart => exact ⟨n, 0, ino, [], a, c, xs, rfl, rfl, by rw [HN'.out]; exact hc, HL.out, rfl, HF, HN'⟩
  case round =>
    obtain ⟨m, d, i, nm, a', c', ys, rfl, rfl, hmc, hm40, rfl, HK, HY⟩ := hrel
    clear HF
    by_cases hm : m = 0
    · subst hm
      have hy : ys = [] := by have := HY.out; exact List.length_eq_zero_iff.mp this.symm
      subst hy
      obtain ⟨rfl, rfl, rfl⟩ : fd = d ∧ fx = nm ∧ fi = i := HK.out.way
      obtain ⟨p0, p1, p2, p3, pf⟩ := HK.out.P7
      obtain ⟨q0, q1, q2, q3, qf⟩ := HK.out.P6
      go_wp2_with (first | (go_at_call 48; refine (refuse_no _ _).mono ?_; rintro e w3 ⟨rfl, hw3⟩; rw [hw3]; clear hw3 w3))
      rw [Exit.noGoto_ret]
      exact bodyPost_ret (ret_follow (w4_range q0 q1 q2 q3 _ _ _ _) rfl _ rfl) rfl ⟨rfl, HK.out.M0.new6 (w4_mod wr B6 _ _ _ _) (fun b e => by rw [e]; exact HK.out.lt.1)⟩
    · obtain ⟨x, ys', hys⟩ : ∃ x ys', ys = x :: ys' := by
        cases ys with
        | nil => exact absurd HY.out hm
        | cons x ys' => exact ⟨x, ys', rfl⟩
      subst hys
      obtain ⟨r, hTf, hor⟩ := HK.out.way
      obtain ⟨bk, o, rfl, hbk, hx⟩ := HK.out.S 0 x rfl
      rw [Nat.add_zero] at hx
      have hnb := HK.out.ne bk rfl
      have hb7 := HK.out.P7.lt
      obtain ⟨p0, p1, p2, p3, pf⟩ := HK.out.P7
      have hm1 : (0 : Int) < (m : Int) := by omega
      have hm2 : (1 : Int) ≤ (m : Int) := by omega
      have hm3 : (m : Int) ≤ (c' : Int) := by omega
      have hne7 : ¬ bk = B7 := hnb.1
      have HTf := hid6 hTf
      have HOr := hid6 hor
      clear hTf hor hnb
      go_wp2_with fail
      go_region
      have HA2 : Hid (Strs wr (if c' = 1 then some (⟨bk, o, none⟩ : Addr) else some ⟨bk, o + 1, none⟩) ys' ∧ (∀ b, (if c' = 1 then some (⟨bk, o, none⟩ : Addr) else some ⟨bk, o + 1, none⟩).map (·.block) = some b → b ≠ B7 ∧ b ≠ B6)) := by
        refine ⟨HK.out.S.tail (by have := HY.out; simp at this; omega), fun b hb => ?_⟩
        have : b = bk := by split at hb <;> (cases hb; rfl)
        rw [this]; exact HK.out.ne bk rfl
      generalize (if c' = 1 then some (⟨bk, o, none⟩ : Addr) else some ⟨bk, o + 1, none⟩) = a2 at *
      have HP4 := hid6 (HK.out.P7.step i x)
      have HM4 := hid6 (mod_step wr B7 (.int .i64 i) (.string ⟨x.toArray⟩))
      have HQ4 := hid6 (HK.out.P6.mod HM4.out (by have := HK.out.lt; show ¬ B6 = B7; omega))
      have HS4 := hid6 (HA2.out.1.mod HM4.out (fun b hb => (HA2.out.2 b hb).1))
      have HN4 := hid6 (HK.out.M0.new6 HM4.out (fun b e => by have := HK.out.lt; rw [e]; omega))
      clear p0 p1 p2 p3 pf hx hbk hb7
      generalize ((wr.setCell ⟨B7, 0, none⟩ (.int .i64 i)).setCell ⟨B7, 1, none⟩ (.string ⟨x.toArray⟩)).drew = W4 at *
      obtain ⟨p0, p1, p2, p3, pf⟩ := HP4.out
      go_wp2_with fail
      refine Calls.mono (HTf.out _ HN4.out) ?_
      rintro e w5 ⟨rfl, M5⟩
      have HP5 := hid6 ((HP4.out.mod M5 (fun e => e)).ino r)
      have HN5 := hid6 ((HN4.out.trans M5).new6 (mod_ino w5 B7 (.int .i64 r)) (fun b e => by have := HK.out.lt; rw [e]; omega))
      have HM5 := hid6 ((M5.mono (t := fun b => b = B7) (fun _ _ h => h.elim)).trans (mod_ino w5 B7 (.int .i64 r)))
      have HQ5 := hid6 (HQ4.out.mod HM5.out (by have := HK.out.lt; show ¬ B6 = B7; omega))
      have HS5 := hid6 (HS4.out.mod HM5.out (fun b hb => (HA2.out.2 b hb).1))
      have t2 := (HP4.out.mod M5 (fun e => e)).c2
      have tf := (HP4.out.mod M5 (fun e => e)).fr
      clear p0 p1 p2 p3 pf M5 HP4 HQ4 HS4 HN4 HM4 HM5
      rcases HOr.out with ⟨rfl, rfl, rfl, rfl, rfl⟩ | ⟨hr0, ⟨f, hSt, hlk⟩, hway⟩
      · have hm0 : m = 1 := by have := HY.out; simpa using this
        obtain ⟨p0, p1, p2, p3, pf⟩ := HP5.out
        obtain ⟨q0, q1, q2, q3, qf⟩ := HQ5.out
        subst hm0
        go_wp2_with (first | (go_at_call 48; refine (refuse_no _ _).mono ?_; rintro e w3 ⟨rfl, hw3⟩; rw [hw3]; clear hw3 w3))
        rw [Exit.noGoto_ret]
        exact bodyPost_ret (ret_follow (w4_range q0 q1 q2 q3 _ _ _ _) rfl _ rfl) rfl ⟨rfl, HN5.out.new6 (w4_mod _ B6 _ _ _ _) (fun b e => by rw [e]; exact HK.out.lt.1)⟩
      · have HSt := hid6 hSt
        have HWy := hid6 hway
        have HKd : Hid (∀ s0 s1 s2 s3 s4 s5 s7 s8 s9 W, _) := fun s0 s1 s2 s3 s4 s5 s7 s8 s9 W => tKind s0 s1 s2 s3 s4 s5 (f 0) s7 s8 s9 W
        unfold sA at HKd
        clear hSt hway HOr
        obtain ⟨p0, p1, p2, p3, pf⟩ := HP5.out
        go_wp2_with fail
        refine Calls.mono (HSt.out _ HN5.out) ?_
        rintro e w6 ⟨⟨bl, rfl⟩, M6⟩
        have HM6 := hid6 (fun o => M6.alloc o)
        clear M6 p0 p1 p2 p3 pf t2 tf
        go_wp2_with fail
        refine Calls.mono (HKd.out _ _ _ _ _ _ _ _ _ _) ?_
        rintro e w7 ⟨rfl, M7⟩
        have HM7 := hid6 ((HM6.out _).trans M7)
        clear M7
        have HE : Hid (FoAt w w w7 B6 B7 k i x r a2 ys' fd fx fi) := {
          M0 := HN5.out.trans HM7.out
          P6 := HQ5.out.mod HM7.out (fun e => e)
          P7 := HP5.out.mod HM7.out (fun e => e)
          lt := HK.out.lt
          S := HS5.out.mod HM7.out (fun _ _ e => e)
          ne := HA2.out.2
          way := HWy.out }
        clear HK HQ5 HP5 HS5 HN5 HM6 HM7 HTf HWy HSt HKd
        go_wp2_with fail
        go_roundg (m - 1)
        case measure => omega
        case rel => exact ⟨m - 1, i, r, x, a2, c' - 1, ys', rfl, rfl, by omega, by omega, rfl, HE, by have := HY.out; show _ = _; simp at this; omega⟩
end Go.Proofs.YtpcbpikhiooafaaGreatDoor
