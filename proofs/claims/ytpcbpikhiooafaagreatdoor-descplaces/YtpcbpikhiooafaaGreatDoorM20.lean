/- Several texts of this claim, one behind the other, in their order. -/
import Derived.Test.YtpcbpikhiooafaaGreatDoorM17
import Derived.Defers
import Derived.Recover
import Derived.Deep.DeepCutAuto
import Derived.Test.YtpcbpikhiooafaaGreatDoorTr7
/- A call's frame: ask, where the work ends well. Conditions: the file system lies in memory; the work does as said. -/
namespace Go.Proofs.YtpcbpikhiooafaaGreatDoor
open Go.RowKit
theorem tTable (fb : Nat) (v : Option Addr) (w : World) (h : w.cell? ⟨fb, 0, none⟩ = some (.pointer v)) : Calls Tryz.prog 39 #[.pointer (some ⟨fb, 0, none⟩)] w fun e w' => e = .returned (.pointer v) ∧ w' = w := by
  go_enter Tryz.func39, Tryz.ntmps39
  go_wp2
  go_ret
  exact ⟨rfl, rfl⟩
set_option maxRecDepth 100000 in
set_option maxHeartbeats 2000000 in
theorem idleInt (p q : Addr) (w : World) :
    CallsD Tryz.prog 68 #[.pointer (some p), .pointer (some q)] .returning w fun e u' w' => e = .returned (.tuple #[]) ∧ u' = .returning ∧ w' = w := by
  refine callsD_of_wpS Tryz.func68 rfl fun c₀ cs hu => ?_
  apply wpS_seq
  generalize hQ : Exit.thenS _ _ = Q2
  apply wpS_seq
  apply wpS_region
  simp [wpOpsS, go_sem, recoverD, hu, Tryz.ntmps68, Exit.thenS]
  simp only [Array.replicate_succ, Array.replicate_zero, List.push_toArray, List.setIfInBounds_toArray, List.set_cons_succ, List.set_cons_zero, List.append_toArray, List.nil_append, List.cons_append]
  refine wpS_of_wp ?_
  go_wp2
  rw [← hQ]
  clear hQ
  refine ⟨rfl, .returning, ?_, .tuple #[], results_none rfl _ _ _, rfl, rfl, rfl⟩
  cases c₀
  simp_all
/-- The file system lies in memory: its table. -/
def FsAt (w : World) (fb t : Nat) : Prop := w.cell? ⟨fb, 0, none⟩ = some (.pointer (some ⟨t, 0, none⟩))
/-- What a work is given: a task of its own, with nothing to give back. -/
structure TkNew (w W : World) (K t : Nat) (u g : Int) (ga : Option Addr) (gc : Nat) (um cw : Int) : Prop where
  M : Mod (fun _ => False) w W
  le : w.heap.size ≤ K
  k : TkAt W K t u g ga gc um cw
  b6 : W.cell? ⟨K, 6, none⟩ = some (.slice none 0 0)
  fr : ∀ o, W.frozen? ⟨K, o, none⟩ = false
/-- The normal way out alone. -/
def OnlyN6 (Q : Exit → Act → World → Prop) : Exit → Act → World → Prop
  | .normal, a, w => Q .normal a w
  | _, _, _ => False
theorem wp_only6 {P : Program} {c : Code} {Q : Exit → Act → World → Prop} {a : Act} {w : World} (h : c.wp P (OnlyN6 Q) a w) : c.wp P Q a w :=
  Code.wp_mono (fun e a w hq => by cases e <;> first | exact hq | exact hq.elim) h
theorem Mod.fromNew {S : Nat → Prop} {a b c : World} {K : Nat} (h0 : Mod (fun _ => False) a b) (h : Mod (fun x => S x ∨ x = K) b c) (hK : a.heap.size ≤ K) : Mod S a c :=
  ⟨h.os.trans h0.os, h.tape.trans h0.tape, h.output.trans h0.output, Nat.le_trans h0.size h.size, fun i hi hs => (h.block i (Nat.lt_of_lt_of_le hi h0.size) (fun e => by rcases e with e | e; exact hs e; omega)).trans (h0.block i hi (fun e => e))⟩
theorem tk_lay1 {w W2 : World} {t : Nat} {u g : Int} {ga : Option Addr} {gc : Nat} {um cw : Int} (hM : Mod (fun _ => False) w W2) (hz : w.heap.size + 2 = W2.heap.size) (k6 : W2.cell? ⟨w.heap.size + 1, 0, none⟩ = some (.int .i64 0)) (k7 : W2.frozen? ⟨w.heap.size + 1, 0, none⟩ = false) {T T' : TypeId} :
    let W := ((W2.alloc (.cells #[.pointer (some ⟨t, 0, none⟩), .int .i64 u, .int .i64 g, .slice ga 0 gc, .int .i64 um, .int .i64 cw, .slice none 0 0] T)).alloc (.cells #[.pointer (some ⟨W2.heap.size, 0, none⟩)] T')).drew
    W.cell? ⟨W2.heap.size + 1, 0, none⟩ = some (.pointer (some ⟨W2.heap.size, 0, none⟩)) ∧ W.cell? ⟨w.heap.size + 1, 0, none⟩ = some (.int .i64 0) ∧ W.frozen? ⟨w.heap.size + 1, 0, none⟩ = false ∧ ¬ W2.heap.size = w.heap.size + 1 ∧ Hid (TkNew w W W2.heap.size t u g ga gc um cw) := by
  intro W
  have hlt : w.heap.size + 1 < W2.heap.size := by omega
  refine ⟨by simp [W, go_sem], by show ((W2.alloc _).alloc _).cell? _ = _; rw [World.cell?_alloc_past _ _ _ (by simp; omega), World.cell?_alloc_past _ _ _ hlt]; exact k6, by show ((W2.alloc _).alloc _).frozen? _ = _; rw [World.frozen?_alloc_past _ _ _ (by simp; omega), World.frozen?_alloc_past _ _ _ hlt]; exact k7, by omega, ⟨((hM.alloc _).alloc _).drewN 1, by omega, ⟨by simp [W, go_sem], by simp [W, go_sem], by simp [W, go_sem], by simp [W, go_sem], by simp [W, go_sem], by simp [W, go_sem]⟩, by simp [W, go_sem], fun o => by simp [W, go_sem]⟩⟩
theorem tk_lay2 {w W2 : World} {t : Nat} {u g : Int} {ga : Option Addr} {gc : Nat} {um cw : Int} (hM : Mod (fun _ => False) w W2) (hz : w.heap.size + 2 = W2.heap.size) (k6 : W2.cell? ⟨w.heap.size + 1, 0, none⟩ = some (.int .i64 0)) (k7 : W2.frozen? ⟨w.heap.size + 1, 0, none⟩ = false) {T T' : TypeId} :
    let W := ((W2.alloc (.cells #[.pointer (some ⟨W2.heap.size + 1, 0, none⟩)] T')).alloc (.cells #[.pointer (some ⟨t, 0, none⟩), .int .i64 u, .int .i64 g, .slice ga 0 gc, .int .i64 um, .int .i64 cw, .slice none 0 0] T)).drew
    W.cell? ⟨W2.heap.size, 0, none⟩ = some (.pointer (some ⟨W2.heap.size + 1, 0, none⟩)) ∧ W.cell? ⟨w.heap.size + 1, 0, none⟩ = some (.int .i64 0) ∧ W.frozen? ⟨w.heap.size + 1, 0, none⟩ = false ∧ ¬ W2.heap.size + 1 = w.heap.size + 1 ∧ Hid (TkNew w W (W2.heap.size + 1) t u g ga gc um cw) := by
  intro W
  have hlt : w.heap.size + 1 < W2.heap.size := by omega
  refine ⟨by simp [W, go_sem], by show ((W2.alloc _).alloc _).cell? _ = _; rw [World.cell?_alloc_past _ _ _ (by simp; omega), World.cell?_alloc_past _ _ _ hlt]; exact k6, by show ((W2.alloc _).alloc _).frozen? _ = _; rw [World.frozen?_alloc_past _ _ _ (by simp; omega), World.frozen?_alloc_past _ _ _ hlt]; exact k7, by omega, ⟨((hM.alloc _).alloc _).drewN 1, by omega, ⟨by simp [W, go_sem], by simp [W, go_sem], by simp [W, go_sem], by simp [W, go_sem], by simp [W, go_sem], by simp [W, go_sem]⟩, by simp [W, go_sem], fun o => by simp [W, go_sem]⟩⟩
end Go.Proofs.YtpcbpikhiooafaaGreatDoor
/- A call's frame: ask at a closure, where the work ends well. Conditions: the file system lies in memory; the work does as said. -/
namespace Go.Proofs.YtpcbpikhiooafaaGreatDoor
open Go.RowKit
set_option maxRecDepth 100000 in
set_option maxHeartbeats 4000000 in
theorem askWrite {w : World} {fb t : Nat} (hf : FsAt w fb t) (u g : Int) (ga : Option Addr) (gc : Nat) (um cw : Int) (p1 p2 p3 : Addr) (r : Int) (S : Nat → Prop) (hSl : ∀ x, S x → x < w.heap.size) (Q : World → Prop) (hQ : ∀ a b, Q a → Mod (fun x => w.heap.size ≤ x) a b → Q b)
    (hW : ∀ W K, TkNew w W K t u g ga gc um cw → Calls Tryz.prog 191 #[.pointer (some ⟨K, 0, none⟩), .pointer (some p1), .pointer (some p2), .pointer (some p3)] W fun e w' => e = .returned (.int .i64 r) ∧ Mod (fun x => S x ∨ x = K) W w' ∧ Q w') :
    Calls Tryz.prog 46 #[.pointer (some ⟨fb, 0, none⟩), .agg #[.int .i64 u, .int .i64 g, .slice ga 0 gc, .int .i64 um, .int .i64 cw], .func (.func 191) #[] #[.pointer (some p1), .pointer (some p2), .pointer (some p3)]] w fun e w' => e = .returned (.tuple #[.int .i64 r, .int .i64 0]) ∧ Mod S w w' ∧ Q w' := by
  have hmf : ∀ (fn : Fn) (first cap : Array Value) (w : World), (Instr.makeFunc fn first cap).run Tryz.prog w = .ok (.func fn first cap) w := fun _ _ _ _ => rfl
  have HW := hid6 hW
  have HQ := hid6 hQ
  have HSl := hid6 hSl
  have hfb : fb < w.heap.size := block_lt_of_cell hf
  unfold FsAt at hf
  have HTab : Hid (∀ W : World, W.cell? ⟨fb, 0, none⟩ = some (.pointer (some ⟨t, 0, none⟩)) → _) := fun W h => tTable fb _ W h
  clear hW hQ hSl
  go_enter_defers Tryz.func46, Tryz.ntmps46
  go_upto_region 3 with (first | (go_at_call 39; refine (HTab.out _ (by simp [go_sem, hf, hfb])).mono ?_; rintro e w1 ⟨rfl, hw1⟩; rw [hw1]; clear hw1 w1))
  have k0 : ((w.alloc (.cells #[.int .i64 u, .int .i64 g, .slice ga 0 gc, .int .i64 um, .int .i64 cw] 33)).alloc (.cells #[.int .i64 0] 25)).cell? ⟨fb, 0, none⟩ = some (.pointer (some ⟨t, 0, none⟩)) := by simp [go_sem, hf, hfb]
  have k1 : ((w.alloc (.cells #[.int .i64 u, .int .i64 g, .slice ga 0 gc, .int .i64 um, .int .i64 cw] 33)).alloc (.cells #[.int .i64 0] 25)).cell? ⟨w.heap.size, 0, none⟩ = some (.int .i64 u) := by simp [go_sem]
  have k2 : ((w.alloc (.cells #[.int .i64 u, .int .i64 g, .slice ga 0 gc, .int .i64 um, .int .i64 cw] 33)).alloc (.cells #[.int .i64 0] 25)).cell? ⟨w.heap.size, 1, none⟩ = some (.int .i64 g) := by simp [go_sem]
  have k3 : ((w.alloc (.cells #[.int .i64 u, .int .i64 g, .slice ga 0 gc, .int .i64 um, .int .i64 cw] 33)).alloc (.cells #[.int .i64 0] 25)).cell? ⟨w.heap.size, 2, none⟩ = some (.slice ga 0 gc) := by simp [go_sem]
  have k4 : ((w.alloc (.cells #[.int .i64 u, .int .i64 g, .slice ga 0 gc, .int .i64 um, .int .i64 cw] 33)).alloc (.cells #[.int .i64 0] 25)).cell? ⟨w.heap.size, 3, none⟩ = some (.int .i64 um) := by simp [go_sem]
  have k5 : ((w.alloc (.cells #[.int .i64 u, .int .i64 g, .slice ga 0 gc, .int .i64 um, .int .i64 cw] 33)).alloc (.cells #[.int .i64 0] 25)).cell? ⟨w.heap.size, 4, none⟩ = some (.int .i64 cw) := by simp [go_sem]
  have k6 : ((w.alloc (.cells #[.int .i64 u, .int .i64 g, .slice ga 0 gc, .int .i64 um, .int .i64 cw] 33)).alloc (.cells #[.int .i64 0] 25)).cell? ⟨w.heap.size + 1, 0, none⟩ = some (.int .i64 0) := by simp [go_sem]
  have k7 : ((w.alloc (.cells #[.int .i64 u, .int .i64 g, .slice ga 0 gc, .int .i64 um, .int .i64 cw] 33)).alloc (.cells #[.int .i64 0] 25)).frozen? ⟨w.heap.size + 1, 0, none⟩ = false := by simp [go_sem]
  have HM2 := hid6 (((Mod.refl (fun _ => False) w).alloc (.cells #[.int .i64 u, .int .i64 g, .slice ga 0 gc, .int .i64 um, .int .i64 cw] 33)).alloc (.cells #[.int .i64 0] 25))
  have hsz : w.heap.size + 2 = ((w.alloc (.cells #[.int .i64 u, .int .i64 g, .slice ga 0 gc, .int .i64 um, .int .i64 cw] 33)).alloc (.cells #[.int .i64 0] 25)).heap.size := by simp
  have HSz := hid6 hsz
  clear hsz
  generalize (w.alloc (.cells #[.int .i64 u, .int .i64 g, .slice ga 0 gc, .int .i64 um, .int .i64 cw] 33)).alloc (.cells #[.int .i64 0] 25) = W2 at *
  go_cut [8] from 13 to 17 (fun v8 wc => ∃ K B8 : Nat, v8 = .pointer (some ⟨B8, 0, none⟩) ∧ wc.cell? ⟨B8, 0, none⟩ = some (.pointer (some ⟨K, 0, none⟩)) ∧ wc.cell? ⟨w.heap.size + 1, 0, none⟩ = some (.int .i64 0) ∧ wc.frozen? ⟨w.heap.size + 1, 0, none⟩ = false ∧ ¬ K = w.heap.size + 1 ∧ Hid (TkNew w wc K t u g ga gc um cw))
  case first =>
    refine wp_only6 ?_
    go_region_held (fun W' => W'.cell? ⟨fb, 0, none⟩ = some (.pointer (some ⟨t, 0, none⟩)) ∧ W'.cell? ⟨w.heap.size, 0, none⟩ = some (.int .i64 u) ∧ W'.cell? ⟨w.heap.size, 1, none⟩ = some (.int .i64 g) ∧ W'.cell? ⟨w.heap.size, 2, none⟩ = some (.slice ga 0 gc) ∧ W'.cell? ⟨w.heap.size, 3, none⟩ = some (.int .i64 um) ∧ W'.cell? ⟨w.heap.size, 4, none⟩ = some (.int .i64 cw)) (go_keep)
      (first | (go_at_call 39; refine (HTab.out _ (by first | assumption | go_keep)).mono ?_; rintro e w1 ⟨rfl, hw1⟩; rw [hw1]; clear hw1 w1))
    all_goals simp only [OnlyN6]
    all_goals
      go_wp2_with fail
      go_meet
      first | exact ⟨_, _, rfl, tk_lay1 HM2.out HSz.out k6 k7⟩ | exact ⟨_, _, rfl, tk_lay2 HM2.out HSz.out k6 k7⟩
  case rest =>
    obtain ⟨K, B8, rfl, h8, hE, fE, hKE, HN⟩ := hcut
    go_wp2_with fail
    refine Calls.mono (HW.out wc K HN.out) ?_
    rintro e w5 ⟨rfl, M5, hQ5⟩
    have hEl : w.heap.size + 1 < wc.heap.size := block_lt_of_cell hE
    have hn5 : ¬ (S (w.heap.size + 1) ∨ w.heap.size + 1 = K) := fun e => by rcases e with e | e; have := HSl.out _ e; omega; omega
    have c5 : w5.cell? ⟨w.heap.size + 1, 0, none⟩ = some (.int .i64 0) := (M5.cell (p := ⟨w.heap.size + 1, 0, none⟩) hEl hn5).trans hE
    have f5 : w5.frozen? ⟨w.heap.size + 1, 0, none⟩ = false := (M5.frozen (p := ⟨w.heap.size + 1, 0, none⟩) hEl hn5).trans fE
    have HF : Hid (Mod S w (w5.setCell ⟨w.heap.size + 1, 0, none⟩ (.int .i64 0)) ∧ Q (w5.setCell ⟨w.heap.size + 1, 0, none⟩ (.int .i64 0))) := ⟨Mod.andNew (Mod.fromNew HN.out.M M5 HN.out.le) (B := w.heap.size + 1) ((Mod.refl _ _).setCell _ _ rfl) (by omega), HQ.out _ _ hQ5 ((Mod.refl _ _).setCell _ _ (by show w.heap.size ≤ w.heap.size + 1; omega))⟩
    have e5 : (w5.setCell ⟨w.heap.size + 1, 0, none⟩ (.int .i64 0)).cell? ⟨w.heap.size + 1, 0, none⟩ = some (.int .i64 0) := World.cell?_setCell_same _ _ _ c5
    clear M5 hQ5 HN HW HQ hE fE h8
    go_wp2_with fail
    refine leaves_cons (f := 68) (args := #[.pointer (some ⟨w.heap.size + 1, 0, none⟩), .pointer (some ⟨B8, 0, none⟩)]) (by simp) (by simp [go_sem]) ?_
    refine (idleInt ⟨w.heap.size + 1, 0, none⟩ ⟨B8, 0, none⟩ _).mono ?_
    rintro e u' w2 ⟨rfl, rfl, rfl⟩
    simp [Leaves, settle, results, Tryz.results46, go_sem, e5]
    exact HF.out
end Go.Proofs.YtpcbpikhiooafaaGreatDoor
/- A call's frame: ask at a closure, where the work ends well. Conditions: the file system lies in memory; the work does as said. -/
namespace Go.Proofs.YtpcbpikhiooafaaGreatDoor
open Go.RowKit
set_option maxRecDepth 100000 in
set_option maxHeartbeats 4000000 in
theorem askOpen {w : World} {fb t : Nat} (hf : FsAt w fb t) (u g : Int) (ga : Option Addr) (gc : Nat) (um cw : Int) (p1 p2 p3 : Addr) (r : Int) (S : Nat → Prop) (hSl : ∀ x, S x → x < w.heap.size) (Q : World → Prop) (hQ : ∀ a b, Q a → Mod (fun x => w.heap.size ≤ x) a b → Q b)
    (hW : ∀ W K, TkNew w W K t u g ga gc um cw → Calls Tryz.prog 47 #[.pointer (some ⟨K, 0, none⟩), .pointer (some p1), .pointer (some p2), .pointer (some p3)] W fun e w' => e = .returned (.int .i64 r) ∧ Mod (fun x => S x ∨ x = K) W w' ∧ Q w') :
    Calls Tryz.prog 46 #[.pointer (some ⟨fb, 0, none⟩), .agg #[.int .i64 u, .int .i64 g, .slice ga 0 gc, .int .i64 um, .int .i64 cw], .func (.func 47) #[] #[.pointer (some p1), .pointer (some p2), .pointer (some p3)]] w fun e w' => e = .returned (.tuple #[.int .i64 r, .int .i64 0]) ∧ Mod S w w' ∧ Q w' := by
  have hmf : ∀ (fn : Fn) (first cap : Array Value) (w : World), (Instr.makeFunc fn first cap).run Tryz.prog w = .ok (.func fn first cap) w := fun _ _ _ _ => rfl
  have HW := hid6 hW
  have HQ := hid6 hQ
  have HSl := hid6 hSl
  have hfb : fb < w.heap.size := block_lt_of_cell hf
  unfold FsAt at hf
  have HTab : Hid (∀ W : World, W.cell? ⟨fb, 0, none⟩ = some (.pointer (some ⟨t, 0, none⟩)) → _) := fun W h => tTable fb _ W h
  clear hW hQ hSl
  go_enter_defers Tryz.func46, Tryz.ntmps46
  go_upto_region 3 with (first | (go_at_call 39; refine (HTab.out _ (by simp [go_sem, hf, hfb])).mono ?_; rintro e w1 ⟨rfl, hw1⟩; rw [hw1]; clear hw1 w1))
  have k0 : ((w.alloc (.cells #[.int .i64 u, .int .i64 g, .slice ga 0 gc, .int .i64 um, .int .i64 cw] 33)).alloc (.cells #[.int .i64 0] 25)).cell? ⟨fb, 0, none⟩ = some (.pointer (some ⟨t, 0, none⟩)) := by simp [go_sem, hf, hfb]
  have k1 : ((w.alloc (.cells #[.int .i64 u, .int .i64 g, .slice ga 0 gc, .int .i64 um, .int .i64 cw] 33)).alloc (.cells #[.int .i64 0] 25)).cell? ⟨w.heap.size, 0, none⟩ = some (.int .i64 u) := by simp [go_sem]
  have k2 : ((w.alloc (.cells #[.int .i64 u, .int .i64 g, .slice ga 0 gc, .int .i64 um, .int .i64 cw] 33)).alloc (.cells #[.int .i64 0] 25)).cell? ⟨w.heap.size, 1, none⟩ = some (.int .i64 g) := by simp [go_sem]
  have k3 : ((w.alloc (.cells #[.int .i64 u, .int .i64 g, .slice ga 0 gc, .int .i64 um, .int .i64 cw] 33)).alloc (.cells #[.int .i64 0] 25)).cell? ⟨w.heap.size, 2, none⟩ = some (.slice ga 0 gc) := by simp [go_sem]
  have k4 : ((w.alloc (.cells #[.int .i64 u, .int .i64 g, .slice ga 0 gc, .int .i64 um, .int .i64 cw] 33)).alloc (.cells #[.int .i64 0] 25)).cell? ⟨w.heap.size, 3, none⟩ = some (.int .i64 um) := by simp [go_sem]
  have k5 : ((w.alloc (.cells #[.int .i64 u, .int .i64 g, .slice ga 0 gc, .int .i64 um, .int .i64 cw] 33)).alloc (.cells #[.int .i64 0] 25)).cell? ⟨w.heap.size, 4, none⟩ = some (.int .i64 cw) := by simp [go_sem]
  have k6 : ((w.alloc (.cells #[.int .i64 u, .int .i64 g, .slice ga 0 gc, .int .i64 um, .int .i64 cw] 33)).alloc (.cells #[.int .i64 0] 25)).cell? ⟨w.heap.size + 1, 0, none⟩ = some (.int .i64 0) := by simp [go_sem]
  have k7 : ((w.alloc (.cells #[.int .i64 u, .int .i64 g, .slice ga 0 gc, .int .i64 um, .int .i64 cw] 33)).alloc (.cells #[.int .i64 0] 25)).frozen? ⟨w.heap.size + 1, 0, none⟩ = false := by simp [go_sem]
  have HM2 := hid6 (((Mod.refl (fun _ => False) w).alloc (.cells #[.int .i64 u, .int .i64 g, .slice ga 0 gc, .int .i64 um, .int .i64 cw] 33)).alloc (.cells #[.int .i64 0] 25))
  have hsz : w.heap.size + 2 = ((w.alloc (.cells #[.int .i64 u, .int .i64 g, .slice ga 0 gc, .int .i64 um, .int .i64 cw] 33)).alloc (.cells #[.int .i64 0] 25)).heap.size := by simp
  have HSz := hid6 hsz
  clear hsz
  generalize (w.alloc (.cells #[.int .i64 u, .int .i64 g, .slice ga 0 gc, .int .i64 um, .int .i64 cw] 33)).alloc (.cells #[.int .i64 0] 25) = W2 at *
  go_cut [8] from 13 to 17 (fun v8 wc => ∃ K B8 : Nat, v8 = .pointer (some ⟨B8, 0, none⟩) ∧ wc.cell? ⟨B8, 0, none⟩ = some (.pointer (some ⟨K, 0, none⟩)) ∧ wc.cell? ⟨w.heap.size + 1, 0, none⟩ = some (.int .i64 0) ∧ wc.frozen? ⟨w.heap.size + 1, 0, none⟩ = false ∧ ¬ K = w.heap.size + 1 ∧ Hid (TkNew w wc K t u g ga gc um cw))
  case first =>
    refine wp_only6 ?_
    go_region_held (fun W' => W'.cell? ⟨fb, 0, none⟩ = some (.pointer (some ⟨t, 0, none⟩)) ∧ W'.cell? ⟨w.heap.size, 0, none⟩ = some (.int .i64 u) ∧ W'.cell? ⟨w.heap.size, 1, none⟩ = some (.int .i64 g) ∧ W'.cell? ⟨w.heap.size, 2, none⟩ = some (.slice ga 0 gc) ∧ W'.cell? ⟨w.heap.size, 3, none⟩ = some (.int .i64 um) ∧ W'.cell? ⟨w.heap.size, 4, none⟩ = some (.int .i64 cw)) (go_keep)
      (first | (go_at_call 39; refine (HTab.out _ (by first | assumption | go_keep)).mono ?_; rintro e w1 ⟨rfl, hw1⟩; rw [hw1]; clear hw1 w1))
    all_goals simp only [OnlyN6]
    all_goals
      go_wp2_with fail
      go_meet
      first | exact ⟨_, _, rfl, tk_lay1 HM2.out HSz.out k6 k7⟩ | exact ⟨_, _, rfl, tk_lay2 HM2.out HSz.out k6 k7⟩
  case rest =>
    obtain ⟨K, B8, rfl, h8, hE, fE, hKE, HN⟩ := hcut
    go_wp2_with fail
    refine Calls.mono (HW.out wc K HN.out) ?_
    rintro e w5 ⟨rfl, M5, hQ5⟩
    have hEl : w.heap.size + 1 < wc.heap.size := block_lt_of_cell hE
    have hn5 : ¬ (S (w.heap.size + 1) ∨ w.heap.size + 1 = K) := fun e => by rcases e with e | e; have := HSl.out _ e; omega; omega
    have c5 : w5.cell? ⟨w.heap.size + 1, 0, none⟩ = some (.int .i64 0) := (M5.cell (p := ⟨w.heap.size + 1, 0, none⟩) hEl hn5).trans hE
    have f5 : w5.frozen? ⟨w.heap.size + 1, 0, none⟩ = false := (M5.frozen (p := ⟨w.heap.size + 1, 0, none⟩) hEl hn5).trans fE
    have HF : Hid (Mod S w (w5.setCell ⟨w.heap.size + 1, 0, none⟩ (.int .i64 0)) ∧ Q (w5.setCell ⟨w.heap.size + 1, 0, none⟩ (.int .i64 0))) := ⟨Mod.andNew (Mod.fromNew HN.out.M M5 HN.out.le) (B := w.heap.size + 1) ((Mod.refl _ _).setCell _ _ rfl) (by omega), HQ.out _ _ hQ5 ((Mod.refl _ _).setCell _ _ (by show w.heap.size ≤ w.heap.size + 1; omega))⟩
    have e5 : (w5.setCell ⟨w.heap.size + 1, 0, none⟩ (.int .i64 0)).cell? ⟨w.heap.size + 1, 0, none⟩ = some (.int .i64 0) := World.cell?_setCell_same _ _ _ c5
    clear M5 hQ5 HN HW HQ hE fE h8
    go_wp2_with fail
    refine leaves_cons (f := 68) (args := #[.pointer (some ⟨w.heap.size + 1, 0, none⟩), .pointer (some ⟨B8, 0, none⟩)]) (by simp) (by simp [go_sem]) ?_
    refine (idleInt ⟨w.heap.size + 1, 0, none⟩ ⟨B8, 0, none⟩ _).mono ?_
    rintro e u' w2 ⟨rfl, rfl, rfl⟩
    simp [Leaves, settle, results, Tryz.results46, go_sem, e5]
    exact HF.out
end Go.Proofs.YtpcbpikhiooafaaGreatDoor
/- Open's flags of a new file, and the task's calls links, hold and newFile. Conditions: the task lies in memory as 'TkAt' says (no groups); what the calls below do. -/

namespace Go.Proofs.YtpcbpikhiooafaaGreatDoor
open Go.RowKit
theorem b10a : bits .and .i64 10 (-256) = 0 := by decide +kernel
theorem b10b : bits .and .i64 10 3 = 2 := by decide +kernel
theorem b10c : bits .and .i64 10 36 = 0 := by decide +kernel
theorem b10d : bits .and .i64 10 72 = 8 := by decide +kernel
theorem b10e : bits .and .i64 10 128 = 0 := by decide +kernel
theorem b10f : bits .and .i64 10 24 = 8 := by decide +kernel
theorem b10g : bits .and .i64 10 8 = 8 := by decide +kernel
theorem fFit10 (w : World) : Calls Tryz.prog 49 #[.int .i64 10] w fun e w' => e = .returned (.bool true) ∧ w' = w := by
  have h1 := b10a; have h2 := b10b; have h3 := b10c; have h4 := b10d
  go_enter Tryz.func49, Tryz.ntmps49
  go_wp2
  go_ret
  exact ⟨rfl, rfl⟩
theorem fEnd10 (w : World) : Calls Tryz.prog 51 #[.int .i64 10] w fun e w' => e = .returned (.int .i64 0) ∧ w' = w := by
  have h1 := b10e; have h2 := b10f
  go_enter Tryz.func51, Tryz.ntmps51
  go_wp2
  go_ret
  exact ⟨rfl, rfl⟩
theorem fHas10 (w : World) : Calls Tryz.prog 52 #[.int .i64 10, .int .i64 8] w fun e w' => e = .returned (.bool true) ∧ w' = w := by
  have h1 := b10g
  go_enter Tryz.func52, Tryz.ntmps52
  go_wp2
  go_ret
  exact ⟨rfl, rfl⟩
theorem tLinks {w : World} {k t : Nat} (hc : w.cell? ⟨k, 0, none⟩ = some (.pointer (some ⟨t, 0, none⟩))) (i by_ : Int) (Q : World → Prop) (hL : Calls Tryz.prog 16 #[.pointer (some ⟨t, 0, none⟩), .int .i64 i, .int .i64 by_] w fun e w' => e = .returned (.int .i64 0) ∧ Q w') :
    Calls Tryz.prog 81 #[.pointer (some ⟨k, 0, none⟩), .int .i64 i, .int .i64 by_] w fun e w' => e = .returned (.tuple #[]) ∧ Q w' := by
  have HL := hid6 hL
  clear hL
  go_enter Tryz.func81, Tryz.ntmps81
  go_wp2_with fail
  refine Calls.mono HL.out ?_
  rintro e w1 ⟨rfl, HQ⟩
  have HQ' := hid6 HQ
  clear HQ
  go_wp2_with (first | (go_at_call 57; refine (must_no _).mono ?_; rintro e w3 ⟨rfl, hw3⟩; rw [hw3]; clear hw3 w3))
  exact ⟨rfl, _, results_none rfl _ _ _, rfl, HQ'.out⟩
theorem tHold {w : World} {k t : Nat} (hc : w.cell? ⟨k, 0, none⟩ = some (.pointer (some ⟨t, 0, none⟩))) (i : Int) (Q : World → Prop) (hL : Calls Tryz.prog 43 #[.pointer (some ⟨t, 0, none⟩), .int .i64 i] w fun e w' => e = .returned (.int .i64 0) ∧ Q w') :
    Calls Tryz.prog 53 #[.pointer (some ⟨k, 0, none⟩), .int .i64 i] w fun e w' => e = .returned (.int .i64 i) ∧ Q w' := by
  have HL := hid6 hL
  clear hL
  go_enter Tryz.func53, Tryz.ntmps53
  go_wp2_with fail
  refine Calls.mono HL.out ?_
  rintro e w1 ⟨rfl, HQ⟩
  have HQ' := hid6 HQ
  clear HQ
  go_wp2_with (first | (go_at_call 57; refine (must_no _).mono ?_; rintro e w3 ⟨rfl, hw3⟩; rw [hw3]; clear hw3 w3))
  go_ret
  exact ⟨rfl, HQ'.out⟩
end Go.Proofs.YtpcbpikhiooafaaGreatDoor
