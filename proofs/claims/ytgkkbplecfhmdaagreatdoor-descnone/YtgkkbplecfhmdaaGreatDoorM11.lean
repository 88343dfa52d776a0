/- Several texts of this claim, one behind the other, in their order. -/
import Derived.Test.YtgkkbplecfhmdaaGreatDoorM3
import Derived.Test.YtgkkbplecfhmdaaGreatDoorM10
import Derived.Deep.DeepCutAuto
import Derived.Test.YtgkkbplecfhmdaaGreatDoorM9
/- A call's frame: ask at a closure, where the work ends well. Conditions: the file system lies in memory; the work does as said. -/
namespace Go.Proofs.YtgkkbplecfhmdaaGreatDoor
open Go.RowKit
set_option maxRecDepth 100000 in
set_option maxHeartbeats 4000000 in
theorem askWrite {w : World} {fb t : Nat} (hf : FsAt w fb t) (u g : Int) (ga : Option Addr) (gc : Nat) (um cw : Int) (p1 p2 p3 : Addr) (r : Int) (S : Nat → Prop) (hSl : ∀ x, S x → x < w.heap.size) (Q : World → Prop) (hQ : ∀ a b, Q a → Mod (fun x => w.heap.size ≤ x) a b → Q b)
    (hW : ∀ W K, TkNew w W K t u g ga gc um cw → Calls Tryz.prog 250 #[.pointer (some ⟨K, 0, none⟩), .pointer (some p1), .pointer (some p2), .pointer (some p3)] W fun e w' => e = .returned (.int .i64 r) ∧ Mod (fun x => S x ∨ x = K) W w' ∧ Q w') :
    Calls Tryz.prog 41 #[.pointer (some ⟨fb, 0, none⟩), .agg #[.int .i64 u, .int .i64 g, .slice ga 0 gc, .int .i64 um, .int .i64 cw], .func (.func 250) #[] #[.pointer (some p1), .pointer (some p2), .pointer (some p3)]] w fun e w' => e = .returned (.tuple #[.int .i64 r, .int .i64 0]) ∧ Mod S w w' ∧ Q w' := by
  have hmf : ∀ (fn : Fn) (first cap : Array Value) (w : World), (Instr.makeFunc fn first cap).run Tryz.prog w = .ok (.func fn first cap) w := fun _ _ _ _ => rfl
  have HW := hid6 hW
  have HQ := hid6 hQ
  have HSl := hid6 hSl
  have hfb : fb < w.heap.size := block_lt_of_cell hf
  unfold FsAt at hf
  have HTab : Hid (∀ W : World, W.cell? ⟨fb, 0, none⟩ = some (.pointer (some ⟨t, 0, none⟩)) → _) := fun W h => tTable fb _ W h
  clear hW hQ hSl
  go_enter_defers Tryz.func41, Tryz.ntmps41
  go_upto_region 3 with (first | (go_at_call 83; refine (HTab.out _ (by simp [go_sem, hf, hfb])).mono ?_; rintro e w1 ⟨rfl, hw1⟩; rw [hw1]; clear hw1 w1))
  have k0 : ((w.alloc (.cells #[.int .i64 u, .int .i64 g, .slice ga 0 gc, .int .i64 um, .int .i64 cw] 29)).alloc (.cells #[.int .i64 0] 35)).cell? ⟨fb, 0, none⟩ = some (.pointer (some ⟨t, 0, none⟩)) := by simp [go_sem, hf, hfb]
  have k1 : ((w.alloc (.cells #[.int .i64 u, .int .i64 g, .slice ga 0 gc, .int .i64 um, .int .i64 cw] 29)).alloc (.cells #[.int .i64 0] 35)).cell? ⟨w.heap.size, 0, none⟩ = some (.int .i64 u) := by simp [go_sem]
  have k2 : ((w.alloc (.cells #[.int .i64 u, .int .i64 g, .slice ga 0 gc, .int .i64 um, .int .i64 cw] 29)).alloc (.cells #[.int .i64 0] 35)).cell? ⟨w.heap.size, 1, none⟩ = some (.int .i64 g) := by simp [go_sem]
  have k3 : ((w.alloc (.cells #[.int .i64 u, .int .i64 g, .slice ga 0 gc, .int .i64 um, .int .i64 cw] 29)).alloc (.cells #[.int .i64 0] 35)).cell? ⟨w.heap.size, 2, none⟩ = some (.slice ga 0 gc) := by simp [go_sem]
  have k4 : ((w.alloc (.cells #[.int .i64 u, .int .i64 g, .slice ga 0 gc, .int .i64 um, .int .i64 cw] 29)).alloc (.cells #[.int .i64 0] 35)).cell? ⟨w.heap.size, 3, none⟩ = some (.int .i64 um) := by simp [go_sem]
  have k5 : ((w.alloc (.cells #[.int .i64 u, .int .i64 g, .slice ga 0 gc, .int .i64 um, .int .i64 cw] 29)).alloc (.cells #[.int .i64 0] 35)).cell? ⟨w.heap.size, 4, none⟩ = some (.int .i64 cw) := by simp [go_sem]
  have k6 : ((w.alloc (.cells #[.int .i64 u, .int .i64 g, .slice ga 0 gc, .int .i64 um, .int .i64 cw] 29)).alloc (.cells #[.int .i64 0] 35)).cell? ⟨w.heap.size + 1, 0, none⟩ = some (.int .i64 0) := by simp [go_sem]
  have k7 : ((w.alloc (.cells #[.int .i64 u, .int .i64 g, .slice ga 0 gc, .int .i64 um, .int .i64 cw] 29)).alloc (.cells #[.int .i64 0] 35)).frozen? ⟨w.heap.size + 1, 0, none⟩ = false := by simp [go_sem]
  have HM2 := hid6 (((Mod.refl (fun _ => False) w).alloc (.cells #[.int .i64 u, .int .i64 g, .slice ga 0 gc, .int .i64 um, .int .i64 cw] 29)).alloc (.cells #[.int .i64 0] 35))
  have hsz : w.heap.size + 2 = ((w.alloc (.cells #[.int .i64 u, .int .i64 g, .slice ga 0 gc, .int .i64 um, .int .i64 cw] 29)).alloc (.cells #[.int .i64 0] 35)).heap.size := by simp
  have HSz := hid6 hsz
  clear hsz
  generalize (w.alloc (.cells #[.int .i64 u, .int .i64 g, .slice ga 0 gc, .int .i64 um, .int .i64 cw] 29)).alloc (.cells #[.int .i64 0] 35) = W2 at *
  go_cut [8] from 13 to 17 (fun v8 wc => ∃ K B8 : Nat, v8 = .pointer (some ⟨B8, 0, none⟩) ∧ wc.cell? ⟨B8, 0, none⟩ = some (.pointer (some ⟨K, 0, none⟩)) ∧ wc.cell? ⟨w.heap.size + 1, 0, none⟩ = some (.int .i64 0) ∧ wc.frozen? ⟨w.heap.size + 1, 0, none⟩ = false ∧ ¬ K = w.heap.size + 1 ∧ Hid (TkNew w wc K t u g ga gc um cw))
  case first =>
    refine wp_only6 ?_
    go_region_held (fun W' => W'.cell? ⟨fb, 0, none⟩ = some (.pointer (some ⟨t, 0, none⟩)) ∧ W'.cell? ⟨w.heap.size, 0, none⟩ = some (.int .i64 u) ∧ W'.cell? ⟨w.heap.size, 1, none⟩ = some (.int .i64 g) ∧ W'.cell? ⟨w.heap.size, 2, none⟩ = some (.slice ga 0 gc) ∧ W'.cell? ⟨w.heap.size, 3, none⟩ = some (.int .i64 um) ∧ W'.cell? ⟨w.heap.size, 4, none⟩ = some (.int .i64 cw)) (go_keep)
      (first | (go_at_call 83; refine (HTab.out _ (by first | assumption | go_keep)).mono ?_; rintro e w1 ⟨rfl, hw1⟩; rw [hw1]; clear hw1 w1))
    all_goals simp only [OnlyN6]
    all_goals
      go_wp2_with fail
      go_meet
      first | exact ⟨_, _, rfl, tk_lay1 HM2.out HSz.out k6 k7⟩ | exact ⟨_, _, rfl, tk_lay2 HM2.out HSz.out k6 k7⟩
  case rest =>
    obtain ⟨K, B8, rfl, h8, hE, fE, hKE, HN⟩ := hcut
    go_wp2_with fail
    refine Calls.mono (HW.out wc K HN.out) ?_
    rintro e w5 ⟨rfl, M5, hQ5⟩
    have hEl : w.heap.size + 1 < wc.heap.size := block_lt_of_cell hE
    have hn5 : ¬ (S (w.heap.size + 1) ∨ w.heap.size + 1 = K) := fun e => by rcases e with e | e; have := HSl.out _ e; omega; omega
    have c5 : w5.cell? ⟨w.heap.size + 1, 0, none⟩ = some (.int .i64 0) := (M5.cell (p := ⟨w.heap.size + 1, 0, none⟩) hEl hn5).trans hE
    have f5 : w5.frozen? ⟨w.heap.size + 1, 0, none⟩ = false := (M5.frozen (p := ⟨w.heap.size + 1, 0, none⟩) hEl hn5).trans fE
    have HF : Hid (Mod S w (w5.setCell ⟨w.heap.size + 1, 0, none⟩ (.int .i64 0)) ∧ Q (w5.setCell ⟨w.heap.size + 1, 0, none⟩ (.int .i64 0))) := ⟨Mod.andNew (Mod.fromNew HN.out.M M5 HN.out.le) (B := w.heap.size + 1) ((Mod.refl _ _).setCell _ _ rfl) (by omega), HQ.out _ _ hQ5 ((Mod.refl _ _).setCell _ _ (by show w.heap.size ≤ w.heap.size + 1; omega))⟩
    have e5 : (w5.setCell ⟨w.heap.size + 1, 0, none⟩ (.int .i64 0)).cell? ⟨w.heap.size + 1, 0, none⟩ = some (.int .i64 0) := World.cell?_setCell_same _ _ _ c5
    clear M5 hQ5 HN HW HQ hE fE h8
    go_wp2_with fail
    refine leaves_cons (f := 92) (args := #[.pointer (some ⟨w.heap.size + 1, 0, none⟩), .pointer (some ⟨B8, 0, none⟩)]) (by simp) (by simp [go_sem]) ?_
    refine (idleInt ⟨w.heap.size + 1, 0, none⟩ ⟨B8, 0, none⟩ _).mono ?_
    rintro e u' w2 ⟨rfl, rfl, rfl⟩
    simp [Leaves, settle, results, Tryz.results41, go_sem, e5]
    exact HF.out
end Go.Proofs.YtgkkbplecfhmdaaGreatDoor
/- A call's frame: ask at a closure, where the work ends well. Conditions: the file system lies in memory; the work does as said. -/
namespace Go.Proofs.YtgkkbplecfhmdaaGreatDoor
open Go.RowKit
set_option maxRecDepth 100000 in
set_option maxHeartbeats 4000000 in
theorem askOpen {w : World} {fb t : Nat} (hf : FsAt w fb t) (u g : Int) (ga : Option Addr) (gc : Nat) (um cw : Int) (p1 p2 p3 : Addr) (r : Int) (S : Nat → Prop) (hSl : ∀ x, S x → x < w.heap.size) (Q : World → Prop) (hQ : ∀ a b, Q a → Mod (fun x => w.heap.size ≤ x) a b → Q b)
    (hW : ∀ W K, TkNew w W K t u g ga gc um cw → Calls Tryz.prog 42 #[.pointer (some ⟨K, 0, none⟩), .pointer (some p1), .pointer (some p2), .pointer (some p3)] W fun e w' => e = .returned (.int .i64 r) ∧ Mod (fun x => S x ∨ x = K) W w' ∧ Q w') :
    Calls Tryz.prog 41 #[.pointer (some ⟨fb, 0, none⟩), .agg #[.int .i64 u, .int .i64 g, .slice ga 0 gc, .int .i64 um, .int .i64 cw], .func (.func 42) #[] #[.pointer (some p1), .pointer (some p2), .pointer (some p3)]] w fun e w' => e = .returned (.tuple #[.int .i64 r, .int .i64 0]) ∧ Mod S w w' ∧ Q w' := by
  have hmf : ∀ (fn : Fn) (first cap : Array Value) (w : World), (Instr.makeFunc fn first cap).run Tryz.prog w = .ok (.func fn first cap) w := fun _ _ _ _ => rfl
  have HW := hid6 hW
  have HQ := hid6 hQ
  have HSl := hid6 hSl
  have hfb : fb < w.heap.size := block_lt_of_cell hf
  unfold FsAt at hf
  have HTab : Hid (∀ W : World, W.cell? ⟨fb, 0, none⟩ = some (.pointer (some ⟨t, 0, none⟩)) → _) := fun W h => tTable fb _ W h
  clear hW hQ hSl
  go_enter_defers Tryz.func41, Tryz.ntmps41
  go_upto_region 3 with (first | (go_at_call 83; refine (HTab.out _ (by simp [go_sem, hf, hfb])).mono ?_; rintro e w1 ⟨rfl, hw1⟩; rw [hw1]; clear hw1 w1))
  have k0 : ((w.alloc (.cells #[.int .i64 u, .int .i64 g, .slice ga 0 gc, .int .i64 um, .int .i64 cw] 29)).alloc (.cells #[.int .i64 0] 35)).cell? ⟨fb, 0, none⟩ = some (.pointer (some ⟨t, 0, none⟩)) := by simp [go_sem, hf, hfb]
  have k1 : ((w.alloc (.cells #[.int .i64 u, .int .i64 g, .slice ga 0 gc, .int .i64 um, .int .i64 cw] 29)).alloc (.cells #[.int .i64 0] 35)).cell? ⟨w.heap.size, 0, none⟩ = some (.int .i64 u) := by simp [go_sem]
  have k2 : ((w.alloc (.cells #[.int .i64 u, .int .i64 g, .slice ga 0 gc, .int .i64 um, .int .i64 cw] 29)).alloc (.cells #[.int .i64 0] 35)).cell? ⟨w.heap.size, 1, none⟩ = some (.int .i64 g) := by simp [go_sem]
  have k3 : ((w.alloc (.cells #[.int .i64 u, .int .i64 g, .slice ga 0 gc, .int .i64 um, .int .i64 cw] 29)).alloc (.cells #[.int .i64 0] 35)).cell? ⟨w.heap.size, 2, none⟩ = some (.slice ga 0 gc) := by simp [go_sem]
  have k4 : ((w.alloc (.cells #[.int .i64 u, .int .i64 g, .slice ga 0 gc, .int .i64 um, .int .i64 cw] 29)).alloc (.cells #[.int .i64 0] 35)).cell? ⟨w.heap.size, 3, none⟩ = some (.int .i64 um) := by simp [go_sem]
  have k5 : ((w.alloc (.cells #[.int .i64 u, .int .i64 g, .slice ga 0 gc, .int .i64 um, .int .i64 cw] 29)).alloc (.cells #[.int .i64 0] 35)).cell? ⟨w.heap.size, 4, none⟩ = some (.int .i64 cw) := by simp [go_sem]
  have k6 : ((w.alloc (.cells #[.int .i64 u, .int .i64 g, .slice ga 0 gc, .int .i64 um, .int .i64 cw] 29)).alloc (.cells #[.int .i64 0] 35)).cell? ⟨w.heap.size + 1, 0, none⟩ = some (.int .i64 0) := by simp [go_sem]
  have k7 : ((w.alloc (.cells #[.int .i64 u, .int .i64 g, .slice ga 0 gc, .int .i64 um, .int .i64 cw] 29)).alloc (.cells #[.int .i64 0] 35)).frozen? ⟨w.heap.size + 1, 0, none⟩ = false := by simp [go_sem]
  have HM2 := hid6 (((Mod.refl (fun _ => False) w).alloc (.cells #[.int .i64 u, .int .i64 g, .slice ga 0 gc, .int .i64 um, .int .i64 cw] 29)).alloc (.cells #[.int .i64 0] 35))
  have hsz : w.heap.size + 2 = ((w.alloc (.cells #[.int .i64 u, .int .i64 g, .slice ga 0 gc, .int .i64 um, .int .i64 cw] 29)).alloc (.cells #[.int .i64 0] 35)).heap.size := by simp
  have HSz := hid6 hsz
  clear hsz
  generalize (w.alloc (.cells #[.int .i64 u, .int .i64 g, .slice ga 0 gc, .int .i64 um, .int .i64 cw] 29)).alloc (.cells #[.int .i64 0] 35) = W2 at *
  go_cut [8] from 13 to 17 (fun v8 wc => ∃ K B8 : Nat, v8 = .pointer (some ⟨B8, 0, none⟩) ∧ wc.cell? ⟨B8, 0, none⟩ = some (.pointer (some ⟨K, 0, none⟩)) ∧ wc.cell? ⟨w.heap.size + 1, 0, none⟩ = some (.int .i64 0) ∧ wc.frozen? ⟨w.heap.size + 1, 0, none⟩ = false ∧ ¬ K = w.heap.size + 1 ∧ Hid (TkNew w wc K t u g ga gc um cw))
  case first =>
    refine wp_only6 ?_
    go_region_held (fun W' => W'.cell? ⟨fb, 0, none⟩ = some (.pointer (some ⟨t, 0, none⟩)) ∧ W'.cell? ⟨w.heap.size, 0, none⟩ = some (.int .i64 u) ∧ W'.cell? ⟨w.heap.size, 1, none⟩ = some (.int .i64 g) ∧ W'.cell? ⟨w.heap.size, 2, none⟩ = some (.slice ga 0 gc) ∧ W'.cell? ⟨w.heap.size, 3, none⟩ = some (.int .i64 um) ∧ W'.cell? ⟨w.heap.size, 4, none⟩ = some (.int .i64 cw)) (go_keep)
      (first | (go_at_call 83; refine (HTab.out _ (by first | assumption | go_keep)).mono ?_; rintro e w1 ⟨rfl, hw1⟩; rw [hw1]; clear hw1 w1))
    all_goals simp only [OnlyN6]
    all_goals
      go_wp2_with fail
      go_meet
      first | exact ⟨_, _, rfl, tk_lay1 HM2.out HSz.out k6 k7⟩ | exact ⟨_, _, rfl, tk_lay2 HM2.out HSz.out k6 k7⟩
  case rest =>
    obtain ⟨K, B8, rfl, h8, hE, fE, hKE, HN⟩ := hcut
    go_wp2_with fail
    refine Calls.mono (HW.out wc K HN.out) ?_
    rintro e w5 ⟨rfl, M5, hQ5⟩
    have hEl : w.heap.size + 1 < wc.heap.size := block_lt_of_cell hE
    have hn5 : ¬ (S (w.heap.size + 1) ∨ w.heap.size + 1 = K) := fun e => by rcases e with e | e; have := HSl.out _ e; omega; omega
    have c5 : w5.cell? ⟨w.heap.size + 1, 0, none⟩ = some (.int .i64 0) := (M5.cell (p := ⟨w.heap.size + 1, 0, none⟩) hEl hn5).trans hE
    have f5 : w5.frozen? ⟨w.heap.size + 1, 0, none⟩ = false := (M5.frozen (p := ⟨w.heap.size + 1, 0, none⟩) hEl hn5).trans fE
    have HF : Hid (Mod S w (w5.setCell ⟨w.heap.size + 1, 0, none⟩ (.int .i64 0)) ∧ Q (w5.setCell ⟨w.heap.size + 1, 0, none⟩ (.int .i64 0))) := ⟨Mod.andNew (Mod.fromNew HN.out.M M5 HN.out.le) (B := w.heap.size + 1) ((Mod.refl _ _).setCell _ _ rfl) (by omega), HQ.out _ _ hQ5 ((Mod.refl _ _).setCell _ _ (by show w.heap.size ≤ w.heap.size + 1; omega))⟩
    have e5 : (w5.setCell ⟨w.heap.size + 1, 0, none⟩ (.int .i64 0)).cell? ⟨w.heap.size + 1, 0, none⟩ = some (.int .i64 0) := World.cell?_setCell_same _ _ _ c5
    clear M5 hQ5 HN HW HQ hE fE h8
    go_wp2_with fail
    refine leaves_cons (f := 92) (args := #[.pointer (some ⟨w.heap.size + 1, 0, none⟩), .pointer (some ⟨B8, 0, none⟩)]) (by simp) (by simp [go_sem]) ?_
    refine (idleInt ⟨w.heap.size + 1, 0, none⟩ ⟨B8, 0, none⟩ _).mono ?_
    rintro e u' w2 ⟨rfl, rfl, rfl⟩
    simp [Leaves, settle, results, Tryz.results41, go_sem, e5]
    exact HF.out
end Go.Proofs.YtgkkbplecfhmdaaGreatDoor
/- Open's flags of a new file, and the task's calls links, hold and newFile. Conditions: the task lies in memory as 'TkAt' says (no groups); what the calls below do. -/

namespace Go.Proofs.YtgkkbplecfhmdaaGreatDoor
open Go.RowKit
theorem b10a : bits .and .i64 10 (-256) = 0 := by decide +kernel
theorem b10b : bits .and .i64 10 3 = 2 := by decide +kernel
theorem b10c : bits .and .i64 10 36 = 0 := by decide +kernel
theorem b10d : bits .and .i64 10 72 = 8 := by decide +kernel
theorem b10e : bits .and .i64 10 128 = 0 := by decide +kernel
theorem b10f : bits .and .i64 10 24 = 8 := by decide +kernel
theorem b10g : bits .and .i64 10 8 = 8 := by decide +kernel
theorem fFit10 (w : World) : Calls Tryz.prog 44 #[.int .i64 10] w fun e w' => e = .returned (.bool true) ∧ w' = w := by
  have h1 := b10a; have h2 := b10b; have h3 := b10c; have h4 := b10d
  go_enter Tryz.func44, Tryz.ntmps44
  go_wp2
  go_ret
  exact ⟨rfl, rfl⟩
theorem fEnd10 (w : World) : Calls Tryz.prog 46 #[.int .i64 10] w fun e w' => e = .returned (.int .i64 0) ∧ w' = w := by
  have h1 := b10e; have h2 := b10f
  go_enter Tryz.func46, Tryz.ntmps46
  go_wp2
  go_ret
  exact ⟨rfl, rfl⟩
theorem fHas10 (w : World) : Calls Tryz.prog 47 #[.int .i64 10, .int .i64 8] w fun e w' => e = .returned (.bool true) ∧ w' = w := by
  have h1 := b10g
  go_enter Tryz.func47, Tryz.ntmps47
  go_wp2
  go_ret
  exact ⟨rfl, rfl⟩
theorem tLinks {w : World} {k t : Nat} (hc : w.cell? ⟨k, 0, none⟩ = some (.pointer (some ⟨t, 0, none⟩))) (i by_ : Int) (Q : World → Prop) (hL : Calls Tryz.prog 90 #[.pointer (some ⟨t, 0, none⟩), .int .i64 i, .int .i64 by_] w fun e w' => e = .returned (.int .i64 0) ∧ Q w') :
    Calls Tryz.prog 77 #[.pointer (some ⟨k, 0, none⟩), .int .i64 i, .int .i64 by_] w fun e w' => e = .returned (.tuple #[]) ∧ Q w' := by
  have HL := hid6 hL
  clear hL
  go_enter Tryz.func77, Tryz.ntmps77
  go_wp2_with fail
  refine Calls.mono HL.out ?_
  rintro e w1 ⟨rfl, HQ⟩
  have HQ' := hid6 HQ
  clear HQ
  go_wp2_with (first | (go_at_call 52; refine (must_no _).mono ?_; rintro e w3 ⟨rfl, hw3⟩; rw [hw3]; clear hw3 w3))
  exact ⟨rfl, _, results_none rfl _ _ _, rfl, HQ'.out⟩
theorem tHold {w : World} {k t : Nat} (hc : w.cell? ⟨k, 0, none⟩ = some (.pointer (some ⟨t, 0, none⟩))) (i : Int) (Q : World → Prop) (hL : Calls Tryz.prog 87 #[.pointer (some ⟨t, 0, none⟩), .int .i64 i] w fun e w' => e = .returned (.int .i64 0) ∧ Q w') :
    Calls Tryz.prog 48 #[.pointer (some ⟨k, 0, none⟩), .int .i64 i] w fun e w' => e = .returned (.int .i64 i) ∧ Q w' := by
  have HL := hid6 hL
  clear hL
  go_enter Tryz.func48, Tryz.ntmps48
  go_wp2_with fail
  refine Calls.mono HL.out ?_
  rintro e w1 ⟨rfl, HQ⟩
  have HQ' := hid6 HQ
  clear HQ
  go_wp2_with (first | (go_at_call 52; refine (must_no _).mono ?_; rintro e w3 ⟨rfl, hw3⟩; rw [hw3]; clear hw3 w3))
  go_ret
  exact ⟨rfl, HQ'.out⟩
end Go.Proofs.YtgkkbplecfhmdaaGreatDoor
/- The task's call newFile. Conditions: the task lies in memory as 'TkAt' says (no groups); what create, Add and Links do. -/
namespace Go.Proofs.YtgkkbplecfhmdaaGreatDoor
open Go.RowKit
section
variable {w : World} {t q b c n N : Nat} {clk : Int} {F1 F2 F3 : Nat → Nat → Int} {R1 R2 : Nat → Nat → Nat} {u u2 : Nat → Bool} {D D2 : Nat → Nat}
set_option maxRecDepth 100000 in
set_option maxHeartbeats 4000000 in
theorem tNewFile {k : Nat} {uid gid : Int} {ga : Option Addr} {gc : Nat} {um cw : Int} (h : TkAt w k t uid gid ga gc um cw) (hk : k ≠ q ∧ k ≠ b ∧ k ≠ c) (hlt : q < w.heap.size ∧ b < w.heap.size ∧ c < w.heap.size)
    (d : Int) (l : List UInt8) (m mm : Int) (hmm : bits .andNot .i64 m um = mm) (fp : Nat → Int) (hS : StA w k d fp) (hl : (fp 3 == 0) = false) (hacc : accB (fp 0) (fp 1) uid (memB gid [] (fp 2)) 2 = true) (r : Int)
    (hC : ∀ W, Mod (fun _ => False) w W → Calls Tryz.prog 73 #[.pointer (some ⟨k, 0, none⟩), .int .i64 d, .int .i64 32768, .int .i64 mm] W fun e w' => e = .returned (.int .i64 r) ∧ Tb w' t q b c n N clk F1 R1 u D ∧ Mod (fun x => x = q ∨ x = k) W w' ∧ w'.cell? ⟨k, 0, none⟩ = some (.pointer (some ⟨t, 0, none⟩)))
    (hD : ∀ W, Tb W t q b c n N clk F1 R1 u D → Calls Tryz.prog 76 #[.pointer (some ⟨t, 0, none⟩), .int .i64 d, .string ⟨l.toArray⟩, .int .i64 r] W fun e w' => e = .returned (.int .i64 0) ∧ Mod (fun x => x = b ∨ x = c ∨ x = q) W w' ∧ Tb w' t q b c n N clk F2 R2 u2 D2)
    (hL : ∀ W, Tb W t q b c n N clk F2 R2 u2 D2 → Calls Tryz.prog 90 #[.pointer (some ⟨t, 0, none⟩), .int .i64 r, .int .i64 1] W fun e w' => e = .returned (.int .i64 0) ∧ Tb w' t q b c n N clk F3 R2 u2 D2 ∧ Mod (fun x => x = q) W w') :
    Calls Tryz.prog 49 #[.pointer (some ⟨k, 0, none⟩), .agg #[.int .i64 d, .string ⟨l.toArray⟩, .int .i64 0, .bool false], .int .i64 m] w fun e w' => e = .returned (.int .i64 r) ∧ Tb w' t q b c n N clk F3 R2 u2 D2 ∧ Mod (fun x => x = b ∨ x = c ∨ x = q ∨ x = k) w w' ∧ w'.cell? ⟨k, 0, none⟩ = some (.pointer (some ⟨t, 0, none⟩)) := by
  have HK := hid6 h
  have HWr : Hid (∀ W, Mod (fun _ => False) w W → _) := fun W hM => tWritable (h.new hM) d 0 l false fp (hS.new hM) hl hacc
  have HMk : Hid (∀ W, TkAt W k t uid gid ga gc um cw → _) := fun W hW => tMasked hW m
  rw [hmm] at HMk
  have HC := hid6 hC
  have HD := hid6 hD
  have HL := hid6 hL
  have HQ := hid6 hk
  have HLt := hid6 hlt
  have hkw := h.lt
  have hB : ¬ w.heap.size = q ∧ ¬ w.heap.size = k ∧ ¬ w.heap.size = b ∧ ¬ w.heap.size = c := by obtain ⟨a1, a2, a3⟩ := hlt; exact ⟨by omega, by omega, by omega, by omega⟩
  have HB := hid6 hB
  have HM0 : Hid (∀ o, Mod (fun _ => False) w (w.alloc o)) := fun o => (Mod.refl _ w).alloc o
  clear h hC hD hL hS hl hacc hk hlt hB hmm
  go_enter Tryz.func49, Tryz.ntmps49
  go_wp2_with (first | (go_at_call 43; refine (refuse_no _ _).mono ?_; rintro e w3 ⟨rfl, hw3⟩; rw [hw3]; clear hw3 w3))
  refine Calls.mono (HWr.out _ (HM0.out _)) ?_
  rintro e w1 ⟨rfl, M1⟩
  have HM1 := hid6 ((HM0.out _).trans M1)
  have e0 : w1.cell? ⟨w.heap.size, 0, none⟩ = some (.int .i64 d) := by rw [M1.cell (p := ⟨w.heap.size, 0, none⟩) (by simp) (fun e => e)]; simp [go_sem]
  have e1 : w1.cell? ⟨w.heap.size, 1, none⟩ = some (.string ⟨l.toArray⟩) := by rw [M1.cell (p := ⟨w.heap.size, 1, none⟩) (by simp) (fun e => e)]; simp [go_sem]
  have hw1 : w.heap.size < w1.heap.size := by have := M1.size; simp at this; omega
  clear M1
  go_upto_region 3 with fail
  go_cut [7] (fun v7 wc => v7 = .int .i64 r ∧ wc.cell? ⟨w.heap.size, 0, none⟩ = some (.int .i64 d) ∧ wc.cell? ⟨w.heap.size, 1, none⟩ = some (.string ⟨l.toArray⟩) ∧ wc.cell? ⟨k, 0, none⟩ = some (.pointer (some ⟨t, 0, none⟩)) ∧ Hid (Tb wc t q b c n N clk F1 R1 u D) ∧ Hid (Mod (fun x => x = q ∨ x = k) w1 wc))
  case first =>
    go_region_held (fun W' => W'.cell? ⟨w.heap.size, 0, none⟩ = some (.int .i64 d)) (first | with_reducible exact hS1 | go_keep)
      (first | (go_at_call 74; refine (HMk.out _ ((HK.out.new HM1.out).new ((Mod.refl _ _).drewN 1))).mono ?_; rintro e w2 ⟨rfl, hw2⟩; rw [hw2]; clear hw2 w2) | (go_at_call 73; refine (HC.out _ (HM1.out.drewN 1)).mono ?_; rintro e w2 ⟨rfl, T2, M2, k2⟩; have hS1 : w2.cell? ⟨w.heap.size, 0, none⟩ = some (.int .i64 d) := ((M2.cell (p := ⟨w.heap.size, 0, none⟩) hw1 (fun e => by rcases e with e | e; exact HB.out.1 e; exact HB.out.2.1 e)).trans e0); have hS2 : w2.cell? ⟨w.heap.size, 1, none⟩ = some (.string ⟨l.toArray⟩) := ((M2.cell (p := ⟨w.heap.size, 1, none⟩) hw1 (fun e => by rcases e with e | e; exact HB.out.1 e; exact HB.out.2.1 e)).trans e1); have HT2 := hid6 T2; have HM2 := hid6 M2; clear T2 M2))
    all_goals
      go_wp2_with fail
      go_meet
      exact ⟨rfl, hS1, hS2, k2, HT2, ((Mod.refl _ _).drewN 1).trans HM2.out⟩
  case rest =>
    obtain ⟨rfl, g0, g1, gk, HT2, HM2⟩ := hcut
    have hwc : w.heap.size < wc.heap.size := Nat.lt_of_lt_of_le hw1 HM2.out.size
    have hkc : k < wc.heap.size := by omega
    go_upto_region 4 with fail
    obtain ⟨wA, hwA⟩ : ∃ x, x = wc := ⟨wc, rfl⟩
    subst hwA
    go_cut [] (fun wc => wc.cell? ⟨k, 0, none⟩ = some (.pointer (some ⟨t, 0, none⟩)) ∧ Hid (Tb wc t q b c n N clk F2 R2 u2 D2) ∧ Hid (Mod (fun x => x = b ∨ x = c ∨ x = q) wA wc))
    case first =>
      go_region_held (fun W' => W'.cell? ⟨w.heap.size, 0, none⟩ = some (.int .i64 d) ∧ W'.cell? ⟨w.heap.size, 1, none⟩ = some (.string ⟨l.toArray⟩) ∧ W'.cell? ⟨k, 0, none⟩ = some (.pointer (some ⟨t, 0, none⟩))) (first | with_reducible exact hS1 | go_keep)
        (first | (go_at_call 76; refine (HD.out _ (HT2.out.new ((Mod.refl _ _).drewN 1))).mono ?_; rintro e w2 ⟨rfl, M3, T3⟩; have hkk : w2.cell? ⟨k, 0, none⟩ = some (.pointer (some ⟨t, 0, none⟩)) := ((M3.cell (p := ⟨k, 0, none⟩) hkc (fun e => by rcases e with e | e | e; exact HQ.out.2.1 e; exact HQ.out.2.2 e; exact HQ.out.1 e)).trans gk); have hS1 := And.intro ((M3.cell (p := ⟨w.heap.size, 0, none⟩) hwc (fun e => by rcases e with e | e | e; exact HB.out.2.2.1 e; exact HB.out.2.2.2 e; exact HB.out.1 e)).trans g0) (And.intro ((M3.cell (p := ⟨w.heap.size, 1, none⟩) hwc (fun e => by rcases e with e | e | e; exact HB.out.2.2.1 e; exact HB.out.2.2.2 e; exact HB.out.1 e)).trans g1) hkk); have HT3 := hid6 T3; have HM3 := hid6 M3; clear T3 M3) | (go_at_call 52; refine (must_no _).mono ?_; rintro e w3 ⟨rfl, hw3⟩; rw [hw3]; clear hw3 w3))
      all_goals
        go_wp2_with fail
        go_meet
        exact ⟨hkk, HT3, ((Mod.refl _ _).drewN 1).trans HM3.out⟩
    case rest =>
      obtain ⟨gk2, HT3, HM3⟩ := hcut
      have HFin : Hid (∀ w', Mod (fun x => x = q) wc w' → Mod (fun x => x = b ∨ x = c ∨ x = q ∨ x = k) w w') := fun w' hM => (((HM1.out.mono (fun _ _ e => e.elim)).trans (HM2.out.mono (fun _ _ e => by rcases e with e | e; exact .inr (.inr (.inl e)); exact .inr (.inr (.inr e))))).trans (HM3.out.mono (fun _ _ e => by rcases e with e | e | e; exact .inl e; exact .inr (.inl e); exact .inr (.inr (.inl e))))).trans (hM.mono (fun _ _ e => .inr (.inr (.inl e))))
      go_wp2_with fail
      refine Calls.mono (tLinks gk2 r 1 (fun w' => Tb w' t q b c n N clk F3 R2 u2 D2 ∧ Mod (fun x => x = q) wc w') (HL.out _ HT3.out)) ?_
      rintro e w4 ⟨rfl, T4, M4⟩
      have HT4 := hid6 T4
      have HM4 := hid6 M4
      clear T4 M4
      go_wp2
      go_ret
      exact ⟨rfl, HT4.out, HFin.out _ HM4.out, (HM4.out.cell (p := ⟨k, 0, none⟩) (Nat.lt_of_lt_of_le hkc HM3.out.size) HQ.out.1).trans gk2⟩
end
end Go.Proofs.YtgkkbplecfhmdaaGreatDoor
