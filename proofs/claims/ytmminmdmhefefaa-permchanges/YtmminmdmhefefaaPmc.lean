/- Change of the program. Condition: a length that fits. -/
import Derived.Test.YtmminmdmhefefaaPmb
import Derived.Defers
import Derived.Recover
namespace Go.Proofs.Ytmminmdmhefefaa
open Go.RowKit
namespace Pm
def chgO (l : List UInt8) (old umask : Int) : Option Int :=
  match l with
  | c :: cs => if dig c then numB (c :: cs) else (runB (r0 old umask) (c :: cs)).map (·.now)
  | [] => none
def chgM (l : List UInt8) (old umask : Int) : Int := match chgO l old umask with | some n => bits .or .i64 (bits .and .i64 old 61440) n | none => 0
def chgE (l : List UInt8) (old umask : Int) : Int := match chgO l old umask with | some _ => 0 | none => 22
end Pm
theorem cell_other (w : World) (b c : Nat) (h : ¬ c = b) (v : Value) : (w.setCell ⟨b, 0, none⟩ v).cell? ⟨c, 0, none⟩ = w.cell? ⟨c, 0, none⟩ := World.cell?_of_block (w := w) (Below.heap_setCell _ _ _ _ h)
theorem two_cells {w w1 : World} {b : Nat} (hb : w.heap.size = b) (x y : Value) (t t' : TypeId) (h : Below (b + 2) ((w.alloc (.cells #[x] t)).alloc (.cells #[y] t')) w1) :
    w1.cell? ⟨b, 0, none⟩ = some x ∧ w1.frozen? ⟨b, 0, none⟩ = false ∧ w1.cell? ⟨b + 1, 0, none⟩ = some y ∧ w1.frozen? ⟨b + 1, 0, none⟩ = false := by
  subst hb
  refine ⟨?_, ?_, ?_, ?_⟩
  · rw [h.cell (by simp)]; simp [go_sem]
  · rw [h.frozen (by simp)]; simp [go_sem]
  · rw [h.cell (by simp)]; simp [go_sem]
  · rw [h.frozen (by simp)]; simp [go_sem]
set_option maxRecDepth 100000 in
theorem catch_pan (b : Nat) (x y : Int) (w : World) (hp : w.cell? ⟨b, 0, none⟩ = some (.int .i64 x)) (zp : w.frozen? ⟨b, 0, none⟩ = false) (hq : w.cell? ⟨b + 1, 0, none⟩ = some (.int .i64 y)) (zq : w.frozen? ⟨b + 1, 0, none⟩ = false) :
    CallsD Try.prog 30 #[.pointer (some ⟨b, 0, none⟩), .pointer (some ⟨b + 1, 0, none⟩)] (.panicking Pm.EI) w fun e u' w' =>
      e = .returned (.tuple #[]) ∧ u' = .panicking [{ v := .iface 23 (.int .i64 22), recovered := true }] ∧ w' = (w.setCell ⟨b, 0, none⟩ (.int .i64 0)).setCell ⟨b + 1, 0, none⟩ (.int .i64 22) := by
  have hne : ∀ v, (w.setCell ⟨b, 0, none⟩ v).cell? ⟨b + 1, 0, none⟩ = some (.int .i64 y) := fun v => by rw [cell_other _ _ _ (by omega)]; exact hq
  have zne : ∀ v, (w.setCell ⟨b, 0, none⟩ v).frozen? ⟨b + 1, 0, none⟩ = false := fun v => by simp [zq]
  refine callsD_of_wpS Try.func30 rfl fun c₀ cs hu => ?_
  unfold Pm.EI at hu
  apply wpS_seq
  apply wpS_region
  simp [wpOpsS, go_sem, recoverD, hu, Try.ntmps30, Exit.thenS]
  refine wpS_cond (t := true) (by simp [Act.eval, Array.replicate]) ?_
  simp only [if_true]
  apply wpS_region
  simp [wpOpsS, go_sem, hp, zp, hne, zne, bodyPostS, results, Try.results30]
theorem catch_idle (p q : Addr) (w : World) :
    CallsD Try.prog 30 #[.pointer (some p), .pointer (some q)] .returning w fun e u' w' => e = .returned (.tuple #[]) ∧ u' = .returning ∧ w' = w := by
  refine callsD_of_wpS Try.func30 rfl fun c₀ cs hu => ?_
  apply wpS_seq
  apply wpS_region
  simp [wpOpsS, go_sem, recoverD, hu, Try.ntmps30, Exit.thenS]
  refine wpS_cond (t := false) (by simp [Act.eval, Array.replicate]) ?_
  simp only [Bool.false_eq_true, if_false]
  refine wpS_of_wp (wp_skip ?_)
  cases c₀
  simp_all [bodyPostS, results, Try.results30]
set_option maxRecDepth 100000 in
set_option maxHeartbeats 2000000 in
theorem chg_num (l : List UInt8) (n : Int) (old umask : Int) (hl0 : 0 < l.length) (hd : Pm.dig l[0] = true) (hn : Pm.numB l = some n) (hl : l.length ≤ 2 ^ 60) (w : World) :
    Calls Try.prog 14 #[.string ⟨l.toArray⟩, .int .i64 old, .int .i64 umask] w fun e w' => e = .returned (.tuple #[.int .i64 (bits .or .i64 (bits .and .i64 old 61440) n), .int .i64 0]) ∧ Below w.heap.size w w' := by
  have hmf : ∀ (fn : Fn) (first cap : Array Value) (w : World), (Instr.makeFunc fn first cap).run Try.prog w = .ok (.func fn first cap) w := fun _ _ _ _ => rfl
  have hE : ¬ l = [] := fun h => by rw [h] at hl0; simp at hl0
  have hE' : l.isEmpty = false := by cases l <;> simp_all
  have hg : ∀ h, (⟨l.toArray⟩ : ByteArray)[0]'h = l[0] := fun _ => rfl
  have hw : wrap32 (l[0].toNat : Int) = l[0].toNat := by
    have := l[0].toNat_lt
    unfold wrap32
    omega
  have hd' : (decide ((48 : Int) ≤ (l[0].toNat : Int)) && decide ((l[0].toNat : Int) ≤ 55)) = true := hd
  clear hd
  have HN : Hid (Pm.numB l = some n) := hn
  clear hn
  have HB : Hid (∀ o o1, Below w.heap.size w ((w.alloc o).alloc o1)) := fun o o1 => ((Below.refl _ _).alloc (Nat.le_refl _) _).alloc (by simp) _
  generalize hb : w.heap.size = b at *
  go_enter_defers Try.func14, Try.ntmps14
  go_wp2_with fail
  refine (pDigit _ _).mono ?_
  rintro e w' ⟨rfl, rfl⟩
  rw [hd']
  go_wp2_with fail
  refine (pNumber l _ hl).mono ?_
  rintro e w1 ⟨rfl, hB1⟩
  rw [HN.out]
  have hB : Below (b + 2) _ w1 := hB1.mono (by simp [hb])
  clear hB1
  obtain ⟨c1, z1, c2, z2⟩ := two_cells hb _ _ _ _ hB
  have HW : Hid (Below b w w1) := (HB.out _ _).trans (hB.mono (by omega))
  clear hB HB
  unfold Pm.endN
  have hne : ∀ v, (w1.setCell ⟨b, 0, none⟩ v).cell? ⟨b + 1, 0, none⟩ = some (.int .i64 0) := fun v => by rw [cell_other _ _ _ (by omega)]; exact c2
  have zne : ∀ v, (w1.setCell ⟨b, 0, none⟩ v).frozen? ⟨b + 1, 0, none⟩ = false := fun v => by simp [z2]
  go_wp2_with fail
  refine leaves_cons (f := 30) (args := #[.pointer (some ⟨b, 0, none⟩), .pointer (some ⟨b + 1, 0, none⟩)]) (by simp) (by simp [go_sem]) ?_
  refine (catch_idle ⟨b, 0, none⟩ ⟨b + 1, 0, none⟩ _).mono ?_
  rintro e u' w2 ⟨rfl, rfl, rfl⟩
  have e1 : ∀ v u, ((w1.setCell ⟨b, 0, none⟩ v).setCell ⟨b + 1, 0, none⟩ u).cell? ⟨b, 0, none⟩ = some v := fun v u => by rw [cell_other _ _ _ (by omega), World.cell?_setCell_same _ _ _ c1]
  have e2 : ∀ v u, ((w1.setCell ⟨b, 0, none⟩ v).setCell ⟨b + 1, 0, none⟩ u).cell? ⟨b + 1, 0, none⟩ = some u := fun v u => World.cell?_setCell_same _ _ _ (by rw [cell_other _ _ _ (by omega)]; exact c2)
  have HZ : Hid (∀ v u, Below b w ((w1.setCell ⟨b, 0, none⟩ v).setCell ⟨b + 1, 0, none⟩ u)) := fun v u => (HW.out.setCell (by simp) v).setCell (by simp) u
  simp [Leaves, settle, results, Try.results14, go_sem, e1, e2]
  exact HZ.out _ _
set_option maxRecDepth 100000 in
set_option maxHeartbeats 2000000 in
theorem chg_num_no (l : List UInt8) (old umask : Int) (hl0 : 0 < l.length) (hd : Pm.dig l[0] = true) (hn : Pm.numB l = none) (hl : l.length ≤ 2 ^ 60) (w : World) :
    Calls Try.prog 14 #[.string ⟨l.toArray⟩, .int .i64 old, .int .i64 umask] w fun e w' => e = .returned (.tuple #[.int .i64 0, .int .i64 22]) ∧ Below w.heap.size w w' := by
  have hmf : ∀ (fn : Fn) (first cap : Array Value) (w : World), (Instr.makeFunc fn first cap).run Try.prog w = .ok (.func fn first cap) w := fun _ _ _ _ => rfl
  have hE : ¬ l = [] := fun h => by rw [h] at hl0; simp at hl0
  have hE' : l.isEmpty = false := by cases l <;> simp_all
  have hg : ∀ h, (⟨l.toArray⟩ : ByteArray)[0]'h = l[0] := fun _ => rfl
  have hw : wrap32 (l[0].toNat : Int) = l[0].toNat := by
    have := l[0].toNat_lt
    unfold wrap32
    omega
  have hd' : (decide ((48 : Int) ≤ (l[0].toNat : Int)) && decide ((l[0].toNat : Int) ≤ 55)) = true := hd
  clear hd
  have HN : Hid (Pm.numB l = none) := hn
  clear hn
  have HB : Hid (∀ o o1, Below w.heap.size w ((w.alloc o).alloc o1)) := fun o o1 => ((Below.refl _ _).alloc (Nat.le_refl _) _).alloc (by simp) _
  generalize hb : w.heap.size = b at *
  go_enter_defers Try.func14, Try.ntmps14
  go_wp2_with fail
  refine (pDigit _ _).mono ?_
  rintro e w' ⟨rfl, rfl⟩
  rw [hd']
  go_wp2_with fail
  refine (pNumber l _ hl).mono ?_
  rintro e w1 ⟨rfl, hB1⟩
  rw [HN.out]
  have hB : Below (b + 2) _ w1 := hB1.mono (by simp [hb])
  clear hB1
  obtain ⟨c1, z1, c2, z2⟩ := two_cells hb _ _ _ _ hB
  have HW : Hid (Below b w w1) := (HB.out _ _).trans (hB.mono (by omega))
  clear hB HB
  unfold Pm.endN
  go_wp2_with fail
  refine leaves_cons (f := 30) (args := #[.pointer (some ⟨b, 0, none⟩), .pointer (some ⟨b + 1, 0, none⟩)]) (by simp) (by simp [go_sem]) ?_
  refine (catch_pan b _ _ _ c1 z1 c2 z2).mono ?_
  rintro e u' w2 ⟨rfl, rfl, rfl⟩
  have e1 : ∀ v u, ((w1.setCell ⟨b, 0, none⟩ v).setCell ⟨b + 1, 0, none⟩ u).cell? ⟨b, 0, none⟩ = some v := fun v u => by rw [cell_other _ _ _ (by omega), World.cell?_setCell_same _ _ _ c1]
  have e2 : ∀ v u, ((w1.setCell ⟨b, 0, none⟩ v).setCell ⟨b + 1, 0, none⟩ u).cell? ⟨b + 1, 0, none⟩ = some u := fun v u => World.cell?_setCell_same _ _ _ (by rw [cell_other _ _ _ (by omega)]; exact c2)
  have HZ : Hid (∀ v u, Below b w ((w1.setCell ⟨b, 0, none⟩ v).setCell ⟨b + 1, 0, none⟩ u)) := fun v u => (HW.out.setCell (by simp) v).setCell (by simp) u
  simp [Leaves, settle, results, Try.results14, go_sem, e1, e2]
  exact HZ.out _ _
set_option maxRecDepth 100000 in
set_option maxHeartbeats 2000000 in
theorem chg_cl (l : List UInt8) (r : Pm.Rd) (old umask : Int) (hl0 : 0 < l.length) (hd : Pm.dig l[0] = false) (hn : Pm.runB (Pm.r0 old umask) l = some r) (w : World) :
    Calls Try.prog 14 #[.string ⟨l.toArray⟩, .int .i64 old, .int .i64 umask] w fun e w' => e = .returned (.tuple #[.int .i64 (bits .or .i64 (bits .and .i64 old 61440) r.now), .int .i64 0]) ∧ Below w.heap.size w w' := by
  have hmf : ∀ (fn : Fn) (first cap : Array Value) (w : World), (Instr.makeFunc fn first cap).run Try.prog w = .ok (.func fn first cap) w := fun _ _ _ _ => rfl
  have hE : ¬ l = [] := fun h => by rw [h] at hl0; simp at hl0
  have hE' : l.isEmpty = false := by cases l <;> simp_all
  have hg : ∀ h, (⟨l.toArray⟩ : ByteArray)[0]'h = l[0] := fun _ => rfl
  have hw : wrap32 (l[0].toNat : Int) = l[0].toNat := by
    have := l[0].toNat_lt
    unfold wrap32
    omega
  have hd' : (decide ((48 : Int) ≤ (l[0].toNat : Int)) && decide ((l[0].toNat : Int) ≤ 55)) = false := hd
  clear hd
  have HN : Hid (Pm.runB (Pm.r0 old umask) l = some r) := hn
  clear hn
  have HB : Hid (∀ o o1, Below w.heap.size w ((w.alloc o).alloc o1)) := fun o o1 => ((Below.refl _ _).alloc (Nat.le_refl _) _).alloc (by simp) _
  generalize hb : w.heap.size = b at *
  go_enter_defers Try.func14, Try.ntmps14
  go_wp2_with fail
  refine (pDigit _ _).mono ?_
  rintro e w' ⟨rfl, rfl⟩
  rw [hd']
  go_wp2_with fail
  refine (pClauses l old umask _).mono ?_
  rintro e w1 ⟨rfl, hB1⟩
  rw [HN.out]
  have hB : Below (b + 2) _ w1 := hB1.mono (by simp [hb])
  clear hB1
  obtain ⟨c1, z1, c2, z2⟩ := two_cells hb _ _ _ _ hB
  have HW : Hid (Below b w w1) := (HB.out _ _).trans (hB.mono (by omega))
  clear hB HB
  unfold Pm.endB
  have hne : ∀ v, (w1.setCell ⟨b, 0, none⟩ v).cell? ⟨b + 1, 0, none⟩ = some (.int .i64 0) := fun v => by rw [cell_other _ _ _ (by omega)]; exact c2
  have zne : ∀ v, (w1.setCell ⟨b, 0, none⟩ v).frozen? ⟨b + 1, 0, none⟩ = false := fun v => by simp [z2]
  go_wp2_with fail
  refine leaves_cons (f := 30) (args := #[.pointer (some ⟨b, 0, none⟩), .pointer (some ⟨b + 1, 0, none⟩)]) (by simp) (by simp [go_sem]) ?_
  refine (catch_idle ⟨b, 0, none⟩ ⟨b + 1, 0, none⟩ _).mono ?_
  rintro e u' w2 ⟨rfl, rfl, rfl⟩
  have e1 : ∀ v u, ((w1.setCell ⟨b, 0, none⟩ v).setCell ⟨b + 1, 0, none⟩ u).cell? ⟨b, 0, none⟩ = some v := fun v u => by rw [cell_other _ _ _ (by omega), World.cell?_setCell_same _ _ _ c1]
  have e2 : ∀ v u, ((w1.setCell ⟨b, 0, none⟩ v).setCell ⟨b + 1, 0, none⟩ u).cell? ⟨b + 1, 0, none⟩ = some u := fun v u => World.cell?_setCell_same _ _ _ (by rw [cell_other _ _ _ (by omega)]; exact c2)
  have HZ : Hid (∀ v u, Below b w ((w1.setCell ⟨b, 0, none⟩ v).setCell ⟨b + 1, 0, none⟩ u)) := fun v u => (HW.out.setCell (by simp) v).setCell (by simp) u
  simp [Leaves, settle, results, Try.results14, go_sem, e1, e2]
  exact HZ.out _ _
set_option maxRecDepth 100000 in
set_option maxHeartbeats 2000000 in
theorem chg_cl_no (l : List UInt8) (old umask : Int) (hl0 : 0 < l.length) (hd : Pm.dig l[0] = false) (hn : Pm.runB (Pm.r0 old umask) l = none) (w : World) :
    Calls Try.prog 14 #[.string ⟨l.toArray⟩, .int .i64 old, .int .i64 umask] w fun e w' => e = .returned (.tuple #[.int .i64 0, .int .i64 22]) ∧ Below w.heap.size w w' := by
  have hmf : ∀ (fn : Fn) (first cap : Array Value) (w : World), (Instr.makeFunc fn first cap).run Try.prog w = .ok (.func fn first cap) w := fun _ _ _ _ => rfl
  have hE : ¬ l = [] := fun h => by rw [h] at hl0; simp at hl0
  have hE' : l.isEmpty = false := by cases l <;> simp_all
  have hg : ∀ h, (⟨l.toArray⟩ : ByteArray)[0]'h = l[0] := fun _ => rfl
  have hw : wrap32 (l[0].toNat : Int) = l[0].toNat := by
    have := l[0].toNat_lt
    unfold wrap32
    omega
  have hd' : (decide ((48 : Int) ≤ (l[0].toNat : Int)) && decide ((l[0].toNat : Int) ≤ 55)) = false := hd
  clear hd
  have HN : Hid (Pm.runB (Pm.r0 old umask) l = none) := hn
  clear hn
  have HB : Hid (∀ o o1, Below w.heap.size w ((w.alloc o).alloc o1)) := fun o o1 => ((Below.refl _ _).alloc (Nat.le_refl _) _).alloc (by simp) _
  generalize hb : w.heap.size = b at *
  go_enter_defers Try.func14, Try.ntmps14
  go_wp2_with fail
  refine (pDigit _ _).mono ?_
  rintro e w' ⟨rfl, rfl⟩
  rw [hd']
  go_wp2_with fail
  refine (pClauses l old umask _).mono ?_
  rintro e w1 ⟨rfl, hB1⟩
  rw [HN.out]
  have hB : Below (b + 2) _ w1 := hB1.mono (by simp [hb])
  clear hB1
  obtain ⟨c1, z1, c2, z2⟩ := two_cells hb _ _ _ _ hB
  have HW : Hid (Below b w w1) := (HB.out _ _).trans (hB.mono (by omega))
  clear hB HB
  unfold Pm.endB
  go_wp2_with fail
  refine leaves_cons (f := 30) (args := #[.pointer (some ⟨b, 0, none⟩), .pointer (some ⟨b + 1, 0, none⟩)]) (by simp) (by simp [go_sem]) ?_
  refine (catch_pan b _ _ _ c1 z1 c2 z2).mono ?_
  rintro e u' w2 ⟨rfl, rfl, rfl⟩
  have e1 : ∀ v u, ((w1.setCell ⟨b, 0, none⟩ v).setCell ⟨b + 1, 0, none⟩ u).cell? ⟨b, 0, none⟩ = some v := fun v u => by rw [cell_other _ _ _ (by omega), World.cell?_setCell_same _ _ _ c1]
  have e2 : ∀ v u, ((w1.setCell ⟨b, 0, none⟩ v).setCell ⟨b + 1, 0, none⟩ u).cell? ⟨b + 1, 0, none⟩ = some u := fun v u => World.cell?_setCell_same _ _ _ (by rw [cell_other _ _ _ (by omega)]; exact c2)
  have HZ : Hid (∀ v u, Below b w ((w1.setCell ⟨b, 0, none⟩ v).setCell ⟨b + 1, 0, none⟩ u)) := fun v u => (HW.out.setCell (by simp) v).setCell (by simp) u
  simp [Leaves, settle, results, Try.results14, go_sem, e1, e2]
  exact HZ.out _ _
set_option maxRecDepth 100000 in
set_option maxHeartbeats 2000000 in
theorem chg_nil (l : List UInt8) (old umask : Int) (hE : l = []) (hn : Pm.runB (Pm.r0 old umask) l = none) (w : World) :
    Calls Try.prog 14 #[.string ⟨l.toArray⟩, .int .i64 old, .int .i64 umask] w fun e w' => e = .returned (.tuple #[.int .i64 0, .int .i64 22]) ∧ Below w.heap.size w w' := by
  have hmf : ∀ (fn : Fn) (first cap : Array Value) (w : World), (Instr.makeFunc fn first cap).run Try.prog w = .ok (.func fn first cap) w := fun _ _ _ _ => rfl
  obtain rfl : l = [] := hE
  have HN : Hid (Pm.runB (Pm.r0 old umask) [] = none) := hn
  clear hn
  have HB : Hid (∀ o o1, Below w.heap.size w ((w.alloc o).alloc o1)) := fun o o1 => ((Below.refl _ _).alloc (Nat.le_refl _) _).alloc (by simp) _
  generalize hb : w.heap.size = b at *
  go_enter_defers Try.func14, Try.ntmps14
  go_wp2_with fail
  refine (pClauses [] old umask _).mono ?_
  rintro e w1 ⟨rfl, hB1⟩
  rw [HN.out]
  have hB : Below (b + 2) _ w1 := hB1.mono (by simp [hb])
  clear hB1
  obtain ⟨c1, z1, c2, z2⟩ := two_cells hb _ _ _ _ hB
  have HW : Hid (Below b w w1) := (HB.out _ _).trans (hB.mono (by omega))
  clear hB HB
  unfold Pm.endB
  go_wp2_with fail
  refine leaves_cons (f := 30) (args := #[.pointer (some ⟨b, 0, none⟩), .pointer (some ⟨b + 1, 0, none⟩)]) (by simp) (by simp [go_sem]) ?_
  refine (catch_pan b _ _ _ c1 z1 c2 z2).mono ?_
  rintro e u' w2 ⟨rfl, rfl, rfl⟩
  have e1 : ∀ v u, ((w1.setCell ⟨b, 0, none⟩ v).setCell ⟨b + 1, 0, none⟩ u).cell? ⟨b, 0, none⟩ = some v := fun v u => by rw [cell_other _ _ _ (by omega), World.cell?_setCell_same _ _ _ c1]
  have e2 : ∀ v u, ((w1.setCell ⟨b, 0, none⟩ v).setCell ⟨b + 1, 0, none⟩ u).cell? ⟨b + 1, 0, none⟩ = some u := fun v u => World.cell?_setCell_same _ _ _ (by rw [cell_other _ _ _ (by omega)]; exact c2)
  have HZ : Hid (∀ v u, Below b w ((w1.setCell ⟨b, 0, none⟩ v).setCell ⟨b + 1, 0, none⟩ u)) := fun v u => (HW.out.setCell (by simp) v).setCell (by simp) u
  simp [Leaves, settle, results, Try.results14, go_sem, e1, e2]
  exact HZ.out _ _
end Go.Proofs.Ytmminmdmhefefaa
