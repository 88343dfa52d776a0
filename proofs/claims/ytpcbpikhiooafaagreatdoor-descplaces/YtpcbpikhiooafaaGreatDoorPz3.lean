/- The file system's ReadAt: a call's frame where the work answers bytes, and the work. Conditions: the file system lies in memory; what stat and Read tell. -/
import Derived.Test.YtpcbpikhiooafaaGreatDoorM20
import Derived.Test.YtpcbpikhiooafaaGreatDoorTr7
import Derived.Test.YtpcbpikhiooafaaGreatDoorM22
import Derived.Deep.DeepCutAuto
namespace Go.Proofs.YtpcbpikhiooafaaGreatDoor
open Go.RowKit
set_option maxRecDepth 100000 in
set_option maxHeartbeats 2000000 in
theorem idleBytes (p q : Addr) (w : World) :
    CallsD Tryz.prog 192 #[.pointer (some p), .pointer (some q)] .returning w fun e u' w' => e = .returned (.tuple #[]) ∧ u' = .returning ∧ w' = w := by
  refine callsD_of_wpS Tryz.func192 rfl fun c₀ cs hu => ?_
  apply wpS_seq
  generalize hQ : Exit.thenS _ _ = Q2
  apply wpS_seq
  apply wpS_region
  simp [wpOpsS, go_sem, recoverD, hu, Tryz.ntmps192, Exit.thenS]
  simp only [Array.replicate_succ, Array.replicate_zero, List.push_toArray, List.setIfInBounds_toArray, List.set_cons_succ, List.set_cons_zero, List.append_toArray, List.nil_append, List.cons_append]
  refine wpS_of_wp ?_
  go_wp2
  rw [← hQ]
  clear hQ
  refine ⟨rfl, .returning, ?_, .tuple #[], results_none rfl _ _ _, rfl, rfl, rfl⟩
  cases c₀
  simp_all
set_option maxRecDepth 100000 in
set_option maxHeartbeats 4000000 in
theorem askRead {w : World} {fb t : Nat} (hf : FsAt w fb t) (u g : Int) (ga : Option Addr) (gc : Nat) (um cw : Int) (p1 p2 p3 : Addr) (S : Nat → Prop) (hSl : ∀ x, S x → x < w.heap.size) (Q : Option Addr → Nat → Nat → Nat → World → Prop) (hQ : ∀ ra rl rc s E a b, Q ra rl rc s a → E < s → Mod (fun x => x = E) a b → Q ra rl rc s b)
    (hW : ∀ W K, TkNew w W K t u g ga gc um cw → Calls Tryz.prog 189 #[.pointer (some ⟨K, 0, none⟩), .pointer (some p1), .pointer (some p2), .pointer (some p3)] W fun e w' => ∃ ra rl rc, e = .returned (.slice ra rl rc) ∧ Mod (fun x => S x ∨ x = K) W w' ∧ Q ra rl rc W.heap.size w') :
    Calls Tryz.prog 188 #[.pointer (some ⟨fb, 0, none⟩), .agg #[.int .i64 u, .int .i64 g, .slice ga 0 gc, .int .i64 um, .int .i64 cw], .func (.func 189) #[] #[.pointer (some p1), .pointer (some p2), .pointer (some p3)]] w fun e w' => ∃ ra rl rc s, e = .returned (.tuple #[.slice ra rl rc, .int .i64 0]) ∧ Mod S w w' ∧ Q ra rl rc s w' := by
  have hmf : ∀ (fn : Fn) (first cap : Array Value) (w : World), (Instr.makeFunc fn first cap).run Tryz.prog w = .ok (.func fn first cap) w := fun _ _ _ _ => rfl
  have HW := hid6 hW
  have HQ := hid6 hQ
  have HSl := hid6 hSl
  have hfb : fb < w.heap.size := block_lt_of_cell hf
  unfold FsAt at hf
  have HTab : Hid (∀ W : World, W.cell? ⟨fb, 0, none⟩ = some (.pointer (some ⟨t, 0, none⟩)) → _) := fun W h => tTable fb _ W h
  clear hW hQ hSl
  go_enter_defers Tryz.func188, Tryz.ntmps188
  go_upto_region 3 with (first | (go_at_call 39; refine (HTab.out _ (by simp [go_sem, hf, hfb])).mono ?_; rintro e w1 ⟨rfl, hw1⟩; rw [hw1]; clear hw1 w1))
  have k0 : ((w.alloc (.cells #[.int .i64 u, .int .i64 g, .slice ga 0 gc, .int .i64 um, .int .i64 cw] 33)).alloc (.cells #[.int .i64 0] 25)).cell? ⟨fb, 0, none⟩ = some (.pointer (some ⟨t, 0, none⟩)) := by simp [go_sem, hf, hfb]
  have k1 : ((w.alloc (.cells #[.int .i64 u, .int .i64 g, .slice ga 0 gc, .int .i64 um, .int .i64 cw] 33)).alloc (.cells #[.int .i64 0] 25)).cell? ⟨w.heap.size, 0, none⟩ = some (.int .i64 u) := by simp [go_sem]
  have k2 : ((w.alloc (.cells #[.int .i64 u, .int .i64 g, .slice ga 0 gc, .int .i64 um, .int .i64 cw] 33)).alloc (.cells #[.int .i64 0] 25)).cell? ⟨w.heap.size, 1, none⟩ = some (.int .i64 g) := by simp [go_sem]
  have k3 : ((w.alloc (.cells #[.int .i64 u, .int .i64 g, .slice ga 0 gc, .int .i64 um, .int .i64 cw] 33)).alloc (.cells #[.int .i64 0] 25)).cell? ⟨w.heap.size, 2, none⟩ = some (.slice ga 0 gc) := by simp [go_sem]
  have k4 : ((w.alloc (.cells #[.int .i64 u, .int .i64 g, .slice ga 0 gc, .int .i64 um, .int .i64 cw] 33)).alloc (.cells #[.int .i64 0] 25)).cell? ⟨w.heap.size, 3, none⟩ = some (.int .i64 um) := by simp [go_sem]
  have k5 : ((w.alloc (.cells #[.int .i64 u, .int .i64 g, .slice ga 0 gc, .int .i64 um, .int .i64 cw] 33)).alloc (.cells #[.int .i64 0] 25)).cell? ⟨w.heap.size, 4, none⟩ = some (.int .i64 cw) := by simp [go_sem]
  have k6 : ((w.alloc (.cells #[.int .i64 u, .int .i64 g, .slice ga 0 gc, .int .i64 um, .int .i64 cw] 33)).alloc (.cells #[.int .i64 0] 25)).cell? ⟨w.heap.size + 1, 0, none⟩ = some (.int .i64 0) := by simp [go_sem]
  have k7 : ((w.alloc (.cells #[.int .i64 u, .int .i64 g, .slice ga 0 gc, .int .i64 um, .int .i64 cw] 33)).alloc (.cells #[.int .i64 0] 25)).frozen? ⟨w.heap.size + 1, 0, none⟩ = false := by simp [go_sem]
  have HM2 := hid6 (((Mod.refl (fun _ => False) w).alloc (.cells #[.int .i64 u, .int .i64 g, .slice ga 0 gc, .int .i64 um, .int .i64 cw] 33)).alloc (.cells #[.int .i64 0] 25))
  have hsz : w.heap.size + 2 = ((w.alloc (.cells #[.int .i64 u, .int .i64 g, .slice ga 0 gc, .int .i64 um, .int .i64 cw] 33)).alloc (.cells #[.int .i64 0] 25)).heap.size := by simp
  have HSz := hid6 hsz
  clear hsz
  generalize (w.alloc (.cells #[.int .i64 u, .int .i64 g, .slice ga 0 gc, .int .i64 um, .int .i64 cw] 33)).alloc (.cells #[.int .i64 0] 25) = W2 at *
  go_cut [8] from 13 to 17 (fun v8 wc => ∃ K B8 : Nat, v8 = .pointer (some ⟨B8, 0, none⟩) ∧ wc.cell? ⟨B8, 0, none⟩ = some (.pointer (some ⟨K, 0, none⟩)) ∧ wc.cell? ⟨w.heap.size + 1, 0, none⟩ = some (.int .i64 0) ∧ wc.frozen? ⟨w.heap.size + 1, 0, none⟩ = false ∧ ¬ K = w.heap.size + 1 ∧ Hid (TkNew w wc K t u g ga gc um cw))
  case first =>
    refine wp_only6 ?_
    go_region_held (fun W' => W'.cell? ⟨fb, 0, none⟩ = some (.pointer (some ⟨t, 0, none⟩)) ∧ W'.cell? ⟨w.heap.size, 0, none⟩ = some (.int .i64 u) ∧ W'.cell? ⟨w.heap.size, 1, none⟩ = some (.int .i64 g) ∧ W'.cell? ⟨w.heap.size, 2, none⟩ = some (.slice ga 0 gc) ∧ W'.cell? ⟨w.heap.size, 3, none⟩ = some (.int .i64 um) ∧ W'.cell? ⟨w.heap.size, 4, none⟩ = some (.int .i64 cw)) (go_keep)
      (first | (go_at_call 39; refine (HTab.out _ (by first | assumption | go_keep)).mono ?_; rintro e w1 ⟨rfl, hw1⟩; rw [hw1]; clear hw1 w1))
    all_goals simp only [OnlyN6]
    all_goals
      go_wp2_with fail
      go_meet
      first | exact ⟨_, _, rfl, tk_lay1 HM2.out HSz.out k6 k7⟩ | exact ⟨_, _, rfl, tk_lay2 HM2.out HSz.out k6 k7⟩
  case rest =>
    obtain ⟨K, B8, rfl, h8, hE, fE, hKE, HN⟩ := hcut
    go_wp2_with fail
    refine Calls.mono (HW.out wc K HN.out) ?_
    rintro e w5 ⟨ra, rl, rc, rfl, M5, hQ5⟩
    have hEl : w.heap.size + 1 < wc.heap.size := block_lt_of_cell hE
    have hn5 : ¬ (S (w.heap.size + 1) ∨ w.heap.size + 1 = K) := fun e => by rcases e with e | e; have := HSl.out _ e; omega; omega
    have c5 : w5.cell? ⟨w.heap.size + 1, 0, none⟩ = some (.int .i64 0) := (M5.cell (p := ⟨w.heap.size + 1, 0, none⟩) hEl hn5).trans hE
    have f5 : w5.frozen? ⟨w.heap.size + 1, 0, none⟩ = false := (M5.frozen (p := ⟨w.heap.size + 1, 0, none⟩) hEl hn5).trans fE
    have HF : Hid (Mod S w (w5.setCell ⟨w.heap.size + 1, 0, none⟩ (.int .i64 0)) ∧ Q ra rl rc wc.heap.size (w5.setCell ⟨w.heap.size + 1, 0, none⟩ (.int .i64 0))) := ⟨Mod.andNew (Mod.fromNew HN.out.M M5 HN.out.le) (B := w.heap.size + 1) ((Mod.refl _ _).setCell _ _ rfl) (by omega), HQ.out _ _ _ _ _ _ _ hQ5 hEl ((Mod.refl _ _).setCell _ _ rfl)⟩
    have e5 : (w5.setCell ⟨w.heap.size + 1, 0, none⟩ (.int .i64 0)).cell? ⟨w.heap.size + 1, 0, none⟩ = some (.int .i64 0) := World.cell?_setCell_same _ _ _ c5
    clear M5 hQ5 HN HW HQ hE fE h8
    go_wp2_with fail
    refine leaves_cons (f := 192) (args := #[.pointer (some ⟨w.heap.size + 1, 0, none⟩), .pointer (some ⟨B8, 0, none⟩)]) (by simp) (by simp [go_sem]) ?_
    refine (idleBytes ⟨w.heap.size + 1, 0, none⟩ ⟨B8, 0, none⟩ _).mono ?_
    rintro e u' w2 ⟨rfl, rfl, rfl⟩
    simp [Leaves, settle, results, Tryz.results188, go_sem, e5]
    exact ⟨ra, rl, rc, ⟨rfl, rfl, rfl⟩, HF.out.1, _, HF.out.2⟩
section
variable {w : World} {fb t : Nat}
set_option maxRecDepth 100000 in
set_option maxHeartbeats 2000000 in
theorem fsReadAt (hf : FsAt w fb t) (i off n : Int) (S : Nat → Prop) (hSl : ∀ x, S x → x < w.heap.size) (Q : Option Addr → Nat → Nat → Nat → World → Prop) (hQ : ∀ ra rl rc s E a b, Q ra rl rc s a → E < s → Mod (fun x => x = E) a b → Q ra rl rc s b)
    (hW : ∀ W K b1 b2 b3, TkNew w W K t 0 0 none 0 0 0 → (w.heap.size ≤ b1 ∧ w.heap.size ≤ b2 ∧ w.heap.size ≤ b3) → W.cell? ⟨b1, 0, none⟩ = some (.int .i64 i) → W.cell? ⟨b2, 0, none⟩ = some (.int .i64 off) → W.cell? ⟨b3, 0, none⟩ = some (.int .i64 n) → Calls Tryz.prog 189 #[.pointer (some ⟨K, 0, none⟩), .pointer (some ⟨b1, 0, none⟩), .pointer (some ⟨b2, 0, none⟩), .pointer (some ⟨b3, 0, none⟩)] W fun e w' => ∃ ra rl rc, e = .returned (.slice ra rl rc) ∧ Mod (fun x => S x ∨ x = K) W w' ∧ Q ra rl rc W.heap.size w') :
    Calls Tryz.prog 186 #[.pointer (some ⟨fb, 0, none⟩), .int .i64 i, .int .i64 off, .int .i64 n] w fun e w' => ∃ ra rl rc s, e = .returned (.tuple #[.slice ra rl rc, .int .i64 0]) ∧ Mod S w w' ∧ Q ra rl rc s w' := by
  have hmf : ∀ (fn : Fn) (first cap : Array Value) (w : World), (Instr.makeFunc fn first cap).run Tryz.prog w = .ok (.func fn first cap) w := fun _ _ _ _ => rfl
  have hfb : fb < w.heap.size := block_lt_of_cell hf
  have HA : Hid (∀ W, Mod (fun _ => False) w W → W.cell? ⟨w.heap.size, 0, none⟩ = some (.int .i64 i) → W.cell? ⟨w.heap.size + 1, 0, none⟩ = some (.int .i64 off) → W.cell? ⟨w.heap.size + 2, 0, none⟩ = some (.int .i64 n) → _) := fun W hM e1 e2 e3 =>
    askRead (w := W) (fb := fb) (t := t) ((hM.cell (p := ⟨fb, 0, none⟩) hfb (fun e => e)).trans hf) 0 0 none 0 0 0 ⟨w.heap.size, 0, none⟩ ⟨w.heap.size + 1, 0, none⟩ ⟨w.heap.size + 2, 0, none⟩ S (fun x hx => Nat.lt_of_lt_of_le (hSl x hx) hM.size) Q hQ
      (fun W' K hN => hW W' K _ _ _ ⟨hM.trans hN.M, Nat.le_trans hM.size hN.le, hN.k, hN.b6, hN.fr⟩ ⟨Nat.le_refl _, by omega, by omega⟩ ((hN.M.cell (p := ⟨w.heap.size, 0, none⟩) (block_lt_of_cell e1) (fun e => e)).trans e1) ((hN.M.cell (p := ⟨w.heap.size + 1, 0, none⟩) (block_lt_of_cell e2) (fun e => e)).trans e2) ((hN.M.cell (p := ⟨w.heap.size + 2, 0, none⟩) (block_lt_of_cell e3) (fun e => e)).trans e3))
  have HM0 : Hid (∀ o o1 o2, Mod (fun _ => False) w (((w.alloc o).alloc o1).alloc o2)) := fun o o1 o2 => (((Mod.refl _ w).alloc o).alloc o1).alloc o2
  have HFn : Hid (∀ (W w' : World), Mod (fun _ => False) w W → Mod S W w' → Mod S w w') := fun W w' h1 h2 => (h1.mono (fun _ _ e => e.elim)).trans h2
  clear hQ hW hSl hf
  go_enter Tryz.func186, Tryz.ntmps186
  go_wp2_with fail
  refine Calls.mono (HA.out _ (HM0.out _ _ _) (by simp [go_sem]) (by simp [go_sem]) (by simp [go_sem])) ?_
  rintro e w1 ⟨ra, rl, rc, s, rfl, M1, hq1⟩
  have HR := hid6 (show Mod S w w1 ∧ Q ra rl rc s w1 from ⟨HFn.out _ _ (HM0.out _ _ _) M1, hq1⟩)
  clear M1 hq1
  go_wp2
  go_ret2
  exact ⟨ra, rl, rc, s, rfl, HR.out⟩
end
set_option maxRecDepth 100000 in
set_option maxHeartbeats 2000000 in
theorem tReadWork {w : World} {k t b1 b2 b3 : Nat} (c0 : w.cell? ⟨k, 0, none⟩ = some (.pointer (some ⟨t, 0, none⟩))) (i off n : Int) (c1 : w.cell? ⟨b1, 0, none⟩ = some (.int .i64 i)) (c2 : w.cell? ⟨b2, 0, none⟩ = some (.int .i64 off)) (c3 : w.cell? ⟨b3, 0, none⟩ = some (.int .i64 n))
    (f : Nat → Int) (hS : StA w k i f) (hr : bits .and .i64 (f 0) 61440 = 32768) (S : Nat → Prop) (hn : ¬ S k ∧ ¬ S b1 ∧ ¬ S b2 ∧ ¬ S b3) (Q : Option Addr → Nat → Nat → World → Prop)
    (hW : ∀ W, Mod (fun _ => False) w W → Calls Tryz.prog 114 #[.pointer (some ⟨t, 0, none⟩), .int .i64 i, .int .i64 off, .int .i64 n] W fun e w' => ∃ ra rl rc, e = .returned (.tuple #[.slice ra rl rc, .int .i64 0]) ∧ Mod S W w' ∧ Q ra rl rc w') :
    Calls Tryz.prog 189 #[.pointer (some ⟨k, 0, none⟩), .pointer (some ⟨b1, 0, none⟩), .pointer (some ⟨b2, 0, none⟩), .pointer (some ⟨b3, 0, none⟩)] w fun e w' => ∃ ra rl rc, e = .returned (.slice ra rl rc) ∧ Mod S w w' ∧ Q ra rl rc w' := by
  have HS := hid6 hS
  have HW := hid6 hW
  have HP : Hid (∀ s0 s1 s2 s3 s4 s5 s7 s8 s9 W, _) := fun s0 s1 s2 s3 s4 s5 s7 s8 s9 W => tPlain s0 s1 s2 s3 s4 s5 (f 0) s7 s8 s9 W hr
  have HFn : Hid (∀ (W w' : World), Mod (fun _ => False) w W → Mod S W w' → Mod S w w') := fun W w' h1 h2 => (h1.mono (fun _ _ e => e.elim)).trans h2
  have hk := block_lt_of_cell c0
  have h1 := block_lt_of_cell c1
  have h2 := block_lt_of_cell c2
  have h3 := block_lt_of_cell c3
  clear hS hW hr
  go_enter Tryz.func189, Tryz.ntmps189
  go_wp2_with fail
  refine (HS.out _ (Mod.refl _ _)).mono ?_
  rintro e w1 ⟨⟨bl, rfl⟩, M1⟩
  have HM1 := hid6 M1
  clear M1
  go_wp2_with fail
  refine Calls.mono (HP.out _ _ _ _ _ _ _ _ _ _) ?_
  rintro e w2 ⟨rfl, M2⟩
  have HM2 := hid6 (HM1.out.trans M2)
  clear M2
  have d0 := (HM2.out.cell (p := ⟨k, 0, none⟩) hk (fun e => e)).trans c0
  have d1 := (HM2.out.cell (p := ⟨b1, 0, none⟩) h1 (fun e => e)).trans c1
  have d2 := (HM2.out.cell (p := ⟨b2, 0, none⟩) h2 (fun e => e)).trans c2
  have d3 := (HM2.out.cell (p := ⟨b3, 0, none⟩) h3 (fun e => e)).trans c3
  clear c0 c1 c2 c3 hk h1 h2 h3
  have HSt : Hid (∀ w', Mod S (w2.drewN 1) w' → w'.cell? ⟨k, 0, none⟩ = some (.pointer (some ⟨t, 0, none⟩)) ∧ w'.cell? ⟨b1, 0, none⟩ = some (.int .i64 i) ∧ w'.cell? ⟨b2, 0, none⟩ = some (.int .i64 off) ∧ w'.cell? ⟨b3, 0, none⟩ = some (.int .i64 n)) := fun w' hM => ⟨(hM.cell (p := ⟨k, 0, none⟩) (block_lt_of_cell d0) hn.1).trans d0, (hM.cell (p := ⟨b1, 0, none⟩) (block_lt_of_cell d1) hn.2.1).trans d1, (hM.cell (p := ⟨b2, 0, none⟩) (block_lt_of_cell d2) hn.2.2.1).trans d2, (hM.cell (p := ⟨b3, 0, none⟩) (block_lt_of_cell d3) hn.2.2.2).trans d3⟩
  go_upto_region 2 with fail
  go_cut [6, 7] (fun v6 v7 wc => ∃ ra rl rc, v6 = .slice ra rl rc ∧ v7 = .int .i64 0 ∧ Hid (Mod S w wc ∧ Q ra rl rc wc))
  case first =>
    refine wp_only6 ?_
    go_region_held (fun W' => W'.cell? ⟨k, 0, none⟩ = some (.pointer (some ⟨t, 0, none⟩)) ∧ W'.cell? ⟨b1, 0, none⟩ = some (.int .i64 i) ∧ W'.cell? ⟨b2, 0, none⟩ = some (.int .i64 off) ∧ W'.cell? ⟨b3, 0, none⟩ = some (.int .i64 n)) (first | with_reducible exact hS1 | go_keep)
      (first | (go_at_call 114; refine (HW.out _ (HM2.out.drewN 1)).mono ?_; rintro e w3 ⟨ra, rl, rc, rfl, M3, q3⟩; have hS1 := HSt.out _ M3; have HR := hid6 (And.intro (HFn.out _ _ (HM2.out.drewN 1) M3) q3); clear M3 q3))
    all_goals simp only [OnlyN6]
    all_goals
      go_wp2_with fail
      go_meet
      exact ⟨ra, rl, rc, rfl, rfl, HR⟩
  case rest =>
    obtain ⟨ra, rl, rc, rfl, rfl, HR⟩ := hcut
    go_wp2_with (first | (go_at_call 57; refine (must_no _).mono ?_; rintro e w3 ⟨rfl, hw3⟩; rw [hw3]; clear hw3 w3))
    go_ret
    exact ⟨ra, rl, rc, rfl, HR.out⟩
end Go.Proofs.YtpcbpikhiooafaaGreatDoor
