/- Several texts of this claim, one behind the other, in their order. -/
import Derived.Test.YtpohjgnfndgniaaGreatDoorM22
import Derived.Test.YtpohjgnfndgniaaGreatDoorM16
/- Mkdir and Symlink of the file system around their works. Conditions: the file system lies in memory; what the works do. -/
namespace Go.Proofs.YtpohjgnfndgniaaGreatDoor
open Go.RowKit
section
variable {w : World} {fb t : Nat}
set_option maxRecDepth 100000 in
set_option maxHeartbeats 2000000 in
theorem fsMkdir (hf : FsAt w fb t) (u g : Int) (ga : Option Addr) (gc : Nat) (um cw : Int) (l : List UInt8) (m : Int) (S : Nat → Prop) (hSl : ∀ x, S x → x < w.heap.size) (Q : World → Prop) (hQ : ∀ a b, Q a → Mod (fun x => w.heap.size ≤ x) a b → Q b)
    (hW : ∀ W K b1 b2, TkNew w W K t u g ga gc um cw → ((w.heap.size ≤ b1 ∧ b1 < K) ∧ (w.heap.size ≤ b2 ∧ b2 < K)) → W.cell? ⟨b1, 0, none⟩ = some (.string ⟨l.toArray⟩) → W.cell? ⟨b2, 0, none⟩ = some (.int .i64 m) → Calls Tryz.prog 64 #[.pointer (some ⟨K, 0, none⟩), .pointer (some ⟨b1, 0, none⟩), .pointer (some ⟨b2, 0, none⟩)] W fun e w' => e = .returned (.tuple #[]) ∧ Mod (fun x => S x ∨ x = K) W w' ∧ Q w') :
    Calls Tryz.prog 11 #[.pointer (some ⟨fb, 0, none⟩), .agg #[.int .i64 u, .int .i64 g, .slice ga 0 gc, .int .i64 um, .int .i64 cw], .string ⟨l.toArray⟩, .int .i64 m] w fun e w' => e = .returned (.int .i64 0) ∧ Mod S w w' ∧ Q w' := by
  have hmf : ∀ (fn : Fn) (first cap : Array Value) (w : World), (Instr.makeFunc fn first cap).run Tryz.prog w = .ok (.func fn first cap) w := fun _ _ _ _ => rfl
  have hfb : fb < w.heap.size := block_lt_of_cell hf
  have HA : Hid (∀ W, Mod (fun _ => False) w W → W.cell? ⟨w.heap.size + 1, 0, none⟩ = some (.string ⟨l.toArray⟩) → W.cell? ⟨w.heap.size + 2, 0, none⟩ = some (.int .i64 m) → _) := fun W hM e1 e2 =>
    doMkdir (w := W) (fb := fb) (t := t) ((hM.cell (p := ⟨fb, 0, none⟩) hfb (fun e => e)).trans hf) u g ga gc um cw ⟨w.heap.size + 1, 0, none⟩ ⟨w.heap.size + 2, 0, none⟩ S (fun x hx => Nat.lt_of_lt_of_le (hSl x hx) hM.size) Q (fun a b hq hm => hQ a b hq (hm.mono (fun _ _ e => Nat.le_trans hM.size e)))
      (fun W' K hN => hW W' K _ _ ⟨hM.trans hN.M, Nat.le_trans hM.size hN.le, hN.k, hN.b6, hN.fr⟩ ⟨⟨by omega, Nat.lt_of_lt_of_le (block_lt_of_cell e1) hN.le⟩, ⟨by omega, Nat.lt_of_lt_of_le (block_lt_of_cell e2) hN.le⟩⟩ ((hN.M.cell (p := ⟨w.heap.size + 1, 0, none⟩) (block_lt_of_cell e1) (fun e => e)).trans e1) ((hN.M.cell (p := ⟨w.heap.size + 2, 0, none⟩) (block_lt_of_cell e2) (fun e => e)).trans e2))
  have HM0 : Hid (∀ o o1 o2, Mod (fun _ => False) w (((w.alloc o).alloc o1).alloc o2)) := fun o o1 o2 => ((((Mod.refl _ w).alloc o).alloc o1).alloc o2)
  have HFn : Hid (∀ (W w' : World), Mod (fun _ => False) w W → Mod S W w' → Mod S w w') := fun W w' h1 h2 => (h1.mono (fun _ _ e => e.elim)).trans h2
  clear hQ hW hSl hf
  go_enter Tryz.func11, Tryz.ntmps11
  go_wp2_with fail
  refine Calls.mono (HA.out _ (HM0.out _ _ _) (by simp [go_sem]) (by simp [go_sem])) ?_
  rintro e w1 ⟨rfl, M1, hq1⟩
  have HR := hid6 (show Mod S w w1 ∧ Q w1 from ⟨HFn.out _ _ (HM0.out _ _ _) M1, hq1⟩)
  clear M1 hq1
  go_wp2
  go_ret
  exact ⟨rfl, HR.out⟩
set_option maxRecDepth 100000 in
set_option maxHeartbeats 2000000 in
theorem fsSymlink (hf : FsAt w fb t) (u g : Int) (ga : Option Addr) (gc : Nat) (um cw : Int) (tg l : List UInt8) (S : Nat → Prop) (hSl : ∀ x, S x → x < w.heap.size) (Q : World → Prop) (hQ : ∀ a b, Q a → Mod (fun x => w.heap.size ≤ x) a b → Q b)
    (hW : ∀ W K b1 b2, TkNew w W K t u g ga gc um cw → ((w.heap.size ≤ b1 ∧ b1 < K) ∧ (w.heap.size ≤ b2 ∧ b2 < K)) → W.cell? ⟨b1, 0, none⟩ = some (.string ⟨tg.toArray⟩) → W.cell? ⟨b2, 0, none⟩ = some (.string ⟨l.toArray⟩) → Calls Tryz.prog 77 #[.pointer (some ⟨K, 0, none⟩), .pointer (some ⟨b1, 0, none⟩), .pointer (some ⟨b2, 0, none⟩)] W fun e w' => e = .returned (.tuple #[]) ∧ Mod (fun x => S x ∨ x = K) W w' ∧ Q w') :
    Calls Tryz.prog 13 #[.pointer (some ⟨fb, 0, none⟩), .agg #[.int .i64 u, .int .i64 g, .slice ga 0 gc, .int .i64 um, .int .i64 cw], .string ⟨tg.toArray⟩, .string ⟨l.toArray⟩] w fun e w' => e = .returned (.int .i64 0) ∧ Mod S w w' ∧ Q w' := by
  have hmf : ∀ (fn : Fn) (first cap : Array Value) (w : World), (Instr.makeFunc fn first cap).run Tryz.prog w = .ok (.func fn first cap) w := fun _ _ _ _ => rfl
  have hfb : fb < w.heap.size := block_lt_of_cell hf
  have HA : Hid (∀ W, Mod (fun _ => False) w W → W.cell? ⟨w.heap.size + 1, 0, none⟩ = some (.string ⟨tg.toArray⟩) → W.cell? ⟨w.heap.size + 2, 0, none⟩ = some (.string ⟨l.toArray⟩) → _) := fun W hM e1 e2 =>
    doSymlink (w := W) (fb := fb) (t := t) ((hM.cell (p := ⟨fb, 0, none⟩) hfb (fun e => e)).trans hf) u g ga gc um cw ⟨w.heap.size + 1, 0, none⟩ ⟨w.heap.size + 2, 0, none⟩ S (fun x hx => Nat.lt_of_lt_of_le (hSl x hx) hM.size) Q (fun a b hq hm => hQ a b hq (hm.mono (fun _ _ e => Nat.le_trans hM.size e)))
      (fun W' K hN => hW W' K _ _ ⟨hM.trans hN.M, Nat.le_trans hM.size hN.le, hN.k, hN.b6, hN.fr⟩ ⟨⟨by omega, Nat.lt_of_lt_of_le (block_lt_of_cell e1) hN.le⟩, ⟨by omega, Nat.lt_of_lt_of_le (block_lt_of_cell e2) hN.le⟩⟩ ((hN.M.cell (p := ⟨w.heap.size + 1, 0, none⟩) (block_lt_of_cell e1) (fun e => e)).trans e1) ((hN.M.cell (p := ⟨w.heap.size + 2, 0, none⟩) (block_lt_of_cell e2) (fun e => e)).trans e2))
  have HM0 : Hid (∀ o o1 o2, Mod (fun _ => False) w (((w.alloc o).alloc o1).alloc o2)) := fun o o1 o2 => ((((Mod.refl _ w).alloc o).alloc o1).alloc o2)
  have HFn : Hid (∀ (W w' : World), Mod (fun _ => False) w W → Mod S W w' → Mod S w w') := fun W w' h1 h2 => (h1.mono (fun _ _ e => e.elim)).trans h2
  clear hQ hW hSl hf
  go_enter Tryz.func13, Tryz.ntmps13
  go_wp2_with fail
  refine Calls.mono (HA.out _ (HM0.out _ _ _) (by simp [go_sem]) (by simp [go_sem])) ?_
  rintro e w1 ⟨rfl, M1, hq1⟩
  have HR := hid6 (show Mod S w w1 ∧ Q w1 from ⟨HFn.out _ _ (HM0.out _ _ _) M1, hq1⟩)
  clear M1 hq1
  go_wp2
  go_ret
  exact ⟨rfl, HR.out⟩
end
end Go.Proofs.YtpohjgnfndgniaaGreatDoor
/- A call's frame where the work gives up: the deferred closure of ask takes the error. Conditions: the task has nothing to give back. -/
namespace Go.Proofs.YtpohjgnfndgniaaGreatDoor
open Go.RowKit
/-- What the body of a deferred function must achieve that holds a range over a function. -/
def bodyPostSM (P : Program) (fn : Func) (c₀ : Frame) (cs : List Frame) (R : Ending → FrameMode → World → Prop) : Exit → Act → List Frame → World → Prop
  | .normal, a, cs', w | .ret, a, cs', w => ∃ r w' u', a.defers = [{ target := .collected r, args := #[] }] ∧ (Instr.takeDeferred r).run P w = .ok [] w' ∧ cs' = { c₀ with mode := u' } :: cs ∧ ∃ v, (results fn a.tmps).run P w' = .ok v w' ∧ R (.returned v) u' w'
  | _, _, _, _ => False
theorem callsD_of_wpSM {P : Program} {f : FuncId} {fn : Func} {c : Code} {args : Array Value} {u : FrameMode} {w : World} {R : Ending → FrameMode → World → Prop}
    (hf : P.funcs[f]? = some fn) (hb : fn.body = some c)
    (h : ∀ (c₀ : Frame) (cs : List Frame), c₀.mode = u →
      c.wpS P (bodyPostSM P fn c₀ cs R) { tmps := args ++ Array.replicate (fn.ntmps - args.size) undef, defers := [] } (c₀ :: cs) w) :
    CallsD P f args u w R := by
  intro c₀ cs hu
  let b : Frame := { (default : Frame) with fn := f, kind := .deferred }
  have henter : Frame.enter P f args .deferred =
      b.at { tmps := args ++ Array.replicate (fn.ntmps - args.size) undef, defers := [] } [.code c] := by
    simp [Frame.enter, Frame.at, hf, hb, b]
  obtain ⟨e, a', cs', w', hq, harr⟩ := h c₀ cs hu b [] rfl rfl
  rw [← henter] at harr
  cases e with
  | normal =>
    obtain ⟨r, w2, u', hd, ht, rfl, v, hr, hR⟩ := hq
    exact ⟨.returned v, u', w2, _, hR, Steps.trans (Steps.trans harr (.one step_end)) (.one (step_collected (fr := { b.at a' [] with mode := .returning }) (by simp) hd rfl ht)), rfl, rfl, rfl, fn, hf, hr⟩
  | ret =>
    obtain ⟨r, w2, u', hd, ht, rfl, v, hr, hR⟩ := hq
    obtain ⟨todo, hs⟩ := harr
    exact ⟨.returned v, u', w2, _, hR, Steps.trans hs (.one (step_collected (fr := { b.at a' todo with mode := .returning }) (by simp) hd rfl ht)), rfl, rfl, rfl, fn, hf, hr⟩
  | panic chain => exact hq.elim
  | exit id => exact hq.elim
  | goto l => exact hq.elim
  | outgrown => exact hq.elim
theorem mod_grown4 {b c : World} {r : Option Nat} (hg : b.grownBy c r) : Mod (fun x => r = some x) b c := ⟨hg.os, hg.tape, hg.output, hg.size, fun k hk hs => hg.block k hk (fun e => hs (by first | exact e.symm | exact e))⟩
/-- The iterator over a list backwards, where there is nothing. -/
theorem back1 (own : Nat → Prop) (ba : Nat) (w : World) (h : w.cell? ⟨ba, 0, none⟩ = some (.slice none 0 0)) :
    SeqA Tryz.prog 182 #[.pointer (some ⟨ba, 0, none⟩)] (fun _ : Nat => #[.int .i64 0, .int .i64 0]) own [] w := fun l J Jx W hW _ _ _ h0 => by
  have hc : W.cell? ⟨ba, 0, none⟩ = some (.slice none 0 0) := (hW.cell (p := ⟨ba, 0, none⟩) (block_lt_of_cell h)).trans h
  refine callsIn_of_wp Tryz.func182 rfl trivial ?_ rfl
  simp only [Tryz.ntmps182, List.size_toArray, List.length_cons, List.length_nil, Nat.reduceAdd, Nat.reduceSub, Array.replicate_succ, Array.replicate_zero, List.push_toArray, List.append_toArray, List.nil_append, List.cons_append]
  have HJ0 := hid6 h0
  clear h0 hW h
  gi_wp2
  gi_loopw [3] (fun x wx => x = .int .i64 (-1) ∧ Hid (J [] wx)) (fun _ _ => 0)
  case atStart => exact ⟨rfl, HJ0⟩
  case round =>
    obtain ⟨rfl, HJr⟩ := hrel
    gi_wp2
    exact ⟨rfl, _, results_none rfl _ _ _, ⟨_, rfl⟩, .inl HJr.out⟩
set_option maxRecDepth 100000 in
set_option maxHeartbeats 2000000 in
theorem backward0 (w : World) : Calls Tryz.prog 123 #[.slice none 0 0] w fun e w' => e = .returned (.func (.func 182) #[] #[.pointer (some ⟨w.heap.size, 0, none⟩)]) ∧ w'.cell? ⟨w.heap.size, 0, none⟩ = some (.slice none 0 0) ∧ Mod (fun _ => False) w w' := by
  have hmf : ∀ (fn : Fn) (first cap : Array Value) (w : World), (Instr.makeFunc fn first cap).run Tryz.prog w = .ok (.func fn first cap) w := fun _ _ _ _ => rfl
  have HM := hid6 (fun o => (Mod.refl (fun _ => False) w).alloc o)
  go_enter Tryz.func123, Tryz.ntmps123
  go_wp2
  go_ret
  exact ⟨rfl, by simp [go_sem], HM.out _⟩
theorem ta_errno (e : Int) (W : World) : (Instr.typeAssert (.iface 34 (.int .i64 e)) 20 34 true).run Tryz.prog W = .ok (.tuple #[.int .i64 e, .bool true]) W := by kernel_rfl
set_option maxRecDepth 100000 in
set_option maxHeartbeats 2000000 in
theorem catchBool (e x : Int) (p q k : Nat) (w : World) (hp : w.cell? ⟨p, 0, none⟩ = some (.int .i64 x)) (zp : w.frozen? ⟨p, 0, none⟩ = false) (hq : w.cell? ⟨q, 0, none⟩ = some (.pointer (some ⟨k, 0, none⟩))) (hk : w.cell? ⟨k, 6, none⟩ = some (.slice none 0 0)) (hpq : ¬ q = p) (hpk : ¬ k = p) :
    CallsD Tryz.prog 191 #[.pointer (some ⟨p, 0, none⟩), .pointer (some ⟨q, 0, none⟩)] (.panicking (EP e)) w fun r u' w' =>
      r = .returned (.tuple #[]) ∧ u' = .panicking [{ v := .iface 34 (.int .i64 e), recovered := true }] ∧ Mod (fun y => y = p) w w' ∧ w'.cell? ⟨p, 0, none⟩ = some (.int .i64 e) := by
  refine callsD_of_wpSM Tryz.func191 rfl fun c₀ cs hu => ?_
  unfold EP at hu
  apply wpS_seq
  generalize hQ : Exit.thenS _ _ = Q2
  apply wpS_seq
  apply wpS_region
  simp [wpOpsS, go_sem, recoverD, hu, Tryz.ntmps191, Exit.thenS]
  simp only [Array.replicate_succ, Array.replicate_zero, List.push_toArray, List.setIfInBounds_toArray, List.set_cons_succ, List.set_cons_zero, List.append_toArray, List.nil_append, List.cons_append]
  have hta := ta_errno e
  have HM : Hid (Mod (fun y => y = p) w (w.setCell ⟨p, 0, none⟩ (.int .i64 e))) := (Mod.refl _ w).setCell _ _ rfl
  have c1 : (w.setCell ⟨p, 0, none⟩ (.int .i64 e)).cell? ⟨p, 0, none⟩ = some (.int .i64 e) := World.cell?_setCell_same _ _ _ hp
  have c2 : (w.setCell ⟨p, 0, none⟩ (.int .i64 e)).cell? ⟨q, 0, none⟩ = some (.pointer (some ⟨k, 0, none⟩)) := (World.cell?_setCell_other _ _ _ _ (fun e => hpq (congrArg Addr.block e).symm)).trans hq
  have c3 : (w.setCell ⟨p, 0, none⟩ (.int .i64 e)).cell? ⟨k, 6, none⟩ = some (.slice none 0 0) := (World.cell?_setCell_other _ _ _ _ (fun e => hpk (congrArg Addr.block e).symm)).trans hk
  refine wpS_of_wp ?_
  go_wp2
  rw [← hQ]
  clear hQ
  generalize w.setCell ⟨p, 0, none⟩ (.int .i64 e) = W1 at *
  show Code.wpS _ _ _ _ _ _
  refine wpS_of_wp ?_
  go_wp2_with fail
  refine (backward0 _).mono ?_
  rintro r w2 ⟨rfl, hb, M2⟩
  have d1 : w2.cell? ⟨p, 0, none⟩ = some (.int .i64 e) := (M2.cell (p := ⟨p, 0, none⟩) (block_lt_of_cell c1) (fun e => e)).trans c1
  go_wp2_with fail
  refine (wpIn_wide (n := 9)).1 ?_
  refine wpIn_rangeA rfl (enters_of Tryz.func182 (by kernel_rfl) rfl) (back1 (fun _ => False) W1.heap.size _ hb) (Below.refl _ _) (fun _ => rfl)
    (fun _ V => Below w2.heap.size w2 V) (fun _ _ _ => False) (abidesB_below (Nat.le_refl _) (Nat.le_refl _)) (fun _ => abidesB_pure _ _) (Below.refl _ _) ?round ?done ?stop
  case round =>
    rintro l' pre x V hl' hl2 hI hpre
    have h1 := hpre.length_le
    simp at h1
  case stop =>
    rintro DD cc pre V hDD hpre hX hK
    exact hX.elim
  case done =>
    rintro D1 V1 hD1 hB1 hK1
    have M3 : Mod (fun _ => False) w2 (V1.putObj D1 (.deferred none)) := (mod_below hB1).new6 (mod_grown4 (grownBy_putObj' V1 D1 (.deferred none))) (fun x e => by cases e; exact hD1)
    show ∃ _, _
    refine ⟨D1, _, _, rfl, run_takeDeferred hK1, rfl, _, results_none rfl _ _ _, rfl, rfl, ?_, ?_⟩
    · exact HM.out.trans ((M2.trans M3).mono (fun _ _ h => h.elim))
    · exact (M3.cell (p := ⟨p, 0, none⟩) (block_lt_of_cell d1) (fun e => e)).trans d1
end Go.Proofs.YtpohjgnfndgniaaGreatDoor
/- A call that gives up: ask and do answer the error; Rename of the file system there. Conditions: the file system lies in memory; the work gives up and changes nothing. -/
namespace Go.Proofs.YtpohjgnfndgniaaGreatDoor
open Go.RowKit
set_option maxRecDepth 100000 in
set_option maxHeartbeats 4000000 in
theorem askDoF {w : World} {fb t : Nat} (hf : FsAt w fb t) (u g : Int) (ga : Option Addr) (gc : Nat) (um cw : Int) (p1 : Addr) (er : Int)
    (hW : ∀ W K, TkNew w W K t u g ga gc um cw → Calls Tryz.prog 138 #[.pointer (some ⟨K, 0, none⟩), .pointer (some p1)] W fun e w' => e = .panicked (EP er) ∧ Mod (fun _ => False) W w') :
    Calls Tryz.prog 137 #[.pointer (some ⟨fb, 0, none⟩), .agg #[.int .i64 u, .int .i64 g, .slice ga 0 gc, .int .i64 um, .int .i64 cw], .func (.func 138) #[] #[.pointer (some p1)]] w fun e w' => e = .returned (.tuple #[.bool false, .int .i64 er]) ∧ Mod (fun _ => False) w w' := by
  have hmf : ∀ (fn : Fn) (first cap : Array Value) (w : World), (Instr.makeFunc fn first cap).run Tryz.prog w = .ok (.func fn first cap) w := fun _ _ _ _ => rfl
  have HW := hid6 hW
  have hfb : fb < w.heap.size := block_lt_of_cell hf
  unfold FsAt at hf
  have HTab : Hid (∀ W : World, W.cell? ⟨fb, 0, none⟩ = some (.pointer (some ⟨t, 0, none⟩)) → _) := fun W h => tTable fb _ W h
  clear hW
  go_enter_defers Tryz.func137, Tryz.ntmps137
  go_upto_region 3 with (first | (go_at_call 99; refine (HTab.out _ (by simp [go_sem, hf, hfb])).mono ?_; rintro e w1 ⟨rfl, hw1⟩; rw [hw1]; clear hw1 w1))
  have k0 : ((w.alloc (.cells #[.int .i64 u, .int .i64 g, .slice ga 0 gc, .int .i64 um, .int .i64 cw] 24)).alloc (.cells #[.int .i64 0] 34)).cell? ⟨fb, 0, none⟩ = some (.pointer (some ⟨t, 0, none⟩)) := by simp [go_sem, hf, hfb]
  have k1 : ((w.alloc (.cells #[.int .i64 u, .int .i64 g, .slice ga 0 gc, .int .i64 um, .int .i64 cw] 24)).alloc (.cells #[.int .i64 0] 34)).cell? ⟨w.heap.size, 0, none⟩ = some (.int .i64 u) := by simp [go_sem]
  have k2 : ((w.alloc (.cells #[.int .i64 u, .int .i64 g, .slice ga 0 gc, .int .i64 um, .int .i64 cw] 24)).alloc (.cells #[.int .i64 0] 34)).cell? ⟨w.heap.size, 1, none⟩ = some (.int .i64 g) := by simp [go_sem]
  have k3 : ((w.alloc (.cells #[.int .i64 u, .int .i64 g, .slice ga 0 gc, .int .i64 um, .int .i64 cw] 24)).alloc (.cells #[.int .i64 0] 34)).cell? ⟨w.heap.size, 2, none⟩ = some (.slice ga 0 gc) := by simp [go_sem]
  have k4 : ((w.alloc (.cells #[.int .i64 u, .int .i64 g, .slice ga 0 gc, .int .i64 um, .int .i64 cw] 24)).alloc (.cells #[.int .i64 0] 34)).cell? ⟨w.heap.size, 3, none⟩ = some (.int .i64 um) := by simp [go_sem]
  have k5 : ((w.alloc (.cells #[.int .i64 u, .int .i64 g, .slice ga 0 gc, .int .i64 um, .int .i64 cw] 24)).alloc (.cells #[.int .i64 0] 34)).cell? ⟨w.heap.size, 4, none⟩ = some (.int .i64 cw) := by simp [go_sem]
  have k6 : ((w.alloc (.cells #[.int .i64 u, .int .i64 g, .slice ga 0 gc, .int .i64 um, .int .i64 cw] 24)).alloc (.cells #[.int .i64 0] 34)).cell? ⟨w.heap.size + 1, 0, none⟩ = some (.int .i64 0) := by simp [go_sem]
  have k7 : ((w.alloc (.cells #[.int .i64 u, .int .i64 g, .slice ga 0 gc, .int .i64 um, .int .i64 cw] 24)).alloc (.cells #[.int .i64 0] 34)).frozen? ⟨w.heap.size + 1, 0, none⟩ = false := by simp [go_sem]
  have HM2 := hid6 (((Mod.refl (fun _ => False) w).alloc (.cells #[.int .i64 u, .int .i64 g, .slice ga 0 gc, .int .i64 um, .int .i64 cw] 24)).alloc (.cells #[.int .i64 0] 34))
  have hsz : w.heap.size + 2 = ((w.alloc (.cells #[.int .i64 u, .int .i64 g, .slice ga 0 gc, .int .i64 um, .int .i64 cw] 24)).alloc (.cells #[.int .i64 0] 34)).heap.size := by simp
  have HSz := hid6 hsz
  clear hsz
  generalize (w.alloc (.cells #[.int .i64 u, .int .i64 g, .slice ga 0 gc, .int .i64 um, .int .i64 cw] 24)).alloc (.cells #[.int .i64 0] 34) = W2 at *
  go_cut [8] from 13 to 17 (fun v8 wc => ∃ K B8 : Nat, v8 = .pointer (some ⟨B8, 0, none⟩) ∧ wc.cell? ⟨B8, 0, none⟩ = some (.pointer (some ⟨K, 0, none⟩)) ∧ wc.cell? ⟨w.heap.size + 1, 0, none⟩ = some (.int .i64 0) ∧ wc.frozen? ⟨w.heap.size + 1, 0, none⟩ = false ∧ ¬ K = w.heap.size + 1 ∧ Hid (TkNew w wc K t u g ga gc um cw))
  case first =>
    refine wp_only6 ?_
    go_region_held (fun W' => W'.cell? ⟨fb, 0, none⟩ = some (.pointer (some ⟨t, 0, none⟩)) ∧ W'.cell? ⟨w.heap.size, 0, none⟩ = some (.int .i64 u) ∧ W'.cell? ⟨w.heap.size, 1, none⟩ = some (.int .i64 g) ∧ W'.cell? ⟨w.heap.size, 2, none⟩ = some (.slice ga 0 gc) ∧ W'.cell? ⟨w.heap.size, 3, none⟩ = some (.int .i64 um) ∧ W'.cell? ⟨w.heap.size, 4, none⟩ = some (.int .i64 cw)) (go_keep)
      (first | (go_at_call 99; refine (HTab.out _ (by first | assumption | go_keep)).mono ?_; rintro e w1 ⟨rfl, hw1⟩; rw [hw1]; clear hw1 w1))
    all_goals simp only [OnlyN6]
    all_goals
      go_wp2_with fail
      go_meet
      first | exact ⟨_, _, rfl, tk_lay1 HM2.out HSz.out k6 k7⟩ | exact ⟨_, _, rfl, tk_lay2 HM2.out HSz.out k6 k7⟩
  case rest =>
    obtain ⟨K, B8, rfl, h8, hE, fE, hKE, HN⟩ := hcut
    go_wp2_with fail
    refine Calls.mono (HW.out wc K HN.out) ?_
    rintro e w5 ⟨rfl, M5⟩
    have hBE : ¬ B8 = w.heap.size + 1 := fun e => by rw [e, hE] at h8; cases h8
    have c5 : w5.cell? ⟨w.heap.size + 1, 0, none⟩ = some (.int .i64 0) := (M5.cell (p := ⟨w.heap.size + 1, 0, none⟩) (block_lt_of_cell hE) (fun e => e)).trans hE
    have f5 : w5.frozen? ⟨w.heap.size + 1, 0, none⟩ = false := (M5.frozen (p := ⟨w.heap.size + 1, 0, none⟩) (block_lt_of_cell hE) (fun e => e)).trans fE
    have q5 : w5.cell? ⟨B8, 0, none⟩ = some (.pointer (some ⟨K, 0, none⟩)) := (M5.cell (p := ⟨B8, 0, none⟩) (block_lt_of_cell h8) (fun e => e)).trans h8
    have k5 : w5.cell? ⟨K, 6, none⟩ = some (.slice none 0 0) := (M5.cell (p := ⟨K, 6, none⟩) (block_lt_of_cell HN.out.b6) (fun e => e)).trans HN.out.b6
    have HF := hid6 (HN.out.M.trans M5)
    clear M5 HN HW hE fE h8
    go_wp2_with fail
    refine leaves_cons (f := 191) (args := #[.pointer (some ⟨w.heap.size + 1, 0, none⟩), .pointer (some ⟨B8, 0, none⟩)]) (by simp) (by simp [go_sem]) ?_
    refine (catchBool er 0 (w.heap.size + 1) B8 K _ c5 f5 q5 k5 hBE hKE).mono ?_
    rintro e u' w2 ⟨rfl, rfl, M2, e2⟩
    have HR := hid6 (HF.out.new6 M2 (fun k e => by rw [e]; omega))
    clear M2 HF
    simp [Leaves, settle, results, Tryz.results137, go_sem, e2]
    exact HR.out
set_option maxRecDepth 100000 in
set_option maxHeartbeats 2000000 in
theorem doRenameF {w : World} {fb t : Nat} (hf : FsAt w fb t) (u g : Int) (ga : Option Addr) (gc : Nat) (um cw : Int) (p1 p2 : Addr) (er : Int)
    (hW : ∀ W K, TkNew w W K t u g ga gc um cw → Calls Tryz.prog 83 #[.pointer (some ⟨K, 0, none⟩), .pointer (some p1), .pointer (some p2)] W fun e w' => e = .panicked (EP er) ∧ Mod (fun _ => False) W w') :
    Calls Tryz.prog 62 #[.pointer (some ⟨fb, 0, none⟩), .agg #[.int .i64 u, .int .i64 g, .slice ga 0 gc, .int .i64 um, .int .i64 cw], .func (.func 83) #[] #[.pointer (some p1), .pointer (some p2)]] w fun e w' => e = .returned (.int .i64 er) ∧ Mod (fun _ => False) w w' := by
  have hmf : ∀ (fn : Fn) (first cap : Array Value) (w : World), (Instr.makeFunc fn first cap).run Tryz.prog w = .ok (.func fn first cap) w := fun _ _ _ _ => rfl
  have hfb : fb < w.heap.size := block_lt_of_cell hf
  have H1 : Hid (∀ W K, TkNew w W K t u g ga gc um cw → W.cell? ⟨w.heap.size + 1, 0, none⟩ = some (.func (.func 83) #[] #[.pointer (some p1), .pointer (some p2)]) → Calls Tryz.prog 138 #[.pointer (some ⟨K, 0, none⟩), .pointer (some ⟨w.heap.size + 1, 0, none⟩)] W fun e w' => e = .panicked (EP er) ∧ Mod (fun _ => False) W w') := fun W K hN hc => by
    have HW := hid6 (hW W K hN)
    clear hW hN hf
    go_enter Tryz.func138, Tryz.ntmps138
    go_wp2_with fail
    refine Calls.mono HW.out ?_
    rintro e w1 ⟨rfl, M1⟩
    have HR := hid6 M1
    clear M1
    go_wp2
    exact ⟨rfl, rfl, HR.out⟩
  have HA : Hid (∀ W, Mod (fun _ => False) w W → W.cell? ⟨w.heap.size + 1, 0, none⟩ = some (.func (.func 83) #[] #[.pointer (some p1), .pointer (some p2)]) → _) := fun W hM e1 =>
    askDoF (w := W) (fb := fb) (t := t) ((hM.cell (p := ⟨fb, 0, none⟩) hfb (fun e => e)).trans hf) u g ga gc um cw ⟨w.heap.size + 1, 0, none⟩ er
      (fun W' K hN => H1.out W' K ⟨hM.trans hN.M, Nat.le_trans hM.size hN.le, hN.k, hN.b6, hN.fr⟩ ((hN.M.cell (p := ⟨w.heap.size + 1, 0, none⟩) (block_lt_of_cell e1) (fun e => e)).trans e1))
  have HM0 : Hid (∀ o o1, Mod (fun _ => False) w ((w.alloc o).alloc o1)) := fun o o1 => ((Mod.refl _ w).alloc o).alloc o1
  clear hW hf H1
  go_enter Tryz.func62, Tryz.ntmps62
  go_wp2_with fail
  refine Calls.mono (HA.out _ (HM0.out _ _) (by simp [go_sem])) ?_
  rintro e w1 ⟨rfl, M1⟩
  have HR := hid6 ((HM0.out _ _).trans M1)
  clear M1
  go_wp2
  go_ret
  exact ⟨rfl, HR.out⟩
set_option maxRecDepth 100000 in
set_option maxHeartbeats 2000000 in
theorem fsRenameF {w : World} {fb t : Nat} (hf : FsAt w fb t) (u g : Int) (ga : Option Addr) (gc : Nat) (um cw : Int) (la lb : List UInt8) (er : Int)
    (hW : ∀ W K b1 b2, TkNew w W K t u g ga gc um cw → W.cell? ⟨b1, 0, none⟩ = some (.string ⟨la.toArray⟩) → W.cell? ⟨b2, 0, none⟩ = some (.string ⟨lb.toArray⟩) → Calls Tryz.prog 83 #[.pointer (some ⟨K, 0, none⟩), .pointer (some ⟨b1, 0, none⟩), .pointer (some ⟨b2, 0, none⟩)] W fun e w' => e = .panicked (EP er) ∧ Mod (fun _ => False) W w') :
    Calls Tryz.prog 16 #[.pointer (some ⟨fb, 0, none⟩), .agg #[.int .i64 u, .int .i64 g, .slice ga 0 gc, .int .i64 um, .int .i64 cw], .string ⟨la.toArray⟩, .string ⟨lb.toArray⟩] w fun e w' => e = .returned (.int .i64 er) ∧ Mod (fun _ => False) w w' := by
  have hmf : ∀ (fn : Fn) (first cap : Array Value) (w : World), (Instr.makeFunc fn first cap).run Tryz.prog w = .ok (.func fn first cap) w := fun _ _ _ _ => rfl
  have hfb : fb < w.heap.size := block_lt_of_cell hf
  have HA : Hid (∀ W, Mod (fun _ => False) w W → W.cell? ⟨w.heap.size + 1, 0, none⟩ = some (.string ⟨la.toArray⟩) → W.cell? ⟨w.heap.size + 2, 0, none⟩ = some (.string ⟨lb.toArray⟩) → _) := fun W hM e1 e2 =>
    doRenameF (w := W) (fb := fb) (t := t) ((hM.cell (p := ⟨fb, 0, none⟩) hfb (fun e => e)).trans hf) u g ga gc um cw ⟨w.heap.size + 1, 0, none⟩ ⟨w.heap.size + 2, 0, none⟩ er
      (fun W' K hN => hW W' K _ _ ⟨hM.trans hN.M, Nat.le_trans hM.size hN.le, hN.k, hN.b6, hN.fr⟩ ((hN.M.cell (p := ⟨w.heap.size + 1, 0, none⟩) (block_lt_of_cell e1) (fun e => e)).trans e1) ((hN.M.cell (p := ⟨w.heap.size + 2, 0, none⟩) (block_lt_of_cell e2) (fun e => e)).trans e2))
  have HM0 : Hid (∀ o o1 o2, Mod (fun _ => False) w (((w.alloc o).alloc o1).alloc o2)) := fun o o1 o2 => (((Mod.refl _ w).alloc o).alloc o1).alloc o2
  clear hW hf
  go_enter Tryz.func16, Tryz.ntmps16
  go_wp2_with fail
  refine Calls.mono (HA.out _ (HM0.out _ _ _) (by simp [go_sem]) (by simp [go_sem])) ?_
  rintro e w1 ⟨rfl, M1⟩
  have HR := hid6 ((HM0.out _ _ _).trans M1)
  clear M1
  go_wp2
  go_ret
  exact ⟨rfl, HR.out⟩
end Go.Proofs.YtpohjgnfndgniaaGreatDoor
