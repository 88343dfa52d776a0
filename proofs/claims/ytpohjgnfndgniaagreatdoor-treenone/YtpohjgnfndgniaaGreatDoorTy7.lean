/- A call's frame: ask of what there is to know of a file, where the work ends well; the file system's Stat. Conditions: the file system lies in memory; the work does as said. -/
import Derived.Test.YtpohjgnfndgniaaGreatDoorM22
namespace Go.Proofs.YtpohjgnfndgniaaGreatDoor
open Go.RowKit
theorem infSt7 : (Tryz.prog.info? 38).map (·.size) = some 10 := by kernel_rfl
theorem tk_lay3 {w W2 : World} {t : Nat} {u g : Int} {ga : Option Addr} {gc : Nat} {um cw : Int} (hM : Mod (fun _ => False) w W2) {T T' : TypeId} :
    let W := ((W2.alloc (.cells #[.pointer (some ⟨t, 0, none⟩), .int .i64 u, .int .i64 g, .slice ga 0 gc, .int .i64 um, .int .i64 cw, .slice none 0 0] T)).alloc (.cells #[.pointer (some ⟨W2.heap.size, 0, none⟩)] T')).drew
    W.cell? ⟨W2.heap.size + 1, 0, none⟩ = some (.pointer (some ⟨W2.heap.size, 0, none⟩)) ∧ Hid (Mod (fun _ => False) W2 W) ∧ Hid (TkNew w W W2.heap.size t u g ga gc um cw) := by
  intro W
  have hs := hM.size
  exact ⟨by simp [W, go_sem], (((Mod.refl _ W2).alloc _).alloc _).drewN 1, ⟨((hM.alloc _).alloc _).drewN 1, by omega, ⟨by simp [W, go_sem], by simp [W, go_sem], by simp [W, go_sem], by simp [W, go_sem], by simp [W, go_sem], by simp [W, go_sem]⟩, by simp [W, go_sem], fun o => by simp [W, go_sem]⟩⟩
theorem tk_lay4 {w W2 : World} {t : Nat} {u g : Int} {ga : Option Addr} {gc : Nat} {um cw : Int} (hM : Mod (fun _ => False) w W2) {T T' : TypeId} :
    let W := ((W2.alloc (.cells #[.pointer (some ⟨W2.heap.size + 1, 0, none⟩)] T')).alloc (.cells #[.pointer (some ⟨t, 0, none⟩), .int .i64 u, .int .i64 g, .slice ga 0 gc, .int .i64 um, .int .i64 cw, .slice none 0 0] T)).drew
    W.cell? ⟨W2.heap.size, 0, none⟩ = some (.pointer (some ⟨W2.heap.size + 1, 0, none⟩)) ∧ Hid (Mod (fun _ => False) W2 W) ∧ Hid (TkNew w W (W2.heap.size + 1) t u g ga gc um cw) := by
  intro W
  have hs := hM.size
  exact ⟨by simp [W, go_sem], (((Mod.refl _ W2).alloc _).alloc _).drewN 1, ⟨((hM.alloc _).alloc _).drewN 1, by omega, ⟨by simp [W, go_sem], by simp [W, go_sem], by simp [W, go_sem], by simp [W, go_sem], by simp [W, go_sem], by simp [W, go_sem]⟩, by simp [W, go_sem], fun o => by simp [W, go_sem]⟩⟩
set_option maxRecDepth 100000 in
set_option maxHeartbeats 2000000 in
theorem idleStat (p q : Addr) (w : World) :
    CallsD Tryz.prog 124 #[.pointer (some p), .pointer (some q)] .returning w fun e u' w' => e = .returned (.tuple #[]) ∧ u' = .returning ∧ w' = w := by
  refine callsD_of_wpS Tryz.func124 rfl fun c₀ cs hu => ?_
  apply wpS_seq
  generalize hQ : Exit.thenS _ _ = Q2
  apply wpS_seq
  apply wpS_region
  simp [wpOpsS, go_sem, recoverD, hu, Tryz.ntmps124, Exit.thenS]
  simp only [Array.replicate_succ, Array.replicate_zero, List.push_toArray, List.setIfInBounds_toArray, List.set_cons_succ, List.set_cons_zero, List.append_toArray, List.nil_append, List.cons_append]
  refine wpS_of_wp ?_
  go_wp2
  rw [← hQ]
  clear hQ
  refine ⟨rfl, .returning, ?_, .tuple #[], results_none rfl _ _ _, rfl, rfl, rfl⟩
  cases c₀
  simp_all
theorem ret_askStat {W : World} {B E : Nat} {L : List Value} {x : Int} (h : W.rangeAt B 0 L) (hl : L.length = 10) (hE : W.cell? ⟨E, 0, none⟩ = some (.int .i64 x)) (tmps : Array Value) (h4 : tmps[6]?.getD undef = .pointer (some ⟨B, 0, none⟩)) (h5 : tmps[7]?.getD undef = .pointer (some ⟨E, 0, none⟩)) :
    (results Tryz.f40 tmps).run Tryz.prog W = .ok (.tuple #[.agg L.toArray, .int .i64 x]) W := by
  have h2 := run_loadVar_mid (P := Tryz.prog) W B 0 38 L _ h Tryz.underlying38 rfl (by rw [hl]; exact infSt7)
  have h3 : (loadVar 34 ⟨E, 0, none⟩).run Tryz.prog W = .ok (.int .i64 x) W := by simp [go_sem, hE]
  unfold results
  rw [Tryz.results40]
  simp [h4, h5, asAddr, Result.andThen, h2, h3]
set_option maxRecDepth 100000 in
set_option maxHeartbeats 4000000 in
theorem askStat {w : World} {fb t : Nat} (hf : FsAt w fb t) (u g : Int) (ga : Option Addr) (gc : Nat) (um cw : Int) (p1 p2 : Addr) (P : List Value → Prop)
    (hW : ∀ W K, TkNew w W K t u g ga gc um cw → Calls Tryz.prog 41 #[.pointer (some ⟨K, 0, none⟩), .pointer (some p1), .pointer (some p2)] W fun e w' => (∃ L : List Value, P L ∧ L.length = 10 ∧ L.toArray.all (·.oneCell') = true ∧ e = .returned (.agg L.toArray)) ∧ Mod (fun _ => False) W w') :
    Calls Tryz.prog 40 #[.pointer (some ⟨fb, 0, none⟩), .agg #[.int .i64 u, .int .i64 g, .slice ga 0 gc, .int .i64 um, .int .i64 cw], .func (.func 41) #[] #[.pointer (some p1), .pointer (some p2)]] w fun e w' => (∃ L : List Value, P L ∧ L.length = 10 ∧ L.toArray.all (·.oneCell') = true ∧ e = .returned (.tuple #[.agg L.toArray, .int .i64 0])) ∧ Mod (fun _ => False) w w' := by
  have hmf : ∀ (fn : Fn) (first cap : Array Value) (w : World), (Instr.makeFunc fn first cap).run Tryz.prog w = .ok (.func fn first cap) w := fun _ _ _ _ => rfl
  have HW := hid6 hW
  have hfb : fb < w.heap.size := block_lt_of_cell hf
  unfold FsAt at hf
  have HTab : Hid (∀ W : World, W.cell? ⟨fb, 0, none⟩ = some (.pointer (some ⟨t, 0, none⟩)) → _) := fun W h => tTable fb _ W h
  clear hW
  go_enter_defers Tryz.func40, Tryz.ntmps40
  go_upto_region 3 with (first | (go_at_call 99; refine (HTab.out _ ((((((Mod.refl (fun _ => False) w).alloc _).alloc _).alloc _).cell (p := ⟨fb, 0, none⟩) hfb (fun e => e)).trans hf)).mono ?_; rintro e w1 ⟨rfl, hw1⟩; rw [hw1]; clear hw1 w1))
  have k0 : (((w.alloc (.cells #[.int .i64 u, .int .i64 g, .slice ga 0 gc, .int .i64 um, .int .i64 cw] 24)).alloc (.cells #[.int .i64 0, .int .i64 0, .int .i64 0, .int .i64 0, .int .i64 0, .int .i64 0, .int .i64 0, .int .i64 0, .int .i64 0, .int .i64 0] 38)).alloc (.cells #[.int .i64 0] 34)).cell? ⟨fb, 0, none⟩ = some (.pointer (some ⟨t, 0, none⟩)) := ((((((Mod.refl (fun _ => False) w).alloc _).alloc _).alloc _).cell (p := ⟨fb, 0, none⟩) hfb (fun e => e)).trans hf)
  have k1 : (((w.alloc (.cells #[.int .i64 u, .int .i64 g, .slice ga 0 gc, .int .i64 um, .int .i64 cw] 24)).alloc (.cells #[.int .i64 0, .int .i64 0, .int .i64 0, .int .i64 0, .int .i64 0, .int .i64 0, .int .i64 0, .int .i64 0, .int .i64 0, .int .i64 0] 38)).alloc (.cells #[.int .i64 0] 34)).cell? ⟨w.heap.size, 0, none⟩ = some (.int .i64 u) := by simp [go_sem]
  have k2 : (((w.alloc (.cells #[.int .i64 u, .int .i64 g, .slice ga 0 gc, .int .i64 um, .int .i64 cw] 24)).alloc (.cells #[.int .i64 0, .int .i64 0, .int .i64 0, .int .i64 0, .int .i64 0, .int .i64 0, .int .i64 0, .int .i64 0, .int .i64 0, .int .i64 0] 38)).alloc (.cells #[.int .i64 0] 34)).cell? ⟨w.heap.size, 1, none⟩ = some (.int .i64 g) := by simp [go_sem]
  have k3 : (((w.alloc (.cells #[.int .i64 u, .int .i64 g, .slice ga 0 gc, .int .i64 um, .int .i64 cw] 24)).alloc (.cells #[.int .i64 0, .int .i64 0, .int .i64 0, .int .i64 0, .int .i64 0, .int .i64 0, .int .i64 0, .int .i64 0, .int .i64 0, .int .i64 0] 38)).alloc (.cells #[.int .i64 0] 34)).cell? ⟨w.heap.size, 2, none⟩ = some (.slice ga 0 gc) := by simp [go_sem]
  have k4 : (((w.alloc (.cells #[.int .i64 u, .int .i64 g, .slice ga 0 gc, .int .i64 um, .int .i64 cw] 24)).alloc (.cells #[.int .i64 0, .int .i64 0, .int .i64 0, .int .i64 0, .int .i64 0, .int .i64 0, .int .i64 0, .int .i64 0, .int .i64 0, .int .i64 0] 38)).alloc (.cells #[.int .i64 0] 34)).cell? ⟨w.heap.size, 3, none⟩ = some (.int .i64 um) := by simp [go_sem]
  have k5 : (((w.alloc (.cells #[.int .i64 u, .int .i64 g, .slice ga 0 gc, .int .i64 um, .int .i64 cw] 24)).alloc (.cells #[.int .i64 0, .int .i64 0, .int .i64 0, .int .i64 0, .int .i64 0, .int .i64 0, .int .i64 0, .int .i64 0, .int .i64 0, .int .i64 0] 38)).alloc (.cells #[.int .i64 0] 34)).cell? ⟨w.heap.size, 4, none⟩ = some (.int .i64 cw) := by simp [go_sem]
  have k6 : (((w.alloc (.cells #[.int .i64 u, .int .i64 g, .slice ga 0 gc, .int .i64 um, .int .i64 cw] 24)).alloc (.cells #[.int .i64 0, .int .i64 0, .int .i64 0, .int .i64 0, .int .i64 0, .int .i64 0, .int .i64 0, .int .i64 0, .int .i64 0, .int .i64 0] 38)).alloc (.cells #[.int .i64 0] 34)).cell? ⟨w.heap.size + 2, 0, none⟩ = some (.int .i64 0) := by simp [go_sem]
  have k7 : (((w.alloc (.cells #[.int .i64 u, .int .i64 g, .slice ga 0 gc, .int .i64 um, .int .i64 cw] 24)).alloc (.cells #[.int .i64 0, .int .i64 0, .int .i64 0, .int .i64 0, .int .i64 0, .int .i64 0, .int .i64 0, .int .i64 0, .int .i64 0, .int .i64 0] 38)).alloc (.cells #[.int .i64 0] 34)).frozen? ⟨w.heap.size + 2, 0, none⟩ = false := by simp [go_sem]
  have HT2 : Hid ((((w.alloc (.cells #[.int .i64 u, .int .i64 g, .slice ga 0 gc, .int .i64 um, .int .i64 cw] 24)).alloc (.cells #[.int .i64 0, .int .i64 0, .int .i64 0, .int .i64 0, .int .i64 0, .int .i64 0, .int .i64 0, .int .i64 0, .int .i64 0, .int .i64 0] 38)).alloc (.cells #[.int .i64 0] 34)).there (w.heap.size + 1) 0 10) := fun j hj => by
    have h0 := there_new (w.alloc (.cells #[.int .i64 u, .int .i64 g, .slice ga 0 gc, .int .i64 um, .int .i64 cw] 24)) 38 #[.int .i64 0, .int .i64 0, .int .i64 0, .int .i64 0, .int .i64 0, .int .i64 0, .int .i64 0, .int .i64 0, .int .i64 0, .int .i64 0] (n := 10) rfl j hj
    rw [World.size_alloc] at h0
    rw [World.cell?_alloc_past _ _ _ (by simp), World.frozen?_alloc_past _ _ _ (by simp)]
    exact h0
  have HM2 := hid6 ((((Mod.refl (fun _ => False) w).alloc (.cells #[.int .i64 u, .int .i64 g, .slice ga 0 gc, .int .i64 um, .int .i64 cw] 24)).alloc (.cells #[.int .i64 0, .int .i64 0, .int .i64 0, .int .i64 0, .int .i64 0, .int .i64 0, .int .i64 0, .int .i64 0, .int .i64 0, .int .i64 0] 38)).alloc (.cells #[.int .i64 0] 34))
  have HSz : Hid (w.heap.size + 3 = (((w.alloc (.cells #[.int .i64 u, .int .i64 g, .slice ga 0 gc, .int .i64 um, .int .i64 cw] 24)).alloc (.cells #[.int .i64 0, .int .i64 0, .int .i64 0, .int .i64 0, .int .i64 0, .int .i64 0, .int .i64 0, .int .i64 0, .int .i64 0, .int .i64 0] 38)).alloc (.cells #[.int .i64 0] 34)).heap.size) := by show _ = _; simp
  generalize (((w.alloc (.cells #[.int .i64 u, .int .i64 g, .slice ga 0 gc, .int .i64 um, .int .i64 cw] 24)).alloc (.cells #[.int .i64 0, .int .i64 0, .int .i64 0, .int .i64 0, .int .i64 0, .int .i64 0, .int .i64 0, .int .i64 0, .int .i64 0, .int .i64 0] 38)).alloc (.cells #[.int .i64 0] 34)) = W2 at *
  go_cut [8] from 13 to 17 (fun v8 wc => ∃ K B8 : Nat, v8 = .pointer (some ⟨B8, 0, none⟩) ∧ wc.cell? ⟨B8, 0, none⟩ = some (.pointer (some ⟨K, 0, none⟩)) ∧ Hid (Mod (fun _ => False) W2 wc) ∧ Hid (TkNew w wc K t u g ga gc um cw))
  case first =>
    refine wp_only6 ?_
    go_region_held (fun W' => W'.cell? ⟨fb, 0, none⟩ = some (.pointer (some ⟨t, 0, none⟩)) ∧ W'.cell? ⟨w.heap.size, 0, none⟩ = some (.int .i64 u) ∧ W'.cell? ⟨w.heap.size, 1, none⟩ = some (.int .i64 g) ∧ W'.cell? ⟨w.heap.size, 2, none⟩ = some (.slice ga 0 gc) ∧ W'.cell? ⟨w.heap.size, 3, none⟩ = some (.int .i64 um) ∧ W'.cell? ⟨w.heap.size, 4, none⟩ = some (.int .i64 cw)) (go_keep)
      (first | (go_at_call 99; refine (HTab.out _ (by first | assumption | go_keep)).mono ?_; rintro e w1 ⟨rfl, hw1⟩; rw [hw1]; clear hw1 w1))
    all_goals simp only [OnlyN6]
    all_goals
      go_wp2_with fail
      go_meet
      first | exact ⟨_, _, rfl, tk_lay3 HM2.out⟩ | exact ⟨_, _, rfl, tk_lay4 HM2.out⟩
  case rest =>
    obtain ⟨K, B8, rfl, h8, HN2, HN⟩ := hcut
    go_wp2_with fail
    refine Calls.mono (HW.out wc K HN.out) ?_
    rintro e w5 ⟨⟨L, hP, hL, h1, rfl⟩, M5⟩
    have M25 := HN2.out.trans M5
    have hz2 := HSz.out
    have HTh : Hid (w5.there (w.heap.size + 1) 0 L.length) := fun j hj => by
      rw [hL] at hj
      rw [M25.cell (p := ⟨w.heap.size + 1, 0 + j, none⟩) (by show w.heap.size + 1 < W2.heap.size; omega) (fun e => e), M25.frozen (p := ⟨w.heap.size + 1, 0 + j, none⟩) (by show w.heap.size + 1 < W2.heap.size; omega) (fun e => e)]
      exact HT2.out j hj
    have c5 : w5.cell? ⟨w.heap.size + 2, 0, none⟩ = some (.int .i64 0) := (M25.cell (p := ⟨w.heap.size + 2, 0, none⟩) (block_lt_of_cell k6) (fun e => e)).trans k6
    have f5 : w5.frozen? ⟨w.heap.size + 2, 0, none⟩ = false := (M25.frozen (p := ⟨w.heap.size + 2, 0, none⟩) (block_lt_of_cell k6) (fun e => e)).trans k7
    have HM5 := hid6 (HN.out.M.trans M5)
    obtain ⟨wE, hwE⟩ : ∃ wE, Hid (w5.setCells (w.heap.size + 1) 0 L = wE) := ⟨_, rfl⟩
    have hX : Mod (fun x => x = w.heap.size + 1) w5 wE := by rw [← hwE.out]; exact Mod.setCells (s := fun x => x = w.heap.size + 1) (w.heap.size + 1) rfl _ _ (Mod.refl _ w5)
    have HRg : Hid (wE.rangeAt (w.heap.size + 1) 0 L) := by show World.rangeAt _ _ _ _; rw [← hwE.out]; exact World.rangeAt_setCells_same _ _ _ _ HTh.out
    have c6 : wE.cell? ⟨w.heap.size + 2, 0, none⟩ = some (.int .i64 0) := (hX.cell (p := ⟨w.heap.size + 2, 0, none⟩) (block_lt_of_cell c5) (by show ¬ w.heap.size + 2 = w.heap.size + 1; omega)).trans c5
    have f6 : wE.frozen? ⟨w.heap.size + 2, 0, none⟩ = false := (hX.frozen (p := ⟨w.heap.size + 2, 0, none⟩) (block_lt_of_cell c5) (by show ¬ w.heap.size + 2 = w.heap.size + 1; omega)).trans f5
    have HM6 := hid6 (HM5.out.new6 hX (fun k e => by rw [e]; omega))
    have HInf : Hid ((Tryz.prog.info? 38).map (·.size) = some L.length) := by show _ = _; rw [hL]; exact infSt7
    have HOne := hid6 h1
    have HPL := hid6 (show P L ∧ L.length = 10 from ⟨hP, hL⟩)
    clear M5 M25 hX HN HN2 HW h8 c5 f5 hP hL h1 k0 k1 k2 k3 k4 k5 k6 k7 hz2
    go_wp2_with (refine wpList_store_mid rfl 38 _ _ rfl (w.heap.size + 1) 0 _ rfl rfl HTh.out HInf.out HOne.out ?_; rw [hwE.out])
    refine leaves_cons (f := 124) (args := #[.pointer (some ⟨w.heap.size + 2, 0, none⟩), .pointer (some ⟨B8, 0, none⟩)]) (by simp) (by simp [go_sem]) ?_
    refine (idleStat ⟨w.heap.size + 2, 0, none⟩ ⟨B8, 0, none⟩ _).mono ?_
    rintro e u' w2 ⟨rfl, rfl, rfl⟩
    have e6 : (wE.setCell ⟨w.heap.size + 2, 0, none⟩ (.int .i64 0)).cell? ⟨w.heap.size + 2, 0, none⟩ = some (.int .i64 0) := World.cell?_setCell_same _ _ _ c6
    have r6 : (wE.setCell ⟨w.heap.size + 2, 0, none⟩ (.int .i64 0)).rangeAt (w.heap.size + 1) 0 L := World.rangeAt_setCells_apart HRg.out (w.heap.size + 2) 0 [.int .i64 0] (.inl (by omega))
    exact ⟨_, ret_askStat r6 HPL.out.2 e6 _ rfl rfl, ⟨L, HPL.out.1, HPL.out.2, HOne.out, rfl⟩, HM6.out.new6 ((Mod.refl (fun x => x = w.heap.size + 2) _).setCell _ _ rfl) (fun k e => by rw [e]; omega)⟩
theorem ret_fsStat {W : World} {B : Nat} {L : List Value} {v : Value} (h : W.rangeAt B 0 L) (hl : L.length = 10) (tmps : Array Value) (h4 : tmps[8]?.getD undef = .pointer (some ⟨B, 0, none⟩)) (h5 : tmps[9]?.getD undef = v) :
    (results Tryz.f5 tmps).run Tryz.prog W = .ok (.tuple #[.agg L.toArray, v]) W := by
  have h2 := run_loadVar_mid (P := Tryz.prog) W B 0 38 L _ h Tryz.underlying38 rfl (by rw [hl]; exact infSt7)
  unfold results
  rw [Tryz.results5]
  simp [h4, h5, asAddr, Result.andThen, h2]
set_option maxRecDepth 100000 in
set_option maxHeartbeats 2000000 in
theorem fsStat {w : World} {fb t : Nat} (hf : FsAt w fb t) (u g : Int) (ga : Option Addr) (gc : Nat) (um cw : Int) (l : List UInt8) (fo : Bool) (P : List Value → Prop)
    (hW : ∀ W K b1 b2, TkNew w W K t u g ga gc um cw → W.cell? ⟨b1, 0, none⟩ = some (.string ⟨l.toArray⟩) → W.cell? ⟨b2, 0, none⟩ = some (.bool fo) → Calls Tryz.prog 41 #[.pointer (some ⟨K, 0, none⟩), .pointer (some ⟨b1, 0, none⟩), .pointer (some ⟨b2, 0, none⟩)] W fun e w' => (∃ L : List Value, P L ∧ L.length = 10 ∧ L.toArray.all (·.oneCell') = true ∧ e = .returned (.agg L.toArray)) ∧ Mod (fun _ => False) W w') :
    Calls Tryz.prog 5 #[.pointer (some ⟨fb, 0, none⟩), .agg #[.int .i64 u, .int .i64 g, .slice ga 0 gc, .int .i64 um, .int .i64 cw], .string ⟨l.toArray⟩, .bool fo] w fun e w' => (∃ L : List Value, P L ∧ L.length = 10 ∧ L.toArray.all (·.oneCell') = true ∧ e = .returned (.tuple #[.agg L.toArray, .int .i64 0])) ∧ Mod (fun _ => False) w w' := by
  have hmf : ∀ (fn : Fn) (first cap : Array Value) (w : World), (Instr.makeFunc fn first cap).run Tryz.prog w = .ok (.func fn first cap) w := fun _ _ _ _ => rfl
  have hfb : fb < w.heap.size := block_lt_of_cell hf
  have HA : Hid (∀ W, Mod (fun _ => False) w W → W.cell? ⟨w.heap.size + 1, 0, none⟩ = some (.string ⟨l.toArray⟩) → W.cell? ⟨w.heap.size + 2, 0, none⟩ = some (.bool fo) → _) := fun W hM e1 e2 =>
    askStat (w := W) (fb := fb) (t := t) ((hM.cell (p := ⟨fb, 0, none⟩) hfb (fun e => e)).trans hf) u g ga gc um cw ⟨w.heap.size + 1, 0, none⟩ ⟨w.heap.size + 2, 0, none⟩ P
      (fun W' K hN => hW W' K _ _ ⟨hM.trans hN.M, Nat.le_trans hM.size hN.le, hN.k, hN.b6, hN.fr⟩ ((hN.M.cell (p := ⟨w.heap.size + 1, 0, none⟩) (block_lt_of_cell e1) (fun e => e)).trans e1) ((hN.M.cell (p := ⟨w.heap.size + 2, 0, none⟩) (block_lt_of_cell e2) (fun e => e)).trans e2))
  have HM0 : Hid (∀ o o1 o2 o3, Mod (fun _ => False) w ((((w.alloc o).alloc o1).alloc o2).alloc o3)) := fun o o1 o2 o3 => ((((Mod.refl _ w).alloc o).alloc o1).alloc o2).alloc o3
  have HT0 : Hid (∀ o o1 o2, (((((w.alloc o).alloc o1).alloc o2).alloc (.cells #[.int .i64 0, .int .i64 0, .int .i64 0, .int .i64 0, .int .i64 0, .int .i64 0, .int .i64 0, .int .i64 0, .int .i64 0, .int .i64 0] 38)).there (w.heap.size + 3) 0 10)) := fun o o1 o2 j hj => by
    have h0 := there_new (((w.alloc o).alloc o1).alloc o2) 38 #[.int .i64 0, .int .i64 0, .int .i64 0, .int .i64 0, .int .i64 0, .int .i64 0, .int .i64 0, .int .i64 0, .int .i64 0, .int .i64 0] (n := 10) rfl j hj
    simp only [World.size_alloc] at h0
    exact h0
  clear hW hf
  go_enter Tryz.func5, Tryz.ntmps5
  go_wp2_with fail
  refine Calls.mono (HA.out _ (HM0.out _ _ _ _) (by simp [go_sem]) (by simp [go_sem])) ?_
  rintro e w5 ⟨⟨L, hP, hL, h1, rfl⟩, M5⟩
  have HTh : Hid (w5.there (w.heap.size + 3) 0 L.length) := fun j hj => by
    rw [hL] at hj
    rw [M5.cell (p := ⟨w.heap.size + 3, 0 + j, none⟩) (by simp) (fun e => e), M5.frozen (p := ⟨w.heap.size + 3, 0 + j, none⟩) (by simp) (fun e => e)]
    exact HT0.out _ _ _ j hj
  have HM5 := hid6 ((HM0.out _ _ _ _).trans M5)
  obtain ⟨wE, hwE⟩ : ∃ wE, Hid (w5.setCells (w.heap.size + 3) 0 L = wE) := ⟨_, rfl⟩
  have HRg : Hid (wE.rangeAt (w.heap.size + 3) 0 L) := by show World.rangeAt _ _ _ _; rw [← hwE.out]; exact World.rangeAt_setCells_same _ _ _ _ HTh.out
  have HM6 : Hid (Mod (fun _ => False) w wE) := by show Mod _ _ _; rw [← hwE.out]; exact HM5.out.new6 (Mod.setCells (s := fun x => x = w.heap.size + 3) (w.heap.size + 3) rfl _ _ (Mod.refl _ w5)) (fun k e => by rw [e]; omega)
  have HInf : Hid ((Tryz.prog.info? 38).map (·.size) = some L.length) := by show _ = _; rw [hL]; exact infSt7
  have HOne := hid6 h1
  have HPL := hid6 (show P L ∧ L.length = 10 from ⟨hP, hL⟩)
  clear M5 hP hL h1
  go_wp2_with (refine wpList_store_mid rfl 38 _ _ rfl (w.heap.size + 3) 0 _ rfl rfl HTh.out HInf.out HOne.out ?_; rw [hwE.out])
  exact bodyPost_ret (ret_fsStat HRg.out HPL.out.2 _ rfl rfl) rfl ⟨⟨L, HPL.out.1, HPL.out.2, HOne.out, rfl⟩, HM6.out⟩
end Go.Proofs.YtpohjgnfndgniaaGreatDoor
