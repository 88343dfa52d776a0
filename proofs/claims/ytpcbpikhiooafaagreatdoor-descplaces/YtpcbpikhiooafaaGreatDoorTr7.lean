/- The task's call create. Conditions: the task lies in memory as 'TkAt' says (no groups), nothing is to be given back yet; the directory is not set-gid; there is an inode. -/
import Derived.Test.YtpcbpikhiooafaaGreatDoorM17
import Derived.Test.YtpcbpikhiooafaaGreatDoorM6
import Derived.Test.YtpcbpikhiooafaaGreatDoorApz
import Derived.Deep.DeepCutAuto
namespace Go.Proofs.YtpcbpikhiooafaaGreatDoor
open Go.RowKit
theorem infFn : ∃ i, Tryz.prog.info? 1 = some i ∧ i.zero = some .nilFunc ∧ i.size = 1 ∧ i.bytes = 8 := info_of (by kernel_rfl)
theorem undFn : Tryz.prog.underlying 122 = some (.slice 1) := by kernel_rfl
theorem Mod.grow0 {s : Nat → Prop} {a b c : World} (h : Mod s a b) (hg : b.grownBy c none) : Mod s a c := h.trans ⟨hg.os, hg.tape, hg.output, hg.size, fun k hk _ => hg.block k hk (by simp)⟩
theorem Mod.andNew {s : Nat → Prop} {a b c : World} (h : Mod s a b) {B : Nat} (k : Mod (fun x => x = B) b c) (hB : a.heap.size ≤ B) : Mod s a c :=
  ⟨k.os.trans h.os, k.tape.trans h.tape, k.output.trans h.output, Nat.le_trans h.size k.size, fun i hi hs => (k.block i (Nat.lt_of_lt_of_le hi h.size) (by omega)).trans (h.block i hi hs)⟩
theorem row_sl {w : World} {B e n : Nat} {v : Value} {xs : List Value} (h : w.ownsRow B e 1 v n xs) : ∃ a c, v = .slice a n c := by
  rcases h.2 with ⟨rfl, rfl⟩ | ⟨g, cap, cur, rfl, _⟩
  · exact ⟨_, _, rfl⟩
  · exact ⟨_, _, rfl⟩
theorem Mod.ten {s : Nat → Prop} (w : World) (B : Nat) (hB : s B) (v0 v1 v2 v3 v4 v5 v6 v7 v8 v9 : Value) : Mod s w ((((((((((w.setCell ⟨B, 0, none⟩ v0).setCell ⟨B, 1, none⟩ v1).setCell ⟨B, 2, none⟩ v2).setCell ⟨B, 3, none⟩ v3).setCell ⟨B, 4, none⟩ v4).setCell ⟨B, 5, none⟩ v5).setCell ⟨B, 6, none⟩ v6).setCell ⟨B, 7, none⟩ v7).setCell ⟨B, 8, none⟩ v8).setCell ⟨B, 9, none⟩ v9) :=
  ((((((((((Mod.refl s w).setCell ⟨B, 0, none⟩ v0 hB).setCell ⟨B, 1, none⟩ v1 hB).setCell ⟨B, 2, none⟩ v2 hB).setCell ⟨B, 3, none⟩ v3 hB).setCell ⟨B, 4, none⟩ v4 hB).setCell ⟨B, 5, none⟩ v5 hB).setCell ⟨B, 6, none⟩ v6 hB).setCell ⟨B, 7, none⟩ v7 hB).setCell ⟨B, 8, none⟩ v8 hB).setCell ⟨B, 9, none⟩ v9 hB
section
variable {w : World} {t q b c n N : Nat} {clk : Int} {F : Nat → Nat → Int} {R : Nat → Nat → Nat} {u : Nat → Bool} {D : Nat → Nat}
set_option maxRecDepth 100000 in
set_option maxHeartbeats 4000000 in
theorem tCreate (T : Tb w t q b c n N clk F R u D) {k : Nat} {uid gid : Int} {ga : Option Addr} {gc : Nat} {um cw : Int} (h : TkAt w k t uid gid ga gc um cw) (hb6 : w.cell? ⟨k, 6, none⟩ = some (.slice none 0 0)) (hfr : ∀ o, w.frozen? ⟨k, o, none⟩ = false) (hk : k ≠ 1 ∧ k ≠ t ∧ k ≠ q ∧ k ≠ b ∧ k ≠ c)
    (d of_ m m' : Int) (fp : Nat → Int) (hS : StA w k d fp) (hsg : (bits .and .i64 (fp 0) 1024 != 0) = false) (hm : bits .or .i64 of_ (bits .and .i64 m 4095) = m') (i : Nat) (hfit : fitB m' = true) (hu : 0 ≤ uid) (hg : 0 ≤ gid) (hi : i < N) (h0 : F i 0 = 0) (hl : ∀ j, j < i → F j 0 ≠ 0) :
    Calls Tryz.prog 78 #[.pointer (some ⟨k, 0, none⟩), .int .i64 d, .int .i64 of_, .int .i64 m] w fun e w' => e = .returned (.int .i64 ((i : Int) + 1)) ∧ Tb w' t q b c n N clk (setN F i (freshF m' uid gid clk)) (setN R i (fun _ => 0)) u D ∧ Mod (fun x => x = q ∨ x = k) w w' ∧ w'.cell? ⟨k, 0, none⟩ = some (.pointer (some ⟨t, 0, none⟩)) := by
  have HA : Hid (∀ W, Mod (fun _ => False) w W → _) := fun W hM => talloc_ok (T.new hM) m' uid gid i hfit hu hg hi h0 hl
  have HS := hid6 hS
  have HT := hid6 T
  have HK := hid6 hk
  have hkq : ¬ k = q := hk.2.2.1
  have hkw := h.lt
  have hqw := T.lt_q
  obtain ⟨c0, c1, c2, -, -, -⟩ := h
  have HM0 : Hid (∀ o, Mod (fun _ => False) w (w.alloc o)) := fun o => (Mod.refl _ w).alloc o
  have HMm := hid6 hm
  have HSt : Hid (∀ W W', Mod (fun _ => False) W W' → w.heap.size < W.heap.size → (W.cell? ⟨w.heap.size, 0, none⟩ = some (.pointer (some ⟨k, 0, none⟩)) ∧ W.cell? ⟨k, 2, none⟩ = some (.int .i64 gid)) → (W'.cell? ⟨w.heap.size, 0, none⟩ = some (.pointer (some ⟨k, 0, none⟩)) ∧ W'.cell? ⟨k, 2, none⟩ = some (.int .i64 gid))) := fun W W' hM hw h => ⟨(hM.cell (p := ⟨w.heap.size, 0, none⟩) hw (fun e => e)).trans h.1, (hM.cell (p := ⟨k, 2, none⟩) (by show k < _; omega) (fun e => e)).trans h.2⟩
  have hco1 : ∀ (W : World) (B o x : Nat) (v : Value), w.heap.size < B → (W.setCell ⟨B, o, none⟩ v).cell? ⟨k, x, none⟩ = W.cell? ⟨k, x, none⟩ := fun W B o x v hB => setCell_out _ _ _ _ _ (fun e => by have h1 : k = B := e; omega)
  have hco2 : ∀ (W : World) (B o x : Nat) (v : Value), w.heap.size < B → (W.setCell ⟨B, o, none⟩ v).cell? ⟨w.heap.size, x, none⟩ = W.cell? ⟨w.heap.size, x, none⟩ := fun W B o x v hB => setCell_out _ _ _ _ _ (fun e => by have h1 : w.heap.size = B := e; omega)
  clear hS T hk hfit h0 hl hm
  go_enter Tryz.func78, Tryz.ntmps78
  go_upto_region 1 with fail
  go_cut [9, 10] (fun v9 v10 wc => ∃ B9 bl : Nat, v9 = .pointer (some ⟨B9, 0, none⟩) ∧ v10 = .int .i64 gid ∧ wc.cell? ⟨B9, 6, none⟩ = some (.int .i64 (fp 0)) ∧ Hid (Mod (fun _ => False) (w.alloc (.cells #[.pointer (some ⟨k, 0, none⟩)] 108)) wc))
  case first =>
    go_region_held (fun W' => W'.cell? ⟨w.heap.size, 0, none⟩ = some (.pointer (some ⟨k, 0, none⟩)) ∧ W'.cell? ⟨k, 2, none⟩ = some (.int .i64 gid)) (first | with_reducible exact hS1 | go_keep | (simp only [hco1, hco2, hsz, Nat.lt_succ_self]; with_reducible exact hS1))
      (first | (go_at_call 56; refine (HS.out _ (by first | exact (HM0.out _).drewN 1 | exact ((HM0.out _).drewN 1).alloc _)).mono ?_; rintro e w1 ⟨⟨bl, rfl⟩, M1⟩; have hcl := (fun (p : Addr) (hp : p.block < _) => M1.cell (p := p) hp (fun e => e)); have hfz := (fun (p : Addr) (hp : p.block < _) => M1.frozen (p := p) hp (fun e => e)); have HM1 := hid6 M1; have hS1 := HSt.out _ _ M1 (by first | (simp; done) | (simp; omega)) (by first | assumption | go_keep); have hsz : w.heap.size < w1.heap.size := (by have := M1.size; simp at this; omega); clear M1))
    · go_wp2_with fail
      go_meet
      exact ⟨w1.heap.size, bl, rfl, rfl, by rw [World.cell?_alloc_at _ _ _ _ rfl]; rfl, (((Mod.refl _ _).drewN 1).trans HM1.out).alloc _⟩
    · go_wp2_with fail
      go_meet
      exact ⟨w.heap.size + 1, bl, rfl, rfl, by simp [go_sem, hcl], Mod.new6 (((((Mod.refl _ _).alloc _).drewN 1)).trans HM1.out) (Mod.ten (s := fun x => x = w.heap.size + 1) w1 _ rfl _ _ _ _ _ _ _ _ _ _) (fun x e => by simp; omega)⟩
  case rest =>
    obtain ⟨wA, hwA⟩ : ∃ x, x = wc := ⟨wc, rfl⟩
    subst hwA
    obtain ⟨B9, bl, rfl, rfl, hc9, HM9⟩ := hcut
    have h9 := block_lt_of_cell hc9
    have hws : w.heap.size < wA.heap.size := by have := HM9.out.size; simp at this; omega
    have hcl := fun (p : Addr) (hp : p.block < (w.alloc (.cells #[.pointer (some ⟨k, 0, none⟩)] 108)).heap.size) => HM9.out.cell (p := p) hp (fun e => e)
    have hfz := fun (p : Addr) (hp : p.block < (w.alloc (.cells #[.pointer (some ⟨k, 0, none⟩)] 108)).heap.size) => HM9.out.frozen (p := p) hp (fun e => e)
    have g0 : wA.cell? ⟨w.heap.size, 0, none⟩ = some (.pointer (some ⟨k, 0, none⟩)) := by rw [hcl _ (by simp)]; simp [go_sem]
    have g1 : wA.cell? ⟨k, 0, none⟩ = some (.pointer (some ⟨t, 0, none⟩)) := by rw [hcl _ (by simp; omega), World.cell?_alloc_past _ _ _ hkw]; exact c0
    have g2 : wA.cell? ⟨k, 1, none⟩ = some (.int .i64 uid) := by rw [hcl _ (by simp; omega), World.cell?_alloc_past _ _ _ hkw]; exact c1
    have g6 : wA.cell? ⟨k, 6, none⟩ = some (.slice none 0 0) := by rw [hcl _ (by simp; omega), World.cell?_alloc_past _ _ _ hkw]; exact hb6
    have gf : ∀ o, wA.frozen? ⟨k, o, none⟩ = false := fun o => by rw [hfz _ (by simp; omega), World.frozen?_alloc_past _ _ _ hkw]; exact hfr o
    have hkc : k < wA.heap.size := by omega
    have hqc : q < wA.heap.size := by omega
    clear hcl hfz c0 c1 c2 hb6 hfr hco1 hco2 HSt
    have hm := HMm.out
    have HMc := hid6 ((HM0.out _).trans HM9.out)
    have HMA := HMc
    have hqn : ¬ wA.heap.size = q := by omega
    have hkn : ¬ wA.heap.size = k := by omega
    have hwn : ¬ wA.heap.size = w.heap.size := by omega
    have hwq : ¬ w.heap.size = q := by omega
    have HS7 : Hid (∀ W W', Mod (fun x => x = q) W W' → w.heap.size < W.heap.size → (W.cell? ⟨w.heap.size, 0, none⟩ = some (.pointer (some ⟨k, 0, none⟩)) ∧ W.cell? ⟨k, 0, none⟩ = some (.pointer (some ⟨t, 0, none⟩)) ∧ W.cell? ⟨k, 1, none⟩ = some (.int .i64 uid)) → (W'.cell? ⟨w.heap.size, 0, none⟩ = some (.pointer (some ⟨k, 0, none⟩)) ∧ W'.cell? ⟨k, 0, none⟩ = some (.pointer (some ⟨t, 0, none⟩)) ∧ W'.cell? ⟨k, 1, none⟩ = some (.int .i64 uid))) := fun W W' hM hw h => ⟨(hM.cell (p := ⟨w.heap.size, 0, none⟩) hw hwq).trans h.1, (hM.cell (p := ⟨k, 0, none⟩) (by show k < _; omega) hkq).trans h.2.1, (hM.cell (p := ⟨k, 1, none⟩) (by show k < _; omega) hkq).trans h.2.2⟩
    have hco3 : ∀ (W : World) (B o x : Nat) (v : Value), wA.heap.size ≤ B → (W.setCell ⟨B, o, none⟩ v).cell? ⟨k, x, none⟩ = W.cell? ⟨k, x, none⟩ := fun W B o x v hB => setCell_out _ _ _ _ _ (fun e => by have h1 : k = B := e; omega)
    have hco4 : ∀ (W : World) (B o x : Nat) (v : Value), wA.heap.size ≤ B → (W.setCell ⟨B, o, none⟩ v).cell? ⟨w.heap.size, x, none⟩ = W.cell? ⟨w.heap.size, x, none⟩ := fun W B o x v hB => setCell_out _ _ _ _ _ (fun e => by have h1 : w.heap.size = B := e; omega)
    go_upto_region 7 with fail
    go_cut [11, 12] (fun v11 v12 wd => ∃ B11 : Nat, v11 = .pointer (some ⟨B11, 0, none⟩) ∧ v12 = .int .i64 0 ∧ wd.cell? ⟨B11, 0, none⟩ = some (.int .i64 ((i : Int) + 1)) ∧ wA.heap.size ≤ B11 ∧ Hid (Tb wd t q b c n N clk (setN F i (freshF m' uid gid clk)) (setN R i (fun _ => 0)) u D) ∧ Hid (Mod (fun x => x = q) wA wd))
    case first =>
      go_region_held (fun W' => W'.cell? ⟨w.heap.size, 0, none⟩ = some (.pointer (some ⟨k, 0, none⟩)) ∧ W'.cell? ⟨k, 0, none⟩ = some (.pointer (some ⟨t, 0, none⟩)) ∧ W'.cell? ⟨k, 1, none⟩ = some (.int .i64 uid)) (first | with_reducible exact hS1 | go_keep | (simp only [hco3, hco4, hsz, Nat.le_refl]; with_reducible exact hS1))
        (first | (go_at_call 14; refine (HA.out _ (by first | exact HMc.out.drewN 1 | exact (HMc.out.drewN 1).alloc _)).mono ?_; rintro e w2 ⟨rfl, T2, M2⟩; have hcl := (fun (p : Addr) (hp : p.block < _) (hn : ¬ p.block = q) => M2.cell (p := p) hp hn); have hfz := (fun (p : Addr) (hp : p.block < _) (hn : ¬ p.block = q) => M2.frozen (p := p) hp hn); have HM2 := hid6 M2; have HT2 := hid6 T2; have hS1 := HS7.out _ _ M2 (by first | (simp; done) | (simp; omega)) (by first | assumption | go_keep); have hsz : wA.heap.size ≤ w2.heap.size := (by have := M2.size; simp at this; omega); clear M2 T2))
      · go_wp2_with fail
        go_meet
        exact ⟨w2.heap.size, rfl, rfl, by rw [World.cell?_alloc_at _ _ _ _ rfl]; rfl, hsz, HT2.out.new ((Mod.refl _ _).alloc _), (((Mod.refl _ _).drewN 1).trans HM2.out).alloc _⟩
      · go_wp2_with fail
        go_meet
        have M3 : Mod (fun x => x = wA.heap.size) w2 (w2.setCell ⟨wA.heap.size, 0, none⟩ (.int .i64 ((i : Int) + 1))) := (Mod.refl _ _).setCell _ _ rfl
        have t1 := HT.out.lt_t; have t2 := HT.out.S.lt_b; have t3 := HT.out.S.lt_c; have t4 := HT.out.S.tab.lt
        exact ⟨wA.heap.size, rfl, rfl, by simp [go_sem, hcl, hqn], Nat.le_refl _, HT2.out.mod M3 (by omega) (by omega) (by omega) (by omega) (by omega), Mod.andNew ((((Mod.refl _ _).drewN 1).alloc _).trans HM2.out) M3 (Nat.le_refl _)⟩
    case rest =>
      obtain ⟨B11, rfl, rfl, hc11, hB11, HTd, HMd⟩ := hcut
      have d0 : wc.cell? ⟨w.heap.size, 0, none⟩ = some (.pointer (some ⟨k, 0, none⟩)) := (HMd.out.cell (p := ⟨w.heap.size, 0, none⟩) hws hwq).trans g0
      have d6 : wc.cell? ⟨k, 6, none⟩ = some (.slice none 0 0) := (HMd.out.cell (p := ⟨k, 6, none⟩) hkc hkq).trans g6
      have df : ∀ o, wc.frozen? ⟨k, o, none⟩ = false := fun o => (HMd.out.frozen (p := ⟨k, o, none⟩) hkc hkq).trans (gf o)
      obtain ⟨i0, hi0, hz0, hs0, hb0⟩ := infFn
      have HIf := hid6 (show Tryz.prog.info? 1 = some i0 ∧ i0.zero = some .nilFunc ∧ i0.size = 1 ∧ i0.bytes = 8 from ⟨hi0, hz0, hs0, hb0⟩)
      have HG1 := hid6 g1
      clear hi0 hz0 hs0 hb0 g0 g1 g2 g6 gf hc9 hco3 hco4 HS7 HA HS
      have hkd : k < wc.heap.size := Nat.lt_of_lt_of_le hkc HMd.out.size
      have h11 := block_lt_of_cell hc11
      have hwd : w.heap.size < wc.heap.size := Nat.lt_of_lt_of_le hws HMd.out.size
      have HNw : Hid (∀ (v : Value) j x, [v][j]? = some x → (wc.drew.alloc (.cells #[v] 1)).cell? ((⟨wc.heap.size, 0, none⟩ : Addr).add j) = some x) := fun v j x hx => by
        match j, hx with
        | 0, hx => cases hx; rw [Addr.add_mid]; exact World.cell?_alloc_at _ _ _ _ rfl
      have HFin : Hid (∀ W (v : Value), Mod (fun _ => False) wc W → Tb (W.setCell ⟨k, 6, none⟩ v) t q b c n N clk (setN F i (freshF m' uid gid clk)) (setN R i (fun _ => 0)) u D ∧ Mod (fun x => x = q ∨ x = k) w (W.setCell ⟨k, 6, none⟩ v) ∧ (W.setCell ⟨k, 6, none⟩ v).cell? ⟨k, 0, none⟩ = some (.pointer (some ⟨t, 0, none⟩))) := fun W v hM => by
        have ms : Mod (fun x => x = k) W (W.setCell ⟨k, 6, none⟩ v) := (Mod.refl _ _).setCell _ _ rfl
        obtain ⟨k0, k1, k2, k3, k4⟩ := HK.out
        exact ⟨(HTd.out.new hM).mod ms (fun e => k0 e.symm) (fun e => k3 e.symm) (fun e => k4 e.symm) (fun e => k1 e.symm) (fun e => k2 e.symm), (((HMA.out.mono (fun _ _ e => e.elim)).trans (HMd.out.mono (fun _ _ e => .inl e))).trans (hM.mono (fun _ _ e => e.elim))).trans (ms.mono (fun _ _ e => .inr e)), by rw [setCell_out _ _ _ _ _ (fun _ e => by cases e)]; exact (hM.cell (p := ⟨k, 0, none⟩) hkd (fun e => e)).trans ((HMd.out.cell (p := ⟨k, 0, none⟩) hkc hkq).trans HG1.out)⟩
      go_wp2_with (first | (go_at_call 57; refine (must_no _).mono ?_; rintro e w3 ⟨rfl, hw3⟩; rw [hw3]; clear hw3 w3))
      go_region_law (first | (refine step_append_own rfl (.tmp 56) (.tmp 58) 122 rfl 0 1 i0 .nilFunc 1 8 undFn HIf.out.1 HIf.out.2.1 HIf.out.2.2.1 HIf.out.2.2.2 rfl (by decide) (.slice none 0 0) 0 [] (by first | (simp [Act.eval]; done) | (simp [Act.eval, Act.put]; done)) (World.ownsRow_nil _ _ _ _) ⟨wc.heap.size, 0, none⟩ 1 1 [.func (.func 95) #[] #[.pointer (some ⟨w.heap.size, 0, none⟩), .pointer (some ⟨B11, 0, none⟩)]] (by first | (simp [Act.eval]; done) | (simp [Act.eval, Act.put]; done)) rfl (HNw.out _) (fun x hx => by simp at hx; subst hx; rfl) (by simp only [maxLen]; omega) (by decide) (Nat.zero_le _) ?_; intro v' w3 hown hgrow hiff; obtain ⟨a3, c3, rfl⟩ := row_sl hown; have HG := hid6 (Mod.grow0 (((Mod.refl (fun _ => False) wc).drewN 1).alloc _) hgrow); have e6 : w3.cell? ⟨k, 6, none⟩ = some (.slice none 0 0) := ((HG.out.cell (p := ⟨k, 6, none⟩) hkd (fun e => e)).trans d6); have ef : (∀ o, w3.frozen? ⟨k, o, none⟩ = false) := (fun o => (HG.out.frozen (p := ⟨k, o, none⟩) hkd (fun e => e)).trans (df o)); have e0 : w3.cell? ⟨w.heap.size, 0, none⟩ = some (.pointer (some ⟨k, 0, none⟩)) := ((HG.out.cell (p := ⟨w.heap.size, 0, none⟩) (Nat.lt_of_lt_of_le hws HMd.out.size) (fun e => e)).trans d0); have e11 : w3.cell? ⟨B11, 0, none⟩ = some (.int .i64 ((i : Int) + 1)) := ((HG.out.cell (p := ⟨B11, 0, none⟩) h11 (fun e => e)).trans hc11); clear hown hgrow hiff))
      all_goals (go_wp2; go_ret; exact ⟨rfl, HFin.out _ _ HG.out⟩)
end
end Go.Proofs.YtpcbpikhiooafaaGreatDoor
