/- Dates: Stamp. Conditions: the tables of days and of powers of ten read as their texts lay them. -/
import Derived.Test.YtgkjpfebjhhdkaaDoorNd3
import Derived.Test.YtgkjpfebjhhdkaaDoorNp1
import Derived.Deep.RegionHeld3
namespace Go.Proofs.YtgkjpfebjhhdkaaDoor
open Go.RowKit Go.Sort
theorem step_append_at {P : Program} {ops : Array Oper} {o : Oper} {a : Act} {w : World} {K : Act → World → Prop} {Q : Exit → Act → World → Prop} {E : Prop} (hgd : o.guard = none) (s x : Operand) (t : TypeId)
    (ho : o.op = .call { callee := .builtin .append, args := #[s, x], argTypes := #[t, t] })
    (base : Nat) (e : TypeId) (i : TypeInfo) (z : Value) (size bytes : Nat) (ht : P.underlying t = some (.slice e)) (hi : P.info? e = some i) (hz : i.zero = some z)
    (hsize : i.size = size) (hby : i.bytes = bytes) (hzs : z.cells.size = size) (hsz : 0 < size)
    (v : Value) (n : Nat) (xs : List Value) (hs : a.eval s = v) (hown : w.ownsRow base e size v n xs)
    (ad : Addr) (m c : Nat) (news : List Value) (hx : a.eval x = .slice (some ad) m c) (hl : news.length = m * size) (hnews : ∀ j u, news[j]? = some u → w.cell? (ad.add j) = some u) (h1 : ∀ u ∈ news, u.oneCell' = true)
    (h63 : n + m ≤ maxLen) (hbytes : (n + m) * bytes ≤ 140737488355328) (hbase : base ≤ w.heap.size)
    (h : ∀ v' w', w'.ownsRow base e size v' (n + m) (xs ++ news) → w.grownBy w' v.ownBlock → (v'.ownBlock = v.ownBlock ∨ v'.ownBlock = some w.heap.size) → K (a.put o.dst v') w') :
    if Region.wanted o (yielded ops a.tmps) = true then Oper.wp P o a w K Q else E := by
  rw [if_pos (by simp [Region.wanted, hgd])]
  obtain ⟨v', w', hr, h2, h3, _, h5⟩ := run_append_own_at (P := P) w base t o.type e i z size bytes ht hi hz hsize hby hzs hsz v n xs hown ad m c news hl hnews h1 h63 hbytes hbase
  unfold Oper.wp execOp
  simp only [ho, resolve, invoke, builtin, Sem.run_bind, Sem.run_pure, Result.andThen_ok, List.map_toArray, List.map_cons, List.map_nil, hs, hx, hr]
  exact h v' w' h2 h3 h5
/-- A stamp that grows: the row of bytes, the moment in block mb. -/
structure St (w : World) (B : Nat) (W : World) (v : Value) (bs : List UInt8) (mb : Nat) (y m d h mi s : Int) : Prop where
  yy : By B W v bs
  bel : Below B w W
  hB : B ≤ W.heap.size
  pt : PT B W
  hm : W.heap[mb]? = some (.cells #[.int .i64 y, .int .i64 m, .int .i64 d, .int .i64 h, .int .i64 mi, .int .i64 s] 80 (0, 0))
section
variable {w W W' : World} {B : Nat} {v v' : Value} {bs : List UInt8} {mb : Nat} {y m d h mi s : Int}
theorem St.own (H : St w B W v bs mb y m d h mi s) : W.ownsRow B 5 1 v bs.length (Lib.byteCells bs) := H.yy
theorem St.lt (H : St w B W v bs mb y m d h mi s) : mb < W.heap.size := (Array.getElem?_eq_some_iff.1 H.hm).1
theorem St.drew (H : St w B W v bs mb y m d h mi s) : St w B W.drew v bs mb y m d h mi s :=
  ⟨H.yy.grow ⟨rfl, rfl, rfl, Nat.le_refl _, fun _ _ => rfl⟩, H.bel.trans ⟨rfl, rfl, rfl, Nat.le_refl _, fun _ _ => rfl⟩, H.hB, H.pt.on ⟨rfl, rfl, rfl, Nat.le_refl _, fun _ _ => rfl⟩, H.hm⟩
theorem St.cells (H : St w B W v bs mb y m d h mi s) : W.cell? ⟨mb, 0, none⟩ = some (.int .i64 y) ∧ W.cell? ⟨mb, 1, none⟩ = some (.int .i64 m) ∧ W.cell? ⟨mb, 2, none⟩ = some (.int .i64 d) ∧ W.cell? ⟨mb, 3, none⟩ = some (.int .i64 h) ∧ W.cell? ⟨mb, 4, none⟩ = some (.int .i64 mi) ∧ W.cell? ⟨mb, 5, none⟩ = some (.int .i64 s) :=
  ⟨cell_of_heap H.hm, cell_of_heap H.hm, cell_of_heap H.hm, cell_of_heap H.hm, cell_of_heap H.hm, cell_of_heap H.hm⟩
theorem mo_no (cs : Array Value) : ∀ (c : Array Value) (fz : Nat × Nat), (Obj.cells cs 80 (0, 0)) ≠ .cells c 5 fz := by
  intro c fz e
  injection e with _ h _
  exact absurd h (by decide)
theorem St.call (H : St w B W v bs mb y m d h mi s) (n : Int) (h0 : 0 ≤ n) (h1 : n < 100) (hl : bs.length ≤ 1000) : Calls Tryd.prog 60 #[v, .int .i64 n] W fun e w' => ∃ v', e = .returned v' ∧ St w B w' v' (bs ++ Na.two n) mb y m d h mi s := by
  refine (nAppendTwo B n h0 h1 v bs W H.yy H.hB hl H.pt).mono ?_
  rintro e w' ⟨v', rfl, hy, hb, hk⟩
  exact ⟨v', rfl, hy, H.bel.trans hb, Nat.le_trans H.hB hb.size, H.pt.on hb, hk mb _ H.hm (by simp) (mo_no _)⟩
theorem St.alloc (H : St w B W v bs mb y m d h mi s) (o : Obj) : St w B (W.alloc o) v bs mb y m d h mi s :=
  ⟨H.yy.grow ((Below.refl _ _).alloc (Nat.le_refl _) o), H.bel.alloc H.hB o, by have := H.hB; simp; omega, H.pt.on ((Below.refl _ _).alloc H.hB o), (Lib.alloc_old W o mb H.lt).trans H.hm⟩
theorem St.add (H : St w B W v bs mb y m d h mi s) {c : UInt8} (hown : W'.ownsRow B 5 1 v' (bs.length + 1) (Lib.byteCells bs ++ [.int .u8 c.toNat])) (hg : W.grownBy W' v.ownBlock) : St w B W' v' (bs ++ [c]) mb y m d h mi s := by
  obtain ⟨h1, h2, h3⟩ := H.yy.add0 (Below.refl B W) H.hB hown hg
  exact ⟨h1, H.bel.trans h2, Nat.le_trans H.hB h2.size, H.pt.on h2, h3 mb _ H.hm (by simp) (mo_no _)⟩
end
namespace Na
/-- A moment as text. -/
def stampT (y m d h mi s : Int) : List UInt8 := two (y / 100) ++ two (y % 100) ++ [45] ++ two m ++ [45] ++ two d ++ [32] ++ two h ++ [58] ++ two mi ++ [58] ++ two s
end Na
def OutS (t : Int) (e : Ending) : Prop :=
  if t < -62167219200 ∨ 253402300800 ≤ t then e = .returned (.string ⟨#[63]⟩)
  else ∃ (y : Int) (j : Nat), Na.Cv ((t + 62167219200) / 86400) y j ∧ e = .returned (.string ⟨(Na.stampT y ((j : Int) + 1) ((t + 62167219200) / 86400 - Na.yb y - Na.mb y j + 1) ((t + 62167219200) % 86400 / 3600) ((t + 62167219200) % 86400 / 60 % 60) ((t + 62167219200) % 86400 % 60)).toArray⟩)
theorem day_rng {D y : Int} {j : Nat} (h : Na.Cv D y j) : 1 ≤ D - Na.yb y - Na.mb y j + 1 ∧ D - Na.yb y - Na.mb y j + 1 ≤ 31 := by
  have h1 := h.ml
  have h2 := h.mh
  have h3 := h.j1
  have h4 := leapN_le y
  have hd : ∀ L : Fin 2, ∀ k : Fin 12, Na.daTab.getD (L.val * 13 + (k.val + 1)) 0 - Na.daTab.getD (L.val * 13 + k.val) 0 ≤ 31 := by decide
  have h5 := hd ⟨Na.leapN y, by omega⟩ ⟨j, h3⟩
  have h6 : Na.mb y (j + 1) - Na.mb y j ≤ 31 := h5
  omega
set_option maxRecDepth 100000 in
set_option maxHeartbeats 4000000 in
theorem nStamp (t : Int) (h0 : -9223372036854775808 ≤ t) (h1 : t ≤ 9223372036854775807) (w : World) (hd : DT w) (hp : P10 w) : Calls Tryd.prog 28 #[.int .i64 t] w fun e w' => OutS t e ∧ Below w.heap.size w w' := by
  have HM := hidA (nMomentOf t h0 h1 w hd)
  have HPT : Hid (PT w.heap.size w) := Lib.tabBelow_of_tabIs hp
  obtain ⟨iB, hiB, hz0, hz1, hz2⟩ := infoB
  clear hd hp
  by_cases hb : t < -62167219200 ∨ 253402300800 ≤ t
  · have HM2 : Hid (Calls Tryd.prog 59 #[.int .i64 t] w fun e w' => e = .returned (.tuple #[mV 0 0 0 0 0 0, .bool false]) ∧ Below w.heap.size w w') := HM.out.mono fun e w' h => ⟨by have := h.1; unfold OutM at this; rw [if_pos hb] at this; exact this, h.2⟩
    have HE : Hid (∀ e, e = .returned (.string ⟨#[63]⟩) → OutS t e) := fun e he => by unfold OutS; rw [if_pos hb]; exact he
    unfold mV at HM2
    clear HM hb
    go_enter Tryd.func28, Tryd.ntmps28
    go_wp2_with (go_at_call 59; refine HM2.out.mono ?_; rintro e w1 ⟨rfl, b1⟩)
    go_ret
    exact ⟨HE.out _ rfl, b1.alloc b1.size _⟩
  · obtain ⟨D, hD⟩ : ∃ D, (t + 62167219200) / 86400 = D := ⟨_, rfl⟩
    obtain ⟨R, hR⟩ : ∃ R, (t + 62167219200) % 86400 = R := ⟨_, rfl⟩
    have hR0 : 0 ≤ R := by omega
    have hR1 : R < 86400 := by omega
    have HM2 : Hid (Calls Tryd.prog 59 #[.int .i64 t] w fun e w' => (∃ (y : Int) (j : Nat), Na.Cv D y j ∧ e = .returned (.tuple #[mV y ((j : Int) + 1) (D - Na.yb y - Na.mb y j + 1) (R / 3600) (R / 60 % 60) (R % 60), .bool true])) ∧ Below w.heap.size w w') := HM.out.mono fun e w' h => ⟨by have := h.1; unfold OutM at this; rw [if_neg hb, hD, hR] at this; exact this, h.2⟩
    have HE : Hid (∀ e (y : Int) (j : Nat), Na.Cv D y j → e = .returned (.string ⟨(Na.stampT y ((j : Int) + 1) (D - Na.yb y - Na.mb y j + 1) (R / 3600) (R / 60 % 60) (R % 60)).toArray⟩) → OutS t e) := fun e y j hc he => by
      unfold OutS; rw [if_neg hb, hD, hR]; exact ⟨y, j, hc, he⟩
    unfold mV at HM2
    have r3 : 0 ≤ R / 3600 ∧ R / 3600 < 100 := by omega
    have r4 : 0 ≤ R / 60 % 60 ∧ R / 60 % 60 < 100 := by omega
    have r5 : 0 ≤ R % 60 ∧ R % 60 < 100 := by omega
    clear HM hb hD hR hR0 hR1
    generalize R / 3600 = h at *
    generalize R / 60 % 60 = mi at *
    generalize R % 60 = s at *
    go_enter Tryd.func28, Tryd.ntmps28
    go_wp2_with (go_at_call 59; refine HM2.out.mono ?_; rintro e w1 ⟨⟨y, j, hcv, rfl⟩, b1⟩; have HCV := hidA hcv; have HDR := hidA (day_rng hcv); have hj := hcv.j1; have hy0 := hcv.y0; have hy1 := hcv.y1; clear hcv)
    have HQ0 : Hid (St w w.heap.size (w1.alloc (.cells #[.int .i64 y, .int .i64 ((j : Int) + 1), .int .i64 (D - Na.yb y - Na.mb y j + 1), .int .i64 h, .int .i64 mi, .int .i64 s] 80)) (.slice none 0 0) [] w1.heap.size y ((j : Int) + 1) (D - Na.yb y - Na.mb y j + 1) h mi s) := by
      refine ⟨By.nil _ _, b1.alloc b1.size _, by have := b1.size; simp; omega, HPT.out.on (b1.alloc b1.size _), ?_⟩
      show (w1.heap.push _)[w1.heap.size]? = _
      simp
    have HE2 := hidA (fun e => HE.out e y j HCV.out)
    obtain ⟨dd0, dd1⟩ := HDR.out
    have hm0 : (0 : Int) ≤ (j : Int) + 1 := by omega
    have hm1 : (j : Int) + 1 < 100 := by omega
    clear HE HM2 HCV HDR b1 HPT
    generalize D - Na.yb y - Na.mb y j + 1 = dd at *
    generalize (j : Int) + 1 = m at *
    have ey1 : y.tdiv 100 = y / 100 := Int.tdiv_eq_ediv_of_nonneg hy0
    have ey2 : y.tmod 100 = y % 100 := Int.tmod_eq_emod_of_nonneg hy0
    have hwy : IntKind.i64.wrap (y / 100) = y / 100 := by rw [IntKind.wrap_i64]; omega
    have ya0 : 0 ≤ y / 100 := by omega
    have ya1 : y / 100 < 100 := by omega
    have yb0 : 0 ≤ y % 100 := by omega
    have yb1 : y % 100 < 100 := by omega
    obtain ⟨r30, r31⟩ := r3
    obtain ⟨r40, r41⟩ := r4
    obtain ⟨r50, r51⟩ := r5
    generalize w1.alloc (.cells #[.int .i64 y, .int .i64 m, .int .i64 dd, .int .i64 h, .int .i64 mi, .int .i64 s] 80) = w2 at *
    generalize w1.heap.size = mb at *
    have H2 := HQ0
    clear HQ0
    obtain ⟨q20, q21, q22, q23, q24, q25⟩ := H2.out.cells
    have l2 := H2.out.lt
    go_region_held3 (fun W => W.cell? ⟨mb, 0, none⟩ = some (.int .i64 y)) (first | with_reducible exact q40 | with_reducible exact q30 | exact q20)
      (first | (go_at_call 60; first | (with_reducible refine Calls.mono (H2.out.drew.call (y / 100) ya0 ya1 (by decide)) ?_; rintro e w3 ⟨v3, rfl, h3⟩; have H3 := hidA h3; obtain ⟨q30, q31, q32, q33, q34, q35⟩ := H3.out.cells; have l3 := H3.out.lt; clear h3) | (with_reducible refine Calls.mono (H3.out.call (y % 100) yb0 yb1 (by simp [Na.two])) ?_; rintro e w4 ⟨v4, rfl, h4⟩; have H4 := hidA h4; obtain ⟨q40, q41, q42, q43, q44, q45⟩ := H4.out.cells; have l4 := H4.out.lt; clear h4)) | fail)
    go_wp2_with fail
    go_region_held3 (fun W => W.cell? ⟨mb, 1, none⟩ = some (.int .i64 m)) (first | with_reducible exact q61 | with_reducible exact q51 | exact (H4.out.alloc _).drew.cells.2.1 | exact q41)
      (first | (go_at_call 60; with_reducible refine Calls.mono (H5.out.call m hm0 hm1 (by simp [Na.two])) ?_; rintro e w6 ⟨v6, rfl, h6⟩; have H6 := hidA h6; obtain ⟨q60, q61, q62, q63, q64, q65⟩ := H6.out.cells; have l6 := H6.out.lt; clear h6) | (refine step_append_at (by rfl) (.tmp 21) (.tmp 22) 73 (by rfl) w.heap.size 5 iB (.int .u8 0) 1 1 Tryd.underlying73 hiB hz0 hz1 hz2 rfl (by decide) v4 ([] ++ Na.two (y / 100) ++ Na.two (y % 100)).length (Lib.byteCells ([] ++ Na.two (y / 100) ++ Na.two (y % 100))) (by simp [Act.eval]) (H4.out.alloc _).drew.own ⟨w4.heap.size, 0, none⟩ 1 1 [.int .u8 45] (by simp [Act.eval]) rfl (cell_one_new w4 (.int .u8 45) 5) (one_u8 _) (by unfold maxLen; simp [Na.two]) (by simp [Na.two]) ((H4.out.alloc _).drew.hB) ?_; intro v5 w5 hown hg hat; have H5 := hidA ((H4.out.alloc _).drew.add (c := 45) hown hg); obtain ⟨q50, q51, q52, q53, q54, q55⟩ := H5.out.cells; have l5 := H5.out.lt; clear hown hg hat) | fail)
    go_wp2_with fail
    go_region_held3 (fun W => W.cell? ⟨mb, 2, none⟩ = some (.int .i64 dd)) (first | with_reducible exact q82 | with_reducible exact q72 | exact (H6.out.alloc _).drew.cells.2.2.1 | exact q62)
      (first | (go_at_call 60; with_reducible refine Calls.mono (H7.out.call dd (by omega) (by omega) (by simp [Na.two])) ?_; rintro e w8 ⟨v8, rfl, h8⟩; have H8 := hidA h8; obtain ⟨q80, q81, q82, q83, q84, q85⟩ := H8.out.cells; have l8 := H8.out.lt; clear h8) | (refine step_append_at (by rfl) (.tmp 27) (.tmp 28) 73 (by rfl) w.heap.size 5 iB (.int .u8 0) 1 1 Tryd.underlying73 hiB hz0 hz1 hz2 rfl (by decide) v6 ([] ++ Na.two (y / 100) ++ Na.two (y % 100) ++ [45] ++ Na.two m).length (Lib.byteCells ([] ++ Na.two (y / 100) ++ Na.two (y % 100) ++ [45] ++ Na.two m)) (by simp [Act.eval]) (H6.out.alloc _).drew.own ⟨w6.heap.size, 0, none⟩ 1 1 [.int .u8 45] (by simp [Act.eval]) rfl (cell_one_new w6 (.int .u8 45) 5) (one_u8 _) (by unfold maxLen; simp [Na.two]) (by simp [Na.two]) ((H6.out.alloc _).drew.hB) ?_; intro v7 w7 hown hg hat; have H7 := hidA ((H6.out.alloc _).drew.add (c := 45) hown hg); obtain ⟨q70, q71, q72, q73, q74, q75⟩ := H7.out.cells; have l7 := H7.out.lt; clear hown hg hat) | fail)
    go_wp2_with fail
    go_region_held3 (fun W => W.cell? ⟨mb, 3, none⟩ = some (.int .i64 h)) (first | with_reducible exact q103 | with_reducible exact q93 | exact (H8.out.alloc _).drew.cells.2.2.2.1 | exact q83)
      (first | (go_at_call 60; with_reducible refine Calls.mono (H9.out.call h r30 r31 (by simp [Na.two])) ?_; rintro e w10 ⟨v10, rfl, h10⟩; have H10 := hidA h10; obtain ⟨q100, q101, q102, q103, q104, q105⟩ := H10.out.cells; have l10 := H10.out.lt; clear h10) | (refine step_append_at (by rfl) (.tmp 33) (.tmp 34) 73 (by rfl) w.heap.size 5 iB (.int .u8 0) 1 1 Tryd.underlying73 hiB hz0 hz1 hz2 rfl (by decide) v8 ([] ++ Na.two (y / 100) ++ Na.two (y % 100) ++ [45] ++ Na.two m ++ [45] ++ Na.two dd).length (Lib.byteCells ([] ++ Na.two (y / 100) ++ Na.two (y % 100) ++ [45] ++ Na.two m ++ [45] ++ Na.two dd)) (by simp [Act.eval]) (H8.out.alloc _).drew.own ⟨w8.heap.size, 0, none⟩ 1 1 [.int .u8 32] (by simp [Act.eval]) rfl (cell_one_new w8 (.int .u8 32) 5) (one_u8 _) (by unfold maxLen; simp [Na.two]) (by simp [Na.two]) ((H8.out.alloc _).drew.hB) ?_; intro v9 w9 hown hg hat; have H9 := hidA ((H8.out.alloc _).drew.add (c := 32) hown hg); obtain ⟨q90, q91, q92, q93, q94, q95⟩ := H9.out.cells; have l9 := H9.out.lt; clear hown hg hat) | fail)
    go_wp2_with fail
    go_region_held3 (fun W => W.cell? ⟨mb, 4, none⟩ = some (.int .i64 mi)) (first | with_reducible exact q124 | with_reducible exact q114 | exact (H10.out.alloc _).drew.cells.2.2.2.2.1 | exact q104)
      (first | (go_at_call 60; with_reducible refine Calls.mono (H11.out.call mi r40 r41 (by simp [Na.two])) ?_; rintro e w12 ⟨v12, rfl, h12⟩; have H12 := hidA h12; obtain ⟨q120, q121, q122, q123, q124, q125⟩ := H12.out.cells; have l12 := H12.out.lt; clear h12) | (refine step_append_at (by rfl) (.tmp 39) (.tmp 40) 73 (by rfl) w.heap.size 5 iB (.int .u8 0) 1 1 Tryd.underlying73 hiB hz0 hz1 hz2 rfl (by decide) v10 ([] ++ Na.two (y / 100) ++ Na.two (y % 100) ++ [45] ++ Na.two m ++ [45] ++ Na.two dd ++ [32] ++ Na.two h).length (Lib.byteCells ([] ++ Na.two (y / 100) ++ Na.two (y % 100) ++ [45] ++ Na.two m ++ [45] ++ Na.two dd ++ [32] ++ Na.two h)) (by simp [Act.eval]) (H10.out.alloc _).drew.own ⟨w10.heap.size, 0, none⟩ 1 1 [.int .u8 58] (by simp [Act.eval]) rfl (cell_one_new w10 (.int .u8 58) 5) (one_u8 _) (by unfold maxLen; simp [Na.two]) (by simp [Na.two]) ((H10.out.alloc _).drew.hB) ?_; intro v11 w11 hown hg hat; have H11 := hidA ((H10.out.alloc _).drew.add (c := 58) hown hg); obtain ⟨q110, q111, q112, q113, q114, q115⟩ := H11.out.cells; have l11 := H11.out.lt; clear hown hg hat) | fail)
    go_wp2_with fail
    go_region_held3 (fun W => W.cell? ⟨mb, 5, none⟩ = some (.int .i64 s)) (first | with_reducible exact q145 | with_reducible exact q135 | exact (H12.out.alloc _).drew.cells.2.2.2.2.2 | exact q125)
      (first | (go_at_call 60; with_reducible refine Calls.mono (H13.out.call s r50 r51 (by simp [Na.two])) ?_; rintro e w14 ⟨v14, rfl, h14⟩; have H14 := hidA h14; obtain ⟨q140, q141, q142, q143, q144, q145⟩ := H14.out.cells; have l14 := H14.out.lt; clear h14) | (refine step_append_at (by rfl) (.tmp 45) (.tmp 46) 73 (by rfl) w.heap.size 5 iB (.int .u8 0) 1 1 Tryd.underlying73 hiB hz0 hz1 hz2 rfl (by decide) v12 ([] ++ Na.two (y / 100) ++ Na.two (y % 100) ++ [45] ++ Na.two m ++ [45] ++ Na.two dd ++ [32] ++ Na.two h ++ [58] ++ Na.two mi).length (Lib.byteCells ([] ++ Na.two (y / 100) ++ Na.two (y % 100) ++ [45] ++ Na.two m ++ [45] ++ Na.two dd ++ [32] ++ Na.two h ++ [58] ++ Na.two mi)) (by simp [Act.eval]) (H12.out.alloc _).drew.own ⟨w12.heap.size, 0, none⟩ 1 1 [.int .u8 58] (by simp [Act.eval]) rfl (cell_one_new w12 (.int .u8 58) 5) (one_u8 _) (by unfold maxLen; simp [Na.two]) (by simp [Na.two]) ((H12.out.alloc _).drew.hB) ?_; intro v13 w13 hown hg hat; have H13 := hidA ((H12.out.alloc _).drew.add (c := 58) hown hg); obtain ⟨q130, q131, q132, q133, q134, q135⟩ := H13.out.cells; have l13 := H13.out.lt; clear hown hg hat) | fail)
    have hcv := H14.out.yy.text
    go_wp2
    go_ret
    exact ⟨HE2.out _ rfl, H14.out.bel⟩
end Go.Proofs.YtgkjpfebjhhdkaaDoor
