/- Several texts of this claim, one behind the other, in their order. -/
import Derived.Test.YtplnojohlbbalaaM4
import Derived.Deep.RegionHeld3
import Derived.Deep.DeepCutAuto
/- The closure that tells the ends. Condition: lengths that fit. -/
namespace Go.Proofs.Ytplnojohlbbalaa
open Go.RowKit
attribute [local go_sem] ext_eq app_eq get_eq
theorem add0 (g m : Nat) : (⟨g, 0, none⟩ : Addr).add m = ⟨g, m, none⟩ := by cases m <;> simp [Addr.add]
/-- What lay in the row ahead of an append still lies where it lay. -/
theorem append_kept {P : Program} {w w' : World} {base : Nat} {t ty e : TypeId} {i : TypeInfo} {z : Value} {size bytes : Nat} (ht : P.underlying t = some (.slice e)) (hi : P.info? e = some i) (hz : i.zero = some z)
    (hsize : i.size = size) (hby : i.bytes = bytes) (hsz : 0 < size)
    {v v' : Value} {n : Nat} {xs : List Value} (hown : w.ownsRow base e size v n xs)
    {a : Addr} {m c : Nat} {news : List Value} (hl : news.length = m * size) (hnews : ∀ j u, news[j]? = some u → w.cell? (a.add j) = some u) (h1 : ∀ u ∈ news, u.oneCell' = true)
    (h63 : n + m ≤ maxLen) (hbytes : (n + m) * bytes ≤ 140737488355328)
    (hr : (Builtin.append_ #[t, t] ty #[v, .slice (some a) m c]).run P w = .ok v' w') (hown' : w'.ownsRow base e size v' (n + m) (xs ++ news)) :
    ∀ g, v.ownBlock = some g → ∀ j u, xs[j]? = some u → w'.cell? ((⟨g, 0, none⟩ : Addr).add j) = some u := by
  intro g hg j u hj
  subst hsize hby
  have hlt := (List.getElem?_eq_some_iff.1 hj).1
  have hm63 : n + m ≤ 9223372036854775807 := by unfold maxLen at h63; omega
  rcases hown.2 with ⟨rfl, _⟩ | ⟨g', cap, cur, rfl, hbg, hgc, hnc, hcm, hcs, htake⟩
  · cases hg
  · have eg : g' = g := by simpa [Value.ownBlock] using hg
    subst eg
    by_cases hroom : n + m ≤ cap
    · have hfit : n * i.size + news.length ≤ cur.size := by rw [hl, hcs, ← Nat.add_mul]; exact Nat.mul_le_mul_right _ hroom
      have h2 := run_append_room (P := P) w t ty e i ht hi g' n cap cur hgc a m c news hl hnews h1 hroom hfit
      rw [hr] at h2
      injection h2 with e1 e2
      subst e1
      exact hown'.cells (g := g') rfl j u (by rw [List.getElem?_append_left hlt]; exact hj)
    · have holds : ∀ j u, xs[j]? = some u → w.cell? ((⟨g', 0, none⟩ : Addr).add j) = some u := hown.cells (g := g') rfl
      have h2 := run_append_grow (P := P) w t ty e i z ht hi hz ⟨g', 0, none⟩ n cap xs hown.1 holds a m c news hl hnews (by omega) (by omega) (growslice_fits (by omega) hbytes)
      rw [hr] at h2
      injection h2 with e1 e2
      subst e2
      refine Eq.trans ?_ (holds j u hj)
      rw [add0]
      exact World.cell?_of_block (a := ⟨g', j, none⟩) (heap_alloc_old w.drew _ (show g' < w.drew.heap.size from heap_lt hgc))
theorem stepAppendK {P : Program} {ops : Array Oper} {o : Oper} {a : Act} {w : World} {K : Act → World → Prop} {Q : Exit → Act → World → Prop} {E : Prop} (hgd : o.guard = none) (s x : Operand) (t : TypeId)
    (ho : o.op = .call { callee := .builtin .append, args := #[s, x], argTypes := #[t, t] })
    (base : Nat) (e : TypeId) (i : TypeInfo) (z : Value) (size bytes : Nat) (ht : P.underlying t = some (.slice e)) (hi : P.info? e = some i) (hz : i.zero = some z)
    (hsize : i.size = size) (hby : i.bytes = bytes) (hzs : z.cells.size = size) (hsz : 0 < size)
    (v : Value) (n : Nat) (xs : List Value) (hs : a.eval s = v) (hown : w.ownsRow base e size v n xs)
    (ad : Addr) (m c : Nat) (news : List Value) (hx : a.eval x = .slice (some ad) m c) (hl : news.length = m * size) (hnews : ∀ j u, news[j]? = some u → w.cell? (ad.add j) = some u) (h1 : ∀ u ∈ news, u.oneCell' = true)
    (h63 : n + m ≤ maxLen) (hbytes : (n + m) * bytes ≤ 140737488355328) (hbase : base ≤ w.heap.size)
    (h : ∀ v' w', w'.ownsRow base e size v' (n + m) (xs ++ news) → w.grownBy w' v.ownBlock → (∀ g, v.ownBlock = some g → ∀ j u, xs[j]? = some u → w'.cell? ((⟨g, 0, none⟩ : Addr).add j) = some u) → K (a.put o.dst v') w') :
    if Region.wanted o (yielded ops a.tmps) = true then Oper.wp P o a w K Q else E := by
  rw [if_pos (by simp [Region.wanted, hgd])]
  obtain ⟨v', w', hr, h2, h3, _, _⟩ := run_append_own_at (P := P) w base t o.type e i z size bytes ht hi hz hsize hby hzs hsz v n xs hown ad m c news hl hnews h1 h63 hbytes hbase
  unfold Oper.wp execOp
  simp only [ho, resolve, invoke, builtin, Sem.run_bind, Sem.run_pure, Result.andThen_ok, List.map_toArray, List.map_cons, List.map_nil, hs, hx, hr]
  exact h v' w' h2 h3 (append_kept ht hi hz hsize hby hsz hown hl hnews h1 h63 hbytes hr h2)
set_option maxRecDepth 100000 in
set_option maxHeartbeats 4000000 in
theorem oEnds1 (B : Nat) (v : Value) (acc : List Nat) (m : Nat) (hm : acc.length = m + 1) (hal : acc.length ≤ 1048577) (a : Option Addr) (n c : Nat) (e : Bool) (hn : n ≤ 1048577) (hlast : acc[m]'(by omega) ≤ 1048577) (w : World) (hI : Ir B w v acc) (hB : B ≤ w.heap.size) : Calls Try.prog 53 #[v, .agg #[.slice a n c, .bool e]] w fun x w' => ∃ v', x = .returned v' ∧ Ir B w' v' (acc ++ [acc[m]'(by omega) + (n + if e then 1 else 0)]) ∧ Below B w w' := by
  obtain ⟨iI, hiI, hz0, hz1, hz2⟩ := infoI
  obtain ⟨g, cap, hv, hg, hcg⟩ := hI.at (j := m) (by omega)
  have HVo := hidA (show v.ownBlock = some g by rw [hv]; rfl)
  have HNe := hidA (show some w.heap.size ≠ v.ownBlock by rw [hv]; simp [Value.ownBlock]; omega)
  have HNm := hidA (show (nC acc)[m]? = some (.int .i64 (acc[m]'(by omega) : Nat)) by simp [nC, hm])
  have hb0 : Below w.heap.size w (w.alloc (.cells #[.slice a n c, .bool e] 60)) := (Below.refl w.heap.size w).alloc (Nat.le_refl _) _
  have HI := hidA (fun W (b : Below w.heap.size w W) => (hI.grow b).own)
  have r0 : (w.alloc (.cells #[.slice a n c, .bool e] 60)).cell? ⟨w.heap.size, 0, none⟩ = some (.slice a n c) := World.cell?_alloc_at _ _ _ _ rfl
  have r1 : (w.alloc (.cells #[.slice a n c, .bool e] 60)).cell? ⟨w.heap.size, 1, none⟩ = some (.bool e) := World.cell?_alloc_at _ _ _ _ rfl
  have hsz0 : w.heap.size < (w.alloc (.cells #[.slice a n c, .bool e] 60)).heap.size := by simp
  generalize acc[m]'(by omega) = L at *
  obtain ⟨N, hN⟩ : ∃ N : Nat, Hid (N = n + if e then 1 else 0) := ⟨_, hidA rfl⟩
  have HSz := hidA (fun W => oSize a n c e (by omega) W)
  rw [← hN.out] at HSz ⊢
  have hNl : N ≤ 1048578 := by rw [hN.out]; split <;> omega
  obtain ⟨R, hR⟩ : ∃ R : Nat, Hid (R = L + N) := ⟨_, hidA rfl⟩
  rw [← hR.out]
  have hadd : IntKind.i64.wrap ((L : Int) + (N : Int)) = (R : Int) := by have := hR.out; rw [IntKind.wrap_i64]; omega
  have hwR : IntKind.i64.wrap (R : Int) = (R : Int) := by have := hR.out; rw [IntKind.wrap_i64]; omega
  have hadd2 : (L : Int) + (N : Int) = (R : Int) := by have := hR.out; omega
  have hsub : IntKind.i64.wrap ((acc.length : Int) - 1) = (m : Int) := by rw [IntKind.wrap_i64]; omega
  have hsub2 : (acc.length : Int) - 1 = (m : Int) := by omega
  have hml : (m : Int) < (acc.length : Int) := by omega
  have hmn : m < acc.length := by omega
  have hm0 : (0 : Int) ≤ (m : Int) := by omega
  have HB0 := hidA hb0
  have Hbw := hidA hB
  have HK := hidA (fun W (b : Below (w.alloc (.cells #[.slice a n c, .bool e] 60)).heap.size (w.alloc (.cells #[.slice a n c, .bool e] 60)) W) => (show W.cell? ⟨w.heap.size, 0, none⟩ = some (.slice a n c) ∧ W.cell? ⟨w.heap.size, 1, none⟩ = some (.bool e) ∧ W.cell? ⟨g, m, none⟩ = some (.int .i64 L) from ⟨(b.cell (p := ⟨w.heap.size, 0, none⟩) hsz0).trans r0, (b.cell (p := ⟨w.heap.size, 1, none⟩) hsz0).trans r1, (b.cell (p := ⟨g, m, none⟩) (Nat.lt_trans hg hsz0)).trans ((hb0.cell (p := ⟨g, m, none⟩) hg).trans hcg)⟩))
  rw [hm] at HI hsub hsub2 hml hmn hal hv
  have hlen : ∀ W : World, (Builtin.len_ #[67] 3 #[v]).run Try.prog W = .ok (.int .i64 ((m : Int) + 1)) W := fun W => by
    rw [hv, run_len_slice (P := Try.prog) (w := W) 67 3 (some ⟨g, 0, none⟩) (m + 1) cap htI]
    simp [goInt]
  have hidx : ∀ W : World, (Instr.indexAt 67 v (.int .i64 (m : Int))).run Try.prog W = .ok (.pointer (some ⟨g, m, none⟩)) W := fun W => by
    rw [hv, run_indexAt_slice (P := Try.prog) (w := W) 67 ⟨g, 0, none⟩ (m + 1) cap .i64 m htI, if_pos ⟨by omega, by omega⟩, szI]
    simp [Result.andThen, Addr.add]
    exact Eq.symm
  have hwm : IntKind.i64.wrap (m : Int) = (m : Int) := by rw [IntKind.wrap_i64]; omega
  clear hv
  clear hI hb0 hB r0 r1 hcg
  have hx63 : m + 1 + 1 ≤ maxLen := by unfold maxLen; omega
  have hx8 : (m + 1 + 1) * 8 ≤ 140737488355328 := by omega
  go_enter Try.func53, Try.ntmps53
  go_upto_region 1 with fail
  generalize w.alloc (.cells #[.slice a n c, .bool e] 60) = W0 at *
  go_region_held3 (fun W' : World => W'.cell? ⟨w.heap.size, 0, none⟩ = some (.slice a n c) ∧ W'.cell? ⟨w.heap.size, 1, none⟩ = some (.bool e) ∧ W'.cell? ⟨g, m, none⟩ = some (.int .i64 L)) (first | with_reducible exact HK.out _ (Below.refl _ _) | with_reducible exact HK.out _ (bl_drew1 _) | with_reducible exact HK.out _ (bl_drew _ _) | with_reducible exact hS | go_keep)
    (first
      | (go_at_call 54; with_reducible refine Calls.mono (HSz.out _) ?_; rintro x w1 ⟨rfl, b1⟩; have HB1 : Hid (Below W0.heap.size W0 w1) := (by first | exact hidA b1 | exact hidA (bl_dr1 b1) | exact hidA (bl_drN b1)); have hS := HK.out w1 HB1.out; have HBa := hidA ((bl2 HB0.out HB1.out).alloc (bl2 HB0.out HB1.out).size (.cells #[.int .i64 R] 3)); have HO1 := hidA (HI.out _ HBa.out); have Hs1 := hidA (Nat.le_trans Hbw.out HBa.out.size); clear b1)
      | ((refine stepAppendK ?_ (.tmp 5) (.tmp 15) 67 ?_ B 3 iI (.int .i64 0) 1 8 Try.underlying67 hiI hz0 hz1 hz2 rfl (by decide) v (m + 1) (nC acc) ?_ HO1.out ⟨w1.heap.size, 0, none⟩ 1 1 [.int .i64 R] ?_ rfl ?_ (one_i64 _) hx63 hx8 Hs1.out ?_; exact rfl; exact rfl; exact rfl; exact rfl; exact cell_one_new w1 (.int .i64 R) 3; intro v' w2 hown hg2 hkp; have hS1 := HK.out _ (HB1.out.alloc HB1.out.size (.cells #[.int .i64 R] 3)); have hS := And.intro (hg2.cell hS1.1 HNe.out) (And.intro (hg2.cell hS1.2.1 HNe.out) ((by have hk9 := hkp g HVo.out m _ HNm.out; rw [add0] at hk9; exact hk9) : w2.cell? ⟨g, m, none⟩ = some (.int .i64 L))); have HO2 := hidA hown; have HB2 := hidA ((HBa.out.mono Hbw.out).grown hg2 Hs1.out (fun k hk => (HO1.out.lt k hk).1)); clear hown hg2 hkp hS1)))
  all_goals
    go_wp2_with fail
    go_ret
    refine ⟨_, rfl, ?_, HB2.out⟩
    have h := HO2.out
    unfold Ir
    rw [List.length_append, hm]
    simpa [nC] using h
end Go.Proofs.Ytplnojohlbbalaa
/- The ends of the lines, one after another; the program's Cut again, told of every world. Condition: a length that fits. -/
namespace Go.Proofs.Ytplnojohlbbalaa
open Go.RowKit
attribute [local go_sem] ext_eq app_eq get_eq
namespace Tl
theorem en_zero (l : List UInt8) : en l 0 = 0 := by simp [en]
theorem en_succ (l : List UInt8) (k : Nat) (h : k < (prs l).length) : en l (k + 1) = en l k + (pc (prs l)[k]).length := by
  unfold en
  rw [List.take_succ_eq_append_getElem (by simpa using h), List.flatten_append]
  simp
theorem pc_hd {r : List UInt8} (_ : r ≠ []) : (pc (hd r, yes r)).length = (hd r).length + (if yes r then 1 else 0) := by
  unfold pc; cases yes r <;> simp
theorem tl_drop {r : List UInt8} (h : r ≠ []) : tl r = r.drop (pc (hd r, yes r)).length := by
  rw [pc_hd h]
  by_cases hf : fx r < r.length
  · have e : yes r = true := decide_eq_true hf
    rw [e, if_pos rfl]
    unfold hd tl
    rw [List.length_take, Nat.min_eq_left (Nat.le_of_lt hf)]
  · rw [tl_no hf, hd_no hf]
    exact (List.drop_eq_nil_of_le (by omega)).symm
theorem prs_ne {r : List UInt8} (h : prs r ≠ []) : r ≠ [] := fun e => h (by rw [e]; rfl)
theorem prs_drop (l : List UInt8) : ∀ k, k ≤ (prs l).length → prs (l.drop (en l k)) = (prs l).drop k
  | 0, _ => by rw [en_zero]; simp
  | k + 1, h => by
    have ih := prs_drop l k (by omega)
    have hc : (prs l).drop k = (prs l)[k] :: (prs l).drop (k + 1) := List.drop_eq_getElem_cons (by omega)
    have hr : l.drop (en l k) ≠ [] := prs_ne (by rw [ih, hc]; exact List.cons_ne_nil _ _)
    have hs := prs_step hr
    rw [ih, hc] at hs
    injection hs with h1 h2
    have hk : k < (prs l).length := h
    rw [en_succ l k hk, h1, ← List.drop_drop, ← tl_drop hr, ← h2]
/-- What the program's loop has behind k lines: what is left, and the ends. -/
def Es (l : List UInt8) (k : Nat) : List Nat := (List.range (k + 1)).map (en l)
theorem Es_len (l : List UInt8) (k : Nat) : (Es l k).length = k + 1 := by simp [Es]
theorem Es_last (l : List UInt8) (k : Nat) (h : k < (Es l k).length) : (Es l k)[k] = en l k := by simp [Es]
theorem Es_get (l : List UInt8) (n k : Nat) (h : k < (Es l n).length) : (Es l n)[k] = en l k := by simp [Es]
theorem Es_succ (l : List UInt8) (k : Nat) : Es l (k + 1) = Es l k ++ [en l (k + 1)] := by
  unfold Es; rw [List.range_succ, List.map_append]; simp
theorem at_more {l : List UInt8} {k : Nat} (hk : k ≤ (prs l).length) (hr : l.drop (en l k) ≠ []) : k + 1 ≤ (prs l).length ∧ tl (l.drop (en l k)) = l.drop (en l (k + 1)) ∧ en l (k + 1) = en l k + ((hd (l.drop (en l k))).length + if yes (l.drop (en l k)) then 1 else 0) := by
  have ih := prs_drop l k hk
  have hs := prs_step hr
  rw [ih] at hs
  have hlt : k < (prs l).length := by
    rcases Nat.lt_or_ge k (prs l).length with h | h
    · exact h
    · rw [List.drop_eq_nil_of_le h] at hs; cases hs
  have hc : (prs l).drop k = (prs l)[k] :: (prs l).drop (k + 1) := List.drop_eq_getElem_cons hlt
  rw [hc] at hs
  injection hs with h1 h2
  have e := en_succ l k hlt
  rw [h1] at e
  refine ⟨hlt, ?_, by rw [e, pc_hd hr]⟩
  rw [tl_drop hr, List.drop_drop, e]
theorem at_done {l : List UInt8} {k : Nat} (hk : k ≤ (prs l).length) (hr : l.drop (en l k) = []) : k = (prs l).length := by
  have ih := prs_drop l k hk
  rw [hr] at ih
  have := congrArg List.length ih
  rw [prs_nil, List.length_drop] at this
  simp at this; omega
end Tl
theorem sl_from2 {w : World} {a : Option Addr} {l : List UInt8} {c : Nat} (h : Sr w a c l) (i : Nat) (hi : i ≤ l.length) : ∃ a' c', (∀ W : World, (Instr.slice 22 (.slice a l.length c) (some (.int .i64 i)) none none).run Try.prog W = .ok (.slice a' (l.drop i).length c') W) ∧ ∀ W, Sr W a c l → Sr W a' c' (l.drop i) := by
  have hc := h.le
  refine ⟨(if c = i then a else a.map (·.add (i * 1))), c - i, fun W => ?_, fun W h => ⟨?_, by rw [List.length_drop]; omega, fun e => ?_⟩⟩
  · rw [run_slice_l (P := Try.prog) (w := W) 22 a l.length c htB .i64 i (by omega) (by omega), List.length_drop, szB]
    simp [Result.andThen, sliced]
  · have := h.src.sub i l.length c (Nat.le_refl _) hc
    rw [List.take_length] at this
    exact this
  · have : a = none := by
      split at e
      · exact e
      · simpa using e
    have := h.nil this; omega
set_option maxRecDepth 100000 in
set_option maxHeartbeats 2000000 in
theorem oCutG (l : List UInt8) (a : Option Addr) (c g : Nat) (hl : l.length ≤ 2 ^ 60) (w : World) (hS : Sr w a c l) (hg : w.cell? ⟨g, 0, none⟩ = some (.int .u8 10)) : Calls Try.prog 50 #[.slice a l.length c, .slice (some ⟨g, 0, none⟩) 1 1] w fun e w' => ∃ a1 c1 a2 c2, e = .returned (.tuple #[.slice a1 (Tl.hd l).length c1, .slice a2 (Tl.tl l).length c2, .bool (Tl.yes l)]) ∧ (∀ W, Sr W a c l → Sr W a1 c1 (Tl.hd l) ∧ Sr W a2 c2 (Tl.tl l)) ∧ Below w.heap.size w w' := by
  have HA := hidA (oIndexF l a c g w hS hg)
  rw [Tl.index_fx] at HA
  by_cases hf : Tl.fx l < l.length
  · rw [if_pos hf] at HA
    obtain ⟨hs1, hr1⟩ := sl_to hS (Tl.fx l) (Nat.le_of_lt hf)
    obtain ⟨a2, c2, hs2, hr2⟩ := sl_from2 hS (Tl.fx l + 1) hf
    have hy : Tl.yes l = true := decide_eq_true hf
    rw [hy]
    have H1 := hidA (fun W (h : Sr W a c l) => (sl_to h (Tl.fx l) (Nat.le_of_lt hf)).2)
    have H2 := hidA hr2
    rw [show l.take (Tl.fx l) = Tl.hd l from rfl] at hs1 H1
    rw [show l.drop (Tl.fx l + 1) = Tl.tl l from rfl] at hs2 H2
    have hadd : IntKind.i64.wrap ((Tl.fx l : Int) + 1) = ((Tl.fx l + 1 : Nat) : Int) := by rw [IntKind.wrap_i64]; omega
    have hge : (0 : Int) ≤ (Tl.fx l : Int) := by omega
    have hs2' : ∀ W : World, (Instr.slice 22 (.slice a l.length c) (some (.int .i64 ((Tl.fx l : Int) + 1))) none none).run Try.prog W = .ok (.slice a2 (Tl.tl l).length c2) W := hs2
    generalize Tl.hd l = p at *
    generalize Tl.tl l = q at *
    generalize Tl.fx l = i at *
    clear hS hr1 hr2 hy hs2
    go_enter Try.func50, Try.ntmps50
    go_upto_region 3 with (go_at_call 58; with_reducible refine HA.out.mono ?_; rintro e w1 ⟨rfl, hw1⟩; rw [hw1]; clear hw1 w1)
    go_wp2_with (go_region)
    go_ret3
    exact ⟨_, _, _, _, rfl, fun W h => ⟨H1.out W h, H2.out W h⟩, bl_drew w 1⟩
  · rw [if_neg hf] at HA
    have hy : Tl.yes l = false := decide_eq_false hf
    rw [hy, Tl.hd_no hf, Tl.tl_no hf]
    clear hS hy
    go_enter Try.func50, Try.ntmps50
    go_wp2_with (go_at_call 58; with_reducible refine HA.out.mono ?_; rintro e w1 ⟨rfl, hw1⟩; rw [hw1]; clear hw1 w1)
    go_ret3
    exact ⟨a, c, none, 0, rfl, fun W h => ⟨h, Sr.empty W⟩, Below.refl _ _⟩
end Go.Proofs.Ytplnojohlbbalaa
