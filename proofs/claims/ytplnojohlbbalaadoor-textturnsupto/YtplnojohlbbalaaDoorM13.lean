/- Several texts of this claim, one behind the other, in their order. -/
import Derived.Test.YtplnojohlbbalaaDoorM12
import Derived.Lib.AppendStr
import Derived.Lib.ItoaLen
import Derived.Lib.AppendIntMem
/- Blanks: the program's fill, the plain answer's blanks. Condition: numbers that fit. -/
namespace Go.Proofs.YtplnojohlbbalaaDoor
open Go.RowKit
attribute [local go_sem] ext_eq app_eq get_eq
theorem rep_succ (ch : UInt8) (p : List UInt8) (k : Nat) : p ++ List.replicate (k + 1) ch = p ++ List.replicate k ch ++ [ch] := by
  rw [List.replicate_succ', List.append_assoc]
set_option maxRecDepth 100000 in
set_option maxHeartbeats 2000000 in
theorem oFill (p : List UInt8) (ch : UInt8) (n : Int) (v : Value) (B : Nat) (hn0 : -(2 ^ 40) ≤ n) (hn : n ≤ 2 ^ 40) (hp : p.length ≤ 2 ^ 45) (w : World) (hO : By B w v p) (hB : B ≤ w.heap.size) : Calls Tryd.prog 54 #[v, .int .u8 ch.toNat, .int .i64 n] w fun e w' => ∃ v', e = .returned v' ∧ By B w' v' (p ++ List.replicate n.toNat ch) ∧ Below B w w' ∧ Km none w v w' v' := by
  obtain ⟨iB, hiB, hb0, hb1, hb2⟩ := infoB
  have HO0 := hidA (show By B w v (p ++ List.replicate 0 ch) by simpa using hO)
  have HB0 := hidA (Below.refl B w)
  have HK0 := hidA (Km.refl none w v)
  have Hb := hidA hB
  have hNn : n.toNat ≤ 2 ^ 40 := by omega
  have HN : Hid (n.toNat = if 0 < n then n.toNat else 0) := by show _ = _; split <;> omega
  clear hO hB
  go_enter Tryd.func54, Tryd.ntmps54
  go_upto_region 2 with fail
  go_loopw [0, 8] (fun s0 s8 W => ∃ (k : Nat) (q : List UInt8), s8 = .int .i64 k ∧ k ≤ n.toNat ∧ q = p ++ List.replicate k ch ∧ Hid (By B W s0 q) ∧ Hid (Below B w W) ∧ Hid (Km none w v W s0)) (fun _ s8 _ => n.toNat - (intOf s8).toNat)
  case atStart => exact ⟨0, _, rfl, Nat.zero_le _, rfl, HO0, HB0, HK0⟩
  case round =>
    obtain ⟨k, q, rfl, hk, hq, HO, HB, HK⟩ := hrel
    clear HO0 HB0 HK0
    obtain ⟨a3, c3, hv3⟩ := HO.out.slice
    subst hv3
    have hwsz := hidA (Nat.le_trans Hb.out HB.out.size)
    have hql : q.length + 1 ≤ 2 ^ 46 := by rw [hq, List.length_append, List.length_replicate]; omega
    by_cases hlt : k < n.toNat
    · have hltI : (k : Int) < n := by omega
      have hwk : IntKind.i64.wrap ((k : Int) + 1) = ((k + 1 : Nat) : Int) := by rw [IntKind.wrap_i64]; omega
      have HO3 := hidA HO.out.own
      have hq2 : q ++ [ch] = p ++ List.replicate (k + 1) ch := by rw [hq, rep_succ]
      have HQ2 := hidA hq2
      clear hq hq2
      go_wp2_with (at_builtin; refine wpList_append_own_at _ rfl _ _ 22 rfl B 5 iB (.int .u8 0) 1 1 Tryd.underlying22 hiB hb0 hb1 hb2 rfl (by decide) _ _ _ rfl (HO3.out.alloc _) ⟨wr.heap.size, 0, none⟩ 1 1 [.int .u8 ch.toNat] rfl rfl (cell_one_new _ _ _) (one_u8 _) (by unfold maxLen; omega) (by omega) (by have := hwsz.out; simp; omega) ?_; intro v2 w2 hown hg2 _ hat; have HO2 := hidA (By.app1 (x := ch) hown); have HB2 : Hid (Below B w w2) := (HB.out.alloc hwsz.out _).grown hg2 (by have := hwsz.out; simp; omega) (fun k hk => (HO3.out.lt k hk).1); have HK2 := hidA ((HK.out.trans (Km.alloc none wr _ _)).trans (Km.grown none hg2 hat)); clear hown hg2 hat)
      exact ⟨⟨k + 1, _, by first | rfl | go_num, hlt, HQ2.out, HO2, HB2, HK2⟩, by simp [intOf]; omega⟩
    · have hltI : ¬ (k : Int) < n := by omega
      have ek : k = n.toNat := by omega
      rw [ek] at hq
      have HQ2 := hidA hq
      clear hq ek
      go_wp2_with fail
      go_ret
      exact ⟨_, rfl, by rw [← HQ2.out]; exact HO.out, HB.out, HK.out⟩
set_option maxRecDepth 100000 in
set_option maxHeartbeats 2000000 in
theorem rBlanks (n : Int) (hn0 : -(2 ^ 40) ≤ n) (hn : n ≤ 2 ^ 40) (w : World) : Calls Tryd.prog 39 #[.int .i64 n] w fun e w' => ∃ v', e = .returned v' ∧ By w.heap.size w' v' (List.replicate n.toNat 32) ∧ Below w.heap.size w w' := by
  obtain ⟨iB, hiB, hb0, hb1, hb2⟩ := infoB
  have HB0 := hidA (Below.refl w.heap.size w)
  have hNn : n.toNat ≤ 2 ^ 40 := by omega
  go_enter Tryd.func39, Tryd.ntmps39
  go_upto_region 3 with fail
  go_loopw [3, 4] (fun s0 s8 W => ∃ (k : Nat) (q : List UInt8), s8 = .int .i64 k ∧ k ≤ n.toNat ∧ q = List.replicate k 32 ∧ Hid (By w.heap.size W s0 q) ∧ Hid (Below w.heap.size w W)) (fun _ s8 _ => n.toNat - (intOf s8).toNat)
  case atStart => exact ⟨0, [], rfl, Nat.zero_le _, rfl, hidA (By.nil _ _), HB0⟩
  case round =>
    obtain ⟨k, q, rfl, hk, hq, HO, HB⟩ := hrel
    clear HB0
    obtain ⟨a3, c3, hv3⟩ := HO.out.slice
    subst hv3
    have hwsz := hidA HB.out.size
    have hql : q.length + 1 ≤ 2 ^ 46 := by rw [hq, List.length_replicate]; omega
    by_cases hlt : k < n.toNat
    · have hltI : (k : Int) < n := by omega
      have hwk : IntKind.i64.wrap ((k : Int) + 1) = ((k + 1 : Nat) : Int) := by rw [IntKind.wrap_i64]; omega
      have HO3 := hidA HO.out.own
      have hq2 : q ++ [32] = List.replicate (k + 1) 32 := by rw [hq, List.replicate_succ']
      have HQ2 := hidA hq2
      clear hq hq2
      go_wp2_with (at_builtin; refine wpList_append_own_at _ rfl _ _ 22 rfl w.heap.size 5 iB (.int .u8 0) 1 1 Tryd.underlying22 hiB hb0 hb1 hb2 rfl (by decide) _ _ _ rfl (HO3.out.alloc _) ⟨wr.heap.size, 0, none⟩ 1 1 [.int .u8 32] rfl rfl (cell_one_new _ _ _) (one_u8 _) (by unfold maxLen; omega) (by omega) (by have := hwsz.out; simp; omega) ?_; intro v2 w2 hown hg2 _ hat; have HO2 := hidA (By.app1 (x := 32) hown); have HB2 : Hid (Below w.heap.size w w2) := (HB.out.alloc hwsz.out _).grown hg2 (by have := hwsz.out; simp; omega) (fun k hk => (HO3.out.lt k hk).1); clear hown hg2 hat)
      exact ⟨⟨k + 1, _, by first | rfl | go_num, hlt, HQ2.out, HO2, HB2⟩, by simp [intOf]; omega⟩
    · have hltI : ¬ (k : Int) < n := by omega
      have ek : k = n.toNat := by omega
      rw [ek] at hq
      have HQ2 := hidA hq
      clear hq ek
      go_wp2_with fail
      go_ret
      exact ⟨_, rfl, by rw [← HQ2.out]; exact HO.out, HB.out⟩
end Go.Proofs.YtplnojohlbbalaaDoor
/- Appending a text, told where what comes lies. Condition: lengths that fit. -/
namespace Go.Proofs.YtplnojohlbbalaaDoor
open Go.RowKit
attribute [local go_sem] ext_eq app_eq get_eq
theorem strC (D : List UInt8) : Lib.strCells ⟨D.toArray⟩ = bCs D := by simp [Lib.strCells, bCs]
theorem str_sz (D : List UInt8) : (⟨D.toArray⟩ : ByteArray).size = D.length := by simp [ByteArray.size]
theorem run_str_at (ty : TypeId) (w : World) (B : Nat) (v : Value) (p D : List UInt8) (hO : By B w v p) (h : p.length + D.length ≤ 2 ^ 46) (hB : B ≤ w.heap.size) : ∃ v' w', (Builtin.append_ #[22, 9] ty #[v, .string ⟨D.toArray⟩]).run Tryd.prog w = .ok v' w' ∧ By B w' v' (p ++ D) ∧ w.grownBy w' v.ownBlock ∧ (v'.ownBlock = v.ownBlock ∨ v'.ownBlock = some w.heap.size) := by
  obtain ⟨iB, hiB, hb0, hb1, hb2⟩ := infoB
  have hs := str_sz D
  obtain ⟨v', w', hr, h2, h3, h4⟩ := Lib.run_append_own_string (P := Tryd.prog) w B 22 9 ty 5 iB Tryd.underlying22 Tryd.underlying9 hiB hb0 hb1 hb2 v p.length (bCs p) hO.own ⟨D.toArray⟩ (by rw [hs]; unfold maxLen; omega) (by rw [hs]; omega) hB
  refine ⟨v', w', hr, ?_, h3, ?_⟩
  · rw [hs, strC] at h2
    exact By.of_app h2
  · rcases hO.own.2 with ⟨rfl, hn⟩ | ⟨g, cap, cur, rfl, hbg, hg, hnc, hcm, hcs, htake⟩
    · by_cases hm : (⟨D.toArray⟩ : ByteArray).size = 0
      · rw [h4.2 ⟨rfl, hm⟩]; exact .inl rfl
      · have hq := Go.run_append_nil_string (P := Tryd.prog) w 22 9 ty 5 iB (.int .u8 0) Tryd.underlying22 Tryd.underlying9 hiB hb0 ⟨D.toArray⟩ (by omega) (by rw [hs]; omega) (by rw [hb2, hs]; omega)
        rw [hr] at hq
        injection hq with e1 _
        rw [e1]
        exact .inr rfl
    · by_cases hroom : p.length + (⟨D.toArray⟩ : ByteArray).size ≤ cap
      · have hq := Lib.run_append_room_string (P := Tryd.prog) w 22 9 ty 5 iB Tryd.underlying22 Tryd.underlying9 hiB hb1 g p.length cap cur hg ⟨D.toArray⟩ hroom (by omega)
        rw [hr] at hq
        injection hq with e1 _
        rw [e1]
        exact .inl rfl
      · have hq := Lib.run_append_grow_string (P := Tryd.prog) w 22 9 ty 5 iB (.int .u8 0) Tryd.underlying22 Tryd.underlying9 hiB hb0 ⟨g, 0, none⟩ p.length cap (bCs p) (by rw [hb1, bCs_len, Nat.mul_one]) (hO.own.cells (g := g) rfl) ⟨D.toArray⟩ (by omega) (by rw [hs]; omega) (by rw [hb2]; exact growslice_fits (by rw [hs]; omega) (by rw [hs]; omega))
        rw [hr] at hq
        injection hq with e1 _
        rw [e1]
        exact .inr rfl
theorem wpList_str_at {w : World} {ops : Array Oper} {rest : List Oper} {o : Oper} {a : Act} {Q : Exit → Act → World → Prop} (hgd : o.guard = none) (sl x : Operand)
    (ho : o.op = .call { callee := .builtin .append, args := #[sl, x], argTypes := #[22, 9] }) (B : Nat) (v : Value) (p D : List UInt8) (hs : a.eval sl = v) (hO : By B w v p) (hx : a.eval x = .string ⟨D.toArray⟩)
    (h : p.length + D.length ≤ 2 ^ 46) (hB : B ≤ w.heap.size)
    (hk : ∀ v' w', By B w' v' (p ++ D) → w.grownBy w' v.ownBlock → (v'.ownBlock = v.ownBlock ∨ v'.ownBlock = some w.heap.size) → wpList Tryd.prog ops Q rest (a.put o.dst v') w') : wpList Tryd.prog ops Q (o :: rest) a w := by
  refine wpList_plain hgd fun K hK => ?_
  obtain ⟨v', w', hr, h2, h3, h4⟩ := run_str_at o.type w B v p D hO h hB
  unfold Oper.wp execOp
  simp only [ho, resolve, invoke, builtin, Sem.run_bind, Sem.run_pure, Result.andThen_ok, List.map_toArray, List.map_cons, List.map_nil, hs, hx, hr]
  exact hK _ _ (hk v' w' h2 h3 h4)
/-- The table that FormatInt reads. -/
def Tab (w : World) : Prop := Lib.TabIs Tryd.prog w "internal/strconv.uint64pow10" .u64 Lib.pow10Tab
set_option maxRecDepth 100000 in
set_option maxHeartbeats 1000000 in
theorem oFormat (n : Int) (h0 : -9223372036854775808 ≤ n) (h1 : n ≤ 9223372036854775807) (w : World) (hT : Tab w) : Calls Tryd.prog 66 #[.int .i64 n, .int .i64 10] w fun e w' => e = .returned (.string ⟨(Lib.itoa n).toArray⟩) ∧ Below w.heap.size w w' := by
  have HF := hidA (Tryd.internal_strconv_FormatInt_10 n h0 h1 w hT)
  clear hT
  generalize Lib.itoa n = D at *
  go_enter Tryd.func66, Tryd.ntmps66
  go_wp2_with (go_at_call 76; (with_reducible refine HF.out.mono ?_); rintro e w1 ⟨rfl, k, os, hw⟩; have HB : Hid (Below w.heap.size w w1) := (by rw [hw]; exact Lib.below_grow _ w (Nat.le_refl _) k os); clear hw)
  go_ret
  exact ⟨rfl, HB.out⟩
end Go.Proofs.YtplnojohlbbalaaDoor
/- The program's padded at base ten. Condition: numbers that fit. -/
namespace Go.Proofs.YtplnojohlbbalaaDoor
open Go.RowKit
attribute [local go_sem] ext_eq app_eq get_eq
theorem Km.below {w W : World} (m : Option Nat) (v : Value) (h : Below w.heap.size w W) : Km m w v W v := ⟨fun b hb _ _ => h.block b hb, .inl rfl, h.size⟩
namespace Tl
/-- A number in its place. -/
def pd (n : Int) (wd : Nat) : List UInt8 := List.replicate (wd - (Lib.itoa n).length) 32 ++ Lib.itoa n
theorem pd_len (n : Int) (wd : Nat) (h0 : -9223372036854775808 ≤ n) (h1 : n ≤ 9223372036854775807) (hw : wd ≤ 100) : (pd n wd).length ≤ 121 := by
  have := Lib.itoa_length_le n h0 h1
  unfold pd
  rw [List.length_append, List.length_replicate]; omega
end Tl
set_option maxRecDepth 100000 in
set_option maxHeartbeats 2000000 in
theorem oPadded (p : List UInt8) (n : Int) (wd : Nat) (h0 : -9223372036854775808 ≤ n) (h1 : n ≤ 9223372036854775807) (hwd : wd ≤ 100) (v : Value) (B : Nat) (hp : p.length ≤ 2 ^ 45) (w : World) (hT : Tab w) (hO : By B w v p) (hB : B ≤ w.heap.size) : Calls Tryd.prog 55 #[v, .int .i64 n, .int .i64 10, .int .u8 32, .int .i64 wd] w fun e w' => ∃ v', e = .returned v' ∧ By B w' v' (p ++ Tl.pd n wd) ∧ Below B w w' ∧ Km none w v w' v' := by
  have HF := hidA (oFormat n h0 h1 w hT)
  have hDl := Lib.itoa_length_le n h0 h1
  have HFi := hidA (fun W (hO : By B W v p) (hB : B ≤ W.heap.size) => (show Calls Tryd.prog 54 #[v, .int .u8 32, .int .i64 ((wd : Int) - (Lib.itoa n).length)] W fun e w' => ∃ v', e = .returned v' ∧ By B w' v' (p ++ List.replicate (wd - (Lib.itoa n).length) 32) ∧ Below B W w' ∧ Km none W v w' v' from by
    have h := oFill p 32 ((wd : Int) - (Lib.itoa n).length) v B (by omega) (by omega) hp W hO hB
    have e : ((wd : Int) - (Lib.itoa n).length).toNat = wd - (Lib.itoa n).length := by omega
    rw [e] at h
    exact h))
  have HO := hidA hO
  have hpl : (p ++ List.replicate (wd - (Lib.itoa n).length) 32).length + (Lib.itoa n).length ≤ 2 ^ 46 := by rw [List.length_append, List.length_replicate]; omega
  have hws : IntKind.i64.wrap ((wd : Int) - (Lib.itoa n).length) = (wd : Int) - (Lib.itoa n).length := by rw [IntKind.wrap_i64]; omega
  have HPd : Hid (p ++ Tl.pd n wd = p ++ List.replicate (wd - (Lib.itoa n).length) 32 ++ Lib.itoa n) := by show _ = _; unfold Tl.pd; rw [List.append_assoc]
  have HbB := hidA hB
  clear hT hO hB
  generalize p ++ Tl.pd n wd = out at *
  generalize Lib.itoa n = D at *
  generalize p ++ List.replicate (wd - D.length) 32 = q at *
  go_enter Tryd.func55, Tryd.ntmps55
  go_wp2_with (first
    | (go_at_call 66; (with_reducible refine HF.out.mono ?_); rintro e w1 ⟨rfl, hb1⟩; have HB1 := hidA hb1; clear hb1)
    | (go_at_call 54; (with_reducible refine (HFi.out _ (HO.out.grow HB1.out) (Nat.le_trans HbB.out HB1.out.size)).mono ?_); rintro e w2 ⟨v2, rfl, g1, g2, g3⟩; have HO2 := hidA g1; have HB2 := hidA ((HB1.out.mono HbB.out).trans g2); have HK2 := hidA ((Km.below none v HB1.out).trans g3); clear g1 g2 g3)
    | (at_builtin; refine wpList_str_at rfl _ _ rfl B v2 q D rfl HO2.out rfl hpl (Nat.le_trans HbB.out HB2.out.size) ?_; intro v3 w3 g1 g2 g3; have HO3 := hidA g1; have HB3 : Hid (Below B w w3) := HB2.out.grown g2 (Nat.le_trans HbB.out HB2.out.size) (fun k hk => (HO2.out.own.lt k hk).1); have HK3 := hidA (HK2.out.trans (Km.grown none g2 g3)); clear g1 g2 g3))
  go_ret
  exact ⟨_, rfl, by rw [HPd.out]; exact HO3.out, HB3.out, HK3.out⟩
end Go.Proofs.YtplnojohlbbalaaDoor
/- The program's numbering: what it is, and how it goes on. Condition: ints. -/
namespace Go.Proofs.YtplnojohlbbalaaDoor
open Go.RowKit
attribute [local go_sem] ext_eq app_eq get_eq
/-- A numbering at a block: the next number, the step, the width, are empty lines counted, is it over? -/
structure Nb (W : World) (g : Nat) (n st wd : Int) (all over : Bool) : Prop where
  c0 : W.cell? ⟨g, 0, none⟩ = some (.int .i64 n)
  c1 : W.cell? ⟨g, 1, none⟩ = some (.int .i64 st)
  c2 : W.cell? ⟨g, 2, none⟩ = some (.int .i64 wd)
  c3 : W.cell? ⟨g, 3, none⟩ = some (.bool all)
  c4 : W.cell? ⟨g, 4, none⟩ = some (.bool over)
  kd : ∃ c, W.heap[g]? = some (.cells c 72 (0, 0))
theorem Nb.lt {W : World} {g : Nat} {n st wd : Int} {all over : Bool} (h : Nb W g n st wd all over) : g < W.heap.size := block_lt_of_cell h.c0
theorem Nb.at {W W' : World} {g : Nat} {n st wd : Int} {all over : Bool} (h : Nb W g n st wd all over) (e : W'.heap[g]? = W.heap[g]?) : Nb W' g n st wd all over := by
  have hc : ∀ i v, W.cell? ⟨g, i, none⟩ = some v → W'.cell? ⟨g, i, none⟩ = some v := fun i v hv => by
    rw [← hv]; simp only [World.cell?, e]
  obtain ⟨c, hk⟩ := h.kd
  exact ⟨hc _ _ h.c0, hc _ _ h.c1, hc _ _ h.c2, hc _ _ h.c3, hc _ _ h.c4, c, e.trans hk⟩
theorem Nb.grow {W W' : World} {g : Nat} {n st wd : Int} {all over : Bool} (h : Nb W g n st wd all over) (b : Below W.heap.size W W') : Nb W' g n st wd all over := h.at (b.block g h.lt)
theorem Nb.frozen {W : World} {g : Nat} {n st wd : Int} {all over : Bool} (h : Nb W g n st wd all over) (i : Nat) : W.frozen? ⟨g, i, none⟩ = false := by
  obtain ⟨c, hk⟩ := h.kd
  simp [World.frozen?, hk]
theorem Nb.ne {W : World} {g : Nat} {n st wd : Int} {all over : Bool} (h : Nb W g n st wd all over) {B m : Nat} {v : Value} {vs : List Value} (hr : W.ownsRow B 5 1 v m vs) : some g ≠ v.ownBlock := fun e => by
  obtain ⟨c, hk⟩ := h.kd
  obtain ⟨c2, f2, h2⟩ := own_kind hr g e.symm
  exact absurd rfl (heap_ne hk h2 (by decide))
theorem Nb.next {W : World} {g : Nat} {n st wd : Int} {all over : Bool} (h : Nb W g n st wd all over) (x : Int) : Nb (W.setCell ⟨g, 0, none⟩ (.int .i64 x)) g x st wd all over := by
  have ho : ∀ i v, i ≠ 0 → W.cell? ⟨g, i, none⟩ = some v → (W.setCell ⟨g, 0, none⟩ (.int .i64 x)).cell? ⟨g, i, none⟩ = some v := fun i v hi hv => by
    exact (World.cell?_setCell_other _ _ _ _ (by intro e; cases e; exact hi rfl)).trans hv
  obtain ⟨c, hk⟩ := h.kd
  exact ⟨World.cell?_setCell_same' _ _ _ (by rw [h.c0]; rfl), ho _ _ (by decide) h.c1, ho _ _ (by decide) h.c2, ho _ _ (by decide) h.c3, ho _ _ (by decide) h.c4, _, by show (W.heap.modify g _)[g]? = _; rw [Array.getElem?_modify, if_pos rfl, hk]; rfl⟩
theorem Nb.stop {W : World} {g : Nat} {n st wd : Int} {all over : Bool} (h : Nb W g n st wd all over) : Nb (W.setCell ⟨g, 4, none⟩ (.bool true)) g n st wd all true := by
  have ho : ∀ i v, i ≠ 4 → W.cell? ⟨g, i, none⟩ = some v → (W.setCell ⟨g, 4, none⟩ (.bool true)).cell? ⟨g, i, none⟩ = some v := fun i v hi hv => by
    exact (World.cell?_setCell_other _ _ _ _ (by intro e; cases e; exact hi rfl)).trans hv
  obtain ⟨c, hk⟩ := h.kd
  exact ⟨ho _ _ (by decide) h.c0, ho _ _ (by decide) h.c1, ho _ _ (by decide) h.c2, ho _ _ (by decide) h.c3, World.cell?_setCell_same' _ _ _ (by rw [h.c4]; rfl), _, by show (W.heap.modify g _)[g]? = _; rw [Array.getElem?_modify, if_pos rfl, hk]; rfl⟩
namespace Tl
/-- The number behind n; there may be none. -/
def nx (n st : Int) : Option Int := if n + st < -9223372036854775808 ∨ 9223372036854775807 < n + st then none else some (n + st)
end Tl
set_option maxRecDepth 100000 in
set_option maxHeartbeats 2000000 in
theorem oAdvance (g : Nat) (n st wd : Int) (all : Bool) (h0 : -9223372036854775808 ≤ n) (h1 : n ≤ 9223372036854775807) (s0 : -9223372036854775808 ≤ st) (s1 : st ≤ 9223372036854775807) (w : World) (hN : Nb w g n st wd all false) : Calls Tryd.prog 56 #[.pointer (some ⟨g, 0, none⟩)] w fun e w' => (∃ v, e = .returned v) ∧ ∃ k, w' = match Tl.nx n st with | some x => (w.drewN k).setCell ⟨g, 0, none⟩ (.int .i64 x) | none => (w.drewN k).setCell ⟨g, 4, none⟩ (.bool true) := by
  have hc0 := hN.c0
  have hc1 := hN.c1
  have hc4 := hN.c4
  have hf0 := hN.frozen 0
  have hf4 := hN.frozen 4
  clear hN
  by_cases hp : 0 < st
  · have w1 : IntKind.i64.wrap (9223372036854775807 - st) = 9223372036854775807 - st := by rw [IntKind.wrap_i64]; omega
    have hp2 : ¬ st < 0 := by omega
    by_cases hov : 9223372036854775807 - st < n
    · have e : Tl.nx n st = none := if_pos (.inr (by omega))
      rw [e]
      go_enter Tryd.func56, Tryd.ntmps56
      go_wp2_with (go_quiet (fail))
      first | (exact ⟨rfl, _, results_none rfl _ _ _, ⟨_, rfl⟩, _, rfl⟩) | (go_end0; exact ⟨⟨_, rfl⟩, _, rfl⟩)
    · have e : Tl.nx n st = some (n + st) := if_neg (by omega)
      have w2 : IntKind.i64.wrap (n + st) = n + st := by rw [IntKind.wrap_i64]; omega
      rw [e]
      go_enter Tryd.func56, Tryd.ntmps56
      go_upto_region 2 with (go_quiet (fail))
      go_region
      all_goals go_wp2
      first | (exact ⟨rfl, _, results_none rfl _ _ _, ⟨_, rfl⟩, _, rfl⟩) | (go_end0; exact ⟨⟨_, rfl⟩, _, rfl⟩)
  · by_cases hq : st < 0
    · have w1 : IntKind.i64.wrap (-9223372036854775808 - st) = -9223372036854775808 - st := by rw [IntKind.wrap_i64]; omega
      by_cases hov : n < -9223372036854775808 - st
      · have e : Tl.nx n st = none := if_pos (.inl (by omega))
        rw [e]
        go_enter Tryd.func56, Tryd.ntmps56
        go_wp2_with (go_quiet (fail))
        first | (exact ⟨rfl, _, results_none rfl _ _ _, ⟨_, rfl⟩, _, rfl⟩) | (go_end0; exact ⟨⟨_, rfl⟩, _, rfl⟩)
      · have e : Tl.nx n st = some (n + st) := if_neg (by omega)
        have w2 : IntKind.i64.wrap (n + st) = n + st := by rw [IntKind.wrap_i64]; omega
        rw [e]
        go_enter Tryd.func56, Tryd.ntmps56
        go_upto_region 2 with (go_quiet (fail))
        go_region
        all_goals go_wp2
        first | (exact ⟨rfl, _, results_none rfl _ _ _, ⟨_, rfl⟩, _, rfl⟩) | (go_end0; exact ⟨⟨_, rfl⟩, _, rfl⟩)
    · have e : Tl.nx n st = some (n + st) := if_neg (by omega)
      have w2 : IntKind.i64.wrap (n + st) = n + st := by rw [IntKind.wrap_i64]; omega
      rw [e]
      go_enter Tryd.func56, Tryd.ntmps56
      go_upto_region 2 with (go_quiet (fail))
      go_region
      all_goals go_wp2
      first | (exact ⟨rfl, _, results_none rfl _ _ _, ⟨_, rfl⟩, _, rfl⟩) | (go_end0; exact ⟨⟨_, rfl⟩, _, rfl⟩)
end Go.Proofs.YtplnojohlbbalaaDoor
