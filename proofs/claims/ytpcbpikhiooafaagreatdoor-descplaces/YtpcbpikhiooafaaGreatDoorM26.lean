/- Several texts of this claim, one behind the other, in their order. -/
import Derived.Test.YtpcbpikhiooafaaGreatDoorM2
import Derived.Laws.AppendOwn
import Derived.Lib.SlicesDelete
import Derived.Lib.SliceRun
import Derived.Deep.RegionLaw
import Derived.Lib.Walk
import Derived.Test.YtpcbpikhiooafaaGreatDoorM23
import Derived.Deep.RegionHeld3
import Derived.Maps.AppendAt
import Derived.Lib.AppendZeros
/- slices.Clone and slices.Delete (from the front) of bytes. Conditions: the bytes lie in a row of their own, of a length that fits. -/
namespace Go.Proofs.YtpcbpikhiooafaaGreatDoor
open Go.RowKit
/-- A byte as a cell. -/
def bV (x : UInt8) : Value := .int .u8 (x.toNat : Nat)
theorem bV_one (xs : List UInt8) : ∀ u ∈ xs.map bV, u.oneCell' = true := fun u hu => by
  obtain ⟨x, _, rfl⟩ := List.mem_map.1 hu
  rfl
theorem infB : ∃ i, Tryz.prog.info? 5 = some i ∧ i.zero = some (.int .u8 0) ∧ i.size = 1 ∧ i.bytes = 1 := info_of (by kernel_rfl)
theorem undB : Tryz.prog.underlying 22 = some (.slice 5) := by kernel_rfl
theorem zvByte : ∀ w : World, (zeroValue 5).run Tryz.prog w = .ok (.int .u8 0) w := fun w => by kernel_rfl
theorem eqlB (w : World) (a : Option Addr) (n c n' c' : Nat) : (binOp .eql 22 (.slice a n c) (.slice none n' c')).run Tryz.prog w = .ok (.bool a.isNone) w := Lib.run_eql_slice_nil w _ _ a n c n' c' undB
theorem sCloneB0 (w : World) : Calls Tryz.prog 201 #[.slice none 0 0] w fun e w' => e = .returned (.slice none 0 0) ∧ w' = w := by
  have hq := eqlB
  go_enter Tryz.func201, Tryz.ntmps201
  go_wp2
  go_ret
  exact ⟨rfl, rfl⟩
set_option maxHeartbeats 2000000 in
set_option maxRecDepth 100000 in
theorem sCloneB (b off n c : Nat) (xs : List UInt8) (w : World) (hn : xs.length = n) (hbig : n ≤ 140737488355328) (hc : ∀ j x, xs[j]? = some x → w.cell? ⟨b, off + j, none⟩ = some (bV x)) :
    Calls Tryz.prog 201 #[.slice (some ⟨b, off, none⟩) n c] w fun e w' => ∃ v', e = .returned v' ∧ w'.ownsRow w.heap.size 5 1 v' n (xs.map bV) ∧ Mod (fun _ => False) w w' := by
  obtain ⟨i0, hi, hz0, hz1, hz2⟩ := infB
  have hq := eqlB
  have HC : Hid (∀ j x, xs[j]? = some x → w.cell? ⟨b, off + j, none⟩ = some (bV x)) := hc
  clear hc
  go_enter Tryz.func201, Tryz.ntmps201
  go_wp2_with (at_builtin; refine wpList_append_own _ rfl _ _ 22 rfl w.heap.size 5 i0 (.int .u8 0) 1 1 undB hi hz0 hz1 hz2 rfl (by decide) _ _ _ rfl (World.ownsRow_made w #[] 0 (Nat.le_refl _) (Nat.zero_le _) rfl) ⟨b, off, none⟩ n c (xs.map bV) rfl ?qc1 ?qc2 ?qc3 ?qc4 ?qc5 ?qc6 ?_)
  case qc1 => simp [hn]
  case qc2 =>
    intro j u hj
    rw [List.getElem?_map] at hj
    cases hx : xs[j]? with
    | none => rw [hx] at hj; cases hj
    | some x =>
      rw [hx] at hj
      have hj' : bV x = u := Option.some.inj hj
      rw [Addr.add_lit, ← hj']
      exact Lib.cell?_alloc_some _ (HC.out j x hx)
  case qc3 => exact bV_one xs
  case qc4 => unfold maxLen; omega
  case qc5 => omega
  case qc6 => simp
  intro v' w1 hown hgrow hnil
  go_wp2
  go_ret
  refine ⟨v', rfl, by simpa using hown, ?_⟩
  have hB := ((Below.refl w.heap.size w).alloc (Nat.le_refl _) _).grown hgrow (by simp) (by intro k hk; simp [Value.ownBlock] at hk; omega)
  exact ⟨hB.os, hB.tape, hB.output, hB.size, fun k hk _ => hB.block k hk⟩
theorem heap_setCells_at (g : Nat) (T : TypeId) (mk : Nat × Nat) : ∀ (vs : List Value) (o : Nat) (w : World) (cur : Array Value), w.heap[g]? = some (.cells cur T mk) →
    ∃ cur', (w.setCells g o vs).heap[g]? = some (.cells cur' T mk) ∧ cur'.size = cur.size ∧ ∀ j : Nat, cur'[j]? = if o ≤ j ∧ j < o + vs.length ∧ j < cur.size then vs[j - o]? else cur[j]?
  | [], o, w, cur, h => ⟨cur, h, rfl, fun j => by rw [if_neg (by simp; omega)]⟩
  | v :: vs, o, w, cur, h => by
    have h1 : (w.setCell ⟨g, o, none⟩ v).heap[g]? = some (.cells (cur.setIfInBounds o v) T mk) := by
      unfold World.setCell
      simp [Array.getElem?_modify, h]
    obtain ⟨c2, e1, e2, e3⟩ := heap_setCells_at g T mk vs (o + 1) (w.setCell ⟨g, o, none⟩ v) (cur.setIfInBounds o v) h1
    refine ⟨c2, e1, by simpa using e2, fun j => ?_⟩
    rw [e3 j]
    simp only [Array.size_setIfInBounds, List.length_cons]
    by_cases hj : o = j
    · subst hj
      rw [if_neg (by omega)]
      by_cases hs : o < cur.size
      · rw [if_pos ⟨Nat.le_refl _, by omega, hs⟩]
        simp [hs]
      · rw [if_neg (by omega)]
        simp [hs]
    · by_cases hk : o + 1 ≤ j ∧ j < o + 1 + vs.length ∧ j < cur.size
      · rw [if_pos hk, if_pos ⟨by omega, by omega, hk.2.2⟩, show j - o = (j - (o + 1)) + 1 by omega]
        rfl
      · rw [if_neg hk, if_neg (by omega)]
        rw [Array.getElem?_setIfInBounds_ne (by omega)]
/-- What lies in a row of its own, as cells. -/
theorem own_cells {w : World} {g n : Nat} {xs : List UInt8} {cur : Array Value} (hh : w.heap[g]? = some (.cells cur 5 (0, 0))) (hx : cur.toList.take (n * 1) = xs.map bV) : ∀ j x, xs[j]? = some x → w.cell? ⟨g, j, none⟩ = some (bV x) := fun j x hj => by
  have h1 : cur.toList[j]? = some (bV x) := by
    have : (cur.toList.take (n * 1))[j]? = some (bV x) := by rw [hx, List.getElem?_map, hj]; rfl
    rw [List.getElem?_take] at this
    split at this
    · exact this
    · cases this
  rw [cell_of_row _ _ _ _ _ _ hh]
  simpa using h1
set_option maxHeartbeats 4000000 in
set_option maxRecDepth 1000000 in
theorem sDeleteB (base g n cap k : Nat) (xs : List UInt8) (w : World) (ho : w.ownsRow base 5 1 (.slice (some ⟨g, 0, none⟩) n cap) n (xs.map bV)) (hk : k ≤ n) :
    Calls Tryz.prog 202 #[.slice (some ⟨g, 0, none⟩) n cap, .int .i64 0, .int .i64 k] w fun e w' => e = .returned (.slice (some ⟨g, 0, none⟩) (n - k) cap) ∧ w'.ownsRow base 5 1 (.slice (some ⟨g, 0, none⟩) (n - k) cap) (n - k) ((xs.drop k).map bV) ∧ Mod (fun y => y = g) w w' := by
  obtain ⟨hl, h | ⟨g', cap', cur, hv, hb, hh, hnc, hcm, hsz, hx⟩⟩ := ho
  · cases h.1
  cases hv
  have hlen : xs.length = n := by simpa using hl
  have hfr : ∀ o, w.frozen? ⟨g, o, none⟩ = false := fun o => frozen_of_row _ _ o _ _ hh
  have hsz1 : cur.size = cap := by simpa using hsz
  unfold maxLen at hcm
  by_cases h0 : k = 0
  · subst h0
    have hret : Calls Tryz.prog 202 #[.slice (some ⟨g, 0, none⟩) n cap, .int .i64 0, .int .i64 0] w fun e w' => e = .returned (.slice (some ⟨g, 0, none⟩) n cap) ∧ w' = w := by
      clear hh hx hfr hsz hsz1 hl hlen hb
      go_enter Tryz.func202, Tryz.ntmps202
      go_wp2
      all_goals (go_ret; exact ⟨rfl, rfl⟩)
    refine hret.mono ?_
    rintro e w' ⟨rfl, rfl⟩
    exact ⟨rfl, ⟨by simpa using hl, .inr ⟨g, cap, cur, rfl, hb, hh, hnc, by unfold maxLen; omega, hsz, by simpa using hx⟩⟩, Mod.refl _ _⟩
  · have hcell := own_cells hh hx
    obtain ⟨news, hnews⟩ : ∃ news, news = (xs.drop k).map bV := ⟨_, rfl⟩
    have hnl : news.length = n - k := by rw [hnews]; simp [hlen]
    obtain ⟨A, hA, hsrc⟩ : ∃ A : Addr, (if cap = k then some (⟨g, 0, none⟩ : Addr) else some ⟨g, k, none⟩) = some A ∧ Hid (∀ t u, news[t]? = some u → w.drew.cell? (A.add t) = some u) := by
      by_cases h : cap = k
      · refine ⟨⟨g, 0, none⟩, by simp [h], fun t u hu => ?_⟩
        have h0 : news.length = 0 := by rw [hnl]; omega
        rw [List.length_eq_zero_iff.1 h0] at hu
        simp at hu
      · refine ⟨⟨g, k, none⟩, by simp [h], fun t u hu => ?_⟩
        rw [hnews, List.getElem?_map, List.getElem?_drop] at hu
        cases hx2 : xs[k + t]? with
        | none => rw [hx2] at hu; cases hu
        | some x =>
          rw [hx2] at hu
          rw [Addr.add_lit]
          exact (hcell (k + t) x hx2).trans hu
    have s1 : Hid (news.length = (n - k) * 1) := by show _ = _; rw [Nat.mul_one]; exact hnl
    have s2 : Hid (∀ u ∈ news, u.oneCell' = true) := by rw [hnews]; exact bV_one _
    have hsome : ∀ j, j < n → (w.cell? ⟨g, j, none⟩).isSome = true := fun j hj => by rw [cell_of_row _ _ _ _ _ _ hh]; simp; omega
    have s3 : Hid (∀ t, t < news.length → (w.drew.cell? ⟨g, 0 + 0 * 1 + t, none⟩).isSome = true ∧ w.drew.frozen? ⟨g, 0 + 0 * 1 + t, none⟩ = false) := fun t ht => by
      rw [hnl] at ht
      exact ⟨by rw [show 0 + 0 * 1 + t = t by omega]; exact hsome t (by omega), hfr _⟩
    obtain ⟨W1, hW1⟩ : ∃ W1, W1 = w.drew.setCells g (0 + 0 * 1) news := ⟨_, rfl⟩
    obtain ⟨c1, p1, p2, p3⟩ := heap_setCells_at g 5 (0, 0) news (0 + 0 * 1) w.drew cur hh
    rw [← hW1] at p1
    obtain ⟨c2, q1, q2, q3⟩ := heap_setCells_at g 5 (0, 0) (List.replicate (n - (n - k)) (.int .u8 0)) (n - k) W1 c1 p1
    have hcl : ∀ ty, (Builtin.clear_ #[22] ty #[.slice (some ⟨g, n - k, none⟩) (n - (n - k)) (cap - (n - k))]).run Tryz.prog W1 = .ok (.tuple #[]) (W1.setCells g (n - k) (List.replicate (n - (n - k)) (.int .u8 0))) :=
      fun ty => Lib.run_clear_slice W1 _ _ ty _ undB zvByte rfl rfl g (n - k) _ _ (by omega) (fun t ht => by rw [cell_of_row _ _ _ _ _ _ p1]; simp; omega) (fun t ht => frozen_of_row _ _ _ _ _ p1)
    have HM : Hid (Mod (fun y => y = g) w (W1.setCells g (n - k) (List.replicate (n - (n - k)) (.int .u8 0)))) := by
      show Mod _ _ _
      refine Mod.setCells (s := fun y => y = g) g rfl _ _ ?_
      rw [hW1]
      exact Mod.setCells (s := fun y => y = g) g rfl _ _ ((Mod.refl _ w).drewN 1)
    have HO : Hid ((W1.setCells g (n - k) (List.replicate (n - (n - k)) (.int .u8 0))).ownsRow base 5 1 (.slice (some ⟨g, 0, none⟩) (n - k) cap) (n - k) ((xs.drop k).map bV)) := by
      refine ⟨by simp [hlen], .inr ⟨g, cap, c2, rfl, hb, q1, by omega, by unfold maxLen; omega, by rw [q2, p2, hsz], ?_⟩⟩
      apply List.ext_getElem?
      intro j
      rw [List.getElem?_take]
      by_cases hj : j < (n - k) * 1
      · rw [if_pos hj, Array.getElem?_toList, q3 j, if_neg (by omega), p3 j, if_pos ⟨by omega, by rw [hnl]; omega, by rw [hsz1]; omega⟩, hnews, show j - (0 + 0 * 1) = j by omega]
      · rw [if_neg hj]
        symm
        rw [List.getElem?_eq_none]
        simp [hlen]
        omega
    have hW : Hid (W1 = w.drew.setCells g (0 + 0 * 1) news) := hW1
    obtain ⟨i0, hi0, hz0, hz1, hz2⟩ := infB
    have hkc : k ≤ cap := by omega
    have hkn : ¬ (0 : Int) = (k : Int) := by omega
    clear hW1 p1 p2 p3 q1 q2 q3 hcell hnews hnl hsome hh hx hsz hsz1 hl hlen hb hfr
    go_enter Tryz.func202, Tryz.ntmps202
    go_wp2_with fail
    go_region_law (refine step_append_room rfl (.tmp 22) (.tmp 25) 22 rfl 5 i0 1 undB hi0 hz1 g 0 0 cap (by simp [Act.eval, Act.put]) A (n - k) (cap - k) news (by simp [Act.eval, Act.put]) s1.out hsrc.out s2.out (by omega) s3.out ?_; rw [← hW.out])
    go_wp2
    go_ret
    exact ⟨rfl, HO.out, HM.out⟩
end Go.Proofs.YtpcbpikhiooafaaGreatDoor
/- A pipe's ends: what write and read do. Conditions: the pipe lies in memory, its bytes in a row of their own. -/
namespace Go.Proofs.YtpcbpikhiooafaaGreatDoor
open Go.RowKit
/-- A pipe in memory. -/
structure PiAt (w : World) (q : Nat) (v : Value) (rd wr : Bool) : Prop where
  c0 : w.cell? ⟨q, 0, none⟩ = some v
  c1 : w.cell? ⟨q, 1, none⟩ = some (.bool rd)
  c2 : w.cell? ⟨q, 2, none⟩ = some (.bool wr)
  fr : ∀ o, w.frozen? ⟨q, o, none⟩ = false
theorem PiAt.lt {w : World} {q : Nat} {v : Value} {rd wr : Bool} (h : PiAt w q v rd wr) : q < w.heap.size := block_lt_of_cell h.c0
theorem PiAt.mod {w w' : World} {q : Nat} {v : Value} {rd wr : Bool} (h : PiAt w q v rd wr) {s : Nat → Prop} (hM : Mod s w w') (hs : ¬ s q) : PiAt w' q v rd wr where
  c0 := (hM.cell (p := ⟨q, 0, none⟩) h.lt hs).trans h.c0
  c1 := (hM.cell (p := ⟨q, 1, none⟩) h.lt hs).trans h.c1
  c2 := (hM.cell (p := ⟨q, 2, none⟩) h.lt hs).trans h.c2
  fr := fun o => (hM.frozen (p := ⟨q, o, none⟩) h.lt hs).trans (h.fr o)
theorem PiAt.set {w : World} {q : Nat} {v : Value} {rd wr : Bool} (h : PiAt w q v rd wr) (u : Value) : PiAt (w.setCell ⟨q, 0, none⟩ u) q u rd wr where
  c0 := World.cell?_setCell_same _ _ _ h.c0
  c1 := (World.cell?_setCell_other _ _ _ _ (fun e => by cases e)).trans h.c1
  c2 := (World.cell?_setCell_other _ _ _ _ (fun e => by cases e)).trans h.c2
  fr := fun o => by simp [h.fr o]
theorem row_mod8 {w w' : World} {base e n : Nat} {v : Value} {xs : List Value} {s : Nat → Prop} (h : w.ownsRow base e 1 v n xs) (hM : Mod s w w') (hs : ∀ g, base ≤ g → ¬ s g) : w'.ownsRow base e 1 v n xs := by
  refine ⟨h.1, ?_⟩
  rcases h.2 with h0 | ⟨g, cap, cur, hv, hb, hg, r⟩
  · exact .inl h0
  · exact .inr ⟨g, cap, cur, hv, hb, (hM.block g (Array.getElem?_eq_some_iff.1 hg).1 (hs g hb)).trans hg, r⟩
theorem own_lt8 {w : World} {base e n : Nat} {v : Value} {xs : List Value} (h : w.ownsRow base e 1 v n xs) : ∀ y, v.ownBlock = some y → base ≤ y ∧ y < w.heap.size := fun y hy => by
  rcases h.2 with ⟨rfl, _⟩ | ⟨g, cap, cur, rfl, hb, hg, _⟩
  · cases hy
  · cases hy; exact ⟨hb, (Array.getElem?_eq_some_iff.1 hg).1⟩
theorem mod_grown8 {b c : World} {r : Option Nat} (hg : b.grownBy c r) : Mod (fun x => r = some x) b c := ⟨hg.os, hg.tape, hg.output, hg.size, fun k hk hs => hg.block k hk (fun e => hs (by first | exact e.symm | exact e))⟩
/-- append onto an own row, as one step of a region that draws, with where the row lies then. -/
theorem step_append_own_at {P : Program} {ops : Array Oper} {o : Oper} {a : Act} {w : World} {K : Act → World → Prop} {Q : Exit → Act → World → Prop} {E : Prop} (hgd : o.guard = none) (s x : Operand) (t : TypeId)
    (ho : o.op = .call { callee := .builtin .append, args := #[s, x], argTypes := #[t, t] })
    (base : Nat) (e : TypeId) (i : TypeInfo) (z : Value) (size bytes : Nat) (ht : P.underlying t = some (.slice e)) (hi : P.info? e = some i) (hz : i.zero = some z)
    (hsize : i.size = size) (hby : i.bytes = bytes) (hzs : z.cells.size = size) (hsz : 0 < size)
    (v : Value) (n : Nat) (xs : List Value) (hs : a.eval s = v) (hown : w.ownsRow base e size v n xs)
    (ad : Addr) (m c : Nat) (news : List Value) (hx : a.eval x = .slice (some ad) m c) (hl : news.length = m * size) (hnews : ∀ j u, news[j]? = some u → w.cell? (ad.add j) = some u) (h1 : ∀ u ∈ news, u.oneCell' = true)
    (h63 : n + m ≤ maxLen) (hbytes : (n + m) * bytes ≤ 140737488355328) (hbase : base ≤ w.heap.size)
    (h : ∀ v' w', w'.ownsRow base e size v' (n + m) (xs ++ news) → w.grownBy w' v.ownBlock → (v'.ownBlock = v.ownBlock ∨ v'.ownBlock = some w.heap.size) → K (a.put o.dst v') w') :
    if Region.wanted o (yielded ops a.tmps) = true then Oper.wp P o a w K Q else E := by
  rw [if_pos (by simp [Region.wanted, hgd])]
  obtain ⟨v', w', hr, h2, h3, _, h5⟩ := run_append_own_at (P := P) w base t o.type e i z size bytes ht hi hz hsize hby hzs hsz v n xs hown ad m c news hl hnews h1 h63 hbytes hbase
  exact Lib.wp_append_run w s x t t ho _ _ hs hx _ _ hr (h v' w' h2 h3 h5)
set_option maxHeartbeats 4000000 in
set_option maxRecDepth 100000 in
theorem eWrite {w : World} {q base : Nat} {v : Value} {wr : Bool} (hp : PiAt w q v true wr) (xs : List UInt8) (ho : w.ownsRow base 5 1 v xs.length (xs.map bV)) (hb : base ≤ w.heap.size) (hq : q < base) (hx : xs.length < 256) (b off m c : Nat) (ys : List UInt8) (hm : ys.length = m) (hmc : m ≤ c) (hys : ∀ j x, ys[j]? = some x → w.cell? ⟨b, off + j, none⟩ = some (bV x)) (n : Nat) (hn : n = min m (256 - xs.length)) :
    Calls Tryz.prog 205 #[.agg #[.pointer (some ⟨q, 0, none⟩)], .slice (some ⟨b, off, none⟩) m c] w fun e w' => e = .returned (.tuple #[.int .i64 n, .int .i64 0]) ∧ ∃ v', PiAt w' q v' true wr ∧ w'.ownsRow base 5 1 v' (xs.length + n) ((xs ++ ys.take n).map bV) ∧ Mod (fun y => y = q ∨ v.ownBlock = some y) w w' ∧ ∀ y, v'.ownBlock = some y → v.ownBlock = some y ∨ w.heap.size ≤ y := by
  have hM0 : Mod (fun _ => False) w (w.alloc (.cells #[.pointer (some ⟨q, 0, none⟩)] 136)).drew := ((Mod.refl _ w).alloc _).drewN 1
  have HO1 := hid6 (row_mod8 ho hM0 (fun _ _ e => e))
  have HOb := hid6 (own_lt8 ho)
  have HP1 := hid6 (hp.mod hM0 (fun e => e))
  have HM0 := hid6 hM0
  have hB0 : (w.alloc (.cells #[.pointer (some ⟨q, 0, none⟩)] 136)).drew.cell? ⟨w.heap.size, 0, none⟩ = some (.pointer (some ⟨q, 0, none⟩)) := by simp [go_sem]
  have HB0 := hid6 hB0
  obtain ⟨vl, hvl⟩ : ∃ L c, v = .slice L xs.length c := row_sl8 ho
  obtain ⟨vc, rfl⟩ := hvl
  have hnI : min (m : Int) (256 - (xs.length : Int)) = (n : Int) := by omega
  have hnm : n ≤ m := by omega
  have s1 : Hid (((ys.take n).map bV).length = n * 1) := by show _ = _; simp; omega
  have s2 : Hid (∀ j u, ((ys.take n).map bV)[j]? = some u → (w.alloc (.cells #[.pointer (some ⟨q, 0, none⟩)] 136)).drew.cell? ((⟨b, off, none⟩ : Addr).add j) = some u) := fun j u hu => by
    rw [List.getElem?_map, List.getElem?_take] at hu
    split at hu
    · cases hy : ys[j]? with
      | none => rw [hy] at hu; cases hu
      | some y =>
        rw [hy] at hu
        rw [Addr.add_lit]
        have := hys j y hy
        exact ((hM0.cell (p := ⟨b, off + j, none⟩) (block_lt_of_cell this) (fun e => e)).trans this).trans hu
    · cases hu
  have s3 : Hid (∀ u ∈ (ys.take n).map bV, u.oneCell' = true) := bV_one _
  have hb1 : Hid (base ≤ (w.alloc (.cells #[.pointer (some ⟨q, 0, none⟩)] 136)).drew.heap.size) := Nat.le_trans hb hM0.size
  have hx' : ¬ (256 - (xs.length : Int)) = 0 := by omega
  obtain ⟨i0, hi, hz0, hz1, hz2⟩ := infB
  obtain ⟨p0, p1, p2, pf⟩ := hp
  have hql := block_lt_of_cell p0
  have hncN : n ≤ c := by omega
  have hnx : xs.length + n ≤ 256 := by omega
  clear ho hM0 hB0 hys hn
  go_enter Tryz.func205, Tryz.ntmps205
  go_wp2_with fail
  have hn0 : (0 : Int) ≤ (n : Int) := by omega
  have hnc : (n : Int) ≤ (c : Int) := by omega
  go_region_law (refine step_append_own_at rfl (.tmp 40) (.tmp 43) 22 rfl base 5 i0 (.int .u8 0) 1 1 undB hi hz0 hz1 hz2 rfl (by decide) (.slice vl xs.length vc) xs.length (xs.map bV) (by first | (simp [Act.eval]; done) | (simp [Act.eval, Act.put]; done)) HO1.out ⟨b, off, none⟩ n c ((ys.take n).map bV) (by first | (simp [Act.eval]; done) | (simp [Act.eval, Act.put]; done)) s1.out s2.out s3.out (by unfold maxLen; omega) (by omega) hb1.out ?_; intro v' w1 hown hgrow hat; have HAT := hid6 hat; obtain ⟨L2, c2, hv2⟩ := row_sl8 hown; subst hv2; have HG := hid6 (mod_grown8 hgrow); have HW1 := hid6 hown; have e0 : w1.cell? ⟨w.heap.size, 0, none⟩ = some (.pointer (some ⟨q, 0, none⟩)) := (HG.out.cell (p := ⟨w.heap.size, 0, none⟩) (block_lt_of_cell HB0.out) (fun e => by have h9 : w.heap.size < w.heap.size := (HOb.out _ e).2; omega)).trans HB0.out; have HP2 := hid6 (HP1.out.mod HG.out (fun e => by have h9 : base ≤ q := (HOb.out _ e).1; omega)); obtain ⟨f0, f1, f2, ff⟩ := HP2.out; clear hown hgrow hat)
  all_goals
    have HF := hid6 (show PiAt (w1.setCell ⟨q, 0, none⟩ (.slice L2 (xs.length + n) c2)) q (.slice L2 (xs.length + n) c2) true wr ∧ (w1.setCell ⟨q, 0, none⟩ (.slice L2 (xs.length + n) c2)).ownsRow base 5 1 (.slice L2 (xs.length + n) c2) (xs.length + n) ((xs ++ ys.take n).map bV) ∧ Mod (fun y => y = q ∨ (Value.slice vl xs.length vc).ownBlock = some y) w (w1.setCell ⟨q, 0, none⟩ (.slice L2 (xs.length + n) c2)) ∧ (∀ y, (Value.slice L2 (xs.length + n) c2).ownBlock = some y → (Value.slice vl xs.length vc).ownBlock = some y ∨ w.heap.size ≤ y) from
      ⟨HP2.out.set _, by rw [List.map_append]; exact row_mod8 HW1.out ((Mod.refl (fun y => y = q) w1).setCell _ _ rfl) (fun g hg e => by have h9 : g = q := e; omega), ((HM0.out.mono (fun _ _ e => e.elim)).trans (HG.out.mono (fun _ _ e => .inr e))).trans ((Mod.refl (fun y => y = q) w1).setCell _ _ rfl |>.mono (fun _ _ e => .inl e)), fun y hy => by
        rcases HAT.out with e | e
        · rw [← e]; exact .inl hy
        · rw [e] at hy; have h9 := Option.some.inj hy; have h8 := HM0.out.size; right; omega⟩)
    clear HP2 HW1 HG f0 f1 f2 ff e0
    go_wp2
    go_ret2
    exact ⟨rfl, _, HF.out⟩
end Go.Proofs.YtpcbpikhiooafaaGreatDoor
