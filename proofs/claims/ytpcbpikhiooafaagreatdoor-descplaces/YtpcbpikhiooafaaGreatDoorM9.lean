/- Several texts of this claim, one behind the other, in their order. -/
import Derived.Test.YtpcbpikhiooafaaGreatDoorM8
import Derived.Laws.StructEq
import Derived.ChangeKeysEq
/- The walk of prune: places from keep on are holes. Conditions: the store lies in memory as 'St' says, the table's first cell leads to it, the ref lies in a block of its own. -/
namespace Go.Proofs.YtpcbpikhiooafaaGreatDoor
open Go.RowKit
theorem und_r : Tryz.prog.underlying 89 = some (.int .i64) := by kernel_rfl
theorem part_r (A : Array Value) (j : Nat) (v : Value) (h : A[j]? = some v) (W : World) : (Go.part 89 A j).run Tryz.prog W = .ok v W := by
  simp [Go.part, go_sem, h]
theorem items_r (q : Nat → Nat) (W : World) (d : Nat) : ∀ is : List Nat, (∀ j ∈ is, j < 16) → (Op.eqItems (d + 1) 89 1 (refsV q) zeroP is).run Tryz.prog W = .ok (is.all fun j => q j == 0) W
  | [], _ => by simp [Op.eqItems]
  | j :: is, h => by
    have hj : j < 16 := h j (by simp)
    have h1 := part_r (refsV q) j (.int .i64 (q j : Nat)) (by simp [refsV, List.getElem?_range hj, refV]) W
    have h2 := part_r zeroP j (.int .i64 0) (by simp [zeroP, hj]) W
    have h3 := run_equalIn_int (P := Tryz.prog) (w := W) d 89 .i64 .i64 (q j : Nat) 0 und_r
    have ih := items_r q W d is (fun k hk => h k (by simp [hk]))
    simp only [Op.eqItems, Sem.run_bind, Nat.mul_one, h1, h2, h3, Result.andThen_ok]
    by_cases hq : q j = 0
    · simp [hq, ih]
    · have : ((q j : Int) == 0) = false := by simpa using hq
      simp [this, hq]
/-- Are all the refs holes? -/
def allZ (q : Nat → Nat) : Bool := (List.range 16).all fun j => q j == 0
theorem run_neqP (q : Nat → Nat) (W : World) : (binOp .neq 195 (.agg (refsV q)) (.agg zeroP)).run Tryz.prog W = .ok (.bool (!allZ q)) W := by
  obtain ⟨i, hi, -, hz, -⟩ : ∃ i, Tryz.prog.info? 89 = some i ∧ i.zero = some (.int .i64 0) ∧ i.size = 1 ∧ i.bytes = 8 := info_of (by kernel_rfl)
  rw [run_neq_struct, run_equalIn_array (P := Tryz.prog) (w := W) 9999 (refsV q) zeroP undP hi]
  rw [show Tryz.prog.cellsOf 89 = 1 by kernel_rfl, items_r q W 9998 (List.range 16) (fun j hj => by simpa using hj)]
  rfl
/-- What prune makes: in use, the bytes, the ref. -/
abbrev PS := (Nat → Bool) × (Nat → Nat) × Nat
/-- The first i of an indirect block's refs are pruned. -/
def prRow (f : (Nat → Bool) → (Nat → Nat) → Nat → Int → PS) (below : Nat) (keep : Int) : Nat → (Nat → Bool) × (Nat → Nat) × (Nat → Nat) → (Nat → Bool) × (Nat → Nat) × (Nat → Nat)
  | 0, s => s
  | i + 1, s => ((f (prRow f below keep i s).1 (prRow f below keep i s).2.1 ((prRow f below keep i s).2.2 i) (keep - (i * below : Nat))).1, (f (prRow f below keep i s).1 (prRow f below keep i s).2.1 ((prRow f below keep i s).2.2 i) (keep - (i * below : Nat))).2.1,
      upd (prRow f below keep i s).2.2 i (f (prRow f below keep i s).1 (prRow f below keep i s).2.1 ((prRow f below keep i s).2.2 i) (keep - (i * below : Nat))).2.2)
/-- prune, by its words. -/
def pr : Nat → (Nat → Bool) → (Nat → Nat) → Nat → Int → PS
  | 0, u, D, r, keep => if r = 0 ∨ 1 ≤ keep then (u, D, r) else (freeU u r, freeD u D r, 0)
  | l + 1, u, D, r, keep => if r = 0 ∨ ((16 ^ (l + 1) : Nat) : Int) ≤ keep then (u, D, r) else
      if allZ (prRow (pr l) (16 ^ l) keep 16 (u, D, ptr u D r)).2.2 then (freeU (prRow (pr l) (16 ^ l) keep 16 (u, D, ptr u D r)).1 r, freeD (prRow (pr l) (16 ^ l) keep 16 (u, D, ptr u D r)).1 (prRow (pr l) (16 ^ l) keep 16 (u, D, ptr u D r)).2.1 r, 0)
      else ((prRow (pr l) (16 ^ l) keep 16 (u, D, ptr u D r)).1, saved (prRow (pr l) (16 ^ l) keep 16 (u, D, ptr u D r)).1 (prRow (pr l) (16 ^ l) keep 16 (u, D, ptr u D r)).2.1 r (prRow (pr l) (16 ^ l) keep 16 (u, D, ptr u D r)).2.2, r)
theorem pr_le : ∀ (l : Nat) (u : Nat → Bool) (D : Nat → Nat) (r : Nat) (keep : Int), (pr l u D r keep).2.2 ≤ r
  | 0, u, D, r, keep => by rw [pr]; split; exact Nat.le_refl _; exact Nat.zero_le _
  | l + 1, u, D, r, keep => by
    rw [pr]; split
    · exact Nat.le_refl _
    · split
      · exact Nat.zero_le _
      · exact Nat.le_refl _
def PrPost (b c n t ab ao : Nat) (w : World) (y : PS) (e : Ending) (w' : World) : Prop :=
  e = .returned (.tuple #[]) ∧ St w' b c n y.1 y.2.1 ∧ w'.cell? ⟨ab, ao, none⟩ = some (.int .i64 (y.2.2 : Nat)) ∧ Fr b c ab ao w w' ∧ w'.cell? ⟨t, 0, none⟩ = some (.pointer (some ⟨b, 0, none⟩))
/-- The store, the table, the ref at ⟨ab, ao⟩ and the refs in prune's variable at Pb. -/
structure PQ (b c n t ab ao r Pb : Nat) (u : Nat → Bool) (D : Nat → Nat) (q : Nat → Nat) (w : World) : Prop where
  S : St w b c n u D
  ct : w.cell? ⟨t, 0, none⟩ = some (.pointer (some ⟨b, 0, none⟩))
  ca : w.cell? ⟨ab, ao, none⟩ = some (.int .i64 (r : Nat))
  fa : w.frozen? ⟨ab, ao, none⟩ = false
  at_ : ∀ j, j < 16 → w.cell? ⟨Pb, j, none⟩ = some (.int .i64 (q j : Nat))
  fr : ∀ o, o < 16 → w.frozen? ⟨Pb, o, none⟩ = false
  ql : ∀ j, q j < 4294967296
  A : Apart b c t ab
  P : Apart b c t Pb
  ne : ab ≠ Pb
theorem fr_sub0 {b c ab ao Pb po : Nat} {w x y : World} (h : Fr b c Pb po x y) (hab : ab < x.heap.size) (h1 : ab ≠ b) (h2 : ab ≠ c) (h3 : ab ≠ Pb) (hl : w.heap.size ≤ Pb) (hF : Fr b c ab ao w x) : Fr b c ab ao w y :=
  fr_sub (x := x) (po := po) ⟨⟨h.mod.os, h.mod.tape, h.mod.output, h.mod.size, h.mod.block⟩, h.cell, h.frz⟩ hab h1 h2 h3 hl hF
theorem PQ.next {b c n t ab ao r Pb : Nat} {u u' : Nat → Bool} {D D' : Nat → Nat} {q : Nat → Nat} {w w' : World} (h : PQ b c n t ab ao r Pb u D q w) (i x : Nat) (hx : x < 4294967296) (hS : St w' b c n u' D') (hc : w'.cell? ⟨Pb, i, none⟩ = some (.int .i64 (x : Nat))) (hF : Fr b c Pb i w w') (ht : w'.cell? ⟨t, 0, none⟩ = some (.pointer (some ⟨b, 0, none⟩))) :
    PQ b c n t ab ao r Pb u' D' (upd q i x) w' where
  S := hS
  ct := ht
  ca := (hF.mod.cell (p := ⟨ab, ao, none⟩) (block_lt_of_cell h.ca) (fun e => e.elim h.A.nb (fun e => e.elim h.A.nc h.ne))).trans h.ca
  fa := (hF.mod.frozen (p := ⟨ab, ao, none⟩) (block_lt_of_cell h.ca) (fun e => e.elim h.A.nb (fun e => e.elim h.A.nc h.ne))).trans h.fa
  at_ j hj := by
    unfold upd
    by_cases e : j = i
    · subst e; rw [if_pos rfl]; exact hc
    · rw [if_neg e]; exact (hF.cell j e).trans (h.at_ j hj)
  fr o ho := (hF.frz o).trans (h.fr o ho)
  ql j := by unfold upd; split; exact hx; exact h.ql j
  A := h.A
  P := h.P
  ne := h.ne
section
variable {w : World} {b c n : Nat} {u : Nat → Bool} {D : Nat → Nat}
theorem prune_hole (t ab ao p : Nat) (keep : Int) (ha : w.cell? ⟨ab, ao, none⟩ = some (.int .i64 (0 : Nat))) :
    Calls Tryz.prog 88 #[.pointer (some ⟨t, 0, none⟩), .pointer (some ⟨ab, ao, none⟩), .int .i64 p, .int .i64 keep] w fun e w' => e = .returned (.tuple #[]) ∧ w' = w := by
  go_enter Tryz.func88, Tryz.ntmps88
  go_wp2
  exact bodyPost_ret (results_none rfl _ _ _) rfl ⟨rfl, rfl⟩
theorem prune_keeps (t ab ao r p : Nat) (keep : Int) (ha : w.cell? ⟨ab, ao, none⟩ = some (.int .i64 (r : Nat))) (hr : r ≠ 0) (hk : (p : Int) ≤ keep) :
    Calls Tryz.prog 88 #[.pointer (some ⟨t, 0, none⟩), .pointer (some ⟨ab, ao, none⟩), .int .i64 p, .int .i64 keep] w fun e w' => e = .returned (.tuple #[]) ∧ w' = w := by
  have hrb : ((r : Int) == 0) = false := by simpa using hr
  go_enter Tryz.func88, Tryz.ntmps88
  go_wp2
  exact bodyPost_ret (results_none rfl _ _ _) rfl ⟨rfl, rfl⟩
theorem prune_free (S : St w b c n u D) (t ab ao r : Nat) (keep : Int) (ht : w.cell? ⟨t, 0, none⟩ = some (.pointer (some ⟨b, 0, none⟩))) (ha : w.cell? ⟨ab, ao, none⟩ = some (.int .i64 (r : Nat))) (hf : w.frozen? ⟨ab, ao, none⟩ = false) (hA : Apart b c t ab) (hr : r < 4294967296) (hr0 : r ≠ 0) (hk : ¬ 1 ≤ keep) :
    Calls Tryz.prog 88 #[.pointer (some ⟨t, 0, none⟩), .pointer (some ⟨ab, ao, none⟩), .int .i64 1, .int .i64 keep] w (PrPost b c n t ab ao w (freeU u r, freeD u D r, 0)) := by
  have hrb : ((r : Int) == 0) = false := by simpa using hr0
  have HF : Hid (Calls Tryz.prog 108 #[.pointer (some ⟨t, 0, none⟩), .pointer (some ⟨ab, ao, none⟩)] w fun e w' => e = .returned (.tuple #[]) ∧ St w' b c n (freeU u r) (freeD u D r) ∧ w'.cell? ⟨ab, ao, none⟩ = some (.int .i64 0) ∧ Fr b c ab ao w w') := free_any S t ab ao r ht ha hf hA.a0 hA.nb hA.nc hA.tb hA.tc hr
  have HT : Hid (w.cell? ⟨t, 0, none⟩ = some (.pointer (some ⟨b, 0, none⟩)) ∧ Apart b c t ab) := ⟨ht, hA⟩
  clear S ht hf hA
  go_enter Tryz.func88, Tryz.ntmps88
  go_wp2_with (go_at_call 108; refine HF.out.mono ?_; rintro e w1 ⟨rfl, H1, C1, F1⟩; have HH : Hid (St w1 b c n (freeU u r) (freeD u D r) ∧ w1.cell? ⟨ab, ao, none⟩ = some (.int .i64 0) ∧ Fr b c ab ao w w1) := ⟨H1, C1, F1⟩; clear H1 C1 F1)
  exact ⟨rfl, _, results_none rfl _ _ _, rfl, HH.out.1, HH.out.2.1, HH.out.2.2, (HH.out.2.2.mod.cell (p := ⟨t, 0, none⟩) (block_lt_of_cell HT.out.1) (fun e => e.elim HT.out.2.tb (fun e => e.elim HT.out.2.tc HT.out.2.ta))).trans HT.out.1⟩
/-- prune of one place. -/
theorem prune0 (S : St w b c n u D) (t ab ao r : Nat) (keep : Int) (ht : w.cell? ⟨t, 0, none⟩ = some (.pointer (some ⟨b, 0, none⟩))) (ha : w.cell? ⟨ab, ao, none⟩ = some (.int .i64 (r : Nat))) (hf : w.frozen? ⟨ab, ao, none⟩ = false) (hA : Apart b c t ab) (hr : r < 4294967296) :
    Calls Tryz.prog 88 #[.pointer (some ⟨t, 0, none⟩), .pointer (some ⟨ab, ao, none⟩), .int .i64 1, .int .i64 keep] w (PrPost b c n t ab ao w (pr 0 u D r keep)) := by
  rw [pr]
  by_cases h0 : r = 0
  · subst h0
    rw [if_pos (.inl rfl)]
    exact (prune_hole t ab ao 1 keep ha).mono fun e w' ⟨h1, h2⟩ => by subst h2; exact ⟨h1, S, ha, Fr.refl _ _ _ _ _, ht⟩
  · by_cases hk : 1 ≤ keep
    · rw [if_pos (.inr hk)]
      exact (prune_keeps t ab ao r 1 keep ha h0 hk).mono fun e w' ⟨h1, h2⟩ => by subst h2; exact ⟨h1, S, ha, Fr.refl _ _ _ _ _, ht⟩
    · rw [if_neg (fun h => h.elim h0 hk)]
      exact prune_free S t ab ao r keep ht ha hf hA hr h0 hk
end
end Go.Proofs.YtpcbpikhiooafaaGreatDoor
/- The walk of prune, of 16 places. Conditions: the store lies in memory as 'St' says, the table's first cell leads to it, the ref lies in a block of its own. -/
namespace Go.Proofs.YtpcbpikhiooafaaGreatDoor
open Go.RowKit
set_option maxRecDepth 8000 in
set_option maxHeartbeats 4000000 in
theorem prune_row1 {w : World} {b c n : Nat} {u : Nat → Bool} {D : Nat → Nat} (S : St w b c n u D) (t ab ao r : Nat) (keep : Int) (ht : w.cell? ⟨t, 0, none⟩ = some (.pointer (some ⟨b, 0, none⟩))) (ha : w.cell? ⟨ab, ao, none⟩ = some (.int .i64 (r : Nat))) (hf : w.frozen? ⟨ab, ao, none⟩ = false) (hA : Apart b c t ab) (hr : r < 4294967296) (hr0 : r ≠ 0) (hk : keep < 16) (hkl : -50000 ≤ keep) (y : (Nat → Bool) × (Nat → Nat) × (Nat → Nat)) (hy : prRow (pr 0) 1 keep 16 (u, D, ptr u D r) = y) (zz : PS) (hzz : zz = if allZ y.2.2 then (freeU y.1 r, freeD y.1 y.2.1 r, 0) else (y.1, saved y.1 y.2.1 r y.2.2, r)) :
    Calls Tryz.prog 88 #[.pointer (some ⟨t, 0, none⟩), .pointer (some ⟨ab, ao, none⟩), .int .i64 16, .int .i64 keep] w (PrPost b c n t ab ao w zz) := by
  have hrb : ((r : Int) == 0) = false := by simpa using hr0
  have hz := zvP
  have hab := block_lt_of_cell ha
  have htl := block_lt_of_cell ht
  have hge : ¬ 16 ≤ keep := by omega
  have HS : Hid (St w b c n u D) := S
  have HT : Hid (w.cell? ⟨t, 0, none⟩ = some (.pointer (some ⟨b, 0, none⟩))) := ht
  have HA : Hid (Apart b c t ab ∧ w.frozen? ⟨ab, ao, none⟩ = false ∧ w.cell? ⟨ab, ao, none⟩ = some (.int .i64 (r : Nat))) := ⟨hA, hf, ha⟩
  have HD : Hid (∀ j, D j < 256) := S.dl
  have HBC : Hid (b < w.heap.size ∧ c < w.heap.size) := ⟨S.lt_b, S.lt_c⟩
  have HY : Hid (prRow (pr 0) 1 keep 16 (u, D, ptr u D r) = y) := hy
  have HZZ : Hid (zz = if allZ y.2.2 then (freeU y.1 r, freeD y.1 y.2.1 r, 0) else (y.1, saved y.1 y.2.1 r y.2.2, r)) := hzz
  clear S ht hA hf hr0 hy hzz
  go_enter Tryz.func88, Tryz.ntmps88
  go_wp2_with (first | (go_at_call 106; refine (load_row HS.out t r HT.out hr).mono ?_; rintro e w1 ⟨A, rfl, hsz, -, HO, HJ, HM⟩; have hTh : Hid ((w1.alloc (.cells zeroP 195)).there w1.heap.size 0 A.size) := by (show World.there _ _ _ _; rw [hsz]; exact there_new w1 195 zeroP sizeP)) | (refine wpList_store_mid rfl 195 _ _ rfl w1.heap.size 0 A rfl rfl hTh.out (by rw [hsz]; exact infP) HO.out ?_; rw [set_row w1 A hsz HO.out]))
  have HM2 : Hid (Mod (fun _ => False) w (w1.alloc (.cells A 195))) := HM.out.alloc _
  have HQ : Hid (PQ b c n t ab ao r w1.heap.size u D (ptr u D r) (w1.alloc (.cells A 195))) := by
    have h1 := HM.out.size
    refine ⟨HS.out.mod HM2.out (fun h => h) (fun h => h) (fun h => h), (HM2.out.cell (p := ⟨t, 0, none⟩) htl (fun h => h)).trans HT.out, (HM2.out.cell (p := ⟨ab, ao, none⟩) hab (fun h => h)).trans HA.out.2.2, (HM2.out.frozen (p := ⟨ab, ao, none⟩) hab (fun h => h)).trans HA.out.2.1, fun j hj => ?_, fun o _ => World.frozen?_alloc_at _ _ _ _ rfl, fun j => ptr_lt _ _ HD.out _ _, HA.out.1, ⟨?_, ?_, ?_, HA.out.1.tb, HA.out.1.tc, ?_⟩, ?_⟩
    · rw [World.cell?_alloc_at _ _ _ _ rfl]; exact HJ.out j hj
    · have := HS.out.tab.lt; omega
    · have := HBC.out.1; omega
    · have := HBC.out.2; omega
    · omega
    · omega
  have HPl : Hid (w.heap.size ≤ w1.heap.size) := HM.out.size
  have HF2 : Hid (Fr b c ab ao w (w1.alloc (.cells A 195))) := Fr.of_mod HM2.out hab (fun _ h => h.elim) HA.out.1.nb HA.out.1.nc
  generalize hw2 : w1.alloc (.cells A 195) = w2 at *
  generalize w1.heap.size = Pb at *
  clear hw2 HM2 hTh HM HJ HO hsz
  go_loopw [29] (fun x wx => ∃ i : Nat, i ≤ 16 ∧ x = .int .i64 i ∧ ∃ (us : Nat → Bool) (Ds : Nat → Nat) (qs : Nat → Nat), Hid (PQ b c n t ab ao r Pb us Ds qs wx) ∧ Hid (Fr b c ab ao w wx) ∧ Hid (prRow (pr 0) 1 keep i (u, D, ptr u D r) = (us, Ds, qs))) (fun x _ => 16 - (intOf x).toNat)
  case atStart => exact ⟨0, by omega, rfl, u, D, ptr u D r, HQ, HF2, rfl⟩
  case round =>
    obtain ⟨i, hi, rfl, us, Ds, qs, HQi, HFi, HEi⟩ := hrel
    by_cases hlt : i < 16
    · have HK : Hid (keep - (i : Int) = keep - ((i * 1 : Nat) : Int)) := by show _ = _; omega
      have HN : Hid (prRow (pr 0) 1 keep (i + 1) (u, D, ptr u D r) = ((pr 0 us Ds (qs i) (keep - ((i * 1 : Nat) : Int))).1, (pr 0 us Ds (qs i) (keep - ((i * 1 : Nat) : Int))).2.1, upd qs i (pr 0 us Ds (qs i) (keep - ((i * 1 : Nat) : Int))).2.2)) := by
        show _ = _
        rw [prRow, HEi.out]
      go_wp2_with (go_at_call 88; rw [HK.out]; refine (prune0 HQi.out.S t Pb i (qs i) (keep - ((i * 1 : Nat) : Int)) HQi.out.ct (HQi.out.at_ i hlt) (HQi.out.fr i hlt) HQi.out.P (HQi.out.ql i)).mono ?_; rintro e w3 ⟨rfl, H3, C3, F3, T3⟩; have HQ3 : Hid (PQ b c n t ab ao r Pb (pr 0 us Ds (qs i) (keep - ((i * 1 : Nat) : Int))).1 (pr 0 us Ds (qs i) (keep - ((i * 1 : Nat) : Int))).2.1 (upd qs i (pr 0 us Ds (qs i) (keep - ((i * 1 : Nat) : Int))).2.2) w3) := HQi.out.next i _ (Nat.lt_of_le_of_lt (pr_le _ _ _ _ _) (HQi.out.ql i)) H3 C3 F3 T3; have HF3 : Hid (Fr b c ab ao w w3) := fr_sub0 F3 (block_lt_of_cell HQi.out.ca) HQi.out.A.nb HQi.out.A.nc HQi.out.ne HPl.out HFi.out; clear H3 C3 F3 T3)
      exact ⟨⟨i + 1, by omega, by go_num, _, _, _, HQ3, HF3, HN⟩, by simp [intOf]; omega⟩
    · have HYi : Hid (y = (us, Ds, qs)) := by
        show _ = _
        rw [← HY.out, ← HEi.out, show i = 16 by omega]
      obtain ⟨L, hlen, HL, HR⟩ : ∃ L : List Value, L.length = 16 ∧ Hid (L.toArray = refsV qs) ∧ Hid (wr.rangeAt Pb 0 L) := by
        have := row_of (x := 0) (p := qs 0) (w5 := wr) HQi.out.at_ (HQi.out.at_ 0 (by omega)) (fun _ _ => rfl)
        rwa [show upd qs 0 (qs 0) = qs by funext k; unfold upd; split; rename_i h; rw [h]; rfl] at this
      have hIL : (Tryz.prog.info? 195).map (·.size) = some L.length := by rw [hlen]; exact infP
      have hca := HQi.out.ca
      cases hb : allZ qs with
      | false =>
        have hneq : ∀ W, (binOp .neq 195 (.agg L.toArray) (.agg zeroP)).run Tryz.prog W = .ok (.bool true) W := fun W => by rw [HL.out, run_neqP, hb]; rfl
        have HB : Hid (allZ qs = false) := hb
        have hUL := undP
        have HS9 : Hid ((wr.drewN 1).cell? ⟨ab, ao, none⟩ = some (.int .i64 (r : Nat)) ∧ (wr.drewN 1).rangeAt Pb 0 L) := ⟨HQi.out.ca, HR.out⟩
        clear hb
        go_wp2_with (first | (refine wpList_load_mid rfl 195 _ rfl Pb 0 rfl L _ HR.out undP rfl hIL ?_))
        go_region_held (fun W' => W'.cell? ⟨ab, ao, none⟩ = some (.int .i64 (r : Nat)) ∧ W'.rangeAt Pb 0 L) (first | exact hS10 | exact HS9.out) (first | (go_at_call 107; rw [HL.out]; refine (save_any (HQi.out.S.drewN 1) t r qs HQi.out.ql HQi.out.ct HQi.out.A.tc hr).mono ?_; rintro e w6 ⟨rfl, H6, M6⟩; have M6' := ((Mod.refl (fun k => k = c) wr).drewN 1).trans M6; have HS6 : Hid (St w6 b c n us (saved us Ds r qs)) := H6; have HF6 : Hid (Fr b c ab ao w w6) := HFi.out.trans (Fr.of_mod M6' (block_lt_of_cell HQi.out.ca) (fun _ e => .inr e) HQi.out.A.nb HQi.out.A.nc); have HT6 : Hid (w6.cell? ⟨t, 0, none⟩ = some (.pointer (some ⟨b, 0, none⟩))) := (M6'.cell (p := ⟨t, 0, none⟩) (block_lt_of_cell HQi.out.ct) HQi.out.A.tc).trans HQi.out.ct; have hS10 : w6.cell? ⟨ab, ao, none⟩ = some (.int .i64 (r : Nat)) ∧ w6.rangeAt Pb 0 L := ⟨(M6'.cell (p := ⟨ab, ao, none⟩) (block_lt_of_cell HQi.out.ca) HQi.out.A.nc).trans HQi.out.ca, range_mod M6 HR.out (block_lt_of_cell (HQi.out.at_ 0 (by omega))) HQi.out.P.nc⟩; clear H6 M6 M6'))
        go_wp2
        refine bodyPost_ret (results_none rfl _ _ _) rfl ?_
        have e := HZZ.out
        rw [HYi.out, if_neg (by rw [HB.out]; simp)] at e
        rw [e]
        exact ⟨rfl, HS6.out, hS10.1, HF6.out, HT6.out⟩
      | true =>
        have hneq : ∀ W, (binOp .neq 195 (.agg L.toArray) (.agg zeroP)).run Tryz.prog W = .ok (.bool false) W := fun W => by rw [HL.out, run_neqP, hb]; rfl
        have HB : Hid (allZ qs = true) := hb
        clear hb
        go_wp2_with (first | (refine wpList_load_mid rfl 195 _ rfl Pb 0 rfl L _ HR.out undP rfl hIL ?_) | (go_at_call 108; refine (free_any HQi.out.S t ab ao r HQi.out.ct HQi.out.ca HQi.out.fa HQi.out.A.a0 HQi.out.A.nb HQi.out.A.nc HQi.out.A.tb HQi.out.A.tc hr).mono ?_; rintro e w6 ⟨rfl, H6, C6, F6⟩; have HH : Hid (St w6 b c n (freeU us r) (freeD us Ds r) ∧ w6.cell? ⟨ab, ao, none⟩ = some (.int .i64 0) ∧ Fr b c ab ao w w6 ∧ w6.cell? ⟨t, 0, none⟩ = some (.pointer (some ⟨b, 0, none⟩))) := ⟨H6, C6, HFi.out.trans F6, (F6.mod.cell (p := ⟨t, 0, none⟩) (block_lt_of_cell HQi.out.ct) (fun e => e.elim HQi.out.A.tb (fun e => e.elim HQi.out.A.tc HQi.out.A.ta))).trans HQi.out.ct⟩; clear H6 C6 F6))
        refine ⟨rfl, _, results_none rfl _ _ _, ?_⟩
        have e := HZZ.out
        rw [HYi.out, if_pos HB.out] at e
        rw [e]
        exact ⟨rfl, HH.out⟩
/-- prune of 16 places. -/
theorem prune1 {w : World} {b c n : Nat} {u : Nat → Bool} {D : Nat → Nat} (S : St w b c n u D) (t ab ao r : Nat) (keep : Int) (ht : w.cell? ⟨t, 0, none⟩ = some (.pointer (some ⟨b, 0, none⟩))) (ha : w.cell? ⟨ab, ao, none⟩ = some (.int .i64 (r : Nat))) (hf : w.frozen? ⟨ab, ao, none⟩ = false) (hA : Apart b c t ab) (hr : r < 4294967296) (hkl : -50000 ≤ keep) :
    Calls Tryz.prog 88 #[.pointer (some ⟨t, 0, none⟩), .pointer (some ⟨ab, ao, none⟩), .int .i64 16, .int .i64 keep] w (PrPost b c n t ab ao w (pr 1 u D r keep)) := by
  rw [pr]
  by_cases h0 : r = 0
  · subst h0
    rw [if_pos (.inl rfl)]
    exact (prune_hole t ab ao 16 keep ha).mono fun e w' ⟨h1, h2⟩ => by subst h2; exact ⟨h1, S, ha, Fr.refl _ _ _ _ _, ht⟩
  · by_cases hk : ((16 : Nat) : Int) ≤ keep
    · rw [if_pos (.inr hk)]
      exact (prune_keeps t ab ao r 16 keep ha h0 hk).mono fun e w' ⟨h1, h2⟩ => by subst h2; exact ⟨h1, S, ha, Fr.refl _ _ _ _ _, ht⟩
    · rw [if_neg (fun h => h.elim h0 hk)]
      exact prune_row1 S t ab ao r keep ht ha hf hA hr h0 (by omega) (by omega) _ rfl _ rfl
end Go.Proofs.YtpcbpikhiooafaaGreatDoor
/- The walk of prune, of 256 places. Conditions: the store lies in memory as 'St' says, the table's first cell leads to it, the ref lies in a block of its own. -/
namespace Go.Proofs.YtpcbpikhiooafaaGreatDoor
open Go.RowKit
set_option maxRecDepth 8000 in
set_option maxHeartbeats 4000000 in
theorem prune_row2 {w : World} {b c n : Nat} {u : Nat → Bool} {D : Nat → Nat} (S : St w b c n u D) (t ab ao r : Nat) (keep : Int) (ht : w.cell? ⟨t, 0, none⟩ = some (.pointer (some ⟨b, 0, none⟩))) (ha : w.cell? ⟨ab, ao, none⟩ = some (.int .i64 (r : Nat))) (hf : w.frozen? ⟨ab, ao, none⟩ = false) (hA : Apart b c t ab) (hr : r < 4294967296) (hr0 : r ≠ 0) (hk : keep < 256) (hkl : -40000 ≤ keep) (y : (Nat → Bool) × (Nat → Nat) × (Nat → Nat)) (hy : prRow (pr 1) 16 keep 16 (u, D, ptr u D r) = y) (zz : PS) (hzz : zz = if allZ y.2.2 then (freeU y.1 r, freeD y.1 y.2.1 r, 0) else (y.1, saved y.1 y.2.1 r y.2.2, r)) :
    Calls Tryz.prog 88 #[.pointer (some ⟨t, 0, none⟩), .pointer (some ⟨ab, ao, none⟩), .int .i64 256, .int .i64 keep] w (PrPost b c n t ab ao w zz) := by
  have hrb : ((r : Int) == 0) = false := by simpa using hr0
  have hz := zvP
  have hab := block_lt_of_cell ha
  have htl := block_lt_of_cell ht
  have hge : ¬ 256 ≤ keep := by omega
  have HS : Hid (St w b c n u D) := S
  have HT : Hid (w.cell? ⟨t, 0, none⟩ = some (.pointer (some ⟨b, 0, none⟩))) := ht
  have HA : Hid (Apart b c t ab ∧ w.frozen? ⟨ab, ao, none⟩ = false ∧ w.cell? ⟨ab, ao, none⟩ = some (.int .i64 (r : Nat))) := ⟨hA, hf, ha⟩
  have HD : Hid (∀ j, D j < 256) := S.dl
  have HBC : Hid (b < w.heap.size ∧ c < w.heap.size) := ⟨S.lt_b, S.lt_c⟩
  have HY : Hid (prRow (pr 1) 16 keep 16 (u, D, ptr u D r) = y) := hy
  have HZZ : Hid (zz = if allZ y.2.2 then (freeU y.1 r, freeD y.1 y.2.1 r, 0) else (y.1, saved y.1 y.2.1 r y.2.2, r)) := hzz
  clear S ht hA hf hr0 hy hzz
  go_enter Tryz.func88, Tryz.ntmps88
  go_wp2_with (first | (go_at_call 106; refine (load_row HS.out t r HT.out hr).mono ?_; rintro e w1 ⟨A, rfl, hsz, -, HO, HJ, HM⟩; have hTh : Hid ((w1.alloc (.cells zeroP 195)).there w1.heap.size 0 A.size) := by (show World.there _ _ _ _; rw [hsz]; exact there_new w1 195 zeroP sizeP)) | (refine wpList_store_mid rfl 195 _ _ rfl w1.heap.size 0 A rfl rfl hTh.out (by rw [hsz]; exact infP) HO.out ?_; rw [set_row w1 A hsz HO.out]))
  have HM2 : Hid (Mod (fun _ => False) w (w1.alloc (.cells A 195))) := HM.out.alloc _
  have HQ : Hid (PQ b c n t ab ao r w1.heap.size u D (ptr u D r) (w1.alloc (.cells A 195))) := by
    have h1 := HM.out.size
    refine ⟨HS.out.mod HM2.out (fun h => h) (fun h => h) (fun h => h), (HM2.out.cell (p := ⟨t, 0, none⟩) htl (fun h => h)).trans HT.out, (HM2.out.cell (p := ⟨ab, ao, none⟩) hab (fun h => h)).trans HA.out.2.2, (HM2.out.frozen (p := ⟨ab, ao, none⟩) hab (fun h => h)).trans HA.out.2.1, fun j hj => ?_, fun o _ => World.frozen?_alloc_at _ _ _ _ rfl, fun j => ptr_lt _ _ HD.out _ _, HA.out.1, ⟨?_, ?_, ?_, HA.out.1.tb, HA.out.1.tc, ?_⟩, ?_⟩
    · rw [World.cell?_alloc_at _ _ _ _ rfl]; exact HJ.out j hj
    · have := HS.out.tab.lt; omega
    · have := HBC.out.1; omega
    · have := HBC.out.2; omega
    · omega
    · omega
  have HPl : Hid (w.heap.size ≤ w1.heap.size) := HM.out.size
  have HF2 : Hid (Fr b c ab ao w (w1.alloc (.cells A 195))) := Fr.of_mod HM2.out hab (fun _ h => h.elim) HA.out.1.nb HA.out.1.nc
  generalize hw2 : w1.alloc (.cells A 195) = w2 at *
  generalize w1.heap.size = Pb at *
  clear hw2 HM2 hTh HM HJ HO hsz
  go_loopw [29] (fun x wx => ∃ i : Nat, i ≤ 16 ∧ x = .int .i64 i ∧ ∃ (us : Nat → Bool) (Ds : Nat → Nat) (qs : Nat → Nat), Hid (PQ b c n t ab ao r Pb us Ds qs wx) ∧ Hid (Fr b c ab ao w wx) ∧ Hid (prRow (pr 1) 16 keep i (u, D, ptr u D r) = (us, Ds, qs))) (fun x _ => 16 - (intOf x).toNat)
  case atStart => exact ⟨0, by omega, rfl, u, D, ptr u D r, HQ, HF2, rfl⟩
  case round =>
    obtain ⟨i, hi, rfl, us, Ds, qs, HQi, HFi, HEi⟩ := hrel
    by_cases hlt : i < 16
    · have HK : Hid (keep - (i : Int) * 16 = keep - ((i * 16 : Nat) : Int)) := by show _ = _; omega
      have HN : Hid (prRow (pr 1) 16 keep (i + 1) (u, D, ptr u D r) = ((pr 1 us Ds (qs i) (keep - ((i * 16 : Nat) : Int))).1, (pr 1 us Ds (qs i) (keep - ((i * 16 : Nat) : Int))).2.1, upd qs i (pr 1 us Ds (qs i) (keep - ((i * 16 : Nat) : Int))).2.2)) := by
        show _ = _
        rw [prRow, HEi.out]
      go_wp2_with (go_at_call 88; rw [HK.out]; refine (prune1 HQi.out.S t Pb i (qs i) (keep - ((i * 16 : Nat) : Int)) HQi.out.ct (HQi.out.at_ i hlt) (HQi.out.fr i hlt) HQi.out.P (HQi.out.ql i) (by omega)).mono ?_; rintro e w3 ⟨rfl, H3, C3, F3, T3⟩; have HQ3 : Hid (PQ b c n t ab ao r Pb (pr 1 us Ds (qs i) (keep - ((i * 16 : Nat) : Int))).1 (pr 1 us Ds (qs i) (keep - ((i * 16 : Nat) : Int))).2.1 (upd qs i (pr 1 us Ds (qs i) (keep - ((i * 16 : Nat) : Int))).2.2) w3) := HQi.out.next i _ (Nat.lt_of_le_of_lt (pr_le _ _ _ _ _) (HQi.out.ql i)) H3 C3 F3 T3; have HF3 : Hid (Fr b c ab ao w w3) := fr_sub0 F3 (block_lt_of_cell HQi.out.ca) HQi.out.A.nb HQi.out.A.nc HQi.out.ne HPl.out HFi.out; clear H3 C3 F3 T3)
      exact ⟨⟨i + 1, by omega, by go_num, _, _, _, HQ3, HF3, HN⟩, by simp [intOf]; omega⟩
    · have HYi : Hid (y = (us, Ds, qs)) := by
        show _ = _
        rw [← HY.out, ← HEi.out, show i = 16 by omega]
      obtain ⟨L, hlen, HL, HR⟩ : ∃ L : List Value, L.length = 16 ∧ Hid (L.toArray = refsV qs) ∧ Hid (wr.rangeAt Pb 0 L) := by
        have := row_of (x := 0) (p := qs 0) (w5 := wr) HQi.out.at_ (HQi.out.at_ 0 (by omega)) (fun _ _ => rfl)
        rwa [show upd qs 0 (qs 0) = qs by funext k; unfold upd; split; rename_i h; rw [h]; rfl] at this
      have hIL : (Tryz.prog.info? 195).map (·.size) = some L.length := by rw [hlen]; exact infP
      have hca := HQi.out.ca
      cases hb : allZ qs with
      | false =>
        have hneq : ∀ W, (binOp .neq 195 (.agg L.toArray) (.agg zeroP)).run Tryz.prog W = .ok (.bool true) W := fun W => by rw [HL.out, run_neqP, hb]; rfl
        have HB : Hid (allZ qs = false) := hb
        have hUL := undP
        have HS9 : Hid ((wr.drewN 1).cell? ⟨ab, ao, none⟩ = some (.int .i64 (r : Nat)) ∧ (wr.drewN 1).rangeAt Pb 0 L) := ⟨HQi.out.ca, HR.out⟩
        clear hb
        go_wp2_with (first | (refine wpList_load_mid rfl 195 _ rfl Pb 0 rfl L _ HR.out undP rfl hIL ?_))
        go_region_held (fun W' => W'.cell? ⟨ab, ao, none⟩ = some (.int .i64 (r : Nat)) ∧ W'.rangeAt Pb 0 L) (first | exact hS10 | exact HS9.out) (first | (go_at_call 107; rw [HL.out]; refine (save_any (HQi.out.S.drewN 1) t r qs HQi.out.ql HQi.out.ct HQi.out.A.tc hr).mono ?_; rintro e w6 ⟨rfl, H6, M6⟩; have M6' := ((Mod.refl (fun k => k = c) wr).drewN 1).trans M6; have HS6 : Hid (St w6 b c n us (saved us Ds r qs)) := H6; have HF6 : Hid (Fr b c ab ao w w6) := HFi.out.trans (Fr.of_mod M6' (block_lt_of_cell HQi.out.ca) (fun _ e => .inr e) HQi.out.A.nb HQi.out.A.nc); have HT6 : Hid (w6.cell? ⟨t, 0, none⟩ = some (.pointer (some ⟨b, 0, none⟩))) := (M6'.cell (p := ⟨t, 0, none⟩) (block_lt_of_cell HQi.out.ct) HQi.out.A.tc).trans HQi.out.ct; have hS10 : w6.cell? ⟨ab, ao, none⟩ = some (.int .i64 (r : Nat)) ∧ w6.rangeAt Pb 0 L := ⟨(M6'.cell (p := ⟨ab, ao, none⟩) (block_lt_of_cell HQi.out.ca) HQi.out.A.nc).trans HQi.out.ca, range_mod M6 HR.out (block_lt_of_cell (HQi.out.at_ 0 (by omega))) HQi.out.P.nc⟩; clear H6 M6 M6'))
        go_wp2
        refine bodyPost_ret (results_none rfl _ _ _) rfl ?_
        have e := HZZ.out
        rw [HYi.out, if_neg (by rw [HB.out]; simp)] at e
        rw [e]
        exact ⟨rfl, HS6.out, hS10.1, HF6.out, HT6.out⟩
      | true =>
        have hneq : ∀ W, (binOp .neq 195 (.agg L.toArray) (.agg zeroP)).run Tryz.prog W = .ok (.bool false) W := fun W => by rw [HL.out, run_neqP, hb]; rfl
        have HB : Hid (allZ qs = true) := hb
        clear hb
        go_wp2_with (first | (refine wpList_load_mid rfl 195 _ rfl Pb 0 rfl L _ HR.out undP rfl hIL ?_) | (go_at_call 108; refine (free_any HQi.out.S t ab ao r HQi.out.ct HQi.out.ca HQi.out.fa HQi.out.A.a0 HQi.out.A.nb HQi.out.A.nc HQi.out.A.tb HQi.out.A.tc hr).mono ?_; rintro e w6 ⟨rfl, H6, C6, F6⟩; have HH : Hid (St w6 b c n (freeU us r) (freeD us Ds r) ∧ w6.cell? ⟨ab, ao, none⟩ = some (.int .i64 0) ∧ Fr b c ab ao w w6 ∧ w6.cell? ⟨t, 0, none⟩ = some (.pointer (some ⟨b, 0, none⟩))) := ⟨H6, C6, HFi.out.trans F6, (F6.mod.cell (p := ⟨t, 0, none⟩) (block_lt_of_cell HQi.out.ct) (fun e => e.elim HQi.out.A.tb (fun e => e.elim HQi.out.A.tc HQi.out.A.ta))).trans HQi.out.ct⟩; clear H6 C6 F6))
        refine ⟨rfl, _, results_none rfl _ _ _, ?_⟩
        have e := HZZ.out
        rw [HYi.out, if_pos HB.out] at e
        rw [e]
        exact ⟨rfl, HH.out⟩
/-- prune of 256 places. -/
theorem prune2 {w : World} {b c n : Nat} {u : Nat → Bool} {D : Nat → Nat} (S : St w b c n u D) (t ab ao r : Nat) (keep : Int) (ht : w.cell? ⟨t, 0, none⟩ = some (.pointer (some ⟨b, 0, none⟩))) (ha : w.cell? ⟨ab, ao, none⟩ = some (.int .i64 (r : Nat))) (hf : w.frozen? ⟨ab, ao, none⟩ = false) (hA : Apart b c t ab) (hr : r < 4294967296) (hkl : -40000 ≤ keep) :
    Calls Tryz.prog 88 #[.pointer (some ⟨t, 0, none⟩), .pointer (some ⟨ab, ao, none⟩), .int .i64 256, .int .i64 keep] w (PrPost b c n t ab ao w (pr 2 u D r keep)) := by
  rw [pr]
  by_cases h0 : r = 0
  · subst h0
    rw [if_pos (.inl rfl)]
    exact (prune_hole t ab ao 256 keep ha).mono fun e w' ⟨h1, h2⟩ => by subst h2; exact ⟨h1, S, ha, Fr.refl _ _ _ _ _, ht⟩
  · by_cases hk : ((256 : Nat) : Int) ≤ keep
    · rw [if_pos (.inr hk)]
      exact (prune_keeps t ab ao r 256 keep ha h0 hk).mono fun e w' ⟨h1, h2⟩ => by subst h2; exact ⟨h1, S, ha, Fr.refl _ _ _ _ _, ht⟩
    · rw [if_neg (fun h => h.elim h0 hk)]
      exact prune_row2 S t ab ao r keep ht ha hf hA hr h0 (by omega) (by omega) _ rfl _ rfl
end Go.Proofs.YtpcbpikhiooafaaGreatDoor
