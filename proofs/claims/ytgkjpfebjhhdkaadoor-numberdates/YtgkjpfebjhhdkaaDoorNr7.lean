/- The walk of the program's Ranges. Condition: a text of at most 2^20 bytes. -/
import Derived.Test.YtgkjpfebjhhdkaaDoorNr6
import Derived.Maps.AppendAt
namespace Go.Proofs.YtgkjpfebjhhdkaaDoor
open Go.RowKit Go.Sort
attribute [local go_sem] ext_eq app_eq get_eq
namespace Na
def itemR (l : List UInt8) : Option Rg := rOf (elo l) (ehi l)
/-- The items' ranges; none: one is too great. -/
def rsOf (l : List UInt8) : Option (List Rg) := (parts l).mapM itemR
theorem rsOf_yes {l : List UInt8} (h : has 44 l = true) : rsOf l = (itemR (ahead 44 l)).bind fun x => (rsOf (behind 44 l)).map (x :: ·) := by
  unfold rsOf
  rw [parts_yes h, List.mapM_cons]
  cases itemR (ahead 44 l) with
  | none => rfl
  | some x => cases List.mapM itemR (parts (behind 44 l)) <;> rfl
theorem rsOf_no {l : List UInt8} (h : has 44 l = false) : rsOf l = (itemR (ahead 44 l)).map ([·]) := by
  unfold rsOf
  rw [parts_no h, List.mapM_cons, (has_no h).1]
  cases itemR l <;> rfl
theorem item_digs {l : List UInt8} (h : isItem l = true) : (elo l).all (dig 10) = true ∧ (ehi l).all (dig 10) = true := by
  unfold isItem at h
  simp only [Bool.and_eq_true, Bool.or_eq_true] at h
  refine ⟨counts_all h.1.2, ?_⟩
  rcases h.2 with h2 | h2
  · rw [List.isEmpty_iff] at h2; rw [h2]; rfl
  · exact counts_all h2.1
theorem rOf_rng {lo hi : List UInt8} {r : Rg} (h1 : lo.all (dig 10) = true) (h2 : hi.all (dig 10) = true) (h : rOf lo hi = some r) : (0 ≤ r.1 ∧ r.1 ≤ mx) ∧ (-1 ≤ r.2 ∧ r.2 ≤ mx) := by
  unfold rOf at h
  cases ha : vl 10 mx 0 lo with
  | none => rw [ha] at h; cases h
  | some a =>
    have k1 := vl_rng (b := 10) (t := mx) (by decide) lo 0 a (by decide) (by decide) h1 ha
    rw [ha] at h
    dsimp only at h
    split at h
    · cases h; exact ⟨k1, (by decide : (-1 : Int) ≤ -1 ∧ (-1 : Int) ≤ mx)⟩
    · cases hb : vl 10 mx 0 hi with
      | none => rw [hb] at h; cases h
      | some b =>
        have k2 := vl_rng (b := 10) (t := mx) (by decide) hi 0 b (by decide) (by decide) h2 hb
        rw [hb] at h
        cases h
        exact ⟨k1, by omega, k2.2⟩
end Na
theorem own_grow {W W' : World} {B k n : Nat} {T : TypeId} {v : Value} {xs : List Value} (h : W.ownsRow B T k v n xs) (hB : Below W.heap.size W W') : W'.ownsRow B T k v n xs :=
  h.kept (row := none) ⟨hB.os, hB.tape, hB.output, hB.size, fun k hk _ => hB.block k hk⟩ (by cases v.ownBlock <;> simp)
theorem own_rsnoc {W : World} {B : Nat} {v : Value} {o : List Na.Rg} {x y : Int} (h : W.ownsRow B 51 2 v (o.length + 1) (rCs o ++ [.int .i64 x, .int .i64 y])) : W.ownsRow B 51 2 v (o ++ [(x, y)]).length (rCs (o ++ [(x, y)])) := by
  rw [rCs_snoc, List.length_append]; exact h
theorem two_int (x y : Int) : ∀ u ∈ [Value.int .i64 x, Value.int .i64 y], u.oneCell' = true := by intro u hu; simp at hu; rcases hu with rfl | rfl <;> rfl
theorem cell_two_new (w : World) (x y : Value) (t : TypeId) : ∀ j u, [x, y][j]? = some u → (w.alloc (.cells #[x, y] t)).cell? ((⟨w.heap.size, 0, none⟩ : Addr).add j) = some u := by
  intro j u hj
  match j, hj with
  | 0, hj => simp at hj; subst hj; simp [Addr.add]
  | 1, hj => simp at hj; subst hj; simp [Addr.add]
theorem own_rw {W : World} {B : Nat} {v : Value} {o : List Na.Rg} (h : W.ownsRow B 51 2 v o.length (rCs o)) (hne : 0 < o.length) : ∃ g cap, v = .slice (some ⟨g, 0, none⟩) o.length cap ∧ B ≤ g ∧ cap ≤ maxLen ∧ Rw W g o.length cap (fun j => o.getD j (0, 0)) := by
  rcases h.2 with ⟨_, h0⟩ | ⟨g, cap, cur, rfl, hb, hg, hnc, hcm, hsz, ht⟩
  · omega
  · refine ⟨g, cap, rfl, hb, hcm, cur, hg, hsz, hnc, fun j hj => ?_, fun j hj => ?_⟩
    · have := (rCs_get o j hj).1
      rw [← ht, List.getElem?_take, if_pos (by omega)] at this
      rw [getD_of hj]; simpa using this
    · have := (rCs_get o j hj).2
      rw [← ht, List.getElem?_take, if_pos (by omega)] at this
      rw [getD_of hj]; simpa using this
/-- What Ranges tells of a text. -/
def OutR (w w' : World) (e : Ending) (l : List UInt8) : Prop :=
  if Na.allI l = true then (match Na.rsOf l with
    | none => e = .returned (.tuple #[.slice none 0 0, .int .i64 34])
    | some rs => ∃ ds v, ds.Perm rs ∧ ds.Pairwise (fun a b => a.1 ≤ b.1) ∧ e = .returned (.tuple #[v, .int .i64 0]) ∧ w'.ownsRow w.heap.size 51 2 v (Na.join ds).length (rCs (Na.join ds)))
  else e = .returned (.tuple #[.slice none 0 0, .int .i64 22])
set_option maxRecDepth 100000 in
set_option maxHeartbeats 4000000 in
theorem nRanges (l : List UInt8) (w : World) (hl : l.length ≤ 1048576) : Calls Tryd.prog 19 #[.string ⟨l.toArray⟩] w fun e w' => OutR w w' e l ∧ Below w.heap.size w w' := by
  have HA := hidA (nAllItems l w (by omega))
  obtain ⟨iR, hiR, hz0, hz1, hz2⟩ := infoR
  cases ha : Na.allI l with
  | false =>
    rw [ha] at HA
    have HE : Hid (∀ (e : Ending) (w' : World), e = .returned (.tuple #[.slice none 0 0, .int .i64 22]) → OutR w w' e l) := fun e w' he => by unfold OutR; rw [if_neg (by simp [ha])]; exact he
    clear ha
    go_enter Tryd.func19, Tryd.ntmps19
    go_wp2_with (go_at_call 43; refine HA.out.mono ?_; rintro e w1 ⟨rfl, b1⟩)
    go_ret2
    exact ⟨HE.out _ _ rfl, b1⟩
  | true =>
    rw [ha] at HA
    have HE1 : Hid (∀ (e : Ending) (w' : World), Na.rsOf l = none → e = .returned (.tuple #[.slice none 0 0, .int .i64 34]) → OutR w w' e l) := fun e w' hr he => by unfold OutR; rw [if_pos ha, hr]; exact he
    have HE2 : Hid (∀ (e : Ending) (w' : World) rs ds v, Na.rsOf l = some rs → ds.Perm rs → ds.Pairwise (fun a b => a.1 ≤ b.1) → e = .returned (.tuple #[v, .int .i64 0]) → w'.ownsRow w.heap.size 51 2 v (Na.join ds).length (rCs (Na.join ds)) → OutR w w' e l) := fun e w' rs ds v hr h1 h2 he ho => by unfold OutR; rw [if_pos ha, hr]; exact ⟨ds, v, h1, h2, he, ho⟩
    have HI0 := hidA ha
    clear ha
    go_enter Tryd.func19, Tryd.ntmps19
    go_wp2_with (go_at_call 43; refine HA.out.mono ?_; rintro e w1 ⟨rfl, b1⟩)
    have HB1 := hidA b1
    clear b1
    go_loopw [0, 4, 5] (fun s v b w' => ∃ (r : List UInt8) (m : Bool) (acc : List Na.Rg), s = .string ⟨r.toArray⟩ ∧ b = .bool m ∧ acc.length + r.length ≤ l.length + 1 ∧ acc.length ≤ l.length + 1 ∧ (m = true → acc.length + r.length ≤ l.length) ∧ (m = false → 0 < acc.length) ∧ Hid (w'.ownsRow w.heap.size 51 2 v acc.length (rCs acc)) ∧ Hid (Na.rsOf l = if m then (Na.rsOf r).map (acc ++ ·) else some acc) ∧ Hid (m = true → Na.allI r = true) ∧ Hid (∀ x ∈ acc, -1 ≤ x.2 ∧ x.2 ≤ 999999999999999999) ∧ Hid (Below w.heap.size w w')) (fun s _ b _ => if bOf b then sOf s + 1 else 0)
    case atStart => exact ⟨l, true, [], rfl, rfl, by simp, by simp, (fun _ => by simp), (fun h => absurd h (by simp)), World.ownsRow_nil _ _ _ _, (by show _ = _; cases Na.rsOf l <;> simp), (fun _ => HI0.out), (fun x hx => absurd hx (by simp)), HB1⟩
    case round =>
      obtain ⟨r, m, acc, rfl, rfl, hc1, hc2, hc3, hc4, HO, HR, HI, HV, HB⟩ := hrel
      rename_i wr
      cases m with
      | false =>
        rw [if_neg (by simp)] at HR
        obtain ⟨g, cap, hv, hBg, hcap, hrw⟩ := own_rw HO.out (hc4 rfl)
        have HJ := hidA (nJoined acc wr w.heap.size g cap (hc4 rfl) hrw hBg hcap (by omega) HV.out)
        subst hv
        clear HI HO hrw
        go_wp2_with (go_at_call 46; refine HJ.out.mono ?_; rintro e w2 ⟨ds, hp, hs, rfl, ho, b2⟩)
        go_ret2
        exact ⟨HE2.out _ _ acc ds _ HR.out hp hs rfl ho, HB.out.trans b2⟩
      | true =>
        rw [if_pos rfl] at HR
        have hI := HI.out rfl
        have hc5 := hc3 rfl
        have HC := hidA (nCut 44 (by decide) r wr (by omega))
        have hal := ahead_len 44 r
        have hbl := behind_len 44 r
        have HN := hidA (fun w => nEnds (Na.ahead 44 r) w (by omega))
        clear HI HA
        obtain ⟨mm, hh⟩ : ∃ mm, Na.has 44 r = mm := ⟨_, rfl⟩
        have hit : Na.isItem (Na.ahead 44 r) = true := by
          cases mm with
          | true => rw [Na.allI_yes hh, Bool.and_eq_true] at hI; exact hI.1
          | false => rw [Na.allI_no hh] at hI; exact hI
        obtain ⟨hd1, hd2⟩ := Na.item_digs hit
        have HG := hidA (fun w => nRangeOf _ _ hd1 hd2 w)
        have HQ : Hid (∀ x, Na.itemR (Na.ahead 44 r) = some x → -1 ≤ x.2 ∧ x.2 ≤ 999999999999999999) := fun x hx => (Na.rOf_rng hd1 hd2 hx).2
        have hlt : mm = true → (Na.behind 44 r).length < r.length := fun e => has_split (hh.trans e)
        have HRI : Hid (mm = true → Na.allI (Na.behind 44 r) = true) := fun e => by rw [Na.allI_yes (hh.trans e), Bool.and_eq_true] at hI; exact hI.2
        have HRs : Hid (Na.rsOf r = (Na.itemR (Na.ahead 44 r)).bind fun x => if mm then (Na.rsOf (Na.behind 44 r)).map (x :: ·) else some [x]) := by
          show _ = _
          cases mm with
          | true => exact Na.rsOf_yes hh
          | false => rw [Na.rsOf_no hh]; cases Na.itemR (Na.ahead 44 r) <;> rfl
        have hir : Na.itemR (Na.ahead 44 r) = Na.rOf (Na.elo (Na.ahead 44 r)) (Na.ehi (Na.ahead 44 r)) := rfl
        rw [← hir] at HG
        rw [hh] at HC
        clear hir hd1 hd2 hit hI hh
        generalize Na.itemR (Na.ahead 44 r) = IR at *
        generalize Na.elo (Na.ahead 44 r) = LO at *
        generalize Na.ehi (Na.ahead 44 r) = HI at *
        generalize Na.ahead 44 r = A at *
        generalize Na.behind 44 r = B at *
        cases IR with
        | none =>
          have HX : Hid (Na.rsOf l = none) := by show _ = _; rw [HR.out, HRs.out]; rfl
          go_wp2_with (first | (go_at_call 34; refine HC.out.mono ?_; rintro e w2 ⟨rfl, b2⟩) | (go_at_call 45; refine (HN.out _).mono ?_; rintro e w3 ⟨rfl, b3⟩) | (go_at_call 44; refine (HG.out _).mono ?_; rintro e w4 ⟨⟨a, b, rfl, -⟩, b4⟩))
          go_ret2
          exact ⟨HE1.out _ _ HX.out rfl, (HB.out.trans ((bl2 (bl2 b2 b3) b4).mono HB.out.size)).alloc (by have := b2.size; have := b3.size; have := b4.size; have := HB.out.size; omega) _⟩
        | some x =>
          obtain ⟨xa, xb⟩ := x
          obtain ⟨hx1, hx2⟩ := HQ.out _ rfl
          have HX : Hid (Na.rsOf l = if mm then (Na.rsOf B).map ((acc ++ [(xa, xb)]) ++ ·) else some (acc ++ [(xa, xb)])) := by
            show _ = _
            rw [HR.out, HRs.out]
            cases mm with
            | true => cases Na.rsOf B <;> simp
            | false => simp
          have HV2 : Hid (∀ y ∈ acc ++ [(xa, xb)], -1 ≤ y.2 ∧ y.2 ≤ 999999999999999999) := fun y hy => by
            rcases List.mem_append.1 hy with h | h
            · exact HV.out y h
            · simp at h; subst h; exact ⟨hx1, hx2⟩
          clear HR HRs HQ HV HE1 HE2
          have hacc : acc.length ≤ 1048577 := by omega
          go_wp2_with (first | (go_at_call 34; refine HC.out.mono ?_; rintro e w2 ⟨rfl, b2⟩) | (go_at_call 45; refine (HN.out _).mono ?_; rintro e w3 ⟨rfl, b3⟩) | (go_at_call 44; refine (HG.out _).mono ?_; rintro e w4 ⟨⟨a, b, rfl, hab⟩, b4⟩; obtain ⟨rfl, rfl⟩ := Prod.mk.inj (hab _ rfl); have HBx : Hid (Below w.heap.size w w4) := HB.out.trans ((bl2 (bl2 b2 b3) b4).mono HB.out.size); have HOx := hidA (own_grow HO.out (bl2 (bl2 b2 b3) b4)); have hsz : w.heap.size ≤ w4.heap.size := HBx.out.size; clear b2 b3 b4 hab) | (at_builtin; refine wpList_append_own_at _ rfl _ _ 35 rfl w.heap.size 51 iR (.agg #[.int .i64 0, .int .i64 0]) 2 16 Tryd.underlying35 hiR hz0 hz1 hz2 rfl (by decide) _ _ _ rfl ((HOx.out.alloc _).alloc _) ⟨w4.heap.size + 1, 0, none⟩ 1 1 [.int .i64 xa, .int .i64 xb] rfl rfl (by first | exact cell_two_new _ _ _ _ | (have := cell_two_new (w4.alloc (.cells #[.int .i64 xa, .int .i64 xb] 51)) (.int .i64 xa) (.int .i64 xb) 51; simpa using this)) (two_int xa xb) (by unfold maxLen; omega) (by omega) (by simp; omega) ?_; intro v6 w6 hown hg _ hat; have HO6 := hidA (own_rsnoc hown); have HB6 : Hid (Below w.heap.size w w6) := ((HBx.out.alloc hsz _).alloc (by simp; omega) _).grown hg (by simp; omega) (fun k hk => (HOx.out.lt k hk).1); clear hown hg hat))
          refine ⟨⟨B, mm, acc ++ [(xa, xb)], rfl, rfl, by simp; omega, by simp; omega, fun h => ?_, fun _ => by simp, HO6, HX, HRI, HV2, HB6⟩, ?_⟩
          · have := hlt h; simp; omega
          · cases mm with
            | false => simp [bOf]
            | true => have := hlt rfl; simp [bOf, sOf, ByteArray.size]; omega
end Go.Proofs.YtgkjpfebjhhdkaaDoor
