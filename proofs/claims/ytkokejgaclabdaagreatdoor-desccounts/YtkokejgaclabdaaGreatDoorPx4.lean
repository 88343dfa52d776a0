/- Pipe, with what it lays; Dup, Close, Fds with its values. Conditions: the process lies in memory as 'PAt' says; descriptors are free. -/
import Derived.Test.YtkokejgaclabdaaGreatDoorM24
import Derived.Test.YtkokejgaclabdaaGreatDoorPx3
import Derived.Deep.LoopGhost
import Derived.Maps.AppendAt
namespace Go.Proofs.YtkokejgaclabdaaGreatDoor
open Go.RowKit
set_option maxRecDepth 100000 in
set_option maxHeartbeats 2000000 in
theorem pFdsV {w : World} {P fb : Nat} {u g : Int} {ga : Option Addr} {gc : Nat} {um cw : Int} {d : Nat → Option Addr} (h : PAt w P fb u g ga gc um cw d) : Calls Tryz.prog 10 #[.pointer (some ⟨P, 0, none⟩)] w fun e w' => ∃ a c, e = .returned (.slice a (fdN d) c) ∧ w'.ownsRow w.heap.size 3 1 (.slice a (fdN d) c) (fdN d) ((usedL (fun j => (d j).isSome) 16).map intV) ∧ Mod (fun _ => False) w w' := by
  have HF := hid6 (pMade h)
  have HR := hid6 h.range
  have HI : Hid (∀ (k : Nat) W, k < 16 → (Instr.index 60 (.agg (fdV d).toArray) (.int .i64 k)).run Tryz.prog W = .ok (.pointer (d k)) W) := fun k W hk => fdV_ix d k hk W
  clear h
  obtain ⟨i0, hi0, hz0, hs0, hb0⟩ := infInt
  have HIn := hid6 (show Tryz.prog.info? 3 = some i0 ∧ i0.zero = some (.int .i64 0) ∧ i0.size = 1 ∧ i0.bytes = 8 from ⟨hi0, hz0, hs0, hb0⟩)
  clear hi0 hz0 hs0 hb0
  go_enter Tryz.func10, Tryz.ntmps10
  go_wp2_with (first | (go_at_call 20; refine Calls.mono HF.out ?_; rintro e w3 ⟨rfl, hw3⟩; rw [hw3]; clear hw3 w3) | (refine wpList_load_mid rfl 60 _ rfl P 6 rfl (fdV d) _ HR.out Tryz.underlying60 rfl infFd ?_))
  go_loopg [3, 14] 16 (fun gh v i wr => ∃ k : Nat, k ≤ 16 ∧ gh = 16 - k ∧ i = .int .i64 k ∧ Hid (wr.ownsRow w.heap.size 3 1 v (usedL (fun j => (d j).isSome) k).length ((usedL (fun j => (d j).isSome) k).map intV)) ∧ Hid (Mod (fun _ => False) w wr))
  case atStart => exact ⟨0, Nat.zero_le _, rfl, rfl, World.ownsRow_nil _ _ _ _, Mod.refl _ _⟩
  case round =>
    obtain ⟨k, hk, rfl, rfl, hown, hmod⟩ := hrel
    by_cases hlt : k < 16
    · have hlt' : (k : Int) < 16 := by omega
      have hix := fun W => HI.out k W hlt
      cases hd : d k with
      | none =>
        rw [hd] at hix
        have HU := hid6 (usedL_no (fun j => (d j).isSome) k (by show (d k).isSome = false; rw [hd]; rfl))
        clear hd
        go_wp2_with fail
        go_roundg (16 - (k + 1))
        case measure => omega
        case rel => exact ⟨k + 1, hlt, rfl, by go_num, by rw [HU.out]; exact hown, hmod⟩
      | some ad =>
        rw [hd] at hix
        have HU := hid6 (usedL_yes (fun j => (d j).isSome) k (by show (d k).isSome = true; rw [hd]; rfl))
        clear hd
        have hle := used_le16 (fun j => (d j).isSome) k
        have hO := hid6 (hown.out.alloc (.cells #[.int .i64 k] 3))
        have hsz := hmod.out.size
        go_wp2_with (first | (at_builtin; refine wpList_append_own _ rfl _ _ 30 rfl w.heap.size 3 i0 (.int .i64 0) 1 8 undInts HIn.out.1 HIn.out.2.1 HIn.out.2.2.1 HIn.out.2.2.2 rfl (by decide) _ _ _ rfl hO.out ⟨wr.heap.size, 0, none⟩ 1 1 [intV k] rfl rfl ?c1 ?c2 ?c3 ?c4 ?c5 ?_))
        case c1 =>
          intro j x hj
          match j, hj with
          | 0, hj =>
            simp at hj; subst hj
            show ((wr.alloc (.cells #[.int .i64 k] 3)).cell? _) = _
            rw [show (⟨wr.heap.size, 0, none⟩ : Addr).add 0 = ⟨wr.heap.size, 0, none⟩ from rfl, World.cell?_alloc_at _ _ _ _ rfl]; rfl
        case c2 => intro x hx; simp at hx; subst hx; rfl
        case c3 => unfold maxLen; omega
        case c4 => omega
        case c5 => simp; omega
        intro v' w1 hown' hgrow _
        have hO' : Hid (w1.ownsRow w.heap.size 3 1 v' (usedL (fun j => (d j).isSome) (k + 1)).length ((usedL (fun j => (d j).isSome) (k + 1)).map intV)) := by
          show w1.ownsRow _ _ _ _ _ _
          rw [HU.out, List.length_append, List.map_append]; exact hown'
        have hM' : Hid (Mod (fun _ => False) w w1) := ((hmod.out.alloc (.cells #[.int .i64 k] 3)).grown hgrow (fun j hj => (hown.out.lt j hj).1))
        clear hown' hgrow
        go_wp2_with fail
        go_roundg (16 - (k + 1))
        case measure => omega
        case rel => exact ⟨k + 1, hlt, rfl, by go_num, hO', hM'⟩
    · obtain rfl : k = 16 := by omega
      go_wp2_with fail
      go_ret
      obtain ⟨a, c, hv⟩ := row_sl8 hown.out
      refine ⟨a, c, by rw [hv]; rfl, ?_, hmod⟩
      have h9 := hown.out
      rw [hv] at h9
      exact h9
section
variable {w : World} {P fb : Nat} {u g : Int} {ga : Option Addr} {gc : Nat} {um cw : Int} {d : Nat → Option Addr}
set_option maxRecDepth 100000 in
set_option maxHeartbeats 2000000 in
theorem pPipe2 (h : PAt w P fb u g ga gc um cw d) (j i2 : Nat) (hj : j < i2) (hj2 : i2 < 16) (h0 : d j = none) (h1 : ∀ i, i < j → ∃ B : Nat, d i = some ⟨B, 0, none⟩) (h2 : d i2 = none) (h3 : ∀ i, i < i2 → i ≠ j → ∃ B : Nat, d i = some ⟨B, 0, none⟩) (hr : fdN d + 2 ≤ 16) :
    Calls Tryz.prog 8 #[.pointer (some ⟨P, 0, none⟩)] w fun e w' => e = .returned (.tuple #[.int .i64 j, .int .i64 i2, .int .i64 0]) ∧ Mod (fun x => x = P) w w' ∧ ∃ q D0 D1, w.heap.size ≤ q ∧ q < D0 ∧ D0 < D1 ∧ D1 < w'.heap.size ∧ PiAt w' q (.slice none 0 0) true true ∧ DAt w' D0 (.iface 80 (.agg #[.pointer (some ⟨q, 0, none⟩)])) 1 ∧ DAt w' D1 (.iface 81 (.agg #[.pointer (some ⟨q, 0, none⟩)])) 1 ∧ PAt w' P fb u g ga gc um cw (fun i => if i = i2 then some ⟨D1, 0, none⟩ else if i = j then some ⟨D0, 0, none⟩ else d i) := by
  have HR := hid6 (pRoom h 2 (by omega) (by omega))
  have HH := hid6 h
  have H1 := hid6 h1
  have H3 := hid6 h3
  clear h h1 h3
  go_enter Tryz.func8, Tryz.ntmps8
  go_wp2_with fail
  refine Calls.mono HR.out ?_
  rintro e w1 ⟨rfl, M1⟩
  have HM1 := hid6 M1
  have HH1 := hid6 (HH.out.new M1)
  have hPl := HH1.out.lt
  clear M1 HH HR
  go_wp2_with fail
  have M5 : Mod (fun _ => False) w1 ((w1.alloc (.cells #[.slice none 0 0, .bool true, .bool true] 78)).alloc (.cells #[.iface 80 (.agg #[.pointer (some ⟨w1.heap.size, 0, none⟩)]), .int .i64 0] 72)) := ((Mod.refl _ _).alloc _).alloc _
  have k0 : ((w1.alloc (.cells #[.slice none 0 0, .bool true, .bool true] 78)).alloc (.cells #[.iface 80 (.agg #[.pointer (some ⟨w1.heap.size, 0, none⟩)]), .int .i64 0] 72)).cell? ⟨w1.heap.size + 1, 0, none⟩ = some (.iface 80 (.agg #[.pointer (some ⟨w1.heap.size, 0, none⟩)])) := by simp [go_sem]
  have k1 : ((w1.alloc (.cells #[.slice none 0 0, .bool true, .bool true] 78)).alloc (.cells #[.iface 80 (.agg #[.pointer (some ⟨w1.heap.size, 0, none⟩)]), .int .i64 0] 72)).cell? ⟨w1.heap.size + 1, 1, none⟩ = some (.int .i64 0) := by simp [go_sem]
  have kf : ∀ o, ((w1.alloc (.cells #[.slice none 0 0, .bool true, .bool true] 78)).alloc (.cells #[.iface 80 (.agg #[.pointer (some ⟨w1.heap.size, 0, none⟩)]), .int .i64 0] 72)).frozen? ⟨w1.heap.size + 1, o, none⟩ = false := fun o => by simp [go_sem]
  have kq : PiAt ((w1.alloc (.cells #[.slice none 0 0, .bool true, .bool true] 78)).alloc (.cells #[.iface 80 (.agg #[.pointer (some ⟨w1.heap.size, 0, none⟩)]), .int .i64 0] 72)) w1.heap.size (.slice none 0 0) true true := ⟨by simp [go_sem], by simp [go_sem], by simp [go_sem], fun o => by simp [go_sem]⟩
  have HE := hid6 (low_end HH1.out j (by omega) M5 k0 k1 kf (by omega))
  have HLo := hid6 (pLowest (HH1.out.new M5) j (w1.heap.size + 1) (by omega) h0 H1.out (by omega) k1 kf)
  have HKq := hid6 kq
  clear k0 k1 kf M5 kq
  refine Calls.mono HLo.out ?_
  rintro e w7 ⟨rfl, hw7⟩
  have HF7 := hid6 (show Mod (fun x => x = P) w1 w7 ∧ PAt w7 P fb u g ga gc um cw (fun i => if i = j then some ⟨w1.heap.size + 1, 0, none⟩ else d i) ∧ DAt w7 (w1.heap.size + 1) (.iface 80 (.agg #[.pointer (some ⟨w1.heap.size, 0, none⟩)])) 1 ∧ PiAt w7 w1.heap.size (.slice none 0 0) true true from by
    rw [hw7]
    exact ⟨HE.out.2.2.1, HE.out.1, HE.out.2.1, HKq.out.mod HE.out.2.2.2 (fun e => by rcases e with e | e <;> omega)⟩)
  clear hw7 HE HLo HH1 HKq
  go_wp2_with fail
  have hPl7 := HF7.out.2.1.lt
  have hD7 := HF7.out.2.2.1.lt
  have M8 : Mod (fun _ => False) w7 (w7.alloc (.cells #[.iface 81 (.agg #[.pointer (some ⟨w1.heap.size, 0, none⟩)]), .int .i64 0] 72)) := (Mod.refl _ _).alloc _
  have k0 : (w7.alloc (.cells #[.iface 81 (.agg #[.pointer (some ⟨w1.heap.size, 0, none⟩)]), .int .i64 0] 72)).cell? ⟨w7.heap.size, 0, none⟩ = some (.iface 81 (.agg #[.pointer (some ⟨w1.heap.size, 0, none⟩)])) := by simp [go_sem]
  have k1 : (w7.alloc (.cells #[.iface 81 (.agg #[.pointer (some ⟨w1.heap.size, 0, none⟩)]), .int .i64 0] 72)).cell? ⟨w7.heap.size, 1, none⟩ = some (.int .i64 0) := by simp [go_sem]
  have kf : ∀ o, (w7.alloc (.cells #[.iface 81 (.agg #[.pointer (some ⟨w1.heap.size, 0, none⟩)]), .int .i64 0] 72)).frozen? ⟨w7.heap.size, o, none⟩ = false := fun o => by simp [go_sem]
  have HE := hid6 (low_end HF7.out.2.1 i2 hj2 M8 k0 k1 kf (Nat.le_refl _))
  have HLo := hid6 (pLowest (HF7.out.2.1.new M8) i2 w7.heap.size hj2 (by rw [if_neg (by omega)]; exact h2) (fun i hi => by
    by_cases e : i = j
    · exact ⟨w1.heap.size + 1, by rw [if_pos e]⟩
    · rw [if_neg e]; exact H3.out i hi e) (by omega) k1 kf)
  have HM8 := hid6 M8
  clear k0 k1 kf M8
  refine Calls.mono HLo.out ?_
  rintro e w9 ⟨rfl, hw9⟩
  have HF9 := hid6 (show Mod (fun x => x = P) w w9 ∧ ∃ q D0 D1, w.heap.size ≤ q ∧ q < D0 ∧ D0 < D1 ∧ D1 < w9.heap.size ∧ PiAt w9 q (.slice none 0 0) true true ∧ DAt w9 D0 (.iface 80 (.agg #[.pointer (some ⟨q, 0, none⟩)])) 1 ∧ DAt w9 D1 (.iface 81 (.agg #[.pointer (some ⟨q, 0, none⟩)])) 1 ∧ PAt w9 P fb u g ga gc um cw (fun i => if i = i2 then some ⟨D1, 0, none⟩ else if i = j then some ⟨D0, 0, none⟩ else d i) from by
    rw [hw9]
    have hs1 := HM1.out.size
    have hm : Mod (fun x => x = P ∨ x = w7.heap.size) w7 _ := (HM8.out.mono (fun _ _ e => e.elim)).trans HE.out.2.2.2
    exact ⟨((HM1.out.mono (fun _ _ e => e.elim)).trans HF7.out.1).trans HE.out.2.2.1, w1.heap.size, w1.heap.size + 1, w7.heap.size, hs1, by omega, hD7, HE.out.2.1.lt, HF7.out.2.2.2.mod hm (fun e => by rcases e with e | e <;> omega), HF7.out.2.2.1.mod hm (fun e => by rcases e with e | e <;> omega), HE.out.2.1, HE.out.1⟩)
  clear hw9 HE HLo HM8 HF7 HM1
  go_wp2
  go_ret3
  exact ⟨rfl, HF9.out⟩
/-- lowest, of a description that some lead to. -/
theorem pLowestN (h : PAt w P fb u g ga gc um cw d) (j D : Nat) (hj : j < 16) (h0 : d j = none) (h1 : ∀ i, i < j → ∃ B : Nat, d i = some ⟨B, 0, none⟩) (hDP : D ≠ P) (n : Int) (hn : 0 ≤ n ∧ n < 100) (hD : w.cell? ⟨D, 1, none⟩ = some (.int .i64 n)) (hf : ∀ o, w.frozen? ⟨D, o, none⟩ = false) :
    Calls Tryz.prog 23 #[.pointer (some ⟨P, 0, none⟩), .pointer (some ⟨D, 0, none⟩)] w fun e w' => e = .returned (.int .i64 j) ∧ w' = (w.setCell ⟨P, 6 + j, none⟩ (.pointer (some ⟨D, 0, none⟩))).setCell ⟨D, 1, none⟩ (.int .i64 (n + 1)) := by
  have HI := hid6 (sIndexFd h j hj h0 h1)
  have HA := hid6 (pAttach h j D hj hDP n hn hD hf)
  have c0 := h.fd 0 (by omega)
  clear h h1 h0
  go_enter Tryz.func23, Tryz.ntmps23
  go_wp2_with (first | (go_at_call 58; refine Calls.mono HI.out ?_; rintro e w3 ⟨rfl, hw3⟩; rw [hw3]; clear hw3 w3))
  refine Calls.mono HA.out ?_
  rintro e w1 ⟨rfl, hw1⟩
  rw [hw1]
  clear hw1 w1
  go_wp2
  go_ret
  exact ⟨rfl, rfl⟩
theorem DAt.count {w : World} {D : Nat} {v : Value} {n : Int} (h : DAt w D v n) (m : Int) : DAt (w.setCell ⟨D, 1, none⟩ (.int .i64 m)) D v m where
  c0 := (setCell_out _ _ _ _ _ (fun _ e => by cases e)).trans h.c0
  c1 := World.cell?_setCell_same _ _ _ h.c1
  fr := fun o => by have := h.fr o; simp [go_sem, this]
set_option maxRecDepth 100000 in
set_option maxHeartbeats 2000000 in
theorem pDup (h : PAt w P fb u g ga gc um cw d) (k D : Nat) (hk : k < 16) (hd : d k = some ⟨D, 0, none⟩) (v : Value) (n : Int) (hn : 0 ≤ n ∧ n < 100) (hD : DAt w D v n) (hDP : D ≠ P) (j : Nat) (hj : j < 16) (h0 : d j = none) (h1 : ∀ i, i < j → ∃ B : Nat, d i = some ⟨B, 0, none⟩) (hr : fdN d + 1 ≤ 16) :
    Calls Tryz.prog 7 #[.pointer (some ⟨P, 0, none⟩), .int .i64 k] w fun e w' => e = .returned (.tuple #[.int .i64 j, .int .i64 0]) ∧ PAt w' P fb u g ga gc um cw (fun i => if i = j then some ⟨D, 0, none⟩ else d i) ∧ DAt w' D v (n + 1) ∧ Mod (fun x => x = P ∨ x = D) w w' := by
  have HL := hid6 (pLead h k D hk hd)
  have HR := hid6 (pRoom h 1 (by omega) (by omega))
  have HH := hid6 h
  have H1 := hid6 h1
  have HD := hid6 hD
  clear h h1 hD hd
  go_enter Tryz.func7, Tryz.ntmps7
  go_wp2_with (first | (go_at_call 24; refine Calls.mono HL.out ?_; rintro e w3 ⟨rfl, hw3⟩; rw [hw3]; clear hw3 w3))
  refine Calls.mono HR.out ?_
  rintro e w1 ⟨rfl, M1⟩
  have HM1 := hid6 M1
  have HH1 := hid6 (HH.out.new M1)
  have HD1 := hid6 (HD.out.mod M1 (fun e => e))
  have HLo := hid6 (pLowestN HH1.out j D hj h0 H1.out hDP n hn HD1.out.c1 HD1.out.fr)
  clear M1 HR HL HH HD
  go_wp2_with fail
  refine Calls.mono HLo.out ?_
  rintro e w7 ⟨rfl, hw7⟩
  have HF := hid6 (show PAt w7 P fb u g ga gc um cw (fun i => if i = j then some ⟨D, 0, none⟩ else d i) ∧ DAt w7 D v (n + 1) ∧ Mod (fun x => x = P ∨ x = D) w w7 from by
    have m1 : Mod (fun x => x = P) w1 (w1.setCell ⟨P, 6 + j, none⟩ (.pointer (some ⟨D, 0, none⟩))) := (Mod.refl _ _).setCell _ _ rfl
    have m2 : Mod (fun x => x = D) (w1.setCell ⟨P, 6 + j, none⟩ (.pointer (some ⟨D, 0, none⟩))) ((w1.setCell ⟨P, 6 + j, none⟩ (.pointer (some ⟨D, 0, none⟩))).setCell ⟨D, 1, none⟩ (.int .i64 (n + 1))) := (Mod.refl _ _).setCell _ _ rfl
    rw [hw7]
    exact ⟨(HH1.out.set j hj _).mod m2 (fun e => hDP e.symm), (HD1.out.mod m1 hDP).count _, (HM1.out.mono (fun _ _ e => e.elim)).trans ((m1.mono (fun _ _ e => .inl e)).trans (m2.mono (fun _ _ e => .inr e)))⟩)
  clear hw7 HLo HH1 HD1 HM1 H1
  go_wp2
  go_ret2
  exact ⟨rfl, HF.out⟩
/-- A pipe's write end is gone. -/
theorem PiAt.shut {w : World} {q : Nat} {v : Value} {rd wr : Bool} (h : PiAt w q v rd wr) (x : Bool) : PiAt (w.setCell ⟨q, 2, none⟩ (.bool x)) q v rd x where
  c0 := (setCell_out _ _ _ _ _ (fun _ e => by cases e)).trans h.c0
  c1 := (setCell_out _ _ _ _ _ (fun _ e => by cases e)).trans h.c1
  c2 := World.cell?_setCell_same _ _ _ h.c2
  fr := fun o => by have := h.fr o; simp [go_sem, this]
theorem eEnd {q : Nat} {v : Value} {rd wr : Bool} (hp : PiAt w q v rd wr) : Calls Tryz.prog 202 #[.agg #[.pointer (some ⟨q, 0, none⟩)]] w fun e w' => e = .returned (.tuple #[]) ∧ PiAt w' q v rd false ∧ Mod (fun x => x = q) w w' := by
  have HP := hid6 hp
  obtain ⟨p0, p1, p2, pf⟩ := hp
  have hql := block_lt_of_cell p0
  have HM : Hid (∀ o, Mod (fun x => x = q) w ((w.setCell ⟨q, 2, none⟩ (.bool false)).alloc o)) := fun o => (((Mod.refl (fun x => x = q) w).setCell ⟨q, 2, none⟩ _ rfl).alloc o)
  have HR : Hid (∀ o, PiAt ((w.setCell ⟨q, 2, none⟩ (.bool false)).alloc o) q v rd false) := fun o => (HP.out.shut false).mod ((Mod.refl (fun _ => False) _).alloc o) (fun e => e)
  go_enter Tryz.func202, Tryz.ntmps202
  go_wp2
  exact ⟨rfl, _, results_none rfl _ _ _, rfl, HR.out _, HM.out _⟩
set_option maxRecDepth 100000 in
set_option maxHeartbeats 2000000 in
/-- detach, where others lead there still. -/
theorem pDetachN (h : PAt w P fb u g ga gc um cw d) (k D : Nat) (hk : k < 16) (hd : d k = some ⟨D, 0, none⟩) (v : Value) (n : Int) (hn : 2 ≤ n ∧ n < 100) (hD : DAt w D v n) (hDP : D ≠ P) :
    Calls Tryz.prog 25 #[.pointer (some ⟨P, 0, none⟩), .int .i64 k] w fun e w' => e = .returned (.tuple #[]) ∧ PAt w' P fb u g ga gc um cw (fun i => if i = k then none else d i) ∧ DAt w' D v (n - 1) ∧ Mod (fun x => x = P ∨ x = D) w w' := by
  have HH := hid6 h
  have HD := hid6 hD
  have hc := h.fd k hk
  rw [hd] at hc
  have hfr := h.fr
  have hk' : (k : Int) < 16 := by omega
  have hw : IntKind.i64.wrap (n - 1) = n - 1 := by rw [IntKind.wrap_i64]; omega
  have hz : ¬ n - 1 = 0 := by omega
  have m1 : Mod (fun x => x = P) w (w.setCell ⟨P, 6 + k, none⟩ (.pointer none)) := (Mod.refl _ _).setCell _ _ rfl
  have HD1 := hid6 (hD.mod m1 hDP)
  have m2 : Mod (fun x => x = D) (w.setCell ⟨P, 6 + k, none⟩ (.pointer none)) ((w.setCell ⟨P, 6 + k, none⟩ (.pointer none)).setCell ⟨D, 1, none⟩ (.int .i64 (n - 1))) := (Mod.refl _ _).setCell _ _ rfl
  have HD2 := hid6 (HD1.out.count (n - 1))
  have HF := hid6 (show PAt ((w.setCell ⟨P, 6 + k, none⟩ (.pointer none)).setCell ⟨D, 1, none⟩ (.int .i64 (n - 1))) P fb u g ga gc um cw (fun i => if i = k then none else d i) ∧ DAt ((w.setCell ⟨P, 6 + k, none⟩ (.pointer none)).setCell ⟨D, 1, none⟩ (.int .i64 (n - 1))) D v (n - 1) ∧ Mod (fun x => x = P ∨ x = D) w ((w.setCell ⟨P, 6 + k, none⟩ (.pointer none)).setCell ⟨D, 1, none⟩ (.int .i64 (n - 1))) from
    ⟨(h.set k hk none).mod m2 (fun e => hDP e.symm), HD2.out, (m1.mono (fun _ _ e => .inl e)).trans (m2.mono (fun _ _ e => .inr e))⟩)
  have d1 := HD1.out.c1
  have df := HD1.out.fr
  have e1 := HD2.out.c1
  clear h hD hd m1 m2
  go_enter Tryz.func25, Tryz.ntmps25
  go_wp2
  exact ⟨rfl, _, results_none rfl _ _ _, rfl, HF.out⟩
set_option maxRecDepth 100000 in
set_option maxHeartbeats 2000000 in
/-- detach of the last descriptor of a write end. -/
theorem pDetach1 (h : PAt w P fb u g ga gc um cw d) (k D q : Nat) (hk : k < 16) (hd : d k = some ⟨D, 0, none⟩) (v : Value) (rd wr : Bool) (hD : DAt w D (.iface 81 (.agg #[.pointer (some ⟨q, 0, none⟩)])) 1) (hq : PiAt w q v rd wr) (hDP : D ≠ P) (hqP : q ≠ P) (hqD : q ≠ D) :
    Calls Tryz.prog 25 #[.pointer (some ⟨P, 0, none⟩), .int .i64 k] w fun e w' => e = .returned (.tuple #[]) ∧ PAt w' P fb u g ga gc um cw (fun i => if i = k then none else d i) ∧ PiAt w' q v rd false ∧ Mod (fun x => x = P ∨ x = D ∨ x = q) w w' := by
  have hc := h.fd k hk
  rw [hd] at hc
  have hfr := h.fr
  have hk' : (k : Int) < 16 := by omega
  have m1 : Mod (fun x => x = P) w (w.setCell ⟨P, 6 + k, none⟩ (.pointer none)) := (Mod.refl _ _).setCell _ _ rfl
  have HD1 := hid6 (hD.mod m1 hDP)
  have m2 : Mod (fun x => x = D) (w.setCell ⟨P, 6 + k, none⟩ (.pointer none)) ((w.setCell ⟨P, 6 + k, none⟩ (.pointer none)).setCell ⟨D, 1, none⟩ (.int .i64 0)) := (Mod.refl _ _).setCell _ _ rfl
  have HD2 := hid6 (HD1.out.count 0)
  have HF := hid6 (show PAt ((w.setCell ⟨P, 6 + k, none⟩ (.pointer none)).setCell ⟨D, 1, none⟩ (.int .i64 0)) P fb u g ga gc um cw (fun i => if i = k then none else d i) ∧ Mod (fun x => x = P ∨ x = D) w ((w.setCell ⟨P, 6 + k, none⟩ (.pointer none)).setCell ⟨D, 1, none⟩ (.int .i64 0)) from
    ⟨(h.set k hk none).mod m2 (fun e => hDP e.symm), (m1.mono (fun _ _ e => .inl e)).trans (m2.mono (fun _ _ e => .inr e))⟩)
  have HE := hid6 (eEnd ((hq.mod m1 hqP).mod m2 hqD))
  have d1 := HD1.out.c1
  have df := HD1.out.fr
  have e0 := HD2.out.c0
  have e1 := HD2.out.c1
  clear h hD hd m1 m2 hq
  go_enter Tryz.func25, Tryz.ntmps25
  go_wp2_with fail
  refine Calls.mono HE.out ?_
  rintro e w3 ⟨rfl, Q3, M3⟩
  have HR := hid6 (show PAt w3 P fb u g ga gc um cw (fun i => if i = k then none else d i) ∧ PiAt w3 q v rd false ∧ Mod (fun x => x = P ∨ x = D ∨ x = q) w w3 from
    ⟨HF.out.1.mod M3 (fun e => hqP e.symm), Q3, (HF.out.2.mono (fun _ _ e => by rcases e with e | e; exact .inl e; exact .inr (.inl e))).trans (M3.mono (fun _ _ e => .inr (.inr e)))⟩)
  clear Q3 M3 HE HF
  go_wp2
  exact ⟨rfl, _, results_none rfl _ _ _, rfl, HR.out⟩
set_option maxRecDepth 100000 in
/-- Close, by what detach does. -/
theorem pClose (h : PAt w P fb u g ga gc um cw d) (k D : Nat) (hk : k < 16) (hd : d k = some ⟨D, 0, none⟩) (Q : World → Prop)
    (hQ : Calls Tryz.prog 25 #[.pointer (some ⟨P, 0, none⟩), .int .i64 k] w fun e w' => e = .returned (.tuple #[]) ∧ Q w') :
    Calls Tryz.prog 9 #[.pointer (some ⟨P, 0, none⟩), .int .i64 k] w fun e w' => e = .returned (.int .i64 0) ∧ Q w' := by
  have HL := hid6 (pLead h k D hk hd)
  have HQ := hid6 hQ
  clear h hd hQ
  go_enter Tryz.func9, Tryz.ntmps9
  go_wp2_with (first | (go_at_call 24; refine Calls.mono HL.out ?_; rintro e w3 ⟨rfl, hw3⟩; rw [hw3]; clear hw3 w3))
  refine Calls.mono HQ.out ?_
  rintro e w3 ⟨rfl, q3⟩
  have HR := hid6 q3
  clear q3
  go_wp2
  go_ret
  exact ⟨rfl, HR.out⟩
set_option maxRecDepth 100000 in
set_option maxHeartbeats 2000000 in
/-- Read of a number that leads to a read end. -/
theorem pReadE (h : PAt w P fb u g ga gc um cw d) (j D q : Nat) (hj : j < 16) (hd : d j = some ⟨D, 0, none⟩) (cn n : Int) (hD : DAt w D (.iface 80 (.agg #[.pointer (some ⟨q, 0, none⟩)])) cn) (R : Option Addr → Nat → Nat → World → Prop)
    (hR : Calls Tryz.prog 198 #[.agg #[.pointer (some ⟨q, 0, none⟩)], .int .i64 n] w fun e w' => ∃ a l c, e = .returned (.tuple #[.slice a l c, .int .i64 0]) ∧ R a l c w') :
    Calls Tryz.prog 28 #[.pointer (some ⟨P, 0, none⟩), .int .i64 j, .int .i64 n] w fun e w' => ∃ a l c, e = .returned (.tuple #[.slice a l c, .int .i64 0]) ∧ R a l c w' := by
  have HL := hid6 (pLead h j D hj hd)
  have c0 := hD.c0
  have HR := hid6 hR
  clear h hD hd hR
  go_enter Tryz.func28, Tryz.ntmps28
  go_wp2_with (first | (go_at_call 24; refine Calls.mono HL.out ?_; rintro e w3 ⟨rfl, hw3⟩; rw [hw3]; clear hw3 w3))
  refine Calls.mono HR.out ?_
  rintro e w1 ⟨a, l, c, rfl, r1⟩
  have HK := hid6 r1
  clear r1
  go_wp2
  go_ret2
  exact ⟨a, l, c, rfl, HK.out⟩
set_option maxRecDepth 100000 in
set_option maxHeartbeats 2000000 in
/-- Write of a number that leads to a write end. -/
theorem pWriteE (h : PAt w P fb u g ga gc um cw d) (j D q : Nat) (hj : j < 16) (hd : d j = some ⟨D, 0, none⟩) (cn : Int) (hD : DAt w D (.iface 81 (.agg #[.pointer (some ⟨q, 0, none⟩)])) cn) (a : Option Addr) (l c : Nat) (r : Int) (R : World → Prop)
    (hR : Calls Tryz.prog 204 #[.agg #[.pointer (some ⟨q, 0, none⟩)], .slice a l c] w fun e w' => e = .returned (.tuple #[.int .i64 r, .int .i64 0]) ∧ R w') :
    Calls Tryz.prog 26 #[.pointer (some ⟨P, 0, none⟩), .int .i64 j, .slice a l c] w fun e w' => e = .returned (.tuple #[.int .i64 r, .int .i64 0]) ∧ R w' := by
  have HL := hid6 (pLead h j D hj hd)
  have c0 := hD.c0
  have HR := hid6 hR
  clear h hD hd hR
  go_enter Tryz.func26, Tryz.ntmps26
  go_wp2_with (first | (go_at_call 24; refine Calls.mono HL.out ?_; rintro e w3 ⟨rfl, hw3⟩; rw [hw3]; clear hw3 w3))
  refine Calls.mono HR.out ?_
  rintro e w1 ⟨rfl, r1⟩
  have HK := hid6 r1
  clear r1
  go_wp2
  go_ret2
  exact ⟨rfl, HK.out⟩
end
end Go.Proofs.YtkokejgaclabdaaGreatDoor
