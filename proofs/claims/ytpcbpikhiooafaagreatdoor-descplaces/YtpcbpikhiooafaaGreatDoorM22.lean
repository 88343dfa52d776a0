/- Several texts of this claim, one behind the other, in their order. -/
import Derived.Test.YtpcbpikhiooafaaGreatDoorM20
import Derived.Test.YtpcbpikhiooafaaGreatDoorM21
import Derived.Test.YtpcbpikhiooafaaGreatDoorM18
import Derived.Test.YtpcbpikhiooafaaGreatDoorM17
import Derived.Deep.DeepCutAuto
/- Open of a new file and WriteAt, Info, Hold of the file system. Conditions: the file system lies in memory; what the works do. -/
namespace Go.Proofs.YtpcbpikhiooafaaGreatDoor
open Go.RowKit
section
variable {w : World} {fb t : Nat}
set_option maxRecDepth 100000 in
set_option maxHeartbeats 2000000 in
theorem fsOpen (hf : FsAt w fb t) (u g : Int) (ga : Option Addr) (gc : Nat) (um cw : Int) (l : List UInt8) (fl m r : Int) (S : Nat → Prop) (hSl : ∀ x, S x → x < w.heap.size) (Q : World → Prop) (hQ : ∀ a b, Q a → Mod (fun x => w.heap.size ≤ x) a b → Q b)
    (hW : ∀ W K b1 b2 b3, TkNew w W K t u g ga gc um cw → W.cell? ⟨b1, 0, none⟩ = some (.int .i64 fl) → W.cell? ⟨b2, 0, none⟩ = some (.string ⟨l.toArray⟩) → W.cell? ⟨b3, 0, none⟩ = some (.int .i64 m) → Calls Tryz.prog 47 #[.pointer (some ⟨K, 0, none⟩), .pointer (some ⟨b1, 0, none⟩), .pointer (some ⟨b2, 0, none⟩), .pointer (some ⟨b3, 0, none⟩)] W fun e w' => e = .returned (.int .i64 r) ∧ Mod (fun x => S x ∨ x = K) W w' ∧ Q w') :
    Calls Tryz.prog 23 #[.pointer (some ⟨fb, 0, none⟩), .agg #[.int .i64 u, .int .i64 g, .slice ga 0 gc, .int .i64 um, .int .i64 cw], .string ⟨l.toArray⟩, .int .i64 fl, .int .i64 m] w fun e w' => e = .returned (.tuple #[.int .i64 r, .int .i64 0]) ∧ Mod S w w' ∧ Q w' := by
  have hmf : ∀ (fn : Fn) (first cap : Array Value) (w : World), (Instr.makeFunc fn first cap).run Tryz.prog w = .ok (.func fn first cap) w := fun _ _ _ _ => rfl
  have hfb : fb < w.heap.size := block_lt_of_cell hf
  have HA : Hid (∀ W, Mod (fun _ => False) w W → W.cell? ⟨w.heap.size + 2, 0, none⟩ = some (.int .i64 fl) → W.cell? ⟨w.heap.size + 1, 0, none⟩ = some (.string ⟨l.toArray⟩) → W.cell? ⟨w.heap.size + 3, 0, none⟩ = some (.int .i64 m) → _) := fun W hM e1 e2 e3 =>
    askOpen (w := W) (fb := fb) (t := t) ((hM.cell (p := ⟨fb, 0, none⟩) hfb (fun e => e)).trans hf) u g ga gc um cw ⟨w.heap.size + 2, 0, none⟩ ⟨w.heap.size + 1, 0, none⟩ ⟨w.heap.size + 3, 0, none⟩ r S (fun x hx => Nat.lt_of_lt_of_le (hSl x hx) hM.size) Q (fun a b hq hm => hQ a b hq (hm.mono (fun _ _ e => Nat.le_trans hM.size e)))
      (fun W' K hN => hW W' K _ _ _ ⟨hM.trans hN.M, Nat.le_trans hM.size hN.le, hN.k, hN.b6, hN.fr⟩ ((hN.M.cell (p := ⟨w.heap.size + 2, 0, none⟩) (block_lt_of_cell e1) (fun e => e)).trans e1) ((hN.M.cell (p := ⟨w.heap.size + 1, 0, none⟩) (block_lt_of_cell e2) (fun e => e)).trans e2) ((hN.M.cell (p := ⟨w.heap.size + 3, 0, none⟩) (block_lt_of_cell e3) (fun e => e)).trans e3))
  have HM0 : Hid (∀ o o1 o2 o3, Mod (fun _ => False) w ((((w.alloc o).alloc o1).alloc o2).alloc o3)) := fun o o1 o2 o3 => ((((Mod.refl _ w).alloc o).alloc o1).alloc o2).alloc o3
  have HFn : Hid (∀ (W w' : World), Mod (fun _ => False) w W → Mod S W w' → Mod S w w') := fun W w' h1 h2 => (h1.mono (fun _ _ e => e.elim)).trans h2
  clear hQ hW hSl hf
  go_enter Tryz.func23, Tryz.ntmps23
  go_wp2_with fail
  refine Calls.mono (HA.out _ (HM0.out _ _ _ _) (by simp [go_sem]) (by simp [go_sem]) (by simp [go_sem])) ?_
  rintro e w1 ⟨rfl, M1, hq1⟩
  have HR := hid6 (show Mod S w w1 ∧ Q w1 from ⟨HFn.out _ _ (HM0.out _ _ _ _) M1, hq1⟩)
  clear M1 hq1
  go_wp2
  go_ret2
  exact ⟨rfl, HR.out⟩
set_option maxRecDepth 100000 in
set_option maxHeartbeats 2000000 in
theorem fsWriteAt (hf : FsAt w fb t) (i off r : Int) (a : Option Addr) (n c : Nat) (S : Nat → Prop) (hSl : ∀ x, S x → x < w.heap.size) (Q : World → Prop) (hQ : ∀ a b, Q a → Mod (fun x => w.heap.size ≤ x) a b → Q b)
    (hW : ∀ W K b1 b2 b3, TkNew w W K t 0 0 none 0 0 0 → (w.heap.size ≤ b1 ∧ w.heap.size ≤ b2 ∧ w.heap.size ≤ b3) → W.cell? ⟨b1, 0, none⟩ = some (.int .i64 i) → W.cell? ⟨b2, 0, none⟩ = some (.int .i64 off) → W.cell? ⟨b3, 0, none⟩ = some (.slice a n c) → Calls Tryz.prog 191 #[.pointer (some ⟨K, 0, none⟩), .pointer (some ⟨b1, 0, none⟩), .pointer (some ⟨b2, 0, none⟩), .pointer (some ⟨b3, 0, none⟩)] W fun e w' => e = .returned (.int .i64 r) ∧ Mod (fun x => S x ∨ x = K) W w' ∧ Q w') :
    Calls Tryz.prog 187 #[.pointer (some ⟨fb, 0, none⟩), .int .i64 i, .int .i64 off, .slice a n c] w fun e w' => e = .returned (.tuple #[.int .i64 r, .int .i64 0]) ∧ Mod S w w' ∧ Q w' := by
  have hmf : ∀ (fn : Fn) (first cap : Array Value) (w : World), (Instr.makeFunc fn first cap).run Tryz.prog w = .ok (.func fn first cap) w := fun _ _ _ _ => rfl
  have hfb : fb < w.heap.size := block_lt_of_cell hf
  have HA : Hid (∀ W, Mod (fun _ => False) w W → W.cell? ⟨w.heap.size, 0, none⟩ = some (.int .i64 i) → W.cell? ⟨w.heap.size + 1, 0, none⟩ = some (.int .i64 off) → W.cell? ⟨w.heap.size + 2, 0, none⟩ = some (.slice a n c) → _) := fun W hM e1 e2 e3 =>
    askWrite (w := W) (fb := fb) (t := t) ((hM.cell (p := ⟨fb, 0, none⟩) hfb (fun e => e)).trans hf) 0 0 none 0 0 0 ⟨w.heap.size, 0, none⟩ ⟨w.heap.size + 1, 0, none⟩ ⟨w.heap.size + 2, 0, none⟩ r S (fun x hx => Nat.lt_of_lt_of_le (hSl x hx) hM.size) Q (fun a b hq hm => hQ a b hq (hm.mono (fun _ _ e => Nat.le_trans hM.size e)))
      (fun W' K hN => hW W' K _ _ _ ⟨hM.trans hN.M, Nat.le_trans hM.size hN.le, hN.k, hN.b6, hN.fr⟩ ⟨Nat.le_refl _, by omega, by omega⟩ ((hN.M.cell (p := ⟨w.heap.size, 0, none⟩) (block_lt_of_cell e1) (fun e => e)).trans e1) ((hN.M.cell (p := ⟨w.heap.size + 1, 0, none⟩) (block_lt_of_cell e2) (fun e => e)).trans e2) ((hN.M.cell (p := ⟨w.heap.size + 2, 0, none⟩) (block_lt_of_cell e3) (fun e => e)).trans e3))
  have HM0 : Hid (∀ o o1 o2, Mod (fun _ => False) w (((w.alloc o).alloc o1).alloc o2)) := fun o o1 o2 => (((Mod.refl _ w).alloc o).alloc o1).alloc o2
  have HFn : Hid (∀ (W w' : World), Mod (fun _ => False) w W → Mod S W w' → Mod S w w') := fun W w' h1 h2 => (h1.mono (fun _ _ e => e.elim)).trans h2
  clear hQ hW hSl hf
  go_enter Tryz.func187, Tryz.ntmps187
  go_wp2_with fail
  refine Calls.mono (HA.out _ (HM0.out _ _ _) (by simp [go_sem]) (by simp [go_sem]) (by simp [go_sem])) ?_
  rintro e w1 ⟨rfl, M1, hq1⟩
  have HR := hid6 (show Mod S w w1 ∧ Q w1 from ⟨HFn.out _ _ (HM0.out _ _ _) M1, hq1⟩)
  clear M1 hq1
  go_wp2
  go_ret2
  exact ⟨rfl, HR.out⟩
theorem fsHold (hf : FsAt w fb t) (i : Int) (Q : World → Prop) (hL : Calls Tryz.prog 43 #[.pointer (some ⟨t, 0, none⟩), .int .i64 i] w fun e w' => e = .returned (.int .i64 0) ∧ Q w') :
    Calls Tryz.prog 19 #[.pointer (some ⟨fb, 0, none⟩), .int .i64 i] w fun e w' => e = .returned (.int .i64 0) ∧ Q w' := by
  have HL := hid6 hL
  have HT := hid6 (tTable fb _ w hf)
  clear hL hf
  go_enter Tryz.func19, Tryz.ntmps19
  go_wp2_with (first | (go_at_call 39; refine Calls.mono HT.out ?_; rintro e w3 ⟨rfl, hw3⟩; rw [hw3]; clear hw3 w3))
  refine Calls.mono HL.out ?_
  rintro e w1 ⟨rfl, HQ⟩
  have HQ' := hid6 HQ
  clear HQ
  go_wp2
  go_ret
  exact ⟨rfl, HQ'.out⟩
theorem ret_info {W : World} {B : Nat} {L : List Value} (h : W.rangeAt B 0 L) (hl : L.length = 10) (tmps : Array Value) (h4 : tmps[4]?.getD undef = .pointer (some ⟨B, 0, none⟩)) (h5 : tmps[5]?.getD undef = .int .i64 0) :
    (results Tryz.f17 tmps).run Tryz.prog W = .ok (.tuple #[.agg L.toArray, .int .i64 0]) W := by
  have h2 := run_loadVar_mid (P := Tryz.prog) W B 0 54 L _ h Tryz.underlying54 rfl (by rw [hl]; exact infSt)
  unfold results
  rw [Tryz.results17]
  simp [h4, h5, asAddr, h2]
set_option maxRecDepth 100000 in
set_option maxHeartbeats 2000000 in
theorem fsInfo (hf : FsAt w fb t) (F : Nat → Nat → Int) (i : Nat) (hS : ∀ W, Mod (fun _ => False) w W → StatOf F t i W) : Calls Tryz.prog 17 #[.pointer (some ⟨fb, 0, none⟩), .int .i64 ((i : Int) + 1)] w fun e w' => (∃ bl : Nat, e = .returned (.tuple #[.agg (statW F bl i).toArray, .int .i64 0])) ∧ Mod (fun _ => False) w w' := by
  have HS : Hid (∀ o, StatOf F t i (w.alloc o)) := fun o => hS _ ((Mod.refl _ w).alloc o)
  have hfb := block_lt_of_cell hf
  have HT : Hid (∀ o, _) := fun o => tTable fb (some ⟨t, 0, none⟩) (w.alloc o) (by rw [World.cell?_alloc_past _ _ _ hfb]; exact hf)
  clear hS hf
  go_enter Tryz.func17, Tryz.ntmps17
  go_wp2_with (first | (go_at_call 39; refine Calls.mono (HT.out _) ?_; rintro e w3 ⟨rfl, hw3⟩; rw [hw3]; clear hw3 w3))
  refine (HS.out _).mono ?_
  rintro e w1 ⟨⟨bl, rfl⟩, HM⟩
  have hws : w.heap.size < w1.heap.size := by have := HM.size; simp at this; omega
  have HTh : Hid (w1.there w.heap.size 0 (statW F bl i).toArray.size) := fun j hj => by
    have h0 := there_new w 54 #[.int .i64 0, .int .i64 0, .int .i64 0, .int .i64 0, .int .i64 0, .int .i64 0, .int .i64 0, .int .i64 0, .int .i64 0, .int .i64 0] (n := 10) rfl j hj
    rw [HM.cell (p := ⟨w.heap.size, 0 + j, none⟩) (by simp) (fun h => h), HM.frozen (p := ⟨w.heap.size, 0 + j, none⟩) (by simp) (fun h => h)]
    exact h0
  obtain ⟨wE, hwE⟩ : ∃ wE, Hid (w1.setCells w.heap.size 0 (statW F bl i) = wE) := ⟨_, rfl⟩
  have HRng : Hid (wE.rangeAt w.heap.size 0 (statW F bl i)) := by
    show World.rangeAt _ _ _ _
    rw [← hwE.out]; exact World.rangeAt_setCells_same _ _ _ _ (by have := HTh.out; simpa using this)
  have HFin : Hid (Mod (fun _ => False) w wE) := by
    rw [← hwE.out]
    exact mod_new_cells HM (Nat.le_refl _) _ _
  have HOne : Hid ((statW F bl i).toArray.all (·.oneCell') = true) := by
    show _ = _
    refine all_oneCell_toArray (fun v hv => ?_)
    simp only [statW, List.mem_cons, List.not_mem_nil, or_false] at hv
    rcases hv with rfl | rfl | rfl | rfl | rfl | rfl | rfl | rfl | rfl | rfl <;> rfl
  clear HM
  unfold statW at *
  go_wp2_with (first | (refine wpList_store_mid rfl 54 _ _ rfl w.heap.size 0 _ rfl rfl HTh.out infSt HOne.out ?_; rw [hwE.out]))
  exact bodyPost_ret (ret_info HRng.out rfl _ rfl rfl) rfl ⟨⟨bl, rfl⟩, HFin.out⟩
end
end Go.Proofs.YtpcbpikhiooafaaGreatDoor
/- The work of WriteAt, of a regular file. Conditions: what stat and Write tell. -/
namespace Go.Proofs.YtpcbpikhiooafaaGreatDoor
open Go.RowKit
set_option maxRecDepth 100000 in
theorem tPlain (s0 s1 s2 s3 s4 s5 s6 s7 s8 s9 : Int) (w : World) (hr : bits .and .i64 s6 61440 = 32768) : Calls Tryz.prog 190 #[.agg #[.int .i64 s0, .int .i64 s1, .int .i64 s2, .int .i64 s3, .int .i64 s4, .int .i64 s5, .int .i64 s6, .int .i64 s7, .int .i64 s8, .int .i64 s9]] w fun e w' => e = .returned (.tuple #[]) ∧ Mod (fun _ => False) w w' := by
  have HM0 : Hid (∀ o, Mod (fun _ => False) w (w.alloc o)) := fun o => (Mod.refl _ w).alloc o
  have HI : Hid (∀ W, _) := fun W => tIsDir s0 s1 s2 s3 s4 s5 s6 s7 s8 s9 W
  have HK : Hid (∀ W, _) := fun W => tKind s0 s1 s2 s3 s4 s5 s6 s7 s8 s9 W
  unfold sA at HI HK
  rw [hr] at HI HK
  clear hr
  go_enter Tryz.func190, Tryz.ntmps190
  go_wp2_with fail
  refine Calls.mono (HI.out _) ?_
  rintro e w1 ⟨rfl, M1⟩
  have HM1 := hid6 ((HM0.out _).trans M1)
  have hcl := fun (p : Addr) (hp : p.block < _) => M1.cell (p := p) hp (fun e => e)
  clear M1
  have e0 : w1.cell? ⟨w.heap.size, 0, none⟩ = some (.int .i64 s0) := by rw [hcl _ (by simp)]; simp [go_sem]
  have e1 : w1.cell? ⟨w.heap.size, 1, none⟩ = some (.int .i64 s1) := by rw [hcl _ (by simp)]; simp [go_sem]
  have e2 : w1.cell? ⟨w.heap.size, 2, none⟩ = some (.int .i64 s2) := by rw [hcl _ (by simp)]; simp [go_sem]
  have e3 : w1.cell? ⟨w.heap.size, 3, none⟩ = some (.int .i64 s3) := by rw [hcl _ (by simp)]; simp [go_sem]
  have e4 : w1.cell? ⟨w.heap.size, 4, none⟩ = some (.int .i64 s4) := by rw [hcl _ (by simp)]; simp [go_sem]
  have e5 : w1.cell? ⟨w.heap.size, 5, none⟩ = some (.int .i64 s5) := by rw [hcl _ (by simp)]; simp [go_sem]
  have e6 : w1.cell? ⟨w.heap.size, 6, none⟩ = some (.int .i64 s6) := by rw [hcl _ (by simp)]; simp [go_sem]
  have e7 : w1.cell? ⟨w.heap.size, 7, none⟩ = some (.int .i64 s7) := by rw [hcl _ (by simp)]; simp [go_sem]
  have e8 : w1.cell? ⟨w.heap.size, 8, none⟩ = some (.int .i64 s8) := by rw [hcl _ (by simp)]; simp [go_sem]
  have e9 : w1.cell? ⟨w.heap.size, 9, none⟩ = some (.int .i64 s9) := by rw [hcl _ (by simp)]; simp [go_sem]
  clear hcl
  go_wp2_with (first | (go_at_call 48; refine (refuse_no _ _).mono ?_; rintro e w3 ⟨rfl, hw3⟩; rw [hw3]; clear hw3 w3))
  refine Calls.mono (HK.out _) ?_
  rintro e w2 ⟨rfl, M2⟩
  have HM2 := hid6 (HM1.out.trans M2)
  clear M2
  go_wp2_with (first | (go_at_call 48; refine (refuse_no _ _).mono ?_; rintro e w3 ⟨rfl, hw3⟩; rw [hw3]; clear hw3 w3))
  exact ⟨rfl, _, results_none rfl _ _ _, rfl, HM2.out⟩
set_option maxRecDepth 100000 in
set_option maxHeartbeats 2000000 in
theorem tWriteWork {w : World} {k t b1 b2 b3 : Nat} (c0 : w.cell? ⟨k, 0, none⟩ = some (.pointer (some ⟨t, 0, none⟩))) (i off r : Int) (a : Option Addr) (n c : Nat) (c1 : w.cell? ⟨b1, 0, none⟩ = some (.int .i64 i)) (c2 : w.cell? ⟨b2, 0, none⟩ = some (.int .i64 off)) (c3 : w.cell? ⟨b3, 0, none⟩ = some (.slice a n c))
    (f : Nat → Int) (hS : StA w k i f) (hr : bits .and .i64 (f 0) 61440 = 32768) (S : Nat → Prop) (hn : ¬ S k ∧ ¬ S b1 ∧ ¬ S b2 ∧ ¬ S b3) (Q : World → Prop)
    (hW : ∀ W, Mod (fun _ => False) w W → Calls Tryz.prog 63 #[.pointer (some ⟨t, 0, none⟩), .int .i64 i, .int .i64 off, .slice a n c] W fun e w' => e = .returned (.tuple #[.int .i64 r, .int .i64 0]) ∧ Mod S W w' ∧ Q w') :
    Calls Tryz.prog 191 #[.pointer (some ⟨k, 0, none⟩), .pointer (some ⟨b1, 0, none⟩), .pointer (some ⟨b2, 0, none⟩), .pointer (some ⟨b3, 0, none⟩)] w fun e w' => e = .returned (.int .i64 r) ∧ Mod S w w' ∧ Q w' := by
  have HS := hid6 hS
  have HW := hid6 hW
  have HP : Hid (∀ s0 s1 s2 s3 s4 s5 s7 s8 s9 W, _) := fun s0 s1 s2 s3 s4 s5 s7 s8 s9 W => tPlain s0 s1 s2 s3 s4 s5 (f 0) s7 s8 s9 W hr
  have HFn : Hid (∀ (W w' : World), Mod (fun _ => False) w W → Mod S W w' → Mod S w w') := fun W w' h1 h2 => (h1.mono (fun _ _ e => e.elim)).trans h2
  have hk := block_lt_of_cell c0
  have h1 := block_lt_of_cell c1
  have h2 := block_lt_of_cell c2
  have h3 := block_lt_of_cell c3
  clear hS hW hr
  go_enter Tryz.func191, Tryz.ntmps191
  go_wp2_with fail
  refine (HS.out _ (Mod.refl _ _)).mono ?_
  rintro e w1 ⟨⟨bl, rfl⟩, M1⟩
  have HM1 := hid6 M1
  clear M1
  go_wp2_with fail
  refine Calls.mono (HP.out _ _ _ _ _ _ _ _ _ _) ?_
  rintro e w2 ⟨rfl, M2⟩
  have HM2 := hid6 (HM1.out.trans M2)
  clear M2
  have d0 := (HM2.out.cell (p := ⟨k, 0, none⟩) hk (fun e => e)).trans c0
  have d1 := (HM2.out.cell (p := ⟨b1, 0, none⟩) h1 (fun e => e)).trans c1
  have d2 := (HM2.out.cell (p := ⟨b2, 0, none⟩) h2 (fun e => e)).trans c2
  have d3 := (HM2.out.cell (p := ⟨b3, 0, none⟩) h3 (fun e => e)).trans c3
  clear c0 c1 c2 c3 hk h1 h2 h3
  have HSt : Hid (∀ w', Mod S (w2.drewN 1) w' → w'.cell? ⟨k, 0, none⟩ = some (.pointer (some ⟨t, 0, none⟩)) ∧ w'.cell? ⟨b1, 0, none⟩ = some (.int .i64 i) ∧ w'.cell? ⟨b2, 0, none⟩ = some (.int .i64 off) ∧ w'.cell? ⟨b3, 0, none⟩ = some (.slice a n c)) := fun w' hM => ⟨(hM.cell (p := ⟨k, 0, none⟩) (block_lt_of_cell d0) hn.1).trans d0, (hM.cell (p := ⟨b1, 0, none⟩) (block_lt_of_cell d1) hn.2.1).trans d1, (hM.cell (p := ⟨b2, 0, none⟩) (block_lt_of_cell d2) hn.2.2.1).trans d2, (hM.cell (p := ⟨b3, 0, none⟩) (block_lt_of_cell d3) hn.2.2.2).trans d3⟩
  go_upto_region 2 with fail
  go_cut [6, 7] (fun v6 v7 wc => v6 = .int .i64 r ∧ v7 = .int .i64 0 ∧ Hid (Mod S w wc ∧ Q wc))
  case first =>
    refine wp_only6 ?_
    go_region_held (fun W' => W'.cell? ⟨k, 0, none⟩ = some (.pointer (some ⟨t, 0, none⟩)) ∧ W'.cell? ⟨b1, 0, none⟩ = some (.int .i64 i) ∧ W'.cell? ⟨b2, 0, none⟩ = some (.int .i64 off) ∧ W'.cell? ⟨b3, 0, none⟩ = some (.slice a n c)) (first | with_reducible exact hS1 | go_keep)
      (first | (go_at_call 63; refine (HW.out _ (HM2.out.drewN 1)).mono ?_; rintro e w3 ⟨rfl, M3, q3⟩; have hS1 := HSt.out _ M3; have HR := hid6 (And.intro (HFn.out _ _ (HM2.out.drewN 1) M3) q3); clear M3 q3))
    all_goals simp only [OnlyN6]
    all_goals
      go_wp2_with fail
      go_meet
      exact ⟨rfl, rfl, HR⟩
  case rest =>
    obtain ⟨rfl, rfl, HR⟩ := hcut
    go_wp2_with (first | (go_at_call 57; refine (must_no _).mono ?_; rintro e w3 ⟨rfl, hw3⟩; rw [hw3]; clear hw3 w3))
    go_ret
    exact ⟨rfl, HR.out⟩
end Go.Proofs.YtpcbpikhiooafaaGreatDoor
