/- Several texts of this claim, one behind the other, in their order. -/
import Derived.Test.YtpcbpikhiooafaaGreatDoorM23
import Derived.Test.YtpcbpikhiooafaaGreatDoorTr7
/- A file that is open: has, write, and the process' Write through it. Conditions: the process, the description and the file lie in memory; what WriteAt does. -/
namespace Go.Proofs.YtpcbpikhiooafaaGreatDoor
open Go.RowKit
/-- A file that is open: its file system, inode, flags, place; nothing is listed. -/
structure FlAt (w : World) (B fb : Nat) (ino fl pl : Int) : Prop where
  c0 : w.cell? ⟨B, 0, none⟩ = some (.pointer (some ⟨fb, 0, none⟩))
  c1 : w.cell? ⟨B, 1, none⟩ = some (.int .i64 ino)
  c2 : w.cell? ⟨B, 2, none⟩ = some (.int .i64 fl)
  c3 : w.cell? ⟨B, 3, none⟩ = some (.int .i64 pl)
  c4 : w.cell? ⟨B, 4, none⟩ = some (.bool false)
  c5 : w.cell? ⟨B, 5, none⟩ = some (.slice none 0 0)
  fr : ∀ o, w.frozen? ⟨B, o, none⟩ = false
theorem FlAt.lt {w : World} {B fb : Nat} {ino fl pl : Int} (h : FlAt w B fb ino fl pl) : B < w.heap.size := block_lt_of_cell h.c0
theorem FlAt.mod {w w' : World} {B fb : Nat} {ino fl pl : Int} (h : FlAt w B fb ino fl pl) {s : Nat → Prop} (hM : Mod s w w') (hs : ¬ s B) : FlAt w' B fb ino fl pl where
  c0 := (hM.cell (p := ⟨B, 0, none⟩) h.lt hs).trans h.c0
  c1 := (hM.cell (p := ⟨B, 1, none⟩) h.lt hs).trans h.c1
  c2 := (hM.cell (p := ⟨B, 2, none⟩) h.lt hs).trans h.c2
  c3 := (hM.cell (p := ⟨B, 3, none⟩) h.lt hs).trans h.c3
  c4 := (hM.cell (p := ⟨B, 4, none⟩) h.lt hs).trans h.c4
  c5 := (hM.cell (p := ⟨B, 5, none⟩) h.lt hs).trans h.c5
  fr := fun o => (hM.frozen (p := ⟨B, o, none⟩) h.lt hs).trans (h.fr o)
theorem FlAt.place {w : World} {B fb : Nat} {ino fl pl : Int} (h : FlAt w B fb ino fl pl) (p : Int) : FlAt (w.setCell ⟨B, 3, none⟩ (.int .i64 p)) B fb ino fl p where
  c0 := by have := h.c0; simp [go_sem, this]
  c1 := by have := h.c1; simp [go_sem, this]
  c2 := by have := h.c2; simp [go_sem, this]
  c3 := by have := h.c3; simp [go_sem, this]
  c4 := by have := h.c4; simp [go_sem, this]
  c5 := by have := h.c5; simp [go_sem, this]
  fr := fun o => by have := h.fr o; simp [go_sem, this]
/-- A description: what it is, and how many lead to it. -/
structure DAt (w : World) (D : Nat) (v : Value) (n : Int) : Prop where
  c0 : w.cell? ⟨D, 0, none⟩ = some v
  c1 : w.cell? ⟨D, 1, none⟩ = some (.int .i64 n)
  fr : ∀ o, w.frozen? ⟨D, o, none⟩ = false
theorem DAt.lt {w : World} {D : Nat} {v : Value} {n : Int} (h : DAt w D v n) : D < w.heap.size := block_lt_of_cell h.c0
theorem DAt.mod {w w' : World} {D : Nat} {v : Value} {n : Int} (h : DAt w D v n) {s : Nat → Prop} (hM : Mod s w w') (hs : ¬ s D) : DAt w' D v n where
  c0 := (hM.cell (p := ⟨D, 0, none⟩) h.lt hs).trans h.c0
  c1 := (hM.cell (p := ⟨D, 1, none⟩) h.lt hs).trans h.c1
  fr := fun o => (hM.frozen (p := ⟨D, o, none⟩) h.lt hs).trans (h.fr o)
theorem fHas {w : World} {B fb : Nat} {ino fl pl : Int} (h : FlAt w B fb ino fl pl) (f : Int) (r : Bool) (hr : (bits .and .i64 fl f != 0) = r) : Calls Tryz.prog 185 #[.pointer (some ⟨B, 0, none⟩), .int .i64 f] w fun e w' => e = .returned (.bool r) ∧ w' = w := by
  have c2 := h.c2
  clear h
  have HR := hid6 hr
  clear hr
  go_enter Tryz.func185, Tryz.ntmps185
  go_wp2
  go_ret
  exact ⟨congrArg (fun x => Ending.returned (.bool x)) HR.out, rfl⟩
theorem b102 : (bits .and .i64 10 2 != 0) = true := by decide +kernel
theorem b104 : (bits .and .i64 10 4 != 0) = false := by decide +kernel
theorem b101 : (bits .and .i64 10 1 != 0) = false := by decide +kernel
set_option maxRecDepth 100000 in
set_option maxHeartbeats 2000000 in
theorem fWrite {w : World} {B fb : Nat} {ino pl : Int} (h : FlAt w B fb ino 10 pl) (r : Int) (hr : -9223372036854775808 ≤ pl + r ∧ pl + r ≤ 9223372036854775807) (a : Option Addr) (n c : Nat) (S : Nat → Prop) (hB : ¬ S B) (Q : World → Prop)
    (hW : ∀ W, Mod (fun _ => False) w W → Calls Tryz.prog 187 #[.pointer (some ⟨fb, 0, none⟩), .int .i64 ino, .int .i64 pl, .slice a n c] W fun e w' => e = .returned (.tuple #[.int .i64 r, .int .i64 0]) ∧ Mod S W w' ∧ Q w') :
    Calls Tryz.prog 184 #[.pointer (some ⟨B, 0, none⟩), .slice a n c] w fun e w' => e = .returned (.tuple #[.int .i64 r, .int .i64 0]) ∧ ∃ w5, Mod S w w5 ∧ Q w5 ∧ w' = w5.setCell ⟨B, 3, none⟩ (.int .i64 (pl + r)) := by
  have HW := hid6 hW
  have H2 := hid6 (fHas h 2 true b102)
  have H4 := hid6 (fHas h 4 false b104)
  have hBl := h.lt
  have hw : IntKind.i64.wrap (pl + r) = pl + r := by rw [IntKind.wrap_i64]; omega
  have HSt : Hid (∀ w', Mod S (w.drewN 1) w' → (w'.cell? ⟨B, 0, none⟩ = some (.pointer (some ⟨fb, 0, none⟩)) ∧ w'.cell? ⟨B, 1, none⟩ = some (.int .i64 ino)) ∧ w'.cell? ⟨B, 3, none⟩ = some (.int .i64 pl) ∧ ∀ o, w'.frozen? ⟨B, o, none⟩ = false) := fun w' hM => ⟨⟨(hM.cell (p := ⟨B, 0, none⟩) hBl hB).trans h.c0, (hM.cell (p := ⟨B, 1, none⟩) hBl hB).trans h.c1⟩, (hM.cell (p := ⟨B, 3, none⟩) hBl hB).trans h.c3, fun o => (hM.frozen (p := ⟨B, o, none⟩) hBl hB).trans (h.fr o)⟩
  obtain ⟨c0, c1, -, c3, -, -, -⟩ := h
  clear hW
  go_enter Tryz.func184, Tryz.ntmps184
  go_wp2_with fail
  refine Calls.mono H2.out ?_
  rintro e w3 ⟨rfl, hw3⟩
  rw [hw3]
  clear hw3 w3
  go_wp2_with fail
  refine Calls.mono H4.out ?_
  rintro e w3 ⟨rfl, hw3⟩
  rw [hw3]
  clear hw3 w3
  go_upto_region 7 with fail
  go_cut [9, 10] (fun v9 v10 wc => v9 = .int .i64 r ∧ v10 = .int .i64 0 ∧ wc.cell? ⟨B, 3, none⟩ = some (.int .i64 pl) ∧ (∀ o, wc.frozen? ⟨B, o, none⟩ = false) ∧ Hid (Mod S w wc ∧ Q wc))
  case first =>
    go_region_held (fun W' => W'.cell? ⟨B, 0, none⟩ = some (.pointer (some ⟨fb, 0, none⟩)) ∧ W'.cell? ⟨B, 1, none⟩ = some (.int .i64 ino)) (first | with_reducible exact hS1.1 | go_keep)
      (first | (go_at_call 187; refine (HW.out _ ((Mod.refl _ _).drewN 1)).mono ?_; rintro e w3 ⟨rfl, M3, q3⟩; have hS1 := HSt.out _ M3; have HR := hid6 (And.intro (((Mod.refl S w).drewN 1).trans M3) q3); clear M3 q3))
    all_goals
      go_wp2_with fail
      go_meet
      exact ⟨rfl, rfl, hS1.2.1, hS1.2.2, HR⟩
  case rest =>
    obtain ⟨rfl, rfl, g3, gf, HR⟩ := hcut
    go_wp2
    go_ret2
    exact ⟨rfl, wc, HR.out.1, HR.out.2, rfl⟩
set_option maxRecDepth 100000 in
set_option maxHeartbeats 2000000 in
theorem pWrite {w : World} {P fb : Nat} {u g : Int} {ga : Option Addr} {gc : Nat} {um cw : Int} {d : Nat → Option Addr} (h : PAt w P fb u g ga gc um cw d) (j D B : Nat) (hj : j < 16) (hd : d j = some ⟨D, 0, none⟩) (cn : Int) (hD : DAt w D (.iface 66 (.pointer (some ⟨B, 0, none⟩))) cn) (a : Option Addr) (n c : Nat) (r : Int) (Q : World → Prop)
    (hW : Calls Tryz.prog 184 #[.pointer (some ⟨B, 0, none⟩), .slice a n c] w fun e w' => e = .returned (.tuple #[.int .i64 r, .int .i64 0]) ∧ Q w') :
    Calls Tryz.prog 9 #[.pointer (some ⟨P, 0, none⟩), .int .i64 j, .slice a n c] w fun e w' => e = .returned (.tuple #[.int .i64 r, .int .i64 0]) ∧ Q w' := by
  have HL := hid6 (pLead h j D hj hd)
  have c0 := hD.c0
  have HW := hid6 hW
  clear h hD hW hd
  go_enter Tryz.func9, Tryz.ntmps9
  go_wp2_with (first | (go_at_call 25; refine Calls.mono HL.out ?_; rintro e w3 ⟨rfl, hw3⟩; rw [hw3]; clear hw3 w3))
  refine Calls.mono HW.out ?_
  rintro e w1 ⟨rfl, HQ⟩
  have HQ' := hid6 HQ
  clear HQ
  go_wp2
  go_ret2
  exact ⟨rfl, HQ'.out⟩
theorem fReadNo {w : World} {B fb : Nat} {ino pl : Int} (h : FlAt w B fb ino 10 pl) (n : Int) : Calls Tryz.prog 183 #[.pointer (some ⟨B, 0, none⟩), .int .i64 n] w fun e w' => e = .returned (.tuple #[.slice none 0 0, .int .i64 9]) ∧ w' = w := by
  have H1 := hid6 (fHas h 1 false b101)
  clear h
  go_enter Tryz.func183, Tryz.ntmps183
  go_wp2_with (first | (go_at_call 185; refine Calls.mono H1.out ?_; rintro e w3 ⟨rfl, hw3⟩; rw [hw3]; clear hw3 w3))
  go_ret2
  exact ⟨rfl, rfl⟩
section
variable {w : World} {P fb : Nat} {u g : Int} {ga : Option Addr} {gc : Nat} {um cw : Int} {d : Nat → Option Addr}
set_option maxRecDepth 100000 in
set_option maxHeartbeats 2000000 in
theorem pReadNo (h : PAt w P fb u g ga gc um cw d) (j D B : Nat) (hj : j < 16) (hd : d j = some ⟨D, 0, none⟩) (cn ino pl : Int) (hD : DAt w D (.iface 66 (.pointer (some ⟨B, 0, none⟩))) cn) (hF : FlAt w B fb ino 10 pl) (n : Int) :
    Calls Tryz.prog 10 #[.pointer (some ⟨P, 0, none⟩), .int .i64 j, .int .i64 n] w fun e w' => e = .returned (.tuple #[.slice none 0 0, .int .i64 9]) ∧ w' = w := by
  have HL := hid6 (pLead h j D hj hd)
  have c0 := hD.c0
  have HW := hid6 (fReadNo hF n)
  clear h hD hF hd
  go_enter Tryz.func10, Tryz.ntmps10
  go_wp2_with (first | (go_at_call 25; refine Calls.mono HL.out ?_; rintro e w3 ⟨rfl, hw3⟩; rw [hw3]; clear hw3 w3))
  refine Calls.mono HW.out ?_
  rintro e w1 ⟨rfl, hw1⟩
  rw [hw1]
  clear hw1 w1
  go_wp2
  go_ret2
  exact ⟨rfl, rfl⟩
theorem ta67 (B : Nat) (W : World) : (Instr.typeAssert (.iface 66 (.pointer (some ⟨B, 0, none⟩))) 71 66 true).run Tryz.prog W = .ok (.tuple #[.pointer (some ⟨B, 0, none⟩), .bool true]) W := by kernel_rfl
set_option maxRecDepth 100000 in
theorem pAsFile (h : PAt w P fb u g ga gc um cw d) (j D B : Nat) (hj : j < 16) (hd : d j = some ⟨D, 0, none⟩) (cn er : Int) (hD : DAt w D (.iface 66 (.pointer (some ⟨B, 0, none⟩))) cn) :
    Calls Tryz.prog 26 #[.pointer (some ⟨P, 0, none⟩), .int .i64 j, .int .i64 er] w fun e w' => e = .returned (.tuple #[.pointer (some ⟨B, 0, none⟩), .int .i64 0]) ∧ w' = w := by
  have HL := hid6 (pLead h j D hj hd)
  have c0 := hD.c0
  have hta := ta67
  clear h hD hd
  go_enter Tryz.func26, Tryz.ntmps26
  go_wp2_with (first | (go_at_call 25; refine Calls.mono HL.out ?_; rintro e w3 ⟨rfl, hw3⟩; rw [hw3]; clear hw3 w3))
  go_ret2
  exact ⟨rfl, rfl⟩
theorem fFromCur {B : Nat} {ino fl pl : Int} (h : FlAt w B fb ino fl pl) : Calls Tryz.prog 27 #[.pointer (some ⟨B, 0, none⟩), .int .i64 1] w fun e w' => e = .returned (.tuple #[.int .i64 pl, .int .i64 0]) ∧ w' = w := by
  have c3 := h.c3
  clear h
  go_enter Tryz.func27, Tryz.ntmps27
  go_wp2
  go_ret2
  exact ⟨rfl, rfl⟩
set_option maxRecDepth 100000 in
set_option maxHeartbeats 2000000 in
theorem pSeekCur (h : PAt w P fb u g ga gc um cw d) (j D B : Nat) (hj : j < 16) (hd : d j = some ⟨D, 0, none⟩) (cn ino fl pl off : Int) (hD : DAt w D (.iface 66 (.pointer (some ⟨B, 0, none⟩))) cn) (hF : FlAt w B fb ino fl pl) (h0 : 0 ≤ pl ∧ pl ≤ 4611686018427387904) (h1 : 0 ≤ pl + off ∧ pl + off ≤ 4611686018427387904) :
    Calls Tryz.prog 8 #[.pointer (some ⟨P, 0, none⟩), .int .i64 j, .int .i64 off, .int .i64 1] w fun e w' => e = .returned (.tuple #[.int .i64 (pl + off), .int .i64 0]) ∧ Mod (fun x => x = B) w w' ∧ FlAt w' B fb ino fl (pl + off) := by
  have HA := hid6 (pAsFile h j D B hj hd cn 29 hD)
  have HC := hid6 (fFromCur hF)
  have hw : IntKind.i64.wrap (pl + off) = pl + off := by rw [IntKind.wrap_i64]; omega
  have hw1 : IntKind.i64.wrap (-pl) = -pl := by rw [IntKind.wrap_i64]; omega
  have hw2 : IntKind.i64.wrap (4611686018427387904 - pl) = 4611686018427387904 - pl := by rw [IntKind.wrap_i64]; omega
  have t1 : decide (off < -pl) = false := decide_eq_false (by omega)
  have t2 : decide (4611686018427387904 - pl < off) = false := decide_eq_false (by omega)
  have HF := hid6 hF
  obtain ⟨c0, c1, c2, c3, c4, c5, fr⟩ := hF
  clear h hD hd
  go_enter Tryz.func8, Tryz.ntmps8
  go_wp2_with (first | (go_at_call 26; refine Calls.mono HA.out ?_; rintro e w3 ⟨rfl, hw3⟩; rw [hw3]; clear hw3 w3) | (go_at_call 27; refine Calls.mono HC.out ?_; rintro e w3 ⟨rfl, hw3⟩; rw [hw3]; clear hw3 w3))
  go_ret2
  have hm : Mod (fun x => x = B) w (((w.setCell ⟨B, 3, none⟩ (.int .i64 (pl + off))).setCell ⟨B, 4, none⟩ (.bool false)).setCell ⟨B, 5, none⟩ (.slice none 0 0)) := (((Mod.refl (fun x => x = B) w).setCell ⟨B, 3, none⟩ _ rfl).setCell ⟨B, 4, none⟩ _ rfl).setCell ⟨B, 5, none⟩ _ rfl
  exact ⟨rfl, hm, ⟨by simp [go_sem, c0], by simp [go_sem, c1], by simp [go_sem, c2], by simp [go_sem, c3], by simp [go_sem, c4], by simp [go_sem, c5], fun o => by simp [go_sem, fr]⟩⟩
end
end Go.Proofs.YtpcbpikhiooafaaGreatDoor
/- The process' Open of a new file, and Pipe. Conditions: the process lies in memory; what the file system's Open does; a descriptor is free. -/
namespace Go.Proofs.YtpcbpikhiooafaaGreatDoor
open Go.RowKit
theorem b10h : bits .and .i64 10 3 = 2 := by decide +kernel
theorem b10i : bits .andNot .i64 10 255 = 0 := by decide +kernel
section
variable {w : World} {P fb : Nat} {u g : Int} {ga : Option Addr} {gc : Nat} {um cw : Int} {d : Nat → Option Addr}
/-- One more descriptor leads to a new description. -/
theorem low_end {w5 W : World} {D : Nat} {v : Value} (h : PAt w5 P fb u g ga gc um cw d) (j : Nat) (hj : j < 16) (hW : Mod (fun _ => False) w5 W) (hD : W.cell? ⟨D, 0, none⟩ = some v) (h1 : W.cell? ⟨D, 1, none⟩ = some (.int .i64 0)) (hf : ∀ o, W.frozen? ⟨D, o, none⟩ = false) (hDl : w5.heap.size ≤ D) :
    PAt ((W.setCell ⟨P, 6 + j, none⟩ (.pointer (some ⟨D, 0, none⟩))).setCell ⟨D, 1, none⟩ (.int .i64 1)) P fb u g ga gc um cw (fun i => if i = j then some ⟨D, 0, none⟩ else d i) ∧ DAt ((W.setCell ⟨P, 6 + j, none⟩ (.pointer (some ⟨D, 0, none⟩))).setCell ⟨D, 1, none⟩ (.int .i64 1)) D v 1 ∧ Mod (fun x => x = P) w5 ((W.setCell ⟨P, 6 + j, none⟩ (.pointer (some ⟨D, 0, none⟩))).setCell ⟨D, 1, none⟩ (.int .i64 1)) ∧ Mod (fun x => x = P ∨ x = D) W ((W.setCell ⟨P, 6 + j, none⟩ (.pointer (some ⟨D, 0, none⟩))).setCell ⟨D, 1, none⟩ (.int .i64 1)) := by
  have hP := h.lt
  have hne : D ≠ P := by omega
  have m1 : Mod (fun x => x = P) W (W.setCell ⟨P, 6 + j, none⟩ (.pointer (some ⟨D, 0, none⟩))) := (Mod.refl _ _).setCell _ _ rfl
  have m2 : Mod (fun x => x = D) (W.setCell ⟨P, 6 + j, none⟩ (.pointer (some ⟨D, 0, none⟩))) ((W.setCell ⟨P, 6 + j, none⟩ (.pointer (some ⟨D, 0, none⟩))).setCell ⟨D, 1, none⟩ (.int .i64 1)) := (Mod.refl _ _).setCell _ _ rfl
  refine ⟨((h.new hW).set j hj _).mod m2 (fun e => hne e.symm), ⟨?_, ?_, fun o => ?_⟩, Mod.andNew (((hW.mono (fun _ _ e => e.elim))).trans m1) m2 hDl, (m1.mono (fun _ _ e => .inl e)).trans (m2.mono (fun _ _ e => .inr e))⟩
  · rw [setCell_out _ _ _ _ _ (fun _ e => by cases e), setCell_out _ _ _ _ _ (fun e => absurd e hne)]; exact hD
  · exact World.cell?_setCell_same _ _ _ (by rw [setCell_out _ _ _ _ _ (fun e => absurd e hne)]; exact h1)
  · have := hf o; simp [go_sem, this]
set_option maxRecDepth 100000 in
set_option maxHeartbeats 2000000 in
theorem pOpen (h : PAt w P fb u g ga gc um cw d) (j : Nat) (hj : j < 16) (h0 : d j = none) (h1 : ∀ i, i < j → ∃ B : Nat, d i = some ⟨B, 0, none⟩) (hr : fdN d + 1 ≤ 16) (l : List UInt8) (m r : Int) (S : Nat → Prop) (hSP : ¬ S P) (Q : World → Prop)
    (hO : ∀ W, Mod (fun _ => False) w W → Calls Tryz.prog 23 #[.pointer (some ⟨fb, 0, none⟩), .agg #[.int .i64 u, .int .i64 g, .slice ga 0 gc, .int .i64 um, .int .i64 cw], .string ⟨l.toArray⟩, .int .i64 10, .int .i64 m] W fun e w' => e = .returned (.tuple #[.int .i64 r, .int .i64 0]) ∧ Mod S W w' ∧ Q w') :
    Calls Tryz.prog 6 #[.pointer (some ⟨P, 0, none⟩), .string ⟨l.toArray⟩, .int .i64 10, .int .i64 m] w fun e w' => e = .returned (.tuple #[.int .i64 j, .int .i64 0]) ∧ ∃ w5 B D, Mod S w w5 ∧ Q w5 ∧ Mod (fun x => x = P) w5 w' ∧ w5.heap.size ≤ B ∧ w5.heap.size ≤ D ∧ B ≠ D ∧ PAt w' P fb u g ga gc um cw (fun i => if i = j then some ⟨D, 0, none⟩ else d i) ∧ DAt w' D (.iface 66 (.pointer (some ⟨B, 0, none⟩))) 1 ∧ FlAt w' B fb r 10 0 := by
  have HF := hid6 (pMade h)
  have HR := hid6 (pRoom h 1 (by omega) (by omega))
  have HH := hid6 h
  have HO := hid6 hO
  have H1 := hid6 h1
  have hb1 := b10h
  have hb2 := b10i
  have hPl := h.lt
  clear h hO h1
  go_enter Tryz.func6, Tryz.ntmps6
  go_wp2_with (first | (go_at_call 21; refine Calls.mono HF.out ?_; rintro e w3 ⟨rfl, hw3⟩; rw [hw3]; clear hw3 w3))
  refine Calls.mono HR.out ?_
  rintro e w1 ⟨rfl, M1⟩
  have HM1 := hid6 M1
  have HH1 := hid6 (HH.out.new M1)
  have hPl1 := HH1.out.lt
  obtain ⟨c0, c1, c2, c3, c4, c5, -, -⟩ := HH1.out
  clear M1
  have HSt : Hid (∀ w', Mod S (w1.drewN 1) w' → w'.cell? ⟨P, 0, none⟩ = some (.pointer (some ⟨fb, 0, none⟩)) ∧ w'.cell? ⟨P, 1, none⟩ = some (.int .i64 u) ∧ w'.cell? ⟨P, 2, none⟩ = some (.int .i64 g) ∧ w'.cell? ⟨P, 3, none⟩ = some (.slice ga 0 gc) ∧ w'.cell? ⟨P, 4, none⟩ = some (.int .i64 um) ∧ w'.cell? ⟨P, 5, none⟩ = some (.int .i64 cw)) := fun w' hM => ⟨(hM.cell (p := ⟨P, 0, none⟩) hPl1 hSP).trans c0, (hM.cell (p := ⟨P, 1, none⟩) hPl1 hSP).trans c1, (hM.cell (p := ⟨P, 2, none⟩) hPl1 hSP).trans c2, (hM.cell (p := ⟨P, 3, none⟩) hPl1 hSP).trans c3, (hM.cell (p := ⟨P, 4, none⟩) hPl1 hSP).trans c4, (hM.cell (p := ⟨P, 5, none⟩) hPl1 hSP).trans c5⟩
  go_upto_region 9 with fail
  go_cut [11, 12] (fun v11 v12 wc => v11 = .int .i64 r ∧ v12 = .int .i64 0 ∧ Hid (Mod S w wc ∧ Q wc) ∧ Hid (PAt wc P fb u g ga gc um cw d))
  case first =>
    go_region_held (fun W' => W'.cell? ⟨P, 0, none⟩ = some (.pointer (some ⟨fb, 0, none⟩)) ∧ W'.cell? ⟨P, 1, none⟩ = some (.int .i64 u) ∧ W'.cell? ⟨P, 2, none⟩ = some (.int .i64 g) ∧ W'.cell? ⟨P, 3, none⟩ = some (.slice ga 0 gc) ∧ W'.cell? ⟨P, 4, none⟩ = some (.int .i64 um) ∧ W'.cell? ⟨P, 5, none⟩ = some (.int .i64 cw)) (first | with_reducible exact hS1 | go_keep)
      (first | (go_at_call 23; refine (HO.out _ (HM1.out.drewN 1)).mono ?_; rintro e w3 ⟨rfl, M3, q3⟩; have hS1 := HSt.out _ M3; have HRq := hid6 (And.intro (((HM1.out.mono (t := S) (fun _ _ e => e.elim)).drewN 1).trans M3) q3); have HP3 := hid6 ((HH1.out.new ((Mod.refl (fun _ => False) _).drewN 1)).mod M3 hSP); clear M3 q3))
    all_goals
      go_wp2_with fail
      go_meet
      exact ⟨rfl, rfl, HRq, HP3⟩
  case rest =>
    obtain ⟨rfl, rfl, HRq, HP3⟩ := hcut
    have d0 := HP3.out.c0
    have hPc := HP3.out.lt
    clear c0 c1 c2 c3 c4 c5
    go_wp2_with fail
    have M5 : Mod (fun _ => False) wc ((wc.alloc (.cells #[.pointer (some ⟨fb, 0, none⟩), .int .i64 r, .int .i64 10, .int .i64 0, .bool false, .slice none 0 0] 69)).alloc (.cells #[.iface 66 (.pointer (some ⟨wc.heap.size, 0, none⟩)), .int .i64 0] 73)) := ((Mod.refl _ _).alloc _).alloc _
    have k0 : ((wc.alloc (.cells #[.pointer (some ⟨fb, 0, none⟩), .int .i64 r, .int .i64 10, .int .i64 0, .bool false, .slice none 0 0] 69)).alloc (.cells #[.iface 66 (.pointer (some ⟨wc.heap.size, 0, none⟩)), .int .i64 0] 73)).cell? ⟨wc.heap.size + 1, 0, none⟩ = some (.iface 66 (.pointer (some ⟨wc.heap.size, 0, none⟩))) := by simp [go_sem]
    have k1 : ((wc.alloc (.cells #[.pointer (some ⟨fb, 0, none⟩), .int .i64 r, .int .i64 10, .int .i64 0, .bool false, .slice none 0 0] 69)).alloc (.cells #[.iface 66 (.pointer (some ⟨wc.heap.size, 0, none⟩)), .int .i64 0] 73)).cell? ⟨wc.heap.size + 1, 1, none⟩ = some (.int .i64 0) := by simp [go_sem]
    have kf : ∀ o, ((wc.alloc (.cells #[.pointer (some ⟨fb, 0, none⟩), .int .i64 r, .int .i64 10, .int .i64 0, .bool false, .slice none 0 0] 69)).alloc (.cells #[.iface 66 (.pointer (some ⟨wc.heap.size, 0, none⟩)), .int .i64 0] 73)).frozen? ⟨wc.heap.size + 1, o, none⟩ = false := fun o => by simp [go_sem]
    have kF : FlAt ((wc.alloc (.cells #[.pointer (some ⟨fb, 0, none⟩), .int .i64 r, .int .i64 10, .int .i64 0, .bool false, .slice none 0 0] 69)).alloc (.cells #[.iface 66 (.pointer (some ⟨wc.heap.size, 0, none⟩)), .int .i64 0] 73)) wc.heap.size fb r 10 0 := ⟨by simp [go_sem], by simp [go_sem], by simp [go_sem], by simp [go_sem], by simp [go_sem], by simp [go_sem], fun o => by simp [go_sem]⟩
    have HE := hid6 (low_end HP3.out j hj M5 k0 k1 kf (by omega))
    have HLo := hid6 (pLowest (HP3.out.new M5) j (wc.heap.size + 1) hj h0 H1.out (by omega) k1 kf)
    have HKF := hid6 kF
    clear k0 k1 kf kF M5
    refine Calls.mono HLo.out ?_
    rintro e w7 ⟨rfl, hw7⟩
    have HFin := hid6 (show Mod (fun x => x = P) wc w7 ∧ PAt w7 P fb u g ga gc um cw (fun i => if i = j then some ⟨wc.heap.size + 1, 0, none⟩ else d i) ∧ DAt w7 (wc.heap.size + 1) (.iface 66 (.pointer (some ⟨wc.heap.size, 0, none⟩))) 1 ∧ FlAt w7 wc.heap.size fb r 10 0 from by
      rw [hw7]
      exact ⟨HE.out.2.2.1, HE.out.1, HE.out.2.1, HKF.out.mod HE.out.2.2.2 (fun e => by rcases e with e | e <;> omega)⟩)
    clear hw7 HE HLo HKF
    go_wp2
    go_ret2
    exact ⟨rfl, wc, wc.heap.size, wc.heap.size + 1, HRq.out.1, HRq.out.2, HFin.out.1, Nat.le_refl _, by omega, by omega, HFin.out.2.1, HFin.out.2.2.1, HFin.out.2.2.2⟩
set_option maxRecDepth 100000 in
set_option maxHeartbeats 2000000 in
theorem pPipe (h : PAt w P fb u g ga gc um cw d) (j i2 : Nat) (hj : j < i2) (hj2 : i2 < 16) (h0 : d j = none) (h1 : ∀ i, i < j → ∃ B : Nat, d i = some ⟨B, 0, none⟩) (h2 : d i2 = none) (h3 : ∀ i, i < i2 → i ≠ j → ∃ B : Nat, d i = some ⟨B, 0, none⟩) (hr : fdN d + 2 ≤ 16) :
    Calls Tryz.prog 28 #[.pointer (some ⟨P, 0, none⟩)] w fun e w' => e = .returned (.tuple #[.int .i64 j, .int .i64 i2, .int .i64 0]) ∧ Mod (fun x => x = P) w w' := by
  have HR := hid6 (pRoom h 2 (by omega) (by omega))
  have HH := hid6 h
  have H1 := hid6 h1
  have H3 := hid6 h3
  clear h h1 h3
  go_enter Tryz.func28, Tryz.ntmps28
  go_wp2_with fail
  refine Calls.mono HR.out ?_
  rintro e w1 ⟨rfl, M1⟩
  have HM1 := hid6 M1
  have HH1 := hid6 (HH.out.new M1)
  have hPl := HH1.out.lt
  clear M1 HH HR
  go_wp2_with fail
  have M5 : Mod (fun _ => False) w1 ((w1.alloc (.cells #[.slice none 0 0, .bool true, .bool true] 133)).alloc (.cells #[.iface 135 (.agg #[.pointer (some ⟨w1.heap.size, 0, none⟩)]), .int .i64 0] 73)) := ((Mod.refl _ _).alloc _).alloc _
  have k0 : ((w1.alloc (.cells #[.slice none 0 0, .bool true, .bool true] 133)).alloc (.cells #[.iface 135 (.agg #[.pointer (some ⟨w1.heap.size, 0, none⟩)]), .int .i64 0] 73)).cell? ⟨w1.heap.size + 1, 0, none⟩ = some (.iface 135 (.agg #[.pointer (some ⟨w1.heap.size, 0, none⟩)])) := by simp [go_sem]
  have k1 : ((w1.alloc (.cells #[.slice none 0 0, .bool true, .bool true] 133)).alloc (.cells #[.iface 135 (.agg #[.pointer (some ⟨w1.heap.size, 0, none⟩)]), .int .i64 0] 73)).cell? ⟨w1.heap.size + 1, 1, none⟩ = some (.int .i64 0) := by simp [go_sem]
  have kf : ∀ o, ((w1.alloc (.cells #[.slice none 0 0, .bool true, .bool true] 133)).alloc (.cells #[.iface 135 (.agg #[.pointer (some ⟨w1.heap.size, 0, none⟩)]), .int .i64 0] 73)).frozen? ⟨w1.heap.size + 1, o, none⟩ = false := fun o => by simp [go_sem]
  have HE := hid6 (low_end HH1.out j (by omega) M5 k0 k1 kf (by omega))
  have HLo := hid6 (pLowest (HH1.out.new M5) j (w1.heap.size + 1) (by omega) h0 H1.out (by omega) k1 kf)
  clear k0 k1 kf M5
  refine Calls.mono HLo.out ?_
  rintro e w7 ⟨rfl, hw7⟩
  have HF7 := hid6 (show Mod (fun x => x = P) w1 w7 ∧ PAt w7 P fb u g ga gc um cw (fun i => if i = j then some ⟨w1.heap.size + 1, 0, none⟩ else d i) from by
    rw [hw7]
    exact ⟨HE.out.2.2.1, HE.out.1⟩)
  clear hw7 HE HLo HH1
  go_wp2_with fail
  have hPl7 := HF7.out.2.lt
  have M8 : Mod (fun _ => False) w7 (w7.alloc (.cells #[.iface 136 (.agg #[.pointer (some ⟨w1.heap.size, 0, none⟩)]), .int .i64 0] 73)) := (Mod.refl _ _).alloc _
  have k0 : (w7.alloc (.cells #[.iface 136 (.agg #[.pointer (some ⟨w1.heap.size, 0, none⟩)]), .int .i64 0] 73)).cell? ⟨w7.heap.size, 0, none⟩ = some (.iface 136 (.agg #[.pointer (some ⟨w1.heap.size, 0, none⟩)])) := by simp [go_sem]
  have k1 : (w7.alloc (.cells #[.iface 136 (.agg #[.pointer (some ⟨w1.heap.size, 0, none⟩)]), .int .i64 0] 73)).cell? ⟨w7.heap.size, 1, none⟩ = some (.int .i64 0) := by simp [go_sem]
  have kf : ∀ o, (w7.alloc (.cells #[.iface 136 (.agg #[.pointer (some ⟨w1.heap.size, 0, none⟩)]), .int .i64 0] 73)).frozen? ⟨w7.heap.size, o, none⟩ = false := fun o => by simp [go_sem]
  have HE := hid6 (low_end HF7.out.2 i2 hj2 M8 k0 k1 kf (Nat.le_refl _))
  have HLo := hid6 (pLowest (HF7.out.2.new M8) i2 w7.heap.size hj2 (by rw [if_neg (by omega)]; exact h2) (fun i hi => by
    by_cases e : i = j
    · exact ⟨w1.heap.size + 1, by rw [if_pos e]⟩
    · rw [if_neg e]; exact H3.out i hi e) (by omega) k1 kf)
  clear k0 k1 kf M8
  refine Calls.mono HLo.out ?_
  rintro e w9 ⟨rfl, hw9⟩
  have HF9 := hid6 (show Mod (fun x => x = P) w w9 from by
    rw [hw9]
    exact ((HM1.out.mono (fun _ _ e => e.elim)).trans HF7.out.1).trans HE.out.2.2.1)
  clear hw9 HE HLo
  go_wp2
  go_ret3
  exact ⟨rfl, HF9.out⟩
end
end Go.Proofs.YtpcbpikhiooafaaGreatDoor
