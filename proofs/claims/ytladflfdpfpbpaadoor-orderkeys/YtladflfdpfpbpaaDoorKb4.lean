/- OrderKeys' own function: it answers true. Conditions: a text that fits; the example lives (a premise). -/
import Derived.Test.YtladflfdpfpbpaaDoorKb2
import Derived.Test.YtladflfdpfpbpaaDoorKb3
import Derived.Laws.StructEq
import Derived.Deep.DeepCutAuto
namespace Go.Proofs.YtladflfdpfpbpaaDoor
open Go.RowKit
attribute [local go_sem] ext_eq app_eq get_eq
namespace Ok
theorem egK (op : BinOp) (x y : Operand) (xs ys : Array Value) (W : World) : (eqGuard op 23 x y (.agg xs) (.agg ys)).run Tryd.prog W = .ok () W := run_eqGuard_agg W op 23 x y xs ys (by kernel_rfl)
theorem fK : Tryd.prog.underlying 23 = some (.struct (Tryd.prog.fieldsOf 23)) := by kernel_rfl
theorem fKl : (Tryd.prog.fieldsOf 23).toList.map (fun f => (f.type, f.offset, decide (f.name = "_"))) = [(3, 0, false), (3, 1, false), (3, 2, false), (3, 3, false), (3, 4, false)] := by kernel_rfl
theorem five_fields {fs : List Field} {t : TypeId} (h : fs.map (fun f => (f.type, f.offset, decide (f.name = "_"))) = [(t, 0, false), (t, 1, false), (t, 2, false), (t, 3, false), (t, 4, false)]) : ∃ f0 f1 f2 f3 f4, fs = [f0, f1, f2, f3, f4] ∧ (f0.type = t ∧ f0.offset = 0 ∧ f0.name ≠ "_") ∧ (f1.type = t ∧ f1.offset = 1 ∧ f1.name ≠ "_") ∧ (f2.type = t ∧ f2.offset = 2 ∧ f2.name ≠ "_") ∧ (f3.type = t ∧ f3.offset = 3 ∧ f3.name ≠ "_") ∧ (f4.type = t ∧ f4.offset = 4 ∧ f4.name ≠ "_") := by
  have hl := congrArg List.length h
  simp only [List.length_map, List.length_cons, List.length_nil] at hl
  match fs, hl with
  | [f0, f1, f2, f3, f4], _ =>
    simp at h
    exact ⟨f0, f1, f2, f3, f4, rfl, ⟨h.1.1, h.1.2.1, h.1.2.2⟩, ⟨h.2.1.1, h.2.1.2.1, h.2.1.2.2⟩, ⟨h.2.2.1.1, h.2.2.1.2.1, h.2.2.1.2.2⟩, ⟨h.2.2.2.1.1, h.2.2.2.1.2.1, h.2.2.2.1.2.2⟩, ⟨h.2.2.2.2.1, h.2.2.2.2.2.1, h.2.2.2.2.2.2⟩⟩
theorem eqK (a b c d e : Int) (W : World) : (binOp .eql 23 (.agg #[.int .i64 a, .int .i64 b, .int .i64 c, .int .i64 d, .int .i64 e]) (.agg #[.int .i64 a, .int .i64 b, .int .i64 c, .int .i64 d, .int .i64 e])).run Tryd.prog W = .ok (.bool true) W := by
  obtain ⟨f0, f1, f2, f3, f4, hf, ⟨a1, a2, a3⟩, ⟨b1, b2, b3⟩, ⟨c1, c2, c3⟩, ⟨d1, d2, d3⟩, ⟨e1, e2, e3⟩⟩ := five_fields fKl
  rw [run_eql_struct, run_equalIn_agg W _ _ _ _ fK (by kernel_rfl), hf]
  have hu : Tryd.prog.underlying 3 = some (.int .i64) := Tryd.underlying3
  simp [Op.eqFields, a1, a2, a3, b1, b2, b3, c1, c2, c3, d1, d2, d3, e1, e2, e3, part, go_sem]
theorem num16 (e : Int) (w : World) : Calls Tryd.prog 6 #[.int .i64 e] w fun x w' => x = .returned (.int .i64 e) ∧ w' = w := by
  go_enter Tryd.func6, Tryd.ntmps6
  go_wp2
  go_ret
  exact ⟨rfl, rfl⟩
/-- A key that lies at a block. -/
structure Kf (g : Nat) (a b c d f : Int) (W : World) : Prop where
  lt : g < W.heap.size
  c0 : W.cell? ⟨g, 0, none⟩ = some (.int .i64 a)
  c1 : W.cell? ⟨g, 1, none⟩ = some (.int .i64 b)
  c2 : W.cell? ⟨g, 2, none⟩ = some (.int .i64 c)
  c3 : W.cell? ⟨g, 3, none⟩ = some (.int .i64 d)
  c4 : W.cell? ⟨g, 4, none⟩ = some (.int .i64 f)
theorem Kf.grow {g : Nat} {a b c d f : Int} {W W' : World} (h : Kf g a b c d f W) (e : Below W.heap.size W W') : Kf g a b c d f W' where
  lt := Nat.lt_of_lt_of_le h.lt e.size
  c0 := (e.cell (p := ⟨g, 0, none⟩) h.lt).trans h.c0
  c1 := (e.cell (p := ⟨g, 1, none⟩) h.lt).trans h.c1
  c2 := (e.cell (p := ⟨g, 2, none⟩) h.lt).trans h.c2
  c3 := (e.cell (p := ⟨g, 3, none⟩) h.lt).trans h.c3
  c4 := (e.cell (p := ⟨g, 4, none⟩) h.lt).trans h.c4
theorem cset {W : World} {p q : Addr} {v x : Value} (h : W.cell? q = some x) : (W.setCell p v).cell? q = some (if p = q then v else x) := by
  by_cases e : p = q
  · subst e; rw [if_pos rfl]; exact World.cell?_setCell_same _ _ _ h
  · rw [if_neg e, World.cell?_setCell_other _ _ _ _ e]; exact h
theorem Kf.of {w W : World} (h : Ky w W) (a b c d f : Int) : Kf w.heap.size a b c d f (((((W.setCell ⟨w.heap.size, 0, none⟩ (.int .i64 a)).setCell ⟨w.heap.size, 1, none⟩ (.int .i64 b)).setCell ⟨w.heap.size, 2, none⟩ (.int .i64 c)).setCell ⟨w.heap.size, 3, none⟩ (.int .i64 d)).setCell ⟨w.heap.size, 4, none⟩ (.int .i64 f)) where
  lt := by simpa using h.lt
  c0 := by rw [cset (cset (cset (cset (cset h.c0))))]; simp
  c1 := by rw [cset (cset (cset (cset (cset h.c1))))]; simp
  c2 := by rw [cset (cset (cset (cset (cset h.c2))))]; simp
  c3 := by rw [cset (cset (cset (cset (cset h.c3))))]; simp
  c4 := by rw [cset (cset (cset (cset (cset h.c4))))]; simp
theorem Kf.set {g : Nat} {a b c d f : Int} {W : World} (h : Kf g a b c d f W) {p : Addr} (hp : g ≠ p.block) (v : Value) : Kf g a b c d f (W.setCell p v) where
  lt := by simpa using h.lt
  c0 := by rw [cset h.c0, if_neg (fun e => hp (by rw [e]))]
  c1 := by rw [cset h.c1, if_neg (fun e => hp (by rw [e]))]
  c2 := by rw [cset h.c2, if_neg (fun e => hp (by rw [e]))]
  c3 := by rw [cset h.c3, if_neg (fun e => hp (by rw [e]))]
  c4 := by rw [cset h.c4, if_neg (fun e => hp (by rw [e]))]
end Ok
local macro "k1" : tactic => `(tactic| first | go_values | go_skip | go_guarded | go_step | go_upon | go_back | (simp only [Int.not_lt, Int.not_le] at *; go_simp) | (go_values <;> (try go_simp)))
set_option maxRecDepth 100000 in
set_option maxHeartbeats 8000000 in
theorem keys_walk (hAw : ∀ W, Calls Tryd.prog 7 #[] W fun e w' => e = .returned (.bool true) ∧ Below W.heap.size W w') (s : List UInt8) (hs : s.length ≤ 2 ^ 60) (w : World) : Calls Tryd.prog 3 #[.string ⟨s.toArray⟩] w fun e w' => e = .returned (.bool true) ∧ Below w.heap.size w w' := by
  have HA : Hid (∀ W, Calls Tryd.prog 4 #[.string ⟨s.toArray⟩] W fun e w' => e = .returned (.tuple #[Ok.kv (Ok.PKp s).1, .int .i64 (Ok.PKp s).2]) ∧ Below W.heap.size W w') := fun W => kPK s hs W
  have HB : Hid (∀ W, Calls Tryd.prog 5 #[.string ⟨s.toArray⟩] W fun e w' => e = .returned (.tuple #[Ok.kv (Ok.PKp s).1, .int .i64 (Ok.PKp s).2]) ∧ Below W.heap.size W w') := fun W => by rw [Ok.PK]; exact rPK s hs W
  have HW := hidA hAw
  clear hAw
  rcases hp : Ok.PKp s with ⟨⟨a, b, c, d, f⟩, q⟩
  rw [hp] at HA HB
  clear hp
  dsimp only [Ok.kv] at HA HB
  go_enter Tryd.func3, Tryd.ntmps3
  go_wp2_with fail
  refine (HA.out _).mono ?_
  rintro e w1 ⟨rfl, b1⟩
  iterate 14 k1
  have HK := hidA (Ok.Ky.made w1 23)
  have h0 : Below w.heap.size w (w1.alloc (.cells #[.int .i64 0, .int .i64 0, .int .i64 0, .int .i64 0, .int .i64 0] 23)) := b1.alloc b1.size _
  have hb0 := b1.size
  generalize w1.alloc (.cells #[.int .i64 0, .int .i64 0, .int .i64 0, .int .i64 0, .int .i64 0] 23) = W2 at *
  have HF := hidA (Ok.Kf.of HK.out a b c d f)
  have HB1 := hidA ((((((h0.setCell (p := ⟨w1.heap.size, 0, none⟩) hb0 (.int .i64 a)).setCell (p := ⟨w1.heap.size, 1, none⟩) hb0 (.int .i64 b)).setCell (p := ⟨w1.heap.size, 2, none⟩) hb0 (.int .i64 c)).setCell (p := ⟨w1.heap.size, 3, none⟩) hb0 (.int .i64 d)).setCell (p := ⟨w1.heap.size, 4, none⟩) hb0 (.int .i64 f)))
  have r0 := HK.out.c0
  have r1 := HK.out.c1
  have r2 := HK.out.c2
  have r3 := HK.out.c3
  have r4 := HK.out.c4
  have fr := HK.out.fr
  have hsz := HK.out.lt
  clear b1 h0 hb0 HK
  generalize w1.heap.size = g at *
  go_wp2_with fail
  clear r0 r1 r2 r3 r4 fr hsz
  refine (HB.out _).mono ?_
  rintro e w3 ⟨rfl, b3⟩
  have HF3 := hidA (HF.out.grow b3)
  have HB3 := hidA (bl2 HB1.out b3)
  have hlt3 := HF3.out.lt
  clear HF HB1 b3
  iterate 14 k1
  have HK := hidA (Ok.Ky.made w3 23)
  have hb0 := HB3.out.size
  have h0 : Below w.heap.size w (w3.alloc (.cells #[.int .i64 0, .int .i64 0, .int .i64 0, .int .i64 0, .int .i64 0] 23)) := HB3.out.alloc HB3.out.size _
  have HF4 := hidA (HF3.out.grow (((Below.refl w3.heap.size w3).alloc (Nat.le_refl _) (.cells #[.int .i64 0, .int .i64 0, .int .i64 0, .int .i64 0, .int .i64 0] 23))))
  generalize w3.alloc (.cells #[.int .i64 0, .int .i64 0, .int .i64 0, .int .i64 0, .int .i64 0] 23) = W4 at *
  have HG := hidA (Ok.Kf.of HK.out a b c d f)
  have hne : g ≠ w3.heap.size := by omega
  have HF5 := hidA (((((HF4.out.set (p := ⟨w3.heap.size, 0, none⟩) hne (.int .i64 a)).set (p := ⟨w3.heap.size, 1, none⟩) hne (.int .i64 b)).set (p := ⟨w3.heap.size, 2, none⟩) hne (.int .i64 c)).set (p := ⟨w3.heap.size, 3, none⟩) hne (.int .i64 d)).set (p := ⟨w3.heap.size, 4, none⟩) hne (.int .i64 f))
  have HB5 := hidA ((((((h0.setCell (p := ⟨w3.heap.size, 0, none⟩) hb0 (.int .i64 a)).setCell (p := ⟨w3.heap.size, 1, none⟩) hb0 (.int .i64 b)).setCell (p := ⟨w3.heap.size, 2, none⟩) hb0 (.int .i64 c)).setCell (p := ⟨w3.heap.size, 3, none⟩) hb0 (.int .i64 d)).setCell (p := ⟨w3.heap.size, 4, none⟩) hb0 (.int .i64 f)))
  have r0 := HK.out.c0
  have r1 := HK.out.c1
  have r2 := HK.out.c2
  have r3 := HK.out.c3
  have r4 := HK.out.c4
  have fr := HK.out.fr
  have hsz := HK.out.lt
  clear h0 hb0 HK HF3 HF4 HB3 hlt3 hne
  generalize w3.heap.size = g2 at *
  go_upto_region 3 with fail
  clear r0 r1 r2 r3 r4 fr hsz
  generalize (((((W4.setCell ⟨g2, 0, none⟩ (.int .i64 a)).setCell ⟨g2, 1, none⟩ (.int .i64 b)).setCell ⟨g2, 2, none⟩ (.int .i64 c)).setCell ⟨g2, 3, none⟩ (.int .i64 d)).setCell ⟨g2, 4, none⟩ (.int .i64 f)) = W5 at *
  have r0 := HF5.out.c0
  have r1 := HF5.out.c1
  have r2 := HF5.out.c2
  have r3 := HF5.out.c3
  have r4 := HF5.out.c4
  have p0 := HG.out.c0
  have p1 := HG.out.c1
  have p2 := HG.out.c2
  have p3 := HG.out.c3
  have p4 := HG.out.c4
  have hE := Ok.eqK a b c d f
  have hG := Ok.egK
  go_wp2_with fail
  refine (Ok.num16 _ _).mono ?_
  rintro e w6 ⟨rfl, rfl⟩
  go_wp2_with fail
  refine (HW.out _).mono ?_
  rintro e w7 ⟨rfl, b7⟩
  go_wp2
  go_ret
  exact ⟨rfl, bl2 HB5.out b7⟩
end Go.Proofs.YtladflfdpfpbpaaDoor
