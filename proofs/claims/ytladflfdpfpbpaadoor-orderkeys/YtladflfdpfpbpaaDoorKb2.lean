/- The walk of the program's ParseKey. Condition: a text that fits. -/
import Derived.Test.YtladflfdpfpbpaaDoorKb1
namespace Go.Proofs.YtladflfdpfpbpaaDoor
open Go.RowKit
attribute [local go_sem] ext_eq app_eq get_eq
namespace Ok
/-- A key as a value. -/
def kv (k : K5) : Value := .agg #[.int .i64 k.1, .int .i64 k.2.1, .int .i64 k.2.2.1, .int .i64 k.2.2.2.1, .int .i64 k.2.2.2.2]
/-- A memory with a key of zeros in its first new block. -/
structure Ky (w W : World) : Prop where
  bel : Below w.heap.size w W
  lt : w.heap.size < W.heap.size
  c0 : W.cell? ⟨w.heap.size, 0, none⟩ = some (.int .i64 0)
  c1 : W.cell? ⟨w.heap.size, 1, none⟩ = some (.int .i64 0)
  c2 : W.cell? ⟨w.heap.size, 2, none⟩ = some (.int .i64 0)
  c3 : W.cell? ⟨w.heap.size, 3, none⟩ = some (.int .i64 0)
  c4 : W.cell? ⟨w.heap.size, 4, none⟩ = some (.int .i64 0)
  fr : ∀ o, W.frozen? ⟨w.heap.size, o, none⟩ = false
theorem Ky.grow {w W W' : World} (h : Ky w W) (b : Below W.heap.size W W') : Ky w W' where
  bel := bl2 h.bel b
  lt := Nat.lt_of_lt_of_le h.lt b.size
  c0 := (b.cell (p := ⟨w.heap.size, 0, none⟩) h.lt).trans h.c0
  c1 := (b.cell (p := ⟨w.heap.size, 1, none⟩) h.lt).trans h.c1
  c2 := (b.cell (p := ⟨w.heap.size, 2, none⟩) h.lt).trans h.c2
  c3 := (b.cell (p := ⟨w.heap.size, 3, none⟩) h.lt).trans h.c3
  c4 := (b.cell (p := ⟨w.heap.size, 4, none⟩) h.lt).trans h.c4
  fr := fun o => (b.frozen (p := ⟨w.heap.size, o, none⟩) h.lt).trans (h.fr o)
theorem Ky.made (w : World) (T : TypeId) : Ky w (w.alloc (.cells #[.int .i64 0, .int .i64 0, .int .i64 0, .int .i64 0, .int .i64 0] T)) where
  bel := (Below.refl _ _).alloc (Nat.le_refl _) _
  lt := by simp
  c0 := World.cell?_alloc_at _ _ _ _ rfl
  c1 := World.cell?_alloc_at _ _ _ _ rfl
  c2 := World.cell?_alloc_at _ _ _ _ rfl
  c3 := World.cell?_alloc_at _ _ _ _ rfl
  c4 := World.cell?_alloc_at _ _ _ _ rfl
  fr := fun o => World.frozen?_alloc_at _ _ _ _ rfl
theorem Ky.set {w W : World} (h : Ky w W) (x y z u v : Value) : Below w.heap.size w (((((W.setCell ⟨w.heap.size, 0, none⟩ x).setCell ⟨w.heap.size, 1, none⟩ y).setCell ⟨w.heap.size, 2, none⟩ z).setCell ⟨w.heap.size, 3, none⟩ u).setCell ⟨w.heap.size, 4, none⟩ v) :=
  ((((h.bel.setCell (Nat.le_refl _) _).setCell (Nat.le_refl _) _).setCell (Nat.le_refl _) _).setCell (Nat.le_refl _) _).setCell (Nat.le_refl _) _
/-- A spot that lies at block 'b'. -/
structure Sq (b : Nat) (x y z : Int) (W : World) : Prop where
  lt : b < W.heap.size
  c0 : W.cell? ⟨b, 0, none⟩ = some (.int .i64 x)
  c1 : W.cell? ⟨b, 1, none⟩ = some (.int .i64 y)
  c2 : W.cell? ⟨b, 2, none⟩ = some (.int .i64 z)
  fr : ∀ o, W.frozen? ⟨b, o, none⟩ = false
theorem Sq.grow {b : Nat} {x y z : Int} {W W' : World} (h : Sq b x y z W) (d : Below W.heap.size W W') : Sq b x y z W' where
  lt := Nat.lt_of_lt_of_le h.lt d.size
  c0 := (d.cell (p := ⟨b, 0, none⟩) h.lt).trans h.c0
  c1 := (d.cell (p := ⟨b, 1, none⟩) h.lt).trans h.c1
  c2 := (d.cell (p := ⟨b, 2, none⟩) h.lt).trans h.c2
  fr := fun o => (d.frozen (p := ⟨b, o, none⟩) h.lt).trans (h.fr o)
theorem Sq.made0 (W : World) (x y z : Int) (T : TypeId) : Sq W.heap.size x y z (W.alloc (.cells #[.int .i64 x, .int .i64 y, .int .i64 z] T)) where
  lt := by simp
  c0 := World.cell?_alloc_at _ _ _ _ rfl
  c1 := World.cell?_alloc_at _ _ _ _ rfl
  c2 := World.cell?_alloc_at _ _ _ _ rfl
  fr := fun o => World.frozen?_alloc_at _ _ _ _ rfl
end Ok
local macro "k1" : tactic => `(tactic| first | go_values | go_skip | go_guarded | go_step | go_upon | go_back | (simp only [Int.not_lt, Int.not_le] at *; go_simp) | (go_values <;> (try go_simp)))
set_option maxRecDepth 100000 in
set_option maxHeartbeats 16000000 in
theorem kPK (s : List UInt8) (hs : s.length ≤ 2 ^ 60) (w : World) : Calls Tryd.prog 4 #[.string ⟨s.toArray⟩] w fun e w' => e = .returned (.tuple #[Ok.kv (Ok.PKp s).1, .int .i64 (Ok.PKp s).2]) ∧ Below w.heap.size w w' := by
  have HC : Hid (∀ W, Calls Tryd.prog 8 #[.string ⟨s.toArray⟩, .string ⟨#[44]⟩] W fun e w' => e = .returned (.tuple #[.string ⟨(Ok.CT s).1.toArray⟩, .string ⟨(Ok.CT s).2.1.toArray⟩, .bool (Ok.CT s).2.2]) ∧ Below W.heap.size W w') := fun W => kCut s hs W
  have HA : Hid (∀ W, Calls Tryd.prog 9 #[.string ⟨(s.take (Ok.ci s)).toArray⟩, .int .i64 1] W fun e w' => e = .returned (.tuple #[.agg #[.int .i64 (Ok.SP (s.take (Ok.ci s)) 1).1, .int .i64 (Ok.SP (s.take (Ok.ci s)) 1).2.1, .int .i64 (Ok.SP (s.take (Ok.ci s)) 1).2.2.1], .bool (Ok.SP (s.take (Ok.ci s)) 1).2.2.2]) ∧ Below W.heap.size W w') := fun W => kSP _ 1 (by rw [List.length_take]; omega) W
  have HB : Hid (∀ W, Calls Tryd.prog 9 #[.string ⟨(s.drop (Ok.ci s + 1)).toArray⟩, .int .i64 0] W fun e w' => e = .returned (.tuple #[.agg #[.int .i64 (Ok.SP (s.drop (Ok.ci s + 1)) 0).1, .int .i64 (Ok.SP (s.drop (Ok.ci s + 1)) 0).2.1, .int .i64 (Ok.SP (s.drop (Ok.ci s + 1)) 0).2.2.1], .bool (Ok.SP (s.drop (Ok.ci s + 1)) 0).2.2.2]) ∧ Below W.heap.size W w') := fun W => kSP _ 0 (by rw [List.length_drop]; omega) W
  have hR : Ok.PKp s = Ok.PKp s := rfl
  conv at hR => rhs; unfold Ok.PKp
  have hCT : Ok.CT s = (s.take (Ok.ci s), (if Ok.ci s < s.length then s.drop (Ok.ci s + 1) else []), decide (Ok.ci s < s.length)) := by
    unfold Ok.CT
    have := Ok.ci_le s
    by_cases h : Ok.ci s < s.length
    · rw [if_pos h, if_pos h, decide_eq_true h]
    · rw [if_neg h, if_neg h, decide_eq_false h, List.take_of_length_le (by omega)]
  rw [hCT] at HC
  clear hCT
  generalize s.take (Ok.ci s) = a at *
  rcases hp : Ok.SP a 1 with ⟨f, c, F, ok⟩
  rw [hp] at HA hR
  clear hp
  dsimp only at HA HC hR
  generalize hT : (if Ok.ci s < s.length then s.drop (Ok.ci s + 1) else []) = t at *
  cases ok with
  | false =>
    rw [if_pos (.inl rfl)] at hR
    rw [hR]
    clear hR hT HB
    generalize decide (Ok.ci s < s.length) = two at *
    go_enter Tryd.func4, Tryd.ntmps4
    go_wp2_with fail
    refine (HC.out _).mono ?_
    rintro e w1 ⟨rfl, b1⟩
    have HK1 := hidA ((Ok.Ky.made w _).grow b1)
    clear b1
    go_wp2_with fail
    refine (HA.out _).mono ?_
    rintro e w2 ⟨rfl, b1⟩
    have HK2 := hidA (HK1.out.grow b1)
    clear b1
    iterate 16 k1
    have HQ1 := hidA (Ok.Sq.made0 w2 f c F 35)
    have HK := hidA (HK2.out.grow (((Below.refl _ _).alloc (Nat.le_refl _) (.cells #[.int .i64 f, .int .i64 c, .int .i64 F] 35))))
    have hsz2 := HK2.out.lt
    generalize w2.alloc (.cells #[.int .i64 f, .int .i64 c, .int .i64 F] 35) = W3 at HQ1 HK ⊢
    have hsz := HK.out.lt
    have hsq := HQ1.out.lt
    have r0 := HK.out.c0
    have r1 := HK.out.c1
    have r2 := HK.out.c2
    have r3 := HK.out.c3
    have r4 := HK.out.c4
    have fr := HK.out.fr
    have p0 := HQ1.out.c0
    have p1 := HQ1.out.c1
    have p2 := HQ1.out.c2
    have fp := HQ1.out.fr
    go_wp2_with fail
    (try simp only [Exit.inBlock, Exit.then])
    refine bodyPost_ret (by simp [results, Tryd.results4, go_sem, r0, r1, r2, r3, r4]; rfl) rfl ?_
    refine ⟨rfl, ?_⟩
    have hbel := HK.out.bel
    have hk2 := HK2.out.lt
    clear HA HC
    repeat first
      | with_reducible exact hbel
      | (with_reducible refine Below.setCell ?_ ?_ _)
      | (with_reducible refine Below.alloc ?_ ?_ _)
    all_goals first
      | exact Nat.le_refl _
      | (show _ ≤ _; simp; done)
      | (show _ ≤ _; simp; omega)
  | true =>
    by_cases hc : c = 0
    · subst hc
      rw [if_pos (.inr rfl)] at hR
      rw [hR]
      clear hR hT HB
      generalize decide (Ok.ci s < s.length) = two at *
      go_enter Tryd.func4, Tryd.ntmps4
      go_wp2_with fail
      refine (HC.out _).mono ?_
      rintro e w1 ⟨rfl, b1⟩
      have HK1 := hidA ((Ok.Ky.made w _).grow b1)
      clear b1
      go_wp2_with fail
      refine (HA.out _).mono ?_
      rintro e w2 ⟨rfl, b1⟩
      have HK2 := hidA (HK1.out.grow b1)
      clear b1
      iterate 16 k1
      have HQ1 := hidA (Ok.Sq.made0 w2 f 0 F 35)
      have HK := hidA (HK2.out.grow (((Below.refl _ _).alloc (Nat.le_refl _) (.cells #[.int .i64 f, .int .i64 0, .int .i64 F] 35))))
      have hsz2 := HK2.out.lt
      generalize w2.alloc (.cells #[.int .i64 f, .int .i64 0, .int .i64 F] 35) = W3 at HQ1 HK ⊢
      have hsz := HK.out.lt
      have hsq := HQ1.out.lt
      have r0 := HK.out.c0
      have r1 := HK.out.c1
      have r2 := HK.out.c2
      have r3 := HK.out.c3
      have r4 := HK.out.c4
      have fr := HK.out.fr
      have p0 := HQ1.out.c0
      have p1 := HQ1.out.c1
      have p2 := HQ1.out.c2
      have fp := HQ1.out.fr
      go_wp2_with fail
      (try simp only [Exit.inBlock, Exit.then])
      refine bodyPost_ret (by simp [results, Tryd.results4, go_sem, r0, r1, r2, r3, r4]; rfl) rfl ?_
      refine ⟨rfl, ?_⟩
      have hbel := HK.out.bel
      have hk2 := HK2.out.lt
      clear HA HC
      repeat first
        | with_reducible exact hbel
        | (with_reducible refine Below.setCell ?_ ?_ _)
        | (with_reducible refine Below.alloc ?_ ?_ _)
      all_goals first
        | exact Nat.le_refl _
        | (show _ ≤ _; simp; done)
        | (show _ ≤ _; simp; omega)
    have ec : (c == 0) = false := by rw [beq_eq_false_iff_ne]; exact hc
    rw [if_neg (fun h => h.elim (fun h => by cases h) hc)] at hR
    clear hc
    by_cases hlt : Ok.ci s < s.length
    · rw [if_pos hlt] at hR hT
      rw [decide_eq_true hlt] at HC
      clear hlt
      rw [hT] at HB hR
      clear hT
      rcases hp : Ok.SP t 0 with ⟨g, d, G, ok⟩
      rw [hp] at HB hR
      clear hp
      dsimp only at HB hR
      cases ok with
      | false =>
        rw [if_pos rfl] at hR
        rw [hR]
        clear hR
        go_enter Tryd.func4, Tryd.ntmps4
        go_wp2_with fail
        refine (HC.out _).mono ?_
        rintro e w1 ⟨rfl, b1⟩
        have HK1 := hidA ((Ok.Ky.made w _).grow b1)
        clear b1
        go_wp2_with fail
        refine (HA.out _).mono ?_
        rintro e w2 ⟨rfl, b1⟩
        have HK2 := hidA (HK1.out.grow b1)
        clear b1
        iterate 16 k1
        have HQ1 := hidA (Ok.Sq.made0 w2 f c F 35)
        have HK := hidA (HK2.out.grow (((Below.refl _ _).alloc (Nat.le_refl _) (.cells #[.int .i64 f, .int .i64 c, .int .i64 F] 35))))
        have hsz2 := HK2.out.lt
        generalize w2.alloc (.cells #[.int .i64 f, .int .i64 c, .int .i64 F] 35) = W3 at HQ1 HK ⊢
        have hsz := HK.out.lt
        have hsq := HQ1.out.lt
        have r0 := HK.out.c0
        have r1 := HK.out.c1
        have r2 := HK.out.c2
        have r3 := HK.out.c3
        have r4 := HK.out.c4
        have fr := HK.out.fr
        have p0 := HQ1.out.c0
        have p1 := HQ1.out.c1
        have p2 := HQ1.out.c2
        have fp := HQ1.out.fr
        go_wp2_with fail
        refine (HB.out _).mono ?_
        rintro e w3 ⟨rfl, b1⟩
        have HK0 := HK
        have HQ0 := HQ1
        clear HK HQ1 r0 r1 r2 r3 r4 fr p0 p1 p2 fp
        have HK := hidA ((HK0.out.grow ((Below.refl _ _).alloc (Nat.le_refl _) _)).grow b1)
        have HQ1 := hidA ((HQ0.out.grow ((Below.refl _ _).alloc (Nat.le_refl _) _)).grow b1)
        have HQ2 := hidA ((Ok.Sq.made0 W3 0 0 0 _).grow b1)
        clear b1
        have hsz3 := HK.out.lt
        have hsz4 := HQ2.out.lt
        have hsz5 := HQ1.out.lt
        have r0 := HK.out.c0
        have r1 := HK.out.c1
        have r2 := HK.out.c2
        have r3 := HK.out.c3
        have r4 := HK.out.c4
        have fr := HK.out.fr
        have p0 := HQ1.out.c0
        have p1 := HQ1.out.c1
        have p2 := HQ1.out.c2
        have fp := HQ1.out.fr
        have q0 := HQ2.out.c0
        have q1 := HQ2.out.c1
        have q2 := HQ2.out.c2
        have fq := HQ2.out.fr
        go_wp2_with fail
        (try simp only [Exit.inBlock, Exit.then])
        refine bodyPost_ret (by simp [results, Tryd.results4, go_sem, r0, r1, r2, r3, r4]; rfl) rfl ?_
        refine ⟨rfl, ?_⟩
        have hbel := HK.out.bel
        have hk2 := HK2.out.lt
        clear HA HC
        repeat first
          | with_reducible exact hbel
          | (with_reducible refine Below.setCell ?_ ?_ _)
          | (with_reducible refine Below.alloc ?_ ?_ _)
        all_goals first
          | exact Nat.le_refl _
          | (show _ ≤ _; simp; done)
          | (show _ ≤ _; simp; omega)
      | true =>
        rw [if_neg (fun h => by cases h)] at hR
        rw [hR]
        clear hR
        go_enter Tryd.func4, Tryd.ntmps4
        go_wp2_with fail
        refine (HC.out _).mono ?_
        rintro e w1 ⟨rfl, b1⟩
        have HK1 := hidA ((Ok.Ky.made w _).grow b1)
        clear b1
        go_wp2_with fail
        refine (HA.out _).mono ?_
        rintro e w2 ⟨rfl, b1⟩
        have HK2 := hidA (HK1.out.grow b1)
        clear b1
        iterate 16 k1
        have HQ1 := hidA (Ok.Sq.made0 w2 f c F 35)
        have HK := hidA (HK2.out.grow (((Below.refl _ _).alloc (Nat.le_refl _) (.cells #[.int .i64 f, .int .i64 c, .int .i64 F] 35))))
        have hsz2 := HK2.out.lt
        generalize w2.alloc (.cells #[.int .i64 f, .int .i64 c, .int .i64 F] 35) = W3 at HQ1 HK ⊢
        have hsz := HK.out.lt
        have hsq := HQ1.out.lt
        have r0 := HK.out.c0
        have r1 := HK.out.c1
        have r2 := HK.out.c2
        have r3 := HK.out.c3
        have r4 := HK.out.c4
        have fr := HK.out.fr
        have p0 := HQ1.out.c0
        have p1 := HQ1.out.c1
        have p2 := HQ1.out.c2
        have fp := HQ1.out.fr
        go_wp2_with fail
        refine (HB.out _).mono ?_
        rintro e w3 ⟨rfl, b1⟩
        have HK0 := HK
        have HQ0 := HQ1
        clear HK HQ1 r0 r1 r2 r3 r4 fr p0 p1 p2 fp
        have HK := hidA ((HK0.out.grow ((Below.refl _ _).alloc (Nat.le_refl _) _)).grow b1)
        have HQ1 := hidA ((HQ0.out.grow ((Below.refl _ _).alloc (Nat.le_refl _) _)).grow b1)
        have HQ2 := hidA ((Ok.Sq.made0 W3 0 0 0 _).grow b1)
        clear b1
        have hsz3 := HK.out.lt
        have hsz4 := HQ2.out.lt
        have hsz5 := HQ1.out.lt
        have r0 := HK.out.c0
        have r1 := HK.out.c1
        have r2 := HK.out.c2
        have r3 := HK.out.c3
        have r4 := HK.out.c4
        have fr := HK.out.fr
        have p0 := HQ1.out.c0
        have p1 := HQ1.out.c1
        have p2 := HQ1.out.c2
        have fp := HQ1.out.fr
        have q0 := HQ2.out.c0
        have q1 := HQ2.out.c1
        have q2 := HQ2.out.c2
        have fq := HQ2.out.fr
        go_wp2_with fail
        (try simp only [Exit.inBlock, Exit.then])
        refine bodyPost_ret (by simp [results, Tryd.results4, go_sem, r0, r1, r2, r3, r4]; rfl) rfl ?_
        refine ⟨rfl, ?_⟩
        have hbel := HK.out.bel
        have hk2 := HK2.out.lt
        clear HA HC
        repeat first
          | with_reducible exact hbel
          | (with_reducible refine Below.setCell ?_ ?_ _)
          | (with_reducible refine Below.alloc ?_ ?_ _)
        all_goals first
          | exact Nat.le_refl _
          | (show _ ≤ _; simp; done)
          | (show _ ≤ _; simp; omega)
    · rw [if_neg hlt] at hR hT
      rw [decide_eq_false hlt] at HC
      clear hlt HB hT
      rw [hR]
      clear hR
      go_enter Tryd.func4, Tryd.ntmps4
      go_wp2_with fail
      refine (HC.out _).mono ?_
      rintro e w1 ⟨rfl, b1⟩
      have HK1 := hidA ((Ok.Ky.made w _).grow b1)
      clear b1
      go_wp2_with fail
      refine (HA.out _).mono ?_
      rintro e w2 ⟨rfl, b1⟩
      have HK2 := hidA (HK1.out.grow b1)
      clear b1
      iterate 16 k1
      have HQ1 := hidA (Ok.Sq.made0 w2 f c F 35)
      have HK := hidA (HK2.out.grow (((Below.refl _ _).alloc (Nat.le_refl _) (.cells #[.int .i64 f, .int .i64 c, .int .i64 F] 35))))
      have hsz2 := HK2.out.lt
      generalize w2.alloc (.cells #[.int .i64 f, .int .i64 c, .int .i64 F] 35) = W3 at HQ1 HK ⊢
      have hsz := HK.out.lt
      have hsq := HQ1.out.lt
      have r0 := HK.out.c0
      have r1 := HK.out.c1
      have r2 := HK.out.c2
      have r3 := HK.out.c3
      have r4 := HK.out.c4
      have fr := HK.out.fr
      have p0 := HQ1.out.c0
      have p1 := HQ1.out.c1
      have p2 := HQ1.out.c2
      have fp := HQ1.out.fr
      iterate 44 k1
      have HK0 := HK
      have HQ0 := HQ1
      clear HK HQ1 r0 r1 r2 r3 r4 fr p0 p1 p2 fp
      have HK := hidA (HK0.out.grow ((Below.refl _ _).alloc (Nat.le_refl _) (.cells #[.int .i64 0, .int .i64 0, .int .i64 0] 35)))
      have HQ1 := hidA (HQ0.out.grow ((Below.refl _ _).alloc (Nat.le_refl _) (.cells #[.int .i64 0, .int .i64 0, .int .i64 0] 35)))
      have HQ2 := hidA (Ok.Sq.made0 W3 0 0 0 35)
      generalize W3.alloc (.cells #[.int .i64 0, .int .i64 0, .int .i64 0] 35) = W4 at HK HQ1 HQ2 ⊢
      have hsz3 := HK.out.lt
      have hsz4 := HQ2.out.lt
      have hsz5 := HQ1.out.lt
      have r0 := HK.out.c0
      have r1 := HK.out.c1
      have r2 := HK.out.c2
      have r3 := HK.out.c3
      have r4 := HK.out.c4
      have fr := HK.out.fr
      have p0 := HQ1.out.c0
      have p1 := HQ1.out.c1
      have p2 := HQ1.out.c2
      have fp := HQ1.out.fr
      have q0 := HQ2.out.c0
      have q1 := HQ2.out.c1
      have q2 := HQ2.out.c2
      have fq := HQ2.out.fr
      go_wp2_with fail
      (try simp only [Exit.inBlock, Exit.then])
      refine bodyPost_ret (by simp [results, Tryd.results4, go_sem, r0, r1, r2, r3, r4]; rfl) rfl ?_
      refine ⟨rfl, ?_⟩
      have hbel := HK.out.bel
      have hk2 := HK2.out.lt
      clear HA HC
      repeat first
        | with_reducible exact hbel
        | (with_reducible refine Below.setCell ?_ ?_ _)
        | (with_reducible refine Below.alloc ?_ ?_ _)
      all_goals first
        | exact Nat.le_refl _
        | (show _ ≤ _; simp; done)
        | (show _ ≤ _; simp; omega)
end Go.Proofs.YtladflfdpfpbpaaDoor
