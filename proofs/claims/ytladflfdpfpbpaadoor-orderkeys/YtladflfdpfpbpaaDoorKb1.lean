/- The walk of the program's end of a key. Condition: a text that fits. -/
import Derived.Test.YtladflfdpfpbpaaDoorKa6
import Derived.Test.YtladflfdpfpbpaaDoorKa3
import Derived.Test.YtladflfdpfpbpaaDoorKa4
namespace Go.Proofs.YtladflfdpfpbpaaDoor
open Go.RowKit
attribute [local go_sem] ext_eq app_eq get_eq
namespace Ok
theorem hp46 (t : List UInt8) : Lib.hasPrefix t [46] = decide (t.head? = some 46) := by
  cases t with
  | nil => rfl
  | cons c r => rw [Bool.eq_iff_iff]; simp [Lib.hasPrefix]; exact ⟨Eq.symm, Eq.symm⟩
theorem tp46 {t : List UInt8} (h : t.head? = some 46) : Lib.trimPrefix t [46] = t.tail := by
  unfold Lib.trimPrefix
  rw [hp46, decide_eq_true h]
  cases t with
  | nil => rfl
  | cons c r => rfl
theorem LN_len (s : List UInt8) : (LN s).2.1.length ≤ s.length := by
  unfold LN
  split
  · show (s.drop _).length ≤ _; rw [List.length_drop]; omega
  · exact Nat.zero_le _
/-- A memory with a spot of zeros in its first new block. -/
structure Sp (w W : World) : Prop where
  bel : Below w.heap.size w W
  lt : w.heap.size < W.heap.size
  c0 : W.cell? ⟨w.heap.size, 0, none⟩ = some (.int .i64 0)
  c1 : W.cell? ⟨w.heap.size, 1, none⟩ = some (.int .i64 0)
  c2 : W.cell? ⟨w.heap.size, 2, none⟩ = some (.int .i64 0)
  fr : ∀ o, W.frozen? ⟨w.heap.size, o, none⟩ = false
theorem Sp.grow {w W W' : World} (h : Sp w W) (b : Below W.heap.size W W') : Sp w W' where
  bel := bl2 h.bel (by have := h.lt; exact b)
  lt := Nat.lt_of_lt_of_le h.lt b.size
  c0 := (b.cell (p := ⟨w.heap.size, 0, none⟩) h.lt).trans h.c0
  c1 := (b.cell (p := ⟨w.heap.size, 1, none⟩) h.lt).trans h.c1
  c2 := (b.cell (p := ⟨w.heap.size, 2, none⟩) h.lt).trans h.c2
  fr := fun o => (b.frozen (p := ⟨w.heap.size, o, none⟩) h.lt).trans (h.fr o)
theorem Sp.made (w : World) (T : TypeId) : Sp w (w.alloc (.cells #[.int .i64 0, .int .i64 0, .int .i64 0] T)) where
  bel := (Below.refl _ _).alloc (Nat.le_refl _) _
  lt := by simp
  c0 := World.cell?_alloc_at _ _ _ _ rfl
  c1 := World.cell?_alloc_at _ _ _ _ rfl
  c2 := World.cell?_alloc_at _ _ _ _ rfl
  fr := fun o => World.frozen?_alloc_at _ _ _ _ rfl
theorem Sp.set {w W : World} (h : Sp w W) (x y z : Value) : Below w.heap.size w (((W.setCell ⟨w.heap.size, 0, none⟩ x).setCell ⟨w.heap.size, 1, none⟩ y).setCell ⟨w.heap.size, 2, none⟩ z) :=
  ((h.bel.setCell (Nat.le_refl _) _).setCell (Nat.le_refl _) _).setCell (Nat.le_refl _) _
end Ok
set_option maxRecDepth 100000 in
set_option maxHeartbeats 4000000 in
theorem kSP (s : List UInt8) (c : Int) (hs : s.length ≤ 2 ^ 60) (w : World) : Calls Tryd.prog 9 #[.string ⟨s.toArray⟩, .int .i64 c] w fun e w' => e = .returned (.tuple #[.agg #[.int .i64 (Ok.SP s c).1, .int .i64 (Ok.SP s c).2.1, .int .i64 (Ok.SP s c).2.2.1], .bool (Ok.SP s c).2.2.2]) ∧ Below w.heap.size w w' := by
  have HL := hidA (fun W => kLN s hs W)
  have hle := Ok.LN_len s
  have hR : Ok.SP s c = Ok.SP s c := rfl
  conv at hR => rhs; unfold Ok.SP
  rcases hp : Ok.LN s with ⟨f, t, ok⟩
  rw [hp] at HL hR hle
  clear hp
  dsimp only at HL hR hle
  have ht : t.length ≤ 2 ^ 60 := by omega
  clear hle hs
  cases ok with
  | false =>
    rw [if_pos (.inl rfl)] at hR
    rw [hR]
    clear hR
    go_enter Tryd.func9, Tryd.ntmps9
    go_wp2_with fail
    refine (HL.out _).mono ?_
    rintro e w1 ⟨rfl, b1⟩
    have HS := hidA ((Ok.Sp.made w _).grow b1)
    clear b1
    have hsz := HS.out.lt
    have r0 := HS.out.c0
    have r1 := HS.out.c1
    have r2 := HS.out.c2
    have fr := HS.out.fr
    go_wp2_with fail
    (try simp only [Exit.inBlock, Exit.then])
    refine bodyPost_ret (by simp [results, Tryd.results9, go_sem, r0, r1, r2]; rfl) rfl ?_
    exact ⟨rfl, HS.out.set _ _ _⟩
  | true =>
  by_cases hf : f = 0
  · subst hf
    rw [if_pos (.inr rfl)] at hR
    rw [hR]
    clear hR
    go_enter Tryd.func9, Tryd.ntmps9
    go_wp2_with fail
    refine (HL.out _).mono ?_
    rintro e w1 ⟨rfl, b1⟩
    have HS := hidA ((Ok.Sp.made w _).grow b1)
    clear b1
    have hsz := HS.out.lt
    have r0 := HS.out.c0
    have r1 := HS.out.c1
    have r2 := HS.out.c2
    have fr := HS.out.fr
    go_wp2_with fail
    (try simp only [Exit.inBlock, Exit.then])
    refine bodyPost_ret (by simp [results, Tryd.results9, go_sem, r0, r1, r2]; rfl) rfl ?_
    exact ⟨rfl, HS.out.set _ _ _⟩
  have e1 : ((f : Int) == 0) = false := by rw [beq_eq_false_iff_ne]; omega
  rw [if_neg (fun h => h.elim (fun h => by cases h) hf)] at hR
  clear hf
  have HC : Hid (∀ W, Calls Tryd.prog 16 #[.string ⟨t.toArray⟩, .string ⟨#[46]⟩] W fun e w' => e = .returned (.tuple #[.string ⟨(Lib.trimPrefix t [46]).toArray⟩, .bool (Lib.hasPrefix t [46])]) ∧ w' = W) := fun W => Tryd.strings_CutPrefix ⟨t.toArray⟩ ⟨#[46]⟩ W
  by_cases h46 : t.head? = some 46
  · rw [Ok.hp46, Ok.tp46 h46, decide_eq_true h46] at HC
    rw [if_pos h46] at hR
    have ht1 : t.tail.length ≤ 2 ^ 60 := by rw [List.length_tail]; omega
    clear h46
    generalize t.tail = u at *
    have HL2 := hidA (fun W => kLN u ht1 W)
    have hle := Ok.LN_len u
    rcases hp : Ok.LN u with ⟨g, v, ok⟩
    rw [hp] at HL2 hR hle
    clear hp
    dsimp only at HL2 hR hle
    have hv : v.length ≤ 2 ^ 60 := by omega
    clear hle
    cases ok with
    | false =>
      rw [if_pos rfl] at hR
      rw [hR]
      clear hR
      go_enter Tryd.func9, Tryd.ntmps9
      go_wp2_with fail
      refine (HL.out _).mono ?_
      rintro e w1 ⟨rfl, b1⟩
      have HS0 := hidA ((Ok.Sp.made w _).grow b1)
      clear b1
      go_wp2_with fail
      refine (HC.out _).mono ?_
      rintro e w2 ⟨rfl, hw2⟩
      rw [hw2]
      clear hw2 w2
      go_wp2_with fail
      refine (HL2.out _).mono ?_
      rintro e w2 ⟨rfl, b1⟩
      have HS := hidA (HS0.out.grow b1)
      clear b1
      have hsz := HS.out.lt
      have r0 := HS.out.c0
      have r1 := HS.out.c1
      have r2 := HS.out.c2
      have fr := HS.out.fr
      go_wp2_with fail
      (try simp only [Exit.inBlock, Exit.then])
      refine bodyPost_ret (by simp [results, Tryd.results9, go_sem, r0, r1, r2]; rfl) rfl ?_
      exact ⟨rfl, HS.out.set _ _ _⟩
    | true =>
      rw [if_neg (fun h => by cases h)] at hR
      have HF := hidA (fun W => kLF v hv W)
      have hG : Ok.SP s c = (f, (g : Int), (if v.all Ok.lt then Ok.fl v else 0), v.all Ok.lt) := hR
      rw [hG]
      clear hG hR
      generalize (if v.all Ok.lt then Ok.fl v else 0) = F at *
      generalize v.all Ok.lt = ok at *
      go_enter Tryd.func9, Tryd.ntmps9
      go_wp2_with fail
      refine (HL.out _).mono ?_
      rintro e w1 ⟨rfl, b1⟩
      have HS0 := hidA ((Ok.Sp.made w _).grow b1)
      clear b1
      go_wp2_with fail
      refine (HC.out _).mono ?_
      rintro e w2 ⟨rfl, hw2⟩
      rw [hw2]
      clear hw2 w2
      go_wp2_with fail
      refine (HL2.out _).mono ?_
      rintro e w2 ⟨rfl, b1⟩
      have HS1 := hidA (HS0.out.grow b1)
      clear b1
      go_wp2_with fail
      refine (HF.out _).mono ?_
      rintro e w3 ⟨rfl, b1⟩
      have HS := hidA (HS1.out.grow b1)
      clear b1
      have hsz := HS.out.lt
      have r0 := HS.out.c0
      have r1 := HS.out.c1
      have r2 := HS.out.c2
      have fr := HS.out.fr
      go_wp2_with fail
      (try simp only [Exit.inBlock, Exit.then])
      refine bodyPost_ret (by simp [results, Tryd.results9, go_sem, r0, r1, r2]; rfl) rfl ?_
      exact ⟨rfl, HS.out.set _ _ _⟩
  · rw [Ok.hp46, decide_eq_false h46] at HC
    rw [if_neg h46] at hR
    clear h46
    have HF := hidA (fun W => kLF t ht W)
    have hG : Ok.SP s c = (f, c, (if t.all Ok.lt then Ok.fl t else 0), t.all Ok.lt) := hR
    rw [hG]
    clear hG hR
    generalize (if t.all Ok.lt then Ok.fl t else 0) = F at *
    generalize t.all Ok.lt = ok at *
    generalize Lib.trimPrefix t [46] = u at *
    go_enter Tryd.func9, Tryd.ntmps9
    go_wp2_with fail
    refine (HL.out _).mono ?_
    rintro e w1 ⟨rfl, b1⟩
    have HS0 := hidA ((Ok.Sp.made w _).grow b1)
    clear b1
    go_wp2_with fail
    refine (HC.out _).mono ?_
    rintro e w2 ⟨rfl, hw2⟩
    rw [hw2]
    clear hw2 w2
    go_wp2_with fail
    refine (HF.out _).mono ?_
    rintro e w3 ⟨rfl, b1⟩
    have HS := hidA (HS0.out.grow b1)
    clear b1
    have hsz := HS.out.lt
    have r0 := HS.out.c0
    have r1 := HS.out.c1
    have r2 := HS.out.c2
    have fr := HS.out.fr
    go_wp2_with fail
    (try simp only [Exit.inBlock, Exit.then])
    refine bodyPost_ret (by simp [results, Tryd.results9, go_sem, r0, r1, r2]; rfl) rfl ?_
    exact ⟨rfl, HS.out.set _ _ _⟩
end Go.Proofs.YtladflfdpfpbpaaDoor
