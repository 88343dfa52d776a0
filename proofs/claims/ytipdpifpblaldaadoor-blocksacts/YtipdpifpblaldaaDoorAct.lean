/- The walk of act: one call on the store and on the plain list; both answer the same, and stay alike. Conditions: they are alike; the call's bytes can be read and lie elsewhere. -/
import Derived.Test.YtipdpifpblaldaaDoorRf
import Derived.Test.YtipdpifpblaldaaDoorCopy
namespace Go.Proofs.YtipdpifpblaldaaDoor
open Go.RowKit
/-- The store and the plain list are alike; all their blocks lie from B0 on. -/
structure J (w : World) (B0 b c tb n : Nat) (u : Nat → Bool) (D : Nat → Nat) (F : Nat → Prop) : Prop where
  S : St w b c n u D
  R : ∃ ob co yb cy R, Rf w tb n u D F ob co yb cy R
  nb : ¬ F b
  nc : ¬ F c
  fB : ∀ k, F k → B0 ≤ k
  bB : B0 ≤ b
  cB : B0 ≤ c
  BB : B0 ≤ w.heap.size
theorem J.mod {w w' : World} {B0 b c tb n : Nat} {u : Nat → Bool} {D : Nat → Nat} {F : Nat → Prop} (j : J w B0 b c tb n u D F) (m : Mod (fun _ => False) w w') : J w' B0 b c tb n u D F := by
  obtain ⟨ob, co, yb, cy, R, hR⟩ := j.R
  exact ⟨j.S.mod m (fun h => h) (fun h => h) (fun h => h), ⟨ob, co, yb, cy, R, hR.mod m (fun _ _ h => h)⟩, j.nb, j.nc, j.fB, j.bB, j.cB, Nat.le_trans j.BB m.size⟩
theorem J.b0 {w : World} {B0 b c tb n : Nat} {u : Nat → Bool} {D : Nat → Nat} {F : Nat → Prop} (j : J w B0 b c tb n u D F) : ¬ F 0 := by
  obtain ⟨ob, co, yb, cy, R, hR⟩ := j.R; exact hR.f0
theorem J.sB {w : World} {B0 b c tb n : Nat} {u : Nat → Bool} {D : Nat → Nat} {F : Nat → Prop} (j : J w B0 b c tb n u D F) (k : Nat) (h : k = b ∨ k = c ∨ F k) : B0 ≤ k := by
  rcases h with h | h | h
  · rw [h]; exact j.bB
  · rw [h]; exact j.cB
  · exact j.fB k h
theorem Mod.further2 {s s' : Nat → Prop} {a b c : World} (h : Mod s a b) (k : Mod s' b c) (hs : ∀ i, i < a.heap.size → s' i → s i) : Mod s a c :=
  ⟨k.os.trans h.os, k.tape.trans h.tape, k.output.trans h.output, Nat.le_trans h.size k.size, fun i hi hn => (k.block i (Nat.lt_of_lt_of_le hi h.size) (fun e => hn (hs i hi e))).trans (h.block i hi hn)⟩
theorem least_free (u : Nat → Bool) : ∀ n, (∃ i, i < n ∧ u i = false ∧ ∀ j, j < i → u j = true) ∨ ∀ i, i < n → u i = true
  | 0 => .inr fun i hi => by omega
  | n + 1 => by
    rcases least_free u n with ⟨i, h1, h2, h3⟩ | h
    · exact .inl ⟨i, by omega, h2, h3⟩
    · cases hu : u n with
      | false => exact .inl ⟨n, by omega, hu, h⟩
      | true =>
        refine .inr fun i hi => ?_
        by_cases e : i = n
        · rw [e]; exact hu
        · exact h i (by omega)
theorem blk_free {w : World} {b c n : Nat} {u : Nat → Bool} {D : Nat → Nat} (S : St w b c n u D) (i : Nat) (hi : i < n) (hu : u i = false) : blk D i = zeros := by
  have : blk D i = (List.range 64).map fun _ => 0 := List.map_congr_left fun j hj => S.free i hi hu j (List.mem_range.1 hj)
  rw [this]; rfl
/-- What a call of 'act' owes. -/
def ActOk (B0 b c tb n : Nat) (F0 : Nat → Prop) (w : World) (e : Ending) (w' : World) : Prop := e = .returned (.bool true) ∧ ∃ u D F, J w' B0 b c tb n u D F ∧ Mod (fun k => k = b ∨ k = c ∨ F0 k) w w'
section
variable {w : World} {B0 b c tb n : Nat} {u : Nat → Bool} {D : Nat → Nat} {F : Nat → Prop}
set_option maxHeartbeats 1000000 in
theorem act_alloc (j : J w B0 b c tb n u D F) (kd i t : Int) (v : Value) (hk : kd = 0) : Calls Tryd.prog 10 #[.pointer (some ⟨b, 0, none⟩), .pointer (some ⟨tb, 0, none⟩), .agg #[.int .i64 kd, .int .i64 i, .int .i64 t, v]] w (ActOk B0 b c tb n F w) := by
  subst hk
  have HJ : Hid (J (w.alloc (.cells #[.int .i64 0, .int .i64 i, .int .i64 t, v] 35)) B0 b c tb n u D F) := j.mod ((Mod.refl _ w).alloc _)
  have hn2 := j.S.n2
  clear j
  rcases least_free u n with ⟨i0, h1, h2, h3⟩ | hall
  · have H2 : Hid (u i0 = false) := h2
    have H3 : Hid (∀ j, j < i0 → u j = true) := h3
    clear h2 h3
    go_enter Tryd.func10, Tryd.ntmps10
    go_wp2_with fail
    refine (HJ.out.S.alloc_some i0 h1 H2.out H3.out).mono ?_
    rintro e w1 ⟨rfl, S1, M1, -⟩
    obtain ⟨ob, co, yb, cy, R, hR⟩ := HJ.out.R
    have HR1 : Hid (Rf w1 tb n u D F ob co yb cy R) := hR.mod M1 (fun k hk e => HJ.out.nb (e ▸ hk))
    have HS1 : Hid (St w1 b c n (upd u i0 true) D) := S1
    have HM1 : Hid (Mod (fun k => k = b ∨ k = c ∨ F k) w w1) := (((Mod.refl _ w).alloc _).trans (M1.mono (fun k _ e => .inl e)))
    have hs1 := M1.size
    clear S1 hR M1
    go_wp2_with fail
    refine (HR1.out.alloc_some i0 h1 hn2 H2.out H3.out (blk_free HJ.out.S i0 h1 H2.out)).mono ?_
    rintro e w2 ⟨rfl, R2, M2⟩
    have HR2 : Hid (Rf w2 tb n (upd u i0 true) D (fun k => F k ∨ k = w1.heap.size) ob co yb cy (upd R i0 w1.heap.size)) := R2
    have HM2 : Hid (Mod F w1 w2) := M2
    clear R2 M2
    go_wp2_with fail
    go_ret
    have hb := HS1.out.lt_b
    have hc := HS1.out.lt_c
    have hB := HJ.out.BB
    refine ⟨by simp, _, _, _, ⟨HS1.out.mod HM2.out HJ.out.b0 HJ.out.nb HJ.out.nc, ⟨ob, co, yb, cy, _, HR2.out⟩, fun h => ?_, fun h => ?_, fun k h => ?_, HJ.out.bB, HJ.out.cB, Nat.le_trans hB (Nat.le_trans hs1 HM2.out.size)⟩, HM1.out.trans (HM2.out.mono (fun k _ h => .inr (.inr h)))⟩
    · rcases h with h | h
      · exact HJ.out.nb h
      · omega
    · rcases h with h | h
      · exact HJ.out.nc h
      · omega
    · rcases h with h | h
      · exact HJ.out.fB k h
      · omega
  · have HA : Hid (∀ i, i < n → u i = true) := hall
    clear hall
    go_enter Tryd.func10, Tryd.ntmps10
    go_wp2_with fail
    refine (HJ.out.S.alloc_full HA.out).mono ?_
    rintro e w1 ⟨rfl, hw1⟩
    rw [hw1]
    clear hw1 w1
    go_wp2_with fail
    obtain ⟨ob, co, yb, cy, R, hR⟩ := HJ.out.R
    refine (hR.alloc_full hn2 HA.out).mono ?_
    rintro e w1 ⟨rfl, hw1⟩
    rw [hw1]
    clear hw1 w1 hR
    go_wp2_with fail
    go_ret
    exact ⟨by simp, u, D, F, HJ.out, (Mod.refl _ w).alloc _⟩
end
end Go.Proofs.YtipdpifpblaldaaDoor
