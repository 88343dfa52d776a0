/- What DescCounts' loops go over: a process each of whose numbers leads to the root, opened for reading, or nowhere. Conditions: all lies in memory, apart. -/
import Derived.Test.YtkokejgaclabdaaGreatDoorPy2
import Derived.Test.YtkokejgaclabdaaGreatDoorShortP
import Derived.Test.YtkokejgaclabdaaGreatDoorM25
namespace Go.Proofs.YtkokejgaclabdaaGreatDoor
open Go.RowKit
theorem fdN_open (d : Nat → Option Addr) (i : Nat) (A : Addr) (hi : i < 16) (h0 : d i = none) : fdN (fun k => if k = i then some A else d k) = fdN d + 1 := by
  unfold fdN
  rw [usedL_cnt, usedL_cnt]
  have h := cnt_upd (fun j => (d j).isSome) i (by simp [h0]) 16
  rw [if_pos hi] at h
  rw [← h]
  apply Bt.cnt_congr
  intro j _
  simp only [upd]
  split <;> rfl
theorem fdN_shut (d : Nat → Option Addr) (i : Nat) (A : Addr) (hi : i < 16) (hA : d i = some A) : fdN (fun k => if k = i then none else d k) + 1 = fdN d := by
  have h := fdN_open (fun k => if k = i then none else d k) i A hi (by simp)
  rw [← h]
  congr 1
  funext k
  by_cases e : k = i
  · subst e; simp [hA]
  · simp [e]
/-- The root's numbers, with h holds. -/
def hF (h : Int) : Nat → Nat → Int := upd2 rF 0 4 h
theorem hF_upd (h v : Int) : upd2 (hF h) 0 4 v = hF v := by
  funext j k
  unfold hF upd2
  split <;> rfl
theorem hF4 (h : Int) : hF h 0 4 = h := by simp [hF, upd2]
theorem hFo (h : Int) (o : Nat) (ho : o ≠ 4) : hF h 0 o = rF 0 o := by simp [hF, upd2, ho]
theorem hF_0 (h : Int) : hF h 0 0 ≠ 0 := by rw [hFo h 0 (by decide)]; decide
theorem hF_m (h : Int) : bits .and .i64 (hF h 0 0) 61440 = 16384 := by rw [hFo h 0 (by decide)]; decide +kernel
theorem hF_a (h : Int) : accB (hF h 0 0) (hF h 0 1) 0 (memB 0 [] (hF h 0 2)) 4 = true := by rw [hFo h 0 (by decide), hFo h 1 (by decide), hFo h 2 (by decide)]; decide +kernel
theorem hF_3 (h : Int) : 0 < hF h 0 3 := by rw [hFo h 3 (by decide)]; decide
structure CS (w W : World) (P fb t q b c : Nat) (d : Nat → Option Addr) : Prop where
  a : PAt W P fb 0 0 none 0 0 1 d
  f : FsAt W fb t
  T : Tb W t q b c 8 8 0 (hF (1 + (fdN d : Nat))) rR (uK 1) rD
  o : ∀ i, i < 16 → ∀ A, d i = some A → ∃ D B : Nat, A = ⟨D, 0, none⟩ ∧ P < D ∧ P < B ∧ DAt W D (.iface 65 (.pointer (some ⟨B, 0, none⟩))) 1 ∧ FlAt W B fb 1 1 0
  inj : ∀ i j A, i < 16 → j < 16 → i ≠ j → d i = some A → d j ≠ some A
  lt : q < fb ∧ b < fb ∧ c < fb ∧ t < fb ∧ fb < P ∧ w.heap.size ≤ q ∧ w.heap.size ≤ P ∧ 1 < P ∧ 1 ≠ q
  M : Mod (fun _ => False) w W
section
variable {w W W' : World} {P fb t q b c : Nat} {d : Nat → Option Addr}
theorem CS.new (h : CS w W P fb t q b c d) (hM : Mod (fun _ => False) W W') : CS w W' P fb t q b c d where
  a := h.a.new hM
  f := (hM.cell (p := ⟨fb, 0, none⟩) (block_lt_of_cell h.f) (fun e => e)).trans h.f
  T := h.T.new hM
  o := fun i hi A hA => by
    obtain ⟨D, B, e, h1, h2, h3, h4⟩ := h.o i hi A hA
    exact ⟨D, B, e, h1, h2, h3.mod hM (fun e => e), h4.mod hM (fun e => e)⟩
  inj := h.inj
  lt := h.lt
  M := h.M.trans hM
theorem csOpen (h : CS w W P fb t q b c d) (j : Nat) (hj : j < 16) (h0 : d j = none) (h1 : ∀ i, i < j → d i ≠ none) (m : Int) :
    Calls Tryz.prog 6 #[.pointer (some ⟨P, 0, none⟩), .string ⟨#[47]⟩, .int .i64 1, .int .i64 m] W fun e W' => e = .returned (.tuple #[.int .i64 j, .int .i64 0]) ∧ ∃ D : Nat, CS w W' P fb t q b c (fun i => if i = j then some ⟨D, 0, none⟩ else d i) ∧ Mod (fun x => x = q ∨ x = P) W W' := by
  have hl := h.lt
  have hn := fdN_open d j ⟨0, 0, none⟩ hj h0
  have hle : fdN (fun k => if k = j then some (⟨0, 0, none⟩ : Addr) else d k) ≤ 16 := used_le16 _ 16
  refine (pOpenR (l := [47]) h.a j hj h0 (fun i hi => ?_) (by omega) m 1 (fun x => x = q) (fun e => by have e1 : P = q := e; omega) (fun w' => Tb w' t q b c 8 8 0 (hF (1 + ((fdN d + 1 : Nat) : Int))) rR (uK 1) rD) (fun W1 hM => ?_)).mono ?_
  · cases hd : d i with
    | none => exact absurd hd (h1 i hi)
    | some A =>
      obtain ⟨D, B, e, _⟩ := h.o i (by omega) A hd
      exact ⟨D, by rw [e]⟩
  · refine (openRoot (h.T.new hM) ((hM.cell (p := ⟨fb, 0, none⟩) (block_lt_of_cell h.f) (fun e => e)).trans h.f) (by omega) (hF_0 _) (hF_m _) (hF_a _) (by rw [hF4]; omega) m).mono ?_
    rintro e w' ⟨rfl, M', T'⟩
    refine ⟨rfl, M', ?_⟩
    rw [hF_upd, hF4] at T'
    rw [show (1 : Int) + ((fdN d + 1 : Nat) : Int) = 1 + (fdN d : Nat) + 1 by omega]
    exact T'
  · rintro e W' ⟨rfl, w5, B, D, M5, T5, M5', hB, hD, hBD, A', D', F'⟩
    have hs5 := M5.size
    have hP5 : P < w5.heap.size := Nat.lt_of_lt_of_le h.a.lt hs5
    refine ⟨rfl, D, ?_, (M5.mono (fun _ _ e => .inl e)).trans (M5'.mono (fun _ _ e => .inr e))⟩
    have hnD := fdN_open d j ⟨D, 0, none⟩ hj h0
    exact {
      a := A'
      f := (M5'.cell (p := ⟨fb, 0, none⟩) (Nat.lt_of_lt_of_le (block_lt_of_cell h.f) hs5) (fun e => by have e1 : fb = P := e; omega)).trans ((M5.cell (p := ⟨fb, 0, none⟩) (block_lt_of_cell h.f) (fun e => by have e1 : fb = q := e; omega)).trans h.f)
      T := by rw [hnD]; exact T5.mod M5' (by omega) (by omega) (by omega) (by omega) (by omega)
      o := fun i hi A hA => by
        by_cases e : i = j
        · rw [if_pos e] at hA
          exact ⟨D, B, (Option.some.inj hA).symm, by omega, by omega, D', F'⟩
        · rw [if_neg e] at hA
          obtain ⟨D0, B0, e0, p1, p2, p3, p4⟩ := h.o i hi A hA
          exact ⟨D0, B0, e0, p1, p2, (p3.mod M5 (fun e => by have e1 : D0 = q := e; omega)).mod M5' (fun e => by have e1 : D0 = P := e; omega), (p4.mod M5 (fun e => by have e1 : B0 = q := e; omega)).mod M5' (fun e => by have e1 : B0 = P := e; omega)⟩
      inj := fun i k A hi hk hne hA hB' => by
        have old : ∀ x, x < 16 → ∀ A, d x = some A → A.block < w5.heap.size := fun x hx A hA => by
          obtain ⟨D0, B0, e0, _, _, p3, _⟩ := h.o x hx A hA
          rw [e0]
          exact Nat.lt_of_lt_of_le p3.lt hs5
        by_cases e : i = j
        · rw [if_pos e] at hA
          rw [if_neg (by omega)] at hB'
          have h9 := old k hk A hB'
          rw [← Option.some.inj hA] at h9
          have h8 : D < w5.heap.size := h9
          omega
        · rw [if_neg e] at hA
          by_cases e2 : k = j
          · rw [if_pos e2] at hB'
            have h9 := old i hi A hA
            rw [← Option.some.inj hB'] at h9
            have h8 : D < w5.heap.size := h9
            omega
          · rw [if_neg e2] at hB'
            exact h.inj i k A hi hk hne hA hB'
      lt := h.lt
      M := (h.M.new6 M5 (fun x e => by have e1 : x = q := e; omega)).new6 M5' (fun x e => by have e1 : x = P := e; omega) }
theorem csClose (h : CS w W P fb t q b c d) (i : Nat) (hi : i < 16) (A : Addr) (hA : d i = some A) :
    Calls Tryz.prog 9 #[.pointer (some ⟨P, 0, none⟩), .int .i64 i] W fun e W' => e = .returned (.int .i64 0) ∧ CS w W' P fb t q b c (fun k => if k = i then none else d k) ∧ ∃ D : Nat, (∃ v, W.cell? ⟨D, 0, none⟩ = some (.iface 65 v)) ∧ Mod (fun x => x = P ∨ x = D ∨ x = q) W W' := by
  have hl := h.lt
  obtain ⟨D, B, rfl, p1, p2, p3, p4⟩ := h.o i hi A hA
  have hBD : B ≠ D := fun e => by
    subst e
    have := p3.c0.symm.trans p4.c0
    cases this
  have hn := fdN_shut d i ⟨D, 0, none⟩ hi hA
  have hle : fdN d ≤ 16 := used_le16 _ 16
  have hT2 : ∀ W2, Mod (fun x => x = P ∨ x = D) W W2 → Tb W2 t q b c 8 8 0 (hF (1 + (fdN d : Nat))) rR (uK 1) rD := fun W2 hM => h.T.mod hM (by omega) (by omega) (by omega) (by omega) (by omega)
  refine (pClose h.a i D hi hA _ (pDetachF h.a i D B hi hA p3 (by omega) q (fun w' => Tb w' t q b c 8 8 0 (hF (fdN d : Nat)) rR (uK 1) rD) (fun W1 hM1 => ?_))).mono ?_
  · have hf1 : FsAt W1 fb t := (hM1.cell (p := ⟨fb, 0, none⟩) (block_lt_of_cell h.f) (fun e => by have e1 : fb = P ∨ fb = D := e; omega)).trans h.f
    refine fEndF (p4.mod hM1 (fun e => by have e1 : B = P ∨ B = D := e; omega)) q (by omega) (fun w' => Tb w' t q b c 8 8 0 (hF (fdN d : Nat)) rR (uK 1) rD) (fun W2 hM2 => ?_)
    refine fsRelease ((hM2.cell (p := ⟨fb, 0, none⟩) (block_lt_of_cell hf1) (fun e => e)).trans hf1) 1 _ ((trelease_keep ((hT2 W1 hM1).new hM2) 0 (by omega) (hF_0 _) (by rw [hF4]; omega) (.inl (hF_3 _))).mono ?_)
    rintro e w' ⟨rfl, T', M'⟩
    refine ⟨rfl, M', ?_⟩
    rw [hF_upd, hF4, show (1 : Int) + (fdN d : Nat) - 1 = (fdN d : Nat) by omega] at T'
    exact T'
  · rintro e W' ⟨rfl, W1, A1, M1, M2, T2⟩
    refine ⟨rfl, ?_, D, ⟨_, p3.c0⟩, (M1.mono (fun _ _ e => by rcases e with e | e; exact .inl e; exact .inr (.inl e))).trans (M2.mono (fun _ _ e => .inr (.inr e)))⟩
    exact {
      a := A1.mod M2 (fun e => by have e1 : P = q := e; omega)
      f := (M2.cell (p := ⟨fb, 0, none⟩) (Nat.lt_of_lt_of_le (block_lt_of_cell h.f) M1.size) (fun e => by have e1 : fb = q := e; omega)).trans ((M1.cell (p := ⟨fb, 0, none⟩) (block_lt_of_cell h.f) (fun e => by have e1 : fb = P ∨ fb = D := e; omega)).trans h.f)
      T := by rw [show (1 : Int) + ((fdN fun k => if k = i then none else d k : Nat) : Int) = (fdN d : Nat) by omega]; exact T2
      o := fun k hk A hA' => by
        by_cases e : k = i
        · rw [if_pos e] at hA'; cases hA'
        · rw [if_neg e] at hA'
          obtain ⟨D0, B0, e0, q1, q2, q3, q4⟩ := h.o k hk A hA'
          have hDD : D0 ≠ D := fun e1 => h.inj k i A hk hi e hA' (by rw [hA, e0, e1])
          have hB0 : B0 ≠ D := fun e1 => by
            subst e1
            have := p3.c0.symm.trans q4.c0
            cases this
          exact ⟨D0, B0, e0, q1, q2, (q3.mod M1 (fun e => by have e1 : D0 = P ∨ D0 = D := e; omega)).mod M2 (fun e => by have e1 : D0 = q := e; omega), (q4.mod M1 (fun e => by have e1 : B0 = P ∨ B0 = D := e; omega)).mod M2 (fun e => by have e1 : B0 = q := e; omega)⟩
      inj := fun x y A hx hy hne hA' hB' => by
        by_cases e : x = i
        · rw [if_pos e] at hA'; cases hA'
        · rw [if_neg e] at hA'
          by_cases e2 : y = i
          · rw [if_pos e2] at hB'; cases hB'
          · rw [if_neg e2] at hB'
            exact h.inj x y A hx hy hne hA' hB'
      lt := h.lt
      M := (h.M.new6 M1 (fun x e => by have e1 : x = P ∨ x = D := e; omega)).new6 M2 (fun x e => by have e1 : x = q := e; omega) }
end
/-- Sixteen bools in memory. -/
structure GAt (W : World) (B : Nat) (gn : Nat → Bool) : Prop where
  c : ∀ i, i < 16 → W.cell? ⟨B, i, none⟩ = some (.bool (gn i))
  fr : ∀ o, W.frozen? ⟨B, o, none⟩ = false
theorem GAt.lt {W : World} {B : Nat} {gn : Nat → Bool} (h : GAt W B gn) : B < W.heap.size := block_lt_of_cell (h.c 0 (by omega))
theorem GAt.mod {W W' : World} {B : Nat} {gn : Nat → Bool} (h : GAt W B gn) {s : Nat → Prop} (hM : Mod s W W') (hs : ¬ s B) : GAt W' B gn where
  c := fun i hi => (hM.cell (p := ⟨B, i, none⟩) h.lt hs).trans (h.c i hi)
  fr := fun o => (hM.frozen (p := ⟨B, o, none⟩) h.lt hs).trans (h.fr o)
theorem GAt.set {W : World} {B : Nat} {gn : Nat → Bool} (h : GAt W B gn) (i : Nat) (hi : i < 16) (x : Bool) : GAt (W.setCell ⟨B, i, none⟩ (.bool x)) B (upd gn i x) where
  c := fun j hj => by
    by_cases e : j = i
    · subst e
      rw [show upd gn j x j = x by simp [upd]]
      exact World.cell?_setCell_same _ _ _ (h.c j hj)
    · rw [show upd gn i x j = gn j by simp [upd, e], setCell_out _ _ _ _ _ (fun _ e' => e (by have h1 : j = i := e'; exact h1))]
      exact h.c j hj
  fr := fun o => by have := h.fr o; simp [go_sem, this]
theorem GAt.box (W : World) (T : TypeId) : GAt (W.alloc (.cells #[.bool false, .bool false, .bool false, .bool false, .bool false, .bool false, .bool false, .bool false, .bool false, .bool false, .bool false, .bool false, .bool false, .bool false, .bool false, .bool false] T)) W.heap.size (fun _ => false) where
  c := fun i hi => by
    rw [World.cell?_alloc_at _ _ _ _ rfl]
    obtain rfl | rfl | rfl | rfl | rfl | rfl | rfl | rfl | rfl | rfl | rfl | rfl | rfl | rfl | rfl | rfl : i = 0 ∨ i = 1 ∨ i = 2 ∨ i = 3 ∨ i = 4 ∨ i = 5 ∨ i = 6 ∨ i = 7 ∨ i = 8 ∨ i = 9 ∨ i = 10 ∨ i = 11 ∨ i = 12 ∨ i = 13 ∨ i = 14 ∨ i = 15 := by omega
    all_goals rfl
  fr := fun o => World.frozen?_alloc_at _ _ _ _ rfl
theorem CS.set {w W : World} {P fb t q b c : Nat} {d : Nat → Option Addr} (h : CS w W P fb t q b c d) {B : Nat} {gn : Nat → Bool} (hg : GAt W B gn) (hB : P < B) (i : Nat) (v : Value) : CS w (W.setCell ⟨B, i, none⟩ v) P fb t q b c d := by
  have hl := h.lt
  have hM : Mod (fun x => x = B) W (W.setCell ⟨B, i, none⟩ v) := (Mod.refl _ _).setCell _ _ rfl
  have g0 := hg.c 0 (by omega)
  exact {
    a := h.a.mod hM (fun e => by have e1 : P = B := e; omega)
    f := (hM.cell (p := ⟨fb, 0, none⟩) (block_lt_of_cell h.f) (fun e => by have e1 : fb = B := e; omega)).trans h.f
    T := h.T.mod hM (by omega) (by omega) (by omega) (by omega) (by omega)
    o := fun i hi A hA => by
      obtain ⟨D, B0, e, h1, h2, h3, h4⟩ := h.o i hi A hA
      refine ⟨D, B0, e, h1, h2, h3.mod hM (fun e => ?_), h4.mod hM (fun e => ?_)⟩
      · have e1 : D = B := e
        subst e1
        have := g0.symm.trans h3.c0
        cases this
      · have e1 : B0 = B := e
        subst e1
        have := g0.symm.trans h4.c0
        cases this
    inj := h.inj
    lt := h.lt
    M := h.M.new6 hM (fun x e => by have e1 : x = B := e; omega) }
theorem fd_full (d : Nat → Option Addr) (h : ∀ x, x < 16 → d x ≠ none) : fdN d = 16 := by
  unfold fdN
  rw [usedL_cnt]
  exact cnt_all _ 16 (fun i hi => by
    show (d i).isSome = true
    cases e : d i with
    | none => exact absurd e (h i hi)
    | some A => rfl)
end Go.Proofs.YtkokejgaclabdaaGreatDoor
