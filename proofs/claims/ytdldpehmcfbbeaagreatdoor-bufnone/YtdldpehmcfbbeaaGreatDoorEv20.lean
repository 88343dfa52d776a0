/- A region that draws its order, in whatever order: what is kept while it runs. No condition. -/
import Derived.Test.YtdldpehmcfbbeaaGreatDoorEv19
namespace Go.Proofs.YtdldpehmcfbbeaaGreatDoor.Ev
variable {P : Program} {G : Nat}
theorem greatest {p : Nat → Prop} : ∀ (N : Nat), (∃ m, m < N ∧ p m) → ∃ m, m < N ∧ p m ∧ ∀ m', m' < N → p m' → m' ≤ m
  | 0, ⟨m, h, _⟩ => by omega
  | N + 1, ⟨m, h, hp⟩ => by
    by_cases hN : p N
    · exact ⟨N, by omega, hN, fun m' h _ => by omega⟩
    · obtain ⟨m2, a1, a2, a3⟩ := greatest (p := p) N ⟨m, by (rcases Nat.lt_or_ge m N with h' | h'; exact h'; (have : m = N := by omega); rw [this] at hp; exact (hN hp).elim), hp⟩
      refine ⟨m2, by omega, a2, fun m' h1 h2 => ?_⟩
      rcases Nat.lt_or_ge m' N with h' | h'
      · exact a3 m' h' h2
      · have : m' = N := by omega
        rw [this] at h2
        exact (hN h2).elim
/-- x was written by one of those that are done. -/
def Wt (N : Nat) (S : Nat → Prop) (wm : Nat → Nat) (x : Nat) : Prop := ∃ m, m < N ∧ S m ∧ On (wm m) x
/-- What stands at x: what its last writer among those that are done laid there, or what stood there first. -/
def Cont {α : Type} (N : Nat) (S : Nat → Prop) (wm : Nat → Nat) (gt : Nat → Nat → Option α) (x : Nat) (o : α) : Prop :=
  (∃ m, m < N ∧ (S m ∧ On (wm m) x) ∧ (∀ m', m' < N → S m' ∧ On (wm m') x → m' ≤ m) ∧ gt (m + 1) x = some o) ∨ (¬ Wt N S wm x ∧ gt 0 x = some o)
theorem down {α : Type} {N : Nat} {wm : Nat → Nat} {gt : Nat → Nat → Option α} (hold : ∀ j, j < N → ∀ x o, ¬ On (wm j) x → gt (j + 1) x = some o → gt j x = some o) {x : Nat} {o : α} {a : Nat} : ∀ (b : Nat), a ≤ b → b ≤ N → (∀ m, a ≤ m → m < b → ¬ On (wm m) x) → gt b x = some o → gt a x = some o
  | 0, hab, _, _, h => by (have : a = 0 := by omega); rw [this]; exact h
  | b + 1, hab, hb, hno, h => by
    by_cases e : a = b + 1
    · rw [e]; exact h
    · exact down hold b (by omega) (by omega) (fun m h1 h2 => hno m h1 (by omega)) (hold b (by omega) x o (hno b (by omega) (by omega)) h)
/-- An operation that is ordered with all who write x finds there what it found in the written order. -/
theorem Cont.read {α : Type} {N : Nat} {S : Nat → Prop} {wm : Nat → Nat} {gt : Nat → Nat → Option α} (hold : ∀ j, j < N → ∀ x o, ¬ On (wm j) x → gt (j + 1) x = some o → gt j x = some o) {x i : Nat} (hi : i ≤ N) (hA : ∀ m, m < i → On (wm m) x → S m) (hB : ∀ m, m < N → S m → On (wm m) x → m < i) {o : α} (h : gt i x = some o) : Cont N S wm gt x o := by
  by_cases hw : Wt N S wm x
  · obtain ⟨m, a1, a2, a3⟩ := greatest (p := fun m => S m ∧ On (wm m) x) N hw
    have hmi := hB m a1 a2.1 a2.2
    refine .inl ⟨m, a1, a2, a3, down hold i (by omega) hi (fun m' h1 h2 h3 => ?_) h⟩
    have := a3 m' (by omega) ⟨hA m' h2 h3, h3⟩
    omega
  · refine .inr ⟨hw, down hold i (Nat.zero_le _) hi (fun m' _ h2 h3 => ?_) h⟩
    exact hw ⟨m', by omega, hA m' h2 h3, h3⟩
/-- One more is done: where it wrote, its own answer stands; elsewhere what stood. -/
theorem Cont.step {α : Type} {N : Nat} {S : Nat → Prop} {wm : Nat → Nat} {gt : Nat → Nat → Option α} {i : Nat} (hi : i < N) {x : Nat} {o : α} (h : Cont N (fun m => S m ∨ m = i) wm gt x o) (hB : On (wm i) x → ∀ m, m < N → S m → On (wm m) x → m ≤ i) :
    (On (wm i) x ∧ gt (i + 1) x = some o) ∨ (¬ On (wm i) x ∧ Cont N S wm gt x o) := by
  by_cases hw : On (wm i) x
  · refine .inl ⟨hw, ?_⟩
    rcases h with ⟨m, a1, a2, a3, a4⟩ | ⟨h1, _⟩
    · have h2 := a3 i hi ⟨.inr rfl, hw⟩
      have h3 : m ≤ i := a2.1.elim (fun hs => hB hw m a1 hs a2.2) (fun e => Nat.le_of_eq e)
      obtain rfl : m = i := by omega
      exact a4
    · exact (h1 ⟨i, hi, .inr rfl, hw⟩).elim
  · refine .inr ⟨hw, ?_⟩
    rcases h with ⟨m, a1, a2, a3, a4⟩ | ⟨h1, h2⟩
    · refine .inl ⟨m, a1, ⟨a2.1.elim id fun e => (hw (e ▸ a2.2)).elim, a2.2⟩, fun m' h1 h2 => a3 m' h1 ⟨.inl h2.1, h2.2⟩, a4⟩
    · exact .inr ⟨fun ⟨m, b1, b2, b3⟩ => h1 ⟨m, b1, .inl b2, b3⟩, h2⟩
theorem wt_step {N : Nat} {S : Nat → Prop} {wm : Nat → Nat} {i x : Nat} (h : Wt N (fun m => S m ∨ m = i) wm x) : On (wm i) x ∨ Wt N S wm x := by
  obtain ⟨m, a1, a2, a3⟩ := h
  rcases a2 with a2 | e
  · exact .inr ⟨m, a1, a2, a3⟩
  · exact .inl (e ▸ a3)
/-- What is kept while the region runs: S are done. -/
structure Inv (G N n : Nat) (Hh : Nat → Hp) (Th : Nat → LL) (ww dm : Nat → Nat) (R : Nat → Prop) (ρ0 : Env) (w0 : World) (S : Nat → Prop) (ρ : Env) (w : World) (tm : Array Value) : Prop where
  sat : ∀ x o, (R x ∨ Wt N S ww x) → Cont N S ww (fun j x => (Hh j).tr.get x) x o → ∃ k ob, ρ x = some k ∧ w.heap[k.b]? = some ob ∧ SatO ρ k o ob
  inj : ∀ x y o o' k k', (R x ∨ Wt N S ww x) → (R y ∨ Wt N S ww y) → Cont N S ww (fun j x => (Hh j).tr.get x) x o → Cont N S ww (fun j x => (Hh j).tr.get x) y o' → ρ x = some k → ρ y = some k' → k.b = k'.b → x = y
  glob : ∀ g, g < G → ∃ K, ρ g = some ⟨g, 0, K⟩
  low : ∀ x k, ρ x = some k → k.b < w.heap.size
  le : ρ0.Le ρ
  new : ∀ x k, ρ0 x = none → ρ x = some k → (∃ m, m < N ∧ S m ∧ (Hh m).next ≤ x ∧ x < (Hh (m + 1)).next) ∧ (w0.heap.size ≤ k.b ∨ ∃ y o ky, Wt N S ww y ∧ (Hh 0).tr.get y = some o ∧ ρ0 y = some ky ∧ ky.b = k.b)
  size : w0.heap.size ≤ w.heap.size
  same : ∀ b, b < w0.heap.size → (∀ x o k, Wt N S ww x → (Hh 0).tr.get x = some o → ρ0 x = some k → k.b ≠ b) → w.heap[b]? = w0.heap[b]?
  rest : w.os = w0.os ∧ w.tape = w0.tape ∧ w.output = w0.output
  own : ∀ x, Wt N S ww x → (R x ∨ ((Hh 0).next ≤ x ∧ x < (Hh N).next)) ∧ G ≤ x
  tsz : tm.size = n
  tmv : ∀ t v, Cont N S dm (fun j t => (Th j).get t) t v → ∃ r, tm[t]? = some r ∧ VR ρ v r
/-- What the written order tells. -/
structure Plan (N : Nat) (Hh : Nat → Hp) (ww : Nat → Nat) : Prop where
  pu : ∀ j, j < N → Pu (Hh j) (Hh (j + 1)) (ww j)
theorem Plan.next {N : Nat} {Hh : Nat → Hp} {ww : Nat → Nat} (h : Plan N Hh ww) {a : Nat} : ∀ b, a ≤ b → b ≤ N → (Hh a).next ≤ (Hh b).next
  | 0, hab, _ => by (have : a = 0 := by omega); rw [this]; exact Nat.le_refl _
  | b + 1, hab, hb => by
    by_cases e : a = b + 1
    · rw [e]; exact Nat.le_refl _
    · exact Nat.le_trans (h.next b (by omega) (by omega)) (h.pu b (by omega)).next
theorem Plan.live {N : Nat} {Hh : Nat → Hp} {ww : Nat → Nat} (h : Plan N Hh ww) : ∀ (b : Nat), b ≤ N → ∀ x o, (Hh b).tr.get x = some o → (∃ o', (Hh 0).tr.get x = some o') ∨ ((Hh 0).next ≤ x ∧ x < (Hh b).next)
  | 0, _, x, o, hx => .inl ⟨o, hx⟩
  | b + 1, hb, x, o, hx => by
    rcases (h.pu b (by omega)).live x o hx with ⟨o', h1⟩ | h1
    · rcases h.live b (by omega) x o' h1 with h2 | h2
      · exact .inl h2
      · exact .inr ⟨h2.1, Nat.lt_of_lt_of_le h2.2 (h.pu b (by omega)).next⟩
    · exact .inr ⟨Nat.le_trans (h.next b (Nat.zero_le _) (by omega)) h1.1, h1.2⟩
theorem Plan.old {N : Nat} {Hh : Nat → Hp} {ww : Nat → Nat} (h : Plan N Hh ww) : ∀ j, j < N → ∀ x o, ¬ On (ww j) x → (fun j x => (Hh j).tr.get x) (j + 1) x = some o → (fun j x => (Hh j).tr.get x) j x = some o := fun j hj x o hx h1 => (h.pu j hj).old x o hx h1
/-- The memory as the operation i, which comes next, finds it. -/
def Ri (N : Nat) (Hh : Nat → Hp) (ww : Nat → Nat) (R : Nat → Prop) (S : Nat → Prop) (i x : Nat) : Prop := (R x ∨ Wt N S ww x) ∧ ∀ o, (Hh i).tr.get x = some o → Cont N S ww (fun j x => (Hh j).tr.get x) x o
theorem Inv.st {N n : Nat} {Hh : Nat → Hp} {Th : Nat → LL} {ww dm : Nat → Nat} {R : Nat → Prop} {ρ0 : Env} {w0 : World} {S : Nat → Prop} {ρ : Env} {w : World} {tm : Array Value} (v : Inv G N n Hh Th ww dm R ρ0 w0 S ρ w tm) (i : Nat) : St G (Ri N Hh ww R S i) ρ (Hh i) w :=
  ⟨fun x o hx hg => v.sat x o hx.1 (hx.2 o hg), fun x y o o' k k' hx hy h1 h2 => v.inj x y o o' k k' hx.1 hy.1 (hx.2 o h1) (hy.2 o' h2), v.glob, v.low⟩
theorem Inv.fresh {N n : Nat} {Hh : Nat → Hp} {Th : Nat → LL} {ww dm : Nat → Nat} {R : Nat → Prop} {ρ0 : Env} {w0 : World} {S : Nat → Prop} {ρ : Env} {w : World} {tm : Array Value} (v : Inv G N n Hh Th ww dm R ρ0 w0 S ρ w tm) (pl : Plan N Hh ww) (hf : Fresh ρ0 (Hh 0).next (Hh N).next) {i : Nat} (hi : i < N) (hS : ¬ S i) : Fresh ρ (Hh i).next (Hh (i + 1)).next := by
  intro x h1 h2
  cases h : ρ x with
  | none => rfl
  | some k =>
    have h0 := hf x (Nat.le_trans (pl.next i (Nat.zero_le _) (by omega)) h1) (Nat.lt_of_lt_of_le h2 (pl.next N (by omega) (Nat.le_refl _)))
    obtain ⟨⟨m, a1, a2, a3, a4⟩, _⟩ := v.new x k h0 h
    rcases Nat.lt_trichotomy m i with h' | h' | h'
    · have := pl.next (a := m + 1) i (by omega) (by omega); omega
    · exact (hS (h' ▸ a2)).elim
    · have := pl.next (a := i + 1) m (by omega) (by omega); omega
end Go.Proofs.YtdldpehmcfbbeaaGreatDoor.Ev
