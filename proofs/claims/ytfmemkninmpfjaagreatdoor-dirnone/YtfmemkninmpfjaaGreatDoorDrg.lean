/- The plain answer's Is and Links, of a table whose inodes are on or off. -/
import Derived.Test.YtfmemkninmpfjaaGreatDoorDrf
namespace Go.Proofs.YtfmemkninmpfjaaGreatDoor
open Go.RowKit
theorem RA.put {w : World} {tb lb N : Nat} {on : Nat → Bool} {lk : Nat → Int} (h : RA w tb lb N on lk) (j : Nat) (v : Value) (lk' : Nat → Int) (h0 : ∀ i, j ≠ i * 308) (h2 : ∀ i, i < N + 1 → j ≠ i * 308 + 2 → lk' i = lk i) (h3 : ∀ i, i < N + 1 → j = i * 308 + 2 → v = .int .i64 (lk' i)) : RA (w.setCell ⟨lb, j, none⟩ v) tb lb N on lk' :=
  have kt : ∀ o, (w.setCell ⟨lb, j, none⟩ v).cell? ⟨tb, o, none⟩ = w.cell? ⟨tb, o, none⟩ := fun o => World.cell?_setCell_far _ _ _ _ (by show lb ≠ tb; exact fun e => h.ne e.symm)
  have kl : ∀ o, j ≠ o → (w.setCell ⟨lb, j, none⟩ v).cell? ⟨lb, o, none⟩ = w.cell? ⟨lb, o, none⟩ := fun o ho => World.cell?_setCell_other _ _ _ _ (by intro e; injection e with _ e2 _; exact ho e2)
  have ks : ∀ o, (w.cell? ⟨lb, o, none⟩).isSome = true → j = o → (w.setCell ⟨lb, j, none⟩ v).cell? ⟨lb, o, none⟩ = some v := fun o hs e => by
    subst e
    obtain ⟨u, hu⟩ := Option.isSome_iff_exists.1 hs
    exact World.cell?_setCell_same _ _ _ hu
  { nn := (kt _).trans h.nn
    at3 := (kt _).trans h.at3
    ll := (kt _).trans h.ll
    lc := fun i hi => (kl _ (h0 i)).trans (h.lc i hi)
    lks := fun i hi ho => by
      by_cases e : j = i * 308 + 2
      · rw [ks _ (h.ok _ (by omega)) e, h3 i hi e]
      · rw [kl _ e, h2 i hi e]; exact h.lks i hi ho
    ok := fun k hk => by
      by_cases e : j = k
      · rw [ks _ (h.ok _ hk) e]; rfl
      · rw [kl _ e]; exact h.ok k hk
    fr := fun o => by rw [World.frozen?_setCell]; exact h.fr o
    ne := h.ne }
set_option maxRecDepth 8000 in
set_option maxHeartbeats 1000000 in
theorem rIs {w : World} {tb lb N : Nat} {on : Nat → Bool} {lk : Nat → Int} (h : RA w tb lb N on lk) (_hN : N ≤ 4096) (i : Nat) (h1 : 1 ≤ i) (h2 : i ≤ N) (b : Bool) (hb : on i = b) : Calls Tryz.prog 78 #[.pointer (some ⟨tb, 0, none⟩), .int .i64 i] w fun e w' => e = .returned (.bool b) ∧ w' = w := by
  have hn := h.nn
  have hl := h.ll
  have hc := h.lc i (by omega)
  rw [hb] at hc
  have h0 : (0 : Int) < (i : Int) := by omega
  have hiN : (i : Int) ≤ (N : Int) := by omega
  have hi1 : (i : Int) < (N : Int) + 1 := by omega
  clear h hb
  go_enter Tryz.func78, Tryz.ntmps78
  go_wp2
  go_ret
  exact ⟨rfl, rfl⟩
set_option maxRecDepth 8000 in
set_option maxHeartbeats 1000000 in
theorem rGone {w : World} {tb lb N : Nat} {on : Nat → Bool} {lk : Nat → Int} (h : RA w tb lb N on lk) (_hN : N ≤ 4096) (i : Nat) (h2 : i ≤ N) (ho : on i = true) (hk : lk i = 1) : Calls Tryz.prog 79 #[.pointer (some ⟨tb, 0, none⟩), .int .i64 i] w fun e w' => e = .returned (.tuple #[]) ∧ w' = w := by
  have hl := h.ll
  have hc := h.lks i (by omega) ho
  rw [hk] at hc
  have hi1 : (i : Int) < (N : Int) + 1 := by omega
  clear h hk
  go_enter Tryz.func79, Tryz.ntmps79
  go_wp2
  exact ⟨rfl, _, results_none rfl _ _ _, rfl, rfl⟩
set_option maxRecDepth 8000 in
set_option maxHeartbeats 1000000 in
theorem rLinks {w : World} {tb lb N : Nat} {on : Nat → Bool} {lk : Nat → Int} (h : RA w tb lb N on lk) (_hN : N ≤ 4096) (i : Nat) (h1 : 1 ≤ i) (h2 : i ≤ N) (ho : on i = true) (hk : lk i = 0) : Calls Tryz.prog 32 #[.pointer (some ⟨tb, 0, none⟩), .int .i64 i, .int .i64 1] w fun e w' => e = .returned (.int .i64 0) ∧ RA w' tb lb N on (fun k => if k = i then 1 else lk k) ∧ Mod (fun k => k = lb) w w' := by
  have H := Hid.intr h
  have hl := h.ll
  have h3 := h.at3
  have hc := h.lks i (by omega) ho
  rw [hk] at hc
  obtain ⟨u10, hc10⟩ := Option.isSome_iff_exists.1 (h.ok (i * 308 + 10) (by omega))
  have hf2 := h.fr (i * 308 + 2)
  have hf10 := h.fr (i * 308 + 10)
  have hi1 : (i : Int) < (N : Int) + 1 := by omega
  have hne := h.ne
  have hA := Hid.intr (h.put (i * 308 + 2) (.int .i64 1) (fun k => if k = i then 1 else lk k) (by omega) (fun k _ e => if_neg (by omega)) (fun k _ e => by rw [if_pos (by omega)]))
  have hB := Hid.intr (hA.out.put (i * 308 + 10) (.int .i64 0) (fun k => if k = i then 1 else lk k) (by omega) (fun k _ e => rfl) (fun k _ e => by omega))
  clear h hk
  go_enter Tryz.func32, Tryz.ntmps32
  go_wp2_with (first | (go_at_call 78; refine (rIs H.out _hN i h1 h2 true ho).mono ?_; rintro e w' ⟨rfl, hw'⟩; rw [hw']; clear hw' w') | (go_at_call 79; refine (rGone hB.out _hN i h2 ho (if_pos rfl)).mono ?_; rintro e w' ⟨rfl, hw'⟩; rw [hw']; clear hw' w'))
  go_ret
  exact ⟨rfl, hB.out, Mod.setCell (s := fun k => k = lb) (Mod.setCell (s := fun k => k = lb) (Mod.refl _ w) _ _ rfl) _ _ rfl⟩
end Go.Proofs.YtfmemkninmpfjaaGreatDoor
