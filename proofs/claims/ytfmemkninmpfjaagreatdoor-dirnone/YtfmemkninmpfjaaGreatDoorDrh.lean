/- The plain answer's Alloc: the lowest inode that is off is on. -/
import Derived.Test.YtfmemkninmpfjaaGreatDoorDrg
import Derived.Deep.DeepCutAuto
import Derived.Deep.LoopGhost
namespace Go.Proofs.YtfmemkninmpfjaaGreatDoor
open Go.RowKit
noncomputable def inoL (i : Nat) (m : Int) : List Value :=
  ((((((((((Tryz.zeroCells140.toList.set 0 (.bool true)).set 1 (.int .i64 i)).set 2 (.int .i64 0)).set 3 (.int .i64 0)).set 4 (.int .i64 0)).set 5 (.int .i64 0)).set 6 (.int .i64 0)).set 7 (.int .i64 m)).set 8 (.int .i64 0)).set 9 (.int .i64 0)).set 10 (.int .i64 0)
theorem inoL_size (i : Nat) (m : Int) : (inoL i m).length = 308 := by kernel_rfl
theorem inoL_on (i : Nat) (m : Int) : (inoL i m)[0]? = some (.bool true) := by kernel_rfl
theorem inoL_lk (i : Nat) (m : Int) : (inoL i m)[2]? = some (.int .i64 0) := by kernel_rfl
theorem inoL_one (i : Nat) (m : Int) : ∀ v ∈ inoL i m, v.oneCell' = true := by
  have h : (inoL i m).all (fun v => v.oneCell') = true := by kernel_rfl
  exact List.all_eq_true.1 h
theorem st_list (w : World) (lb off : Nat) (L : List Value) (hx : ∀ v ∈ L, v.oneCell' = true) (ok : ∀ a, a < L.length → (w.cell? ⟨lb, off + a, none⟩).isSome = true) (fr : ∀ a, w.frozen? ⟨lb, off + a, none⟩ = false) : (storeCells ⟨lb, off, none⟩ L).run Tryz.prog w = .ok () (w.setCells lb off L) := by
  have := st_ino w lb off L.toArray (by simpa using hx) (by simpa using ok) fr
  simpa using this
theorem RA.puts {w : World} {tb lb N : Nat} {on : Nat → Bool} {lk : Nat → Int} (h : RA w tb lb N on lk) (i : Nat) (hi : i < N + 1) (X : List Value) (hl : X.length = 308) (h0 : X[0]? = some (.bool true)) (h2 : X[2]? = some (.int .i64 0)) : RA (w.setCells lb (i * 308) X) tb lb N (fun k => if k = i then true else on k) (fun k => if k = i then 0 else lk k) :=
  have kt : ∀ o, (w.setCells lb (i * 308) X).cell? ⟨tb, o, none⟩ = w.cell? ⟨tb, o, none⟩ := fun o => World.cell?_setCells_out _ _ _ _ _ (fun e => absurd e h.ne)
  have ko : ∀ o, (o < i * 308 ∨ i * 308 + 308 ≤ o) → (w.setCells lb (i * 308) X).cell? ⟨lb, o, none⟩ = w.cell? ⟨lb, o, none⟩ := fun o ho => World.cell?_setCells_out _ _ _ _ _ (fun _ _ => by rw [hl]; exact ho)
  have ki : ∀ j (hj : j < X.length), (w.setCells lb (i * 308) X).cell? ⟨lb, i * 308 + j, none⟩ = some X[j] := World.cell?_setCells_in lb _ _ _ (fun j hj => h.ok _ (by omega))
  have at' : ∀ j v, X[j]? = some v → (w.setCells lb (i * 308) X).cell? ⟨lb, i * 308 + j, none⟩ = some v := fun j v e => by
    obtain ⟨hj, e'⟩ := List.getElem?_eq_some_iff.1 e
    rw [ki j hj, e']
  { nn := (kt _).trans h.nn
    at3 := (kt _).trans h.at3
    ll := (kt _).trans h.ll
    lc := fun k hk => by
      by_cases e : k = i
      · subst e; rw [if_pos rfl]; have h := at' 0 _ h0; rw [Nat.add_zero] at h; exact h
      · rw [if_neg e, ko _ (by omega)]; exact h.lc k hk
    lks := fun k hk ho => by
      by_cases e : k = i
      · subst e; rw [if_pos rfl]; exact at' 2 _ h2
      · rw [if_neg e] at ho ⊢; rw [ko _ (by omega)]; exact h.lks k hk ho
    ok := fun j hj => by
      by_cases e : j < i * 308 ∨ i * 308 + 308 ≤ j
      · rw [ko _ e]; exact h.ok j hj
      · obtain ⟨d, rfl⟩ : ∃ d, j = i * 308 + d := ⟨j - i * 308, by omega⟩
        rw [ki d (by omega)]; rfl
    fr := fun o => by rw [World.frozen?_setCells]; exact h.fr o
    ne := h.ne }
theorem RA.drew {w : World} {tb lb N : Nat} {on : Nat → Bool} {lk : Nat → Int} (h : RA w tb lb N on lk) : RA w.drew tb lb N on lk := h.mod (s := fun _ => False) ((Mod.refl _ w).drewN 1) (fun e => e) (fun e => e)
set_option maxRecDepth 8000 in
set_option maxHeartbeats 2000000 in
theorem rAlloc {w : World} {tb lb N : Nat} {on : Nat → Bool} {lk : Nat → Int} (h : RA w tb lb N on lk) (hN : N ≤ 4096) (m k : Int) (hk : bits .and .i64 m 61440 = k) (hm : bits .and .i64 m 65535 = m) (hm0 : ¬ m < 0) (hc : ((k != 32768) = true ∧ (k != 16384) = false) ∨ (k != 32768) = false)
    (i : Nat) (h1 : 1 ≤ i) (h2 : i ≤ N) (hon : ∀ j, 1 ≤ j → j < i → on j = true) (hoff : on i = false) : Calls Tryz.prog 30 #[.pointer (some ⟨tb, 0, none⟩), .int .i64 m, .int .i64 0, .int .i64 0] w fun e w' => e = .returned (.tuple #[.int .i64 i, .int .i64 0]) ∧ RA w' tb lb N (fun k => if k = i then true else on k) (fun k => if k = i then 0 else lk k) ∧ Mod (fun k => k = lb) w w' := by
  have H := Hid.intr h
  have HO := Hid.intr hon
  have HF := Hid.intr hoff
  have HC := Hid.intr hc
  have hn := h.nn
  have hl := h.ll
  have h3 := h.at3
  have hne := h.ne
  clear h hon hoff hc
  go_enter Tryz.func30, Tryz.ntmps30
  go_wp2_with fail
  refine (rkind m k _ hk).mono ?_
  rintro e w1 ⟨rfl, hw1⟩
  rw [hw1]; clear hw1 w1 hk
  go_upto_region 2 with fail
  go_cut [41] (fun c wc => w = wc ∧ c = .bool false)
  case first =>
    rcases HC.out with ⟨a1, a2⟩ | a1
    all_goals
      go_wp2_with fail
      go_meet
      exact ⟨rfl, congrArg Value.bool (decide_eq_false (by omega))⟩
  case rest =>
    obtain ⟨rfl, rfl⟩ := hcut
    go_wp2_with fail
    go_loopg [11] (N - 1) (fun g t wr => w = wr ∧ ∃ j : Nat, 1 ≤ j ∧ j ≤ i ∧ g = N - j ∧ t = .int .i64 j)
    case atStart => exact ⟨rfl, 1, by omega, by omega, rfl, rfl⟩
    case round =>
      obtain ⟨rfl, j, hj1, hji, rfl, rfl⟩ := hrel
      have hjN : (j : Int) ≤ (N : Int) := by omega
      have hjN1 : (j : Int) < (N : Int) + 1 := by omega
      have hcl := H.out.lc j (by omega)
      by_cases hlt : j < i
      · rw [HO.out j hj1 hlt] at hcl
        go_wp2_with fail
        go_roundg (N - (j + 1))
        case measure => omega
        case rel => exact ⟨rfl, j + 1, by omega, by omega, rfl, by go_num⟩
      · obtain rfl : j = i := by omega
        rw [HF.out] at hcl
        obtain ⟨L, hL⟩ : ∃ L, inoL j m = L := ⟨_, rfl⟩
        have hRA := Hid.intr (H.out.drew.puts j (by omega) L (hL ▸ inoL_size j m) (hL ▸ inoL_on j m) (hL ▸ inoL_lk j m))
        have hst : (storeCells ⟨lb, j * 308, none⟩ (inoL j m)).run Tryz.prog w.drew = .ok () (w.drew.setCells lb (j * 308) L) := by
          rw [hL]
          exact st_list w.drew lb (j * 308) L (hL ▸ inoL_one j m) (fun a ha => H.out.drew.ok _ (by rw [← hL, inoL_size] at ha; omega)) (fun a => H.out.drew.fr _)
        unfold inoL at hst
        have hMod := Hid.intr (Mod.setCells (s := fun k => k = lb) (a := w) lb rfl L (j * 308) ((Mod.refl _ w).drewN 1))
        clear hL
        go_upto_region 8 with fail
        go_region_held (fun W => W.cell? ⟨tb, 4, none⟩ = some (.slice (some ⟨lb, 0, none⟩) (N + 1) (N + 1)) ∧ W.cell? ⟨tb, 3, none⟩ = some (.int .i64 0)) (first | exact ⟨hl, h3⟩ | exact ⟨(World.cell?_setCells_out _ _ _ _ _ (fun e => absurd e hne)).trans hl, (World.cell?_setCells_out _ _ _ _ _ (fun e => absurd e hne)).trans h3⟩) (fail)
        all_goals go_wp2_with fail
        all_goals go_ret2
        all_goals exact ⟨by simp, hRA.out, hMod.out⟩
end Go.Proofs.YtfmemkninmpfjaaGreatDoor
