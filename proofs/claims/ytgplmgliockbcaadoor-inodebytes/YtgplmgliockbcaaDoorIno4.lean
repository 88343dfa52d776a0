/- The walk of look: what a place leads to. Conditions: the store lies in memory as 'St' says, the table's first cell leads to it. -/
import Derived.Test.YtgplmgliockbcaaDoorIno3
namespace Go.Proofs.YtgplmgliockbcaaDoor
open Go.RowKit
/-- What place k below ref r leads to, l levels down. -/
def lk : Nat → (Nat → Bool) → (Nat → Nat) → Nat → Nat → Nat
  | 0, _, _, r, _ => r
  | l + 1, u, D, r, k => lk l u D (ptr u D r (k / 16 ^ l)) (k % 16 ^ l)
theorem ptr_zero (u : Nat → Bool) (D : Nat → Nat) (j : Nat) : ptr u D 0 j = 0 := by simp [ptr]
theorem lk_zero (u : Nat → Bool) (D : Nat → Nat) : ∀ l k, lk l u D 0 k = 0
  | 0, _ => rfl
  | l + 1, k => by simp only [lk, ptr_zero]; exact lk_zero u D l _
theorem run_indexP (A : Array Value) (i : Int) (k x : Nat) (hi : i = (k : Nat)) (hk : k < 16) (hA : A[k]? = some (.int .i64 x)) (W : World) : (Instr.index 134 (.agg A) (.int .i64 i)).run Tryd.prog W = .ok (.int .i64 x) W := by
  subst hi
  simp [Instr.index, go_sem]
  rw [if_pos hk, hA]; rfl
section
variable {w : World} {b c n : Nat} {u : Nat → Bool} {D : Nat → Nat}
theorem load_row (S : St w b c n u D) (t r : Nat) (ht : w.cell? ⟨t, 0, none⟩ = some (.pointer (some ⟨b, 0, none⟩))) (hr : r < 4294967296) :
    Calls Tryd.prog 71 #[.pointer (some ⟨t, 0, none⟩), .int .i64 r] w fun e w' => ∃ A, e = .returned (.agg A) ∧ A.size = 16 ∧ Hid (A = refsV (ptr u D r)) ∧ Hid (A.all (·.oneCell') = true) ∧ Hid (∀ j, j < 16 → A[j]? = some (.int .i64 (ptr u D r j : Nat))) ∧ Hid (Mod (fun _ => False) w w') :=
  (load_any S t r ht hr).mono fun e w' ⟨he, hM⟩ => ⟨_, he, refsV_size _, rfl, refsV_one _, fun j hj => by simp [refsV, List.getElem?_range hj, refV], hM⟩
theorem look_one (r k t : Nat) (w : World) : Calls Tryd.prog 60 #[.pointer (some ⟨t, 0, none⟩), .int .i64 r, .int .i64 1, .int .i64 k] w fun e w' => e = .returned (.int .i64 r) ∧ w' = w := by
  by_cases h0 : ((r : Int) == 0) = true
  · go_enter Tryd.func60, Tryd.ntmps60
    go_wp2
    go_ret
    exact ⟨by simp, rfl⟩
  · have h1 : ((r : Int) == 0) = false := by simpa using h0
    clear h0
    go_enter Tryd.func60, Tryd.ntmps60
    go_wp2
    go_ret
    exact ⟨by simp, rfl⟩
theorem look_none (k p t : Nat) (w : World) : Calls Tryd.prog 60 #[.pointer (some ⟨t, 0, none⟩), .int .i64 0, .int .i64 p, .int .i64 k] w fun e w' => e = .returned (.int .i64 0) ∧ w' = w := by
  go_enter Tryd.func60, Tryd.ntmps60
  go_wp2
  go_ret
  exact ⟨by simp, rfl⟩
theorem look0 (u : Nat → Bool) (D : Nat → Nat) (w : World) (t r k : Nat) : Calls Tryd.prog 60 #[.pointer (some ⟨t, 0, none⟩), .int .i64 r, .int .i64 1, .int .i64 k] w fun e w' => e = .returned (.int .i64 (lk 0 u D r k : Nat)) ∧ Mod (fun _ => False) w w' :=
  (look_one r k t w).mono fun _ _ ⟨h1, h2⟩ => ⟨h1, h2 ▸ Mod.refl _ _⟩

set_option maxRecDepth 8000 in
set_option maxHeartbeats 1000000 in
theorem look1 (S : St w b c n u D) (t r k : Nat) (ht : w.cell? ⟨t, 0, none⟩ = some (.pointer (some ⟨b, 0, none⟩))) (hr : r < 4294967296) (hk : k < 16) : Calls Tryd.prog 60 #[.pointer (some ⟨t, 0, none⟩), .int .i64 r, .int .i64 16, .int .i64 k] w fun e w' => e = .returned (.int .i64 (lk 1 u D r k : Nat)) ∧ Mod (fun _ => False) w w' := by
  by_cases h0 : r = 0
  · subst h0
    rw [lk_zero]
    exact (look_none k 16 t w).mono fun _ _ ⟨h1, h2⟩ => ⟨h1, h2 ▸ Mod.refl _ _⟩
  · have h1 : ((r : Int) == 0) = false := by simpa using h0
    have hx := ptr_lt u D S.dl r (k)
    have HX : Hid (lk 1 u D r k = ptr u D r k) := by show _ = _; simp [lk]
    have HS : Hid (St (w.drewN 1) b c n u D) := S.drewN 1
    have HT : Hid ((w.drewN 1).cell? ⟨t, 0, none⟩ = some (.pointer (some ⟨b, 0, none⟩))) := ht
    obtain ⟨x, hxe⟩ : ∃ x, x = ptr u D r (k) := ⟨_, rfl⟩
    have HE : Hid (x = ptr u D r (k)) := hxe
    rw [← hxe] at hx
    have hw1 : IntKind.i64.wrap (k : Int) = k := by rw [IntKind.wrap_i64]; omega
    clear S ht h0 hxe
    go_enter Tryd.func60, Tryd.ntmps60
    go_wp2_with fail
    go_region_held (fun W' => W'.cell? ⟨t, 0, none⟩ = some (.pointer (some ⟨b, 0, none⟩))) (first | exact hS2 | exact hS1 | exact HT.out) (first | (go_at_call 71; refine (load_row HS.out t r HT.out hr).mono ?_; rintro e w1 ⟨A, rfl, hsz, HA, -, HJ, HM⟩; have hix := run_indexP A _ k x rfl hk ((HJ.out _ (by omega)).trans (by rw [HE.out])); have hS1 := (HM.out.cell (p := ⟨t, 0, none⟩) (block_lt_of_cell (w := w) HT.out) (fun h => h)).trans HT.out) | (go_at_call 60; refine (look_one x 0 t w1).mono ?_; rintro e w2 ⟨rfl, hw2⟩; rw [hw2]; clear hw2 w2))
    go_wp2
    go_ret
    exact ⟨by simp [HX.out, HE.out], ((Mod.refl (fun _ => False) w).drewN 1).trans (HM.out)⟩

set_option maxRecDepth 8000 in
set_option maxHeartbeats 1000000 in
theorem look2 (S : St w b c n u D) (t r k : Nat) (ht : w.cell? ⟨t, 0, none⟩ = some (.pointer (some ⟨b, 0, none⟩))) (hr : r < 4294967296) (hk : k < 256) : Calls Tryd.prog 60 #[.pointer (some ⟨t, 0, none⟩), .int .i64 r, .int .i64 256, .int .i64 k] w fun e w' => e = .returned (.int .i64 (lk 2 u D r k : Nat)) ∧ Mod (fun _ => False) w w' := by
  by_cases h0 : r = 0
  · subst h0
    rw [lk_zero]
    exact (look_none k 256 t w).mono fun _ _ ⟨h1, h2⟩ => ⟨h1, h2 ▸ Mod.refl _ _⟩
  · have h1 : ((r : Int) == 0) = false := by simpa using h0
    have hx := ptr_lt u D S.dl r (k / 16)
    have HX : Hid (lk 2 u D r k = lk 1 u D (ptr u D r (k / 16)) (k % 16)) := by show _ = _; simp [lk]
    have HS : Hid (St (w.drewN 1) b c n u D) := S.drewN 1
    have HT : Hid ((w.drewN 1).cell? ⟨t, 0, none⟩ = some (.pointer (some ⟨b, 0, none⟩))) := ht
    obtain ⟨x, hxe⟩ : ∃ x, x = ptr u D r (k / 16) := ⟨_, rfl⟩
    have HE : Hid (x = ptr u D r (k / 16)) := hxe
    rw [← hxe] at hx
    have hw2 : IntKind.i64.wrap ((k : Int) / 16) = (k : Int) / 16 := by rw [IntKind.wrap_i64]; omega
    have HTM : Hid ((k : Int).tmod 16 = ((k % 16 : Nat) : Int)) := by show _ = _; rw [Int.tmod_eq_emod_of_nonneg (by omega)]; omega
    have hw1 : IntKind.i64.wrap (k : Int) = k := by rw [IntKind.wrap_i64]; omega
    clear S ht h0 hxe
    go_enter Tryd.func60, Tryd.ntmps60
    go_wp2_with fail
    go_region_held (fun W' => W'.cell? ⟨t, 0, none⟩ = some (.pointer (some ⟨b, 0, none⟩))) (first | exact hS2 | exact hS1 | exact HT.out) (first | (go_at_call 71; refine (load_row HS.out t r HT.out hr).mono ?_; rintro e w1 ⟨A, rfl, hsz, HA, -, HJ, HM⟩; have hix := run_indexP A ((k : Int) / 16) (k / 16) x (by omega) (by omega) ((HJ.out _ (by omega)).trans (by rw [HE.out])); have hS1 := (HM.out.cell (p := ⟨t, 0, none⟩) (block_lt_of_cell (w := w) HT.out) (fun h => h)).trans HT.out) | (go_at_call 60; rw [HTM.out]; refine (look1 (HS.out.mod HM.out (fun h => h) (fun h => h) (fun h => h)) t x (k % 16) ((HM.out.cell (p := ⟨t, 0, none⟩) (block_lt_of_cell (w := w) HT.out) (fun h => h)).trans HT.out) hx (by omega)).mono ?_; rintro e w2 ⟨rfl, M2⟩; have hS2 := (M2.cell (p := ⟨t, 0, none⟩) (block_lt_of_cell hS1) (fun h => h)).trans hS1; have HM2 : Hid (Mod (fun _ => False) w1 w2) := M2; clear M2))
    go_wp2
    go_ret
    exact ⟨by simp [HX.out, HE.out], ((Mod.refl (fun _ => False) w).drewN 1).trans (HM.out.trans HM2.out)⟩
end
end Go.Proofs.YtgplmgliockbcaaDoor
