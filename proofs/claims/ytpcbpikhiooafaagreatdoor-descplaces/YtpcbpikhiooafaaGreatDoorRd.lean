/- The walks of readPlace and Read. Conditions: the table lies in memory as 'Tb' says. -/
import Derived.Test.YtpcbpikhiooafaaGreatDoorM6
namespace Go.Proofs.YtpcbpikhiooafaaGreatDoor
open Go.RowKit
/-- look, of an inode's place; the byte at x of its bytes. -/
def lkAt (u : Nat → Bool) (D : Nat → Nat) (R : Nat → Nat) (k : Nat) : Nat := lk (lv k) u D (R (rt k)) (kk k)
def rd (u : Nat → Bool) (D : Nat → Nat) (R : Nat → Nat) (x : Nat) : Nat := if lkAt u D R (x / 64) ≠ 0 ∧ u (lkAt u D R (x / 64) - 1) = true then D ((lkAt u D R (x / 64) - 1) * 64 + x % 64) else 0
theorem lk_lt {u : Nat → Bool} {D : Nat → Nat} (hD : ∀ j, D j < 256) : ∀ l r k, r < 4294967296 → lk l u D r k < 4294967296
  | 0, _, _, h => h
  | l + 1, r, k, _ => by rw [lk]; exact lk_lt hD l _ _ (ptr_lt _ _ hD _ _)
section
variable {w w' : World} {t q b c n N : Nat} {clk : Int} {F : Nat → Nat → Int} {R : Nat → Nat → Nat} {u : Nat → Bool} {D : Nat → Nat}
theorem lookAt (T : Tb w t q b c n N clk F R u D) (i k P K r : Nat) (hk : k < 278) (h : P = 16 ^ lv k ∧ K = kk k ∧ r = R i (rt k)) :
    Calls Tryz.prog 101 #[.pointer (some ⟨t, 0, none⟩), .int .i64 r, .int .i64 P, .int .i64 K] w fun e w' => e = .returned (.int .i64 (lkAt u D (R i) k : Nat)) ∧ Mod (fun _ => False) w w' := by
  obtain ⟨rfl, rfl, rfl⟩ := h
  unfold lkAt
  by_cases h1 : k < 6
  · have e : lv k = 0 := by simp [lv, h1]
    rw [e]; exact look0 u D w t _ _
  · by_cases h2 : k < 22
    · have e : lv k = 1 := by simp [lv, h1, h2]
      rw [e]; exact look1 T.S t _ _ T.c0 (T.rl _ _) (by simp [kk, h1, h2]; omega)
    · have e : lv k = 2 := by simp [lv, h1, h2]
      rw [e]; exact look2 T.S t _ _ T.c0 (T.rl _ _) (by simp [kk, h1, h2]; omega)
theorem place_any3 (nb no k : Nat) (w : World) (hk : k < 278) : Calls Tryz.prog 100 #[.pointer (some ⟨nb, no, none⟩), .int .i64 k] w fun e w' => ∃ o P K : Nat,
    e = .returned (.tuple #[.agg #[.pointer (some ⟨nb, o, none⟩), .int .i64 P], .int .i64 K]) ∧ Hid (o = no + 9 + rt k ∧ P = 16 ^ lv k ∧ K = kk k) ∧ Hid (Mod (fun _ => False) w w') :=
  (place_at nb no k w hk).mono fun _ _ ⟨h1, h2⟩ => ⟨_, _, _, h1, ⟨rfl, rfl, rfl⟩, h2⟩
/-- The store's Read of any ref but a hole's. -/
theorem St.read_any (S : St w b c n u D) (r : Nat) : Calls Tryz.prog 128 #[.pointer (some ⟨b, 0, none⟩), .int .i64 ((r : Int) - 1)] w fun e w' =>
    if r ≠ 0 ∧ u (r - 1) = true then ∃ g, e = .returned (.tuple #[.slice (some ⟨g, 0, none⟩) 64 64, .int .i64 0]) ∧ Hid (w.heap.size ≤ g) ∧ Hid (∀ j, j < 64 → w'.cell? ⟨g, j, none⟩ = some (.int .u8 (D ((r - 1) * 64 + j) : Nat))) ∧ Hid (Mod (fun _ => False) w w')
    else e = .returned (.tuple #[.slice none 0 0, .int .i64 22]) ∧ ∃ m, w' = w.drewN m := by
  by_cases h : r ≠ 0 ∧ u (r - 1) = true
  · simp only [if_pos h]
    have hrn : r - 1 < n := Nat.lt_of_not_le fun h' => by have := h.2; rw [S.out _ h'] at this; exact absurd this (by simp)
    rw [show (r : Int) - 1 = ((r - 1 : Nat) : Int) by have := h.1; omega]
    exact S.read_in (r - 1) hrn h.2
  · simp only [if_neg h]
    exact S.read_not _ (unfit_of h)
/-- What readPlace makes of the part at ⟨g, go⟩. -/
structure RP (u : Nat → Bool) (D : Nat → Nat) (R : Nat → Nat) (off g go m : Nat) (w w' : World) : Prop where
  mod : Mod (fun k => k = g) w w'
  out : ∀ o, (o < go ∨ go + m ≤ o) → w'.cell? ⟨g, o, none⟩ = w.cell? ⟨g, o, none⟩
  at_ : (∀ j, j < m → w.cell? ⟨g, go + j, none⟩ = some (.int .u8 0)) → ∀ j, j < m → w'.cell? ⟨g, go + j, none⟩ = some (.int .u8 (rd u D R (off + j) : Nat))
  fr : ∀ o, w'.frozen? ⟨g, o, none⟩ = w.frozen? ⟨g, o, none⟩
theorem rd_in {u : Nat → Bool} {D : Nat → Nat} {R : Nat → Nat} {off j m : Nat} (hm : m + off % 64 ≤ 64) (hj : j < m) : rd u D R (off + j) = if lkAt u D R (off / 64) ≠ 0 ∧ u (lkAt u D R (off / 64) - 1) = true then D ((lkAt u D R (off / 64) - 1) * 64 + (off % 64 + j)) else 0 := by
  unfold rd
  rw [show (off + j) / 64 = off / 64 by omega, show (off + j) % 64 = off % 64 + j by omega]
theorem RP.hole {R : Nat → Nat} {off g go m : Nat} (hM : Mod (fun _ => False) w w') (hg : g < w.heap.size) (hm : m + off % 64 ≤ 64) (h : ¬ (lkAt u D R (off / 64) ≠ 0 ∧ u (lkAt u D R (off / 64) - 1) = true)) : RP u D R off g go m w w' where
  mod := hM.mono (fun _ _ h => h.elim)
  out o _ := hM.cell (p := ⟨g, o, none⟩) hg (fun h => h)
  at_ h0 j hj := by rw [rd_in hm hj, if_neg h, hM.cell (p := ⟨g, go + j, none⟩) hg (fun h => h)]; exact h0 j hj
  fr o := hM.frozen (p := ⟨g, o, none⟩) hg (fun h => h)
theorem RP.some {R : Nat → Nat} {off g go m : Nat} (hM : Mod (fun _ => False) w w') (hg : g < w.heap.size) (hm : m + off % 64 ≤ 64) (h : lkAt u D R (off / 64) ≠ 0 ∧ u (lkAt u D R (off / 64) - 1) = true) (cs : List Value) (hl : cs.length = m)
    (hc : ∀ j, j < m → cs[j]? = .some (.int .u8 (D ((lkAt u D R (off / 64) - 1) * 64 + (off % 64 + j)) : Nat))) (ht : w'.there g go m) : RP u D R off g go m w (w'.setCells g go cs) where
  mod := Mod.setCells (s := fun k => k = g) g rfl cs go (hM.mono (fun _ _ h => h.elim))
  out o ho := (World.cell?_setCells_out g cs go w' ⟨g, o, none⟩ (fun _ _ => by show o < go ∨ go + cs.length ≤ o; rw [hl]; exact ho)).trans (hM.cell (p := ⟨g, o, none⟩) hg (fun h => h))
  at_ _ j hj := by
    rw [rd_in hm hj, if_pos h]
    exact World.rangeAt_setCells_same w' g go cs (by rw [hl]; exact ht) j _ (hc j hj)
  fr o := (World.frozen?_setCells g cs go w' _).trans (hM.frozen (p := ⟨g, o, none⟩) hg (fun h => h))
set_option maxRecDepth 8000 in
set_option maxHeartbeats 4000000 in
theorem rplace (T : Tb w t q b c n N clk F R u D) (i off g go m cap : Nat) (hi : i < N) (ho : off < 17792) (hm : m + off % 64 ≤ 64) (ht : w.there g go m) (hgl : g < w.heap.size) :
    Calls Tryz.prog 134 #[.pointer (some ⟨t, 0, none⟩), .pointer (some ⟨q, i * 17, none⟩), .int .i64 off, .slice (some ⟨g, go, none⟩) m cap] w fun e w' => e = .returned (.tuple #[]) ∧ RP u D (R i) off g go m w w' := by
  have HT : Hid (Tb w t q b c n N clk F R u D) := T
  have HTh : Hid (w.there g go m) := ht
  have HG : Hid (g < w.heap.size) := hgl
  have hk : off / 64 < 278 := by omega
  have HQ : Hid ((off : Int) / 64 = ((off / 64 : Nat) : Int)) := by show _ = _; omega
  have hxl : lkAt u D (R i) (off / 64) < 4294967296 := lk_lt T.S.dl _ _ _ (T.rl _ _)
  have HL : Hid (lkAt u D (R i) (off / 64) < 4294967296) := hxl
  have hm64 : m ≤ 64 := by omega
  have hom : off % 64 < 64 := Nat.mod_lt _ (by omega)
  have HMO : Hid (m + off % 64 ≤ 64) := hm
  clear T ht hgl hxl hm ho
  go_enter Tryz.func134, Tryz.ntmps134
  go_wp2_with (go_at_call 100; rw [HQ.out]; refine (place_any3 q (i * 17) _ _ hk).mono ?_; rintro e w1 ⟨o, P, K, rfl, HP, HM1⟩; have HT1 : Hid (Tb (w1.alloc (.cells #[.pointer (some ⟨q, o, none⟩), .int .i64 P] 171)) t q b c n N clk F R u D) := HT.out.new (HM1.out.alloc _))
  have HC : Hid ((w1.alloc (.cells #[.pointer (some ⟨q, o, none⟩), .int .i64 P] 171)).cell? ⟨w1.heap.size, 0, none⟩ = .some (.pointer (.some ⟨q, o, none⟩)) ∧ (w1.alloc (.cells #[.pointer (some ⟨q, o, none⟩), .int .i64 P] 171)).cell? ⟨w1.heap.size, 1, none⟩ = .some (.int .i64 P) ∧ (w1.alloc (.cells #[.pointer (some ⟨q, o, none⟩), .int .i64 P] 171)).cell? ⟨q, o, none⟩ = .some (.int .i64 (R i (rt (off / 64)) : Nat))) := by
    refine ⟨?_, ?_, ?_⟩
    · rw [World.cell?_alloc_at _ _ _ _ rfl]; rfl
    · rw [World.cell?_alloc_at _ _ _ _ rfl]; rfl
    · have := HT1.out.cr i (rt (off / 64)) hi (rt_lt _)
      rw [← HP.out.1] at this; exact this
  have HM2 : Hid (Mod (fun _ => False) w (w1.alloc (.cells #[.pointer (some ⟨q, o, none⟩), .int .i64 P] 171))) := HM1.out.alloc _
  generalize hw2 : w1.alloc (.cells #[.pointer (some ⟨q, o, none⟩), .int .i64 P] 171) = w2 at *
  generalize w1.heap.size = x8 at *
  clear hw2 HM1
  go_region_held (fun W' => W'.cell? ⟨x8, 0, none⟩ = some (.pointer (some ⟨q, o, none⟩)) ∧ W'.cell? ⟨x8, 1, none⟩ = some (.int .i64 P) ∧ W'.cell? ⟨q, o, none⟩ = some (.int .i64 (R i (rt (off / 64)) : Nat))) (first | exact hS3 | exact HC.out) (first | (go_at_call 101; refine (lookAt (HT1.out.drewN 1) i (off / 64) P K _ hk ⟨HP.out.2.1, HP.out.2.2, rfl⟩).mono ?_; rintro e w3 ⟨rfl, M3⟩; have HM3 : Hid (Mod (fun _ => False) w2 w3) := ((Mod.refl _ w2).drewN 1).trans M3; have hS3 : w3.cell? ⟨x8, 0, none⟩ = some (.pointer (some ⟨q, o, none⟩)) ∧ w3.cell? ⟨x8, 1, none⟩ = some (.int .i64 P) ∧ w3.cell? ⟨q, o, none⟩ = some (.int .i64 (R i (rt (off / 64)) : Nat)) := ⟨(M3.cell (p := ⟨x8, 0, none⟩) (block_lt_of_cell (w := w2) HC.out.1) (fun h => h)).trans HC.out.1, (M3.cell (p := ⟨x8, 1, none⟩) (block_lt_of_cell (w := w2) HC.out.2.1) (fun h => h)).trans HC.out.2.1, (M3.cell (p := ⟨q, o, none⟩) (block_lt_of_cell (w := w2) HC.out.2.2) (fun h => h)).trans HC.out.2.2⟩; clear M3))
  clear hS3
  have HT3 : Hid (Tb w3 t q b c n N clk F R u D) := HT1.out.new HM3.out
  have HM4 : Hid (Mod (fun _ => False) w w3) := HM2.out.trans HM3.out
  clear HM2 HM3 HT1 HC
  obtain ⟨r, hr⟩ : ∃ r, r = lkAt u D (R i) (off / 64) := ⟨_, rfl⟩
  rw [← hr]
  have HE : Hid (r = lkAt u D (R i) (off / 64)) := hr
  have hrl : r < 4294967296 := by rw [hr]; exact HL.out
  clear hr
  by_cases h0 : r = 0
  · subst h0
    go_wp2
    exact ⟨rfl, _, results_none rfl _ _ _, rfl, RP.hole HM4.out HG.out HMO.out (fun e => e.1 HE.out.symm)⟩
  · have h0' : ((r : Int) == 0) = false := by simpa using h0
    have HC0 : Hid ((w3.drewN 1).cell? ⟨t, 0, none⟩ = some (.pointer (some ⟨b, 0, none⟩))) := HT3.out.c0
    by_cases hu : r ≠ 0 ∧ u (r - 1) = true
    · have HU : Hid (r ≠ 0 ∧ u (r - 1) = true) := hu
      clear hu h0
      go_wp2_with fail
      go_region_held (fun W' => W'.cell? ⟨t, 0, none⟩ = some (.pointer (some ⟨b, 0, none⟩))) (first | exact hS5 | exact HC0.out) (first | (go_at_call 103; refine (block_any r _ (by omega)).mono ?_; rintro e w5 ⟨rfl, rfl⟩) | (go_at_call 128; refine ((HT3.out.S.drewN 1).read_any r).mono ?_; simp only [if_pos HU.out]; rintro e w5 ⟨gb, rfl, HGB, HJ, HM5⟩; have HM6 : Hid (Mod (fun _ => False) w3 w5) := ((Mod.refl _ w3).drewN 1).trans HM5.out; have hS5 : w5.cell? ⟨t, 0, none⟩ = some (.pointer (some ⟨b, 0, none⟩)) := (HT3.out.new HM6.out).c0))
      clear hS5
      obtain ⟨cs, hlc, HCS, HC1, HCS1⟩ : ∃ cs : List Value, cs.length = m ∧ Hid (∀ j, j < m → cs[j]? = some (.int .u8 (D ((r - 1) * 64 + (off % 64 + j)) : Nat))) ∧ Hid (∀ v ∈ cs, v.oneCell' = true) ∧ Hid (∀ j v, cs[j]? = some v → w5.cell? ((⟨gb, off % 64, none⟩ : Addr).add j) = some v) := by
        refine ⟨(List.range m).map fun j => .int .u8 (D ((r - 1) * 64 + (off % 64 + j)) : Nat), by simp, fun j hj => by simp [List.getElem?_range hj], fun v hv => by obtain ⟨j, _, rfl⟩ := List.mem_map.mp hv; rfl, fun j v hv => ?_⟩
        rw [List.getElem?_map, Option.map_eq_some_iff] at hv
        obtain ⟨k, hk', rfl⟩ := hv
        obtain ⟨hl, he⟩ := List.getElem?_eq_some_iff.mp hk'
        simp at hl he
        subst he
        have := HMO.out
        rw [Addr.add_mid]; exact HJ.out (off % 64 + j) (by omega)
      have HTh5 : Hid (w5.there g go m) := (HM4.out.trans HM6.out).there HG.out (fun h => h) HTh.out
      have HRP : Hid (RP u D (R i) off g go m w (w5.setCells g go cs)) := RP.some (HM4.out.trans HM6.out) HG.out HMO.out (by rw [← HE.out]; exact HU.out) cs hlc (by rw [← HE.out]; exact HCS.out) HTh5.out
      have hmin : m = Nat.min (64 - off % 64) m := by have := HMO.out; exact (Nat.min_eq_right (by omega)).symm
      have HMI : Hid (m = Nat.min (64 - off % 64) m) := hmin
      clear hmin
      go_wp2_with (first | (refine wpList_copy_mid rfl _ _ 22 22 rfl 5 und33 inf5 g go m cap ⟨gb, off % 64, none⟩ (64 - off % 64) (64 - off % 64) rfl rfl cs (by rw [hlc]; exact HMI.out) HCS1.out (by rw [hlc]; exact HTh5.out) HC1.out ?_))
      exact ⟨rfl, _, results_none rfl _ _ _, rfl, HRP.out⟩
    · have HU : Hid (¬ (r ≠ 0 ∧ u (r - 1) = true)) := hu
      clear hu h0
      go_wp2_with fail
      go_region_held (fun W' => W'.cell? ⟨t, 0, none⟩ = some (.pointer (some ⟨b, 0, none⟩))) (first | exact HC0.out) (first | (go_at_call 103; refine (block_any r _ (by omega)).mono ?_; rintro e w5 ⟨rfl, rfl⟩) | (go_at_call 128; refine ((HT3.out.S.drewN 1).read_any r).mono ?_; simp only [if_neg HU.out]; rintro e w5 ⟨rfl, mm, rfl⟩))
      go_wp2
      exact ⟨rfl, _, results_none rfl _ _ _, rfl, RP.hole (HM4.out.drewN _) HG.out HMO.out (by rw [← HE.out]; exact HU.out)⟩
end
end Go.Proofs.YtpcbpikhiooafaaGreatDoor
