/- act at whatever call, and the walk of turned: all blocks of a store are written and freed, one behind the other. -/
import Derived.Test.YtipdpifpblaldaaDoorAct3
namespace Go.Proofs.YtipdpifpblaldaaDoor
open Go.RowKit
theorem fit_or (n : Nat) (u : Nat → Bool) (i : Int) : Unfit n u i ∨ ∃ k : Nat, i = k ∧ k < n ∧ u k = true := by
  by_cases h : i < 0 ∨ n ≤ i
  · rcases h with h | h
    · exact .inl (.inl h)
    · exact .inl (.inr (.inl h))
  · obtain ⟨k, rfl⟩ := Int.eq_ofNat_of_zero_le (show 0 ≤ i by omega)
    cases hu : u k with
    | false => exact .inl (.inr (.inr (by simpa using hu)))
    | true => exact .inr ⟨k, rfl, by omega, hu⟩
theorem act_any {w : World} {B0 b c tb n : Nat} {u : Nat → Bool} {D : Nat → Nat} {F : Nat → Prop} (j : J w B0 b c tb n u D F) (kd i t : Int) (a : Option Addr) (cap : Nat) (bs : List Nat) (hL : bs.length ≤ 140737488351232) (hsrc : Src w B0 a bs) :
    Calls Tryd.prog 10 #[.pointer (some ⟨b, 0, none⟩), .pointer (some ⟨tb, 0, none⟩), .agg #[.int .i64 kd, .int .i64 i, .int .i64 t, .slice a bs.length cap]] w (ActOk B0 b c tb n F w) := by
  by_cases h0 : kd = 0
  · exact act_alloc j kd i t _ h0
  · by_cases h1 : kd = 1
    · subst h1
      rcases fit_or n u i with h | ⟨k, rfl, hk, hu⟩
      · exact act_free_not j i t _ h
      · exact act_free_ok j k t _ hk hu
    · by_cases h2 : kd = 2
      · subst h2
        rcases fit_or n u i with h | ⟨k, rfl, hk, hu⟩
        · exact act_read_not j i t _ h
        · exact act_read_ok j k t _ hk hu
      · by_cases h3 : kd = 3
        · subst h3
          rcases fit_or n u i with h | ⟨k, rfl, hk, hu⟩
          · exact act_write_not j i t a cap bs hL hsrc (.inl h)
          · by_cases ht : t < 0 ∨ 64 < t + bs.length
            · exact act_write_not j k t a cap bs hL hsrc (.inr ht)
            · obtain ⟨q, rfl⟩ := Int.eq_ofNat_of_zero_le (show 0 ≤ t by omega)
              exact act_write_ok j k q a cap bs hsrc hk hu (by omega)
        · exact act_is j kd i t _ (by simpa using h0) (by simpa using h1) (by simpa using h2) (by simpa using h3)
/-- Of those in use the first k of l are free. -/
def freed (u : Nat → Bool) (l : List Nat) (k : Nat) : Nat → Bool := fun j => u j && !(l.take k).contains j
theorem freed_zero (u : Nat → Bool) (l : List Nat) : freed u l 0 = u := by funext j; simp [freed]
theorem usedL_nodup (u : Nat → Bool) (n : Nat) : (usedL u n).Nodup := List.Nodup.sublist List.filter_sublist List.nodup_range
theorem usedL_mem (u : Nat → Bool) (n j : Nat) : j ∈ usedL u n ↔ j < n ∧ u j = true := by simp [usedL]
theorem freed_at (u : Nat → Bool) (n k : Nat) (hk : k < (usedL u n).length) : freed u (usedL u n) k (usedL u n)[k] = true := by
  have h1 := (usedL_mem u n _).1 (List.getElem_mem hk)
  unfold freed
  rw [h1.2, Bool.true_and, Bool.not_eq_true', ← Bool.not_eq_true, List.contains_iff_mem]
  intro hm
  obtain ⟨q, hq, he⟩ := List.getElem_of_mem hm
  rw [List.getElem_take] at he
  have hq' : q < k := by rw [List.length_take] at hq; omega
  exact absurd ((List.getElem_inj (usedL_nodup u n)).1 he) (by omega)
theorem freed_succ (u : Nat → Bool) (l : List Nat) (k : Nat) (hk : k < l.length) : upd (freed u l k) l[k] false = freed u l (k + 1) := by
  funext j
  have hm : (l.take (k + 1)).contains j = ((l.take k).contains j || j == l[k]) := by
    rw [Bool.eq_iff_iff, Bool.or_eq_true, List.contains_iff_mem, List.contains_iff_mem, List.take_succ_eq_append_getElem hk, List.mem_append, List.mem_singleton, beq_iff_eq]
  unfold upd freed
  rw [hm]
  by_cases e : j = l[k]
  · rw [if_pos e, show (j == l[k]) = true by simpa using e]; simp
  · rw [if_neg e, show (j == l[k]) = false by simpa using e, Bool.or_false]
theorem freed_all (u : Nat → Bool) (n j : Nat) (hj : j < n) : freed u (usedL u n) (usedL u n).length j = false := by
  unfold freed
  rw [List.take_length]
  cases hu : u j with
  | false => rfl
  | true => simp [(usedL_mem u n j).2 ⟨hj, hu⟩]
theorem cnt_none (u : Nat → Bool) : ∀ n, (∀ j, j < n → u j = false) → Bt.cnt u n = 0
  | 0, _ => rfl
  | n + 1, h => by simp only [Bt.cnt, cnt_none u n (fun j hj => h j (by omega)), h n (by omega)]; rfl
theorem bs33_99 (w : World) : (Instr.buildSlice 33 2 #[(0, .int .u8 9), (1, .int .u8 9)]).run Tryd.prog w = .ok (.slice (some ⟨w.heap.size, 0, none⟩) 2 2) (w.alloc (.cells #[.int .u8 9, .int .u8 9] 5)) := by kernel_rfl
theorem bytes_99 (w : World) : BytesAt (w.alloc (.cells #[.int .u8 9, .int .u8 9] 5)) (.slice (some ⟨w.heap.size, 0, none⟩) 2 2) [9, 9] :=
  BytesAt.new (w := w) (l := [9, 9]) 5 2 2 0 (fun x hx => by simp at hx; omega) (by simp)
set_option maxHeartbeats 2000000 in
theorem turned_true {w : World} {b c tb n : Nat} {u : Nat → Bool} {D : Nat → Nat} {F : Nat → Prop} {ob co yb cy : Nat} {R : Nat → Nat} (S : St w b c n u D) (hR : Rf w tb n u D F ob co yb cy R) :
    Calls Tryd.prog 13 #[.pointer (some ⟨b, 0, none⟩), .pointer (some ⟨tb, 0, none⟩)] w fun e w' => e = .returned (.bool true) ∧ Mod (fun k => k = b ∨ k = c) w w' := by
  have HS0 : Hid (St w b c n u D) := S
  have HR0 : Hid (Rf w tb n u D F ob co yb cy R) := hR
  have hn1 := S.n1
  have hn2 := S.n2
  have hlb := S.lt_b
  have hlc := S.lt_c
  have hb99 := bs33_99
  clear S hR
  go_enter Tryd.func13, Tryd.ntmps13
  go_wp2_with fail
  refine (rused_any w tb n ob co u HR0.out.on hn2 HR0.out.oc (HR0.out.lt _ HR0.out.oF)).mono ?_
  rintro e w1 ⟨v, rfl, hown, hm⟩
  obtain ⟨va, vc, rfl⟩ := slice_of_owns hown
  have HI : Hid (w1.ownsRow w.heap.size 3 1 (.slice va (usedL u n).length vc) (usedL u n).length ((usedL u n).map intV)) := hown
  have HM1 : Hid (Mod (fun _ => False) w w1) := hm
  have HS1 : Hid (St w1 b c n u D) := HS0.out.mod hm (fun h => h) (fun h => h) (fun h => h)
  have hle := usedL_le u n
  clear hown hm
  go_wp2_with fail
  go_loopw [10] (fun x wr => ∃ k : Nat, k ≤ (usedL u n).length ∧ x = .int .i64 k ∧ Hid (∃ D', St wr b c n (freed u (usedL u n) k) D') ∧ Hid (Mod (fun k => k = b ∨ k = c) w1 wr)) (fun x _ => (usedL u n).length - (intOf x).toNat)
  case atStart => exact ⟨0, Nat.zero_le _, rfl, ⟨D, by rw [freed_zero]; exact HS1.out⟩, Mod.refl _ _⟩
  case round =>
    obtain ⟨k, hk, rfl, HSr, HMr⟩ := hrel
    by_cases hlt : k < (usedL u n).length
    · obtain ⟨D', hSr⟩ := HSr.out
      have HS : Hid (St wr b c n (freed u (usedL u n) k) D') := hSr
      have hiu := (usedL_mem u n _).1 (List.getElem_mem hlt)
      have HFr := freed_at u n k hlt
      have HFr' : Hid (freed u (usedL u n) k (usedL u n)[k] = true) := HFr
      have HFs : Hid (upd (freed u (usedL u n) k) (usedL u n)[k] false = freed u (usedL u n) (k + 1)) := freed_succ u _ k hlt
      obtain ⟨g, hg, hcell⟩ : ∃ g, va = some ⟨g, 0, none⟩ ∧ wr.cell? ⟨g, k, none⟩ = some (.int .i64 ((usedL u n)[k] : Nat)) := by
        obtain ⟨a', cap', he, hi⟩ := ints_owned HI.out
        cases he
        obtain ⟨g, rfl, hgc⟩ := hi k _ (List.getElem?_eq_getElem hlt)
        have hge := (HI.out.lt g rfl).1
        refine ⟨g, rfl, ?_⟩
        rw [HMr.out.cell (p := ⟨g, k, none⟩) (block_lt_of_cell hgc) (by show ¬ (g = b ∨ g = c); omega)]; exact hgc
      subst hg
      have hlt' : (k : Int) < ((usedL u n).length : Int) := by omega
      have hin := hiu.1
      clear hSr HSr HFr hiu
      generalize (usedL u n)[k] = i at *
      go_wp2_with fail
      refine ((HS.out.mod ((Mod.refl (fun _ => False) wr).alloc _) (fun h => h) (fun h => h) (fun h => h)).write0 i _ 2 2 [9, 9] hin HFr'.out (by omega) rfl (bytes_99 wr)).mono ?_
      rintro e w2 ⟨rfl, S2, M2, -⟩
      have HS2 : Hid (St w2 b c n (freed u (usedL u n) k) (over D' (i * 64) [9, 9])) := S2
      have HM2 : Hid (Mod (fun k => k = b ∨ k = c) w1 w2) := (HMr.out.alloc _).trans (M2.mono (fun q _ h => .inr h))
      clear S2 M2
      go_wp2_with fail
      refine (HS2.out.free_ok i hin HFr'.out).mono ?_
      rintro e w3 ⟨rfl, S3, M3, -⟩
      rw [HFs.out] at S3
      have HS3 : Hid (∃ D', St w3 b c n (freed u (usedL u n) (k + 1)) D') := ⟨_, S3⟩
      have HM3 : Hid (Mod (fun k => k = b ∨ k = c) w1 w3) := HM2.out.trans M3
      clear S3 M3
      go_wp2_with fail
      exact ⟨⟨k + 1, hlt, by go_num, HS3, HM3⟩, by simp [intOf]; omega⟩
    · obtain rfl : k = (usedL u n).length := by omega
      obtain ⟨D', hSr⟩ := HSr.out
      have HS : Hid (St wr b c n (freed u (usedL u n) (usedL u n).length) D') := hSr
      have hcn := cnt_none _ n (fun j hj => freed_all u n j hj)
      have HCN : Hid (Bt.cnt (freed u (usedL u n) (usedL u n).length) n = 0) := hcn
      clear hSr HSr hcn
      go_wp2_with fail
      refine HS.out.left.mono ?_
      rw [HCN.out]
      rintro e w5 ⟨rfl, hw5⟩
      rw [hw5]
      clear hw5 w5
      go_wp2_with fail
      refine HS.out.total.mono ?_
      rintro e w5 ⟨rfl, hw5⟩
      rw [hw5]
      clear hw5 w5
      go_wp2_with fail
      go_ret
      exact ⟨by simp, (HM1.out.mono (fun _ _ h => h.elim)).trans HMr.out⟩
end Go.Proofs.YtipdpifpblaldaaDoor
