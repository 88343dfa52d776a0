/- A table of one file, as an array of bytes: what Truncate, Write, Read and Stat do with it. Conditions: a thousand blocks; the file owns all that is in use. -/
import Derived.Test.YtgplmgliockbcaaDoorM12
import Derived.Test.YtgplmgliockbcaaDoorM13
import Derived.Test.YtgplmgliockbcaaDoorM14
import Derived.Test.YtgplmgliockbcaaDoorM9
namespace Go.Proofs.YtgplmgliockbcaaDoor
open Go.RowKit
def TI (W : World) (t q b c : Nat) (L : List Nat) : Prop :=
  (∃ F R u D, Tb W t q b c 1000 1 0 F R u D ∧ F 0 0 ≠ 0 ∧ F 0 5 = ((L.length : Nat) : Int) ∧ Mp.FI u D (R 0) ∧ (∀ x, u x = true → Mp.OwF u D (R 0) x) ∧ ∀ x, x < 17792 → rd u D (R 0) x = L.getD x 0) ∧ L.length ≤ 17792 ∧ ∀ x ∈ L, x < 256
def cutL (L : List Nat) (s : Nat) : List Nat := (List.range s).map fun x => L.getD x 0
def wrL (L bs : List Nat) (o n : Nat) : List Nat := (List.range (max L.length (o + n))).map fun x => if o ≤ x ∧ x < o + n then bs.getD (x - o) 0 else L.getD x 0
theorem getD_map (m : Nat) (f : Nat → Nat) (x : Nat) : ((List.range m).map f).getD x 0 = if x < m then f x else 0 := by
  rw [List.getD_eq_getElem?_getD, List.getElem?_map]
  by_cases h : x < m
  · rw [if_pos h, List.getElem?_range h]; rfl
  · rw [if_neg h, List.getElem?_eq_none (by simp; omega)]; rfl
theorem getD_out (L : List Nat) (x : Nat) (h : L.length ≤ x) : L.getD x 0 = 0 := by rw [List.getD_eq_getElem?_getD, List.getElem?_eq_none h]; rfl
theorem getD_lt (L : List Nat) (h : ∀ x ∈ L, x < 256) (x : Nat) : L.getD x 0 < 256 := by
  by_cases hx : x < L.length
  · rw [List.getD_eq_getElem?_getD, List.getElem?_eq_getElem hx]; exact h _ (List.getElem_mem _)
  · rw [getD_out L x (by omega)]; omega
theorem cutL_len (L : List Nat) (s : Nat) : (cutL L s).length = s := by simp [cutL]
theorem wrL_len (L bs : List Nat) (o n : Nat) : (wrL L bs o n).length = max L.length (o + n) := by simp [wrL]
theorem cutL_8 {L : List Nat} (h : ∀ x ∈ L, x < 256) (s : Nat) : ∀ x ∈ cutL L s, x < 256 := fun x hx => by
  obtain ⟨j, _, rfl⟩ := List.mem_map.1 hx
  exact getD_lt L h j
theorem wrL_8 {L bs : List Nat} (h : ∀ x ∈ L, x < 256) (hb : ∀ x ∈ bs, x < 256) (o n : Nat) : ∀ x ∈ wrL L bs o n, x < 256 := fun x hx => by
  obtain ⟨j, _, rfl⟩ := List.mem_map.1 hx
  show (if _ then _ else _) < 256
  split
  · exact getD_lt bs hb _
  · exact getD_lt L h _
section
variable {W : World} {t q b c : Nat} {L : List Nat}
theorem TI.keep (T : TI W t q b c L) {s : Nat → Prop} {W' : World} (hM : Mod s W W') (h0 : ¬ s 0) (hb : ¬ s b) (hc : ¬ s c) (ht : ¬ s t) (hq : ¬ s q) : TI W' t q b c L := by
  obtain ⟨⟨F, R, u, D, h1, h2⟩, h3⟩ := T
  exact ⟨⟨F, R, u, D, h1.mod hM h0 hb hc ht hq, h2⟩, h3⟩
theorem TI.lts (T : TI W t q b c L) : t < W.heap.size ∧ q < W.heap.size ∧ b < W.heap.size ∧ c < W.heap.size := by
  obtain ⟨⟨F, R, u, D, h1, _⟩, _⟩ := T
  exact ⟨h1.lt_t, h1.lt_q, h1.S.lt_b, h1.S.lt_c⟩
theorem setN_own (R : Nat → Nat → Nat) (i : Nat) (g : Nat → Nat) : setN R i g i = g := by funext o; simp [setN]
theorem ti_trunc (T : TI W t q b c L) (s : Nat) (hs : s ≤ 17792) : Calls Tryd.prog 23 #[.pointer (some ⟨t, 0, none⟩), .int .i64 1, .int .i64 s] W fun e W' => e = .returned (.int .i64 0) ∧ TI W' t q b c (cutL L s) ∧ Mod (fun k => k = b ∨ k = c ∨ k = q) W W' := by
  obtain ⟨⟨F, R, u, D, h1, h2, h3, h4, h5, h6⟩, h7, h8⟩ := T
  have O := Mp.trunc_ok (n := 1000) h4 h1.S.dl h1.S.free h5 s hs _ rfl
  refine (ttrunc h1 0 s (by omega) h2 hs _ rfl).mono fun e W' ⟨he, hT, hM⟩ => ⟨he, ⟨⟨_, _, _, _, hT, by simpa [upd2] using h2, by rw [cutL_len]; simp [upd2], ?_, ?_, ?_⟩, by rw [cutL_len]; exact hs, cutL_8 h8 s⟩, hM⟩
  · rw [setN_own]; exact O.1
  · rw [setN_own]; exact O.2.2.2.1
  · intro x hx
    rw [setN_own, O.2.2.2.2 x hx, cutL, getD_map]
    split
    · exact h6 x hx
    · rfl
theorem ti_write (T : TI W t q b c L) (o g go cap n : Nat) (bs : List Nat) (hb : 0 < bs.length) (ho : o < 17792) (hcap : bs.length ≤ cap) (hcm : cap ≤ 9223372036854775807) (hsrc : Src W g go bs) (hgb : g ≠ b) (hgc : g ≠ c) (hgq : g ≠ q) (hn : n = min bs.length (17792 - o)) :
    Calls Tryd.prog 18 #[.pointer (some ⟨t, 0, none⟩), .int .i64 1, .int .i64 o, .slice (some ⟨g, go, none⟩) bs.length cap] W fun e W' => e = .returned (.tuple #[.int .i64 (n : Nat), .int .i64 0]) ∧ TI W' t q b c (wrL L bs o n) ∧ Mod (fun k => k = b ∨ k = c ∨ k = q) W W' := by
  obtain ⟨⟨F, R, u, D, h1, h2, h3, h4, h5, h6⟩, h7, h8⟩ := T
  have hl : (bs.take n).length = n := by rw [List.length_take]; omega
  have hb8 : ∀ x ∈ bs.take n, x < 256 := fun x hx => hsrc.lt x (List.mem_of_mem_take hx)
  have hon : o + (bs.take n).length ≤ 17792 := by omega
  have A1 := Mp.wrun_all (n := 1000) (by omega) (by omega) o (bs.take n) hb8 hon (bs.take n).length ⟨0, u, D, R 0⟩ h4 h1.S.dl h1.S.free (Nat.zero_le _) (by show _ - 0 ≤ _; omega) h5
  have O := Mp.wrun_ok (n := 1000) (by omega) o (bs.take n) hb8 hon (bs.take n).length ⟨0, u, D, R 0⟩ h4 h1.S.dl h1.S.free (Nat.zero_le _)
  refine (twrite h1 0 o g go cap bs (by omega) h2 hb ho hcap hcm hsrc hgb hgc hgq n hn).mono fun e W' hP => ?_
  unfold WPost at hP
  generalize wrun 1000 o (bs.take n) (bs.take n).length ⟨0, u, D, R 0⟩ = E at *
  rw [hl] at A1
  rw [A1, if_neg (by omega)] at hP
  obtain ⟨he, hT, hM⟩ := hP
  refine ⟨he, ⟨⟨_, _, _, _, hT, by simpa [upd2] using h2, ?_, ?_, ?_, ?_⟩, by rw [wrL_len]; omega, wrL_8 h8 hsrc.lt o n⟩, hM⟩
  · rw [wrL_len]; simp [upd2]; omega
  · rw [setN_own]; exact O.1.fi
  · rw [setN_own]; exact O.1.all h5
  · intro x hx
    rw [setN_own, O.2.2.2 x hx, A1, wrL, getD_map]
    show (if o + 0 ≤ x ∧ x < o + n then (bs.take n).getD (x - o) 0 else rd u D (R 0) x) = _
    by_cases hin : o + 0 ≤ x ∧ x < o + n
    · rw [if_pos hin, if_pos (by omega), if_pos (by omega), List.getD_eq_getElem?_getD, List.getD_eq_getElem?_getD, List.getElem?_take_of_lt (by omega)]
    · rw [if_neg hin, h6 x hx]
      by_cases hx2 : x < max L.length (o + n)
      · rw [if_pos hx2, if_neg (by omega)]
      · rw [if_neg hx2, getD_out L x (by omega)]
set_option maxRecDepth 8000 in
set_option maxHeartbeats 1000000 in
theorem tw_empty {n N : Nat} {clk : Int} {F : Nat → Nat → Int} {R : Nat → Nat → Nat} {u : Nat → Bool} {D : Nat → Nat} (T : Tb W t q b c n N clk F R u D) (i o cap : Nat) (p : Option Addr) (hi : i < N) (hz : F i 0 ≠ 0) : Calls Tryd.prog 18 #[.pointer (some ⟨t, 0, none⟩), .int .i64 ((i : Int) + 1), .int .i64 o, .slice p 0 cap] W fun e W' => e = .returned (.tuple #[.int .i64 0, .int .i64 0]) ∧ W' = W := by
  have HT : Hid (Tb W t q b c n N clk F R u D) := T
  have HZ : Hid (F i 0 ≠ 0) := hz
  clear T hz
  go_enter Tryd.func18, Tryd.ntmps18
  go_wp2_with (go_at_call 41; refine (find_ok HT.out i hi HZ.out).mono ?_; rintro e w1 ⟨rfl, hw1⟩; rw [hw1]; clear hw1 w1)
  go_ret2
  exact ⟨by simp, rfl⟩
set_option maxRecDepth 8000 in
set_option maxHeartbeats 1000000 in
theorem tw_over {n N : Nat} {clk : Int} {F : Nat → Nat → Int} {R : Nat → Nat → Nat} {u : Nat → Bool} {D : Nat → Nat} (T : Tb W t q b c n N clk F R u D) (i o m cap : Nat) (p : Option Addr) (hi : i < N) (hz : F i 0 ≠ 0) (hm : 0 < m) (ho : 17792 ≤ o) : Calls Tryd.prog 18 #[.pointer (some ⟨t, 0, none⟩), .int .i64 ((i : Int) + 1), .int .i64 o, .slice p m cap] W fun e W' => e = .returned (.tuple #[.int .i64 0, .int .i64 27]) ∧ W' = W := by
  have HT : Hid (Tb W t q b c n N clk F R u D) := T
  have HZ : Hid (F i 0 ≠ 0) := hz
  have h17 : decide ((17792 : Int) ≤ (o : Int)) = true := by simp; omega
  have hm0 : ((m : Int) == 0) = false := by rw [beq_eq_false_iff_ne]; omega
  clear T hz ho
  go_enter Tryd.func18, Tryd.ntmps18
  go_wp2_with (go_at_call 41; refine (find_ok HT.out i hi HZ.out).mono ?_; rintro e w1 ⟨rfl, hw1⟩; rw [hw1]; clear hw1 w1)
  go_ret2
  exact ⟨by simp, rfl⟩
set_option maxRecDepth 8000 in
set_option maxHeartbeats 1000000 in
theorem tr_end {n N : Nat} {clk : Int} {F : Nat → Nat → Int} {R : Nat → Nat → Nat} {u : Nat → Bool} {D : Nat → Nat} (T : Tb W t q b c n N clk F R u D) (i k : Nat) (hi : i < N) (hz : F i 0 ≠ 0) (hs : F i 5 = 0) : Calls Tryd.prog 17 #[.pointer (some ⟨t, 0, none⟩), .int .i64 ((i : Int) + 1), .int .i64 0, .int .i64 k] W fun e W' => e = .returned (.tuple #[.slice none 0 0, .int .i64 0]) ∧ W' = W := by
  have HT : Hid (Tb W t q b c n N clk F R u D) := T
  have HZ : Hid (F i 0 ≠ 0) := hz
  have h5 := T.cf i 5 hi (by omega)
  rw [hs] at h5
  clear T hz hs
  go_enter Tryd.func17, Tryd.ntmps17
  go_wp2_with (go_at_call 41; refine (find_ok HT.out i hi HZ.out).mono ?_; rintro e w1 ⟨rfl, hw1⟩; rw [hw1]; clear hw1 w1)
  go_ret2
  exact ⟨by simp, rfl⟩
theorem ti_none (T : TI W t q b c L) (o m cap : Nat) (p : Option Addr) (h : m = 0 ∨ 17792 ≤ o) : Calls Tryd.prog 18 #[.pointer (some ⟨t, 0, none⟩), .int .i64 1, .int .i64 o, .slice p m cap] W fun e W' => (∃ x y, e = .returned (.tuple #[.int .i64 x, .int .i64 y])) ∧ W' = W := by
  obtain ⟨⟨F, R, u, D, h1, h2, _⟩, _⟩ := T
  by_cases hm : m = 0
  · subst hm
    exact (tw_empty h1 0 o cap p (by omega) h2).mono fun _ _ ⟨he, hw⟩ => ⟨⟨_, _, he⟩, hw⟩
  · exact (tw_over h1 0 o m cap p (by omega) h2 (by omega) (by omega)).mono fun _ _ ⟨he, hw⟩ => ⟨⟨_, _, he⟩, hw⟩
theorem ti_read (T : TI W t q b c L) : Calls Tryd.prog 17 #[.pointer (some ⟨t, 0, none⟩), .int .i64 1, .int .i64 0, .int .i64 17793] W fun e W' => ∃ v, e = .returned (.tuple #[v, .int .i64 0]) ∧ BytesAt W' v L ∧ Mod (fun _ => False) W W' := by
  obtain ⟨⟨F, R, u, D, h1, h2, h3, h4, h5, h6⟩, h7, h8⟩ := T
  by_cases h0 : L.length = 0
  · obtain rfl : L = [] := List.eq_nil_of_length_eq_zero h0
    refine (tr_end h1 0 17793 (by omega) h2 (by simpa using h3)).mono fun e W' ⟨he, hw⟩ => ⟨_, he, ⟨fun x hx => (by cases hx), none, 0, rfl, fun _ => rfl, fun ad h => by cases h⟩, by rw [hw]; exact Mod.refl _ W⟩
  · refine (tread h1 0 0 17793 L.length (by omega) h2 h3 (by omega) (by omega) L.length (by omega)).mono fun e W' ⟨he, hR⟩ => ⟨_, he, ⟨h8, some ⟨W.heap.size, 0, none⟩, L.length, rfl, (fun h => by cases h), fun ad had j x hj => ?_⟩, hR.mod⟩
    cases had
    have hjl : j < L.length := (List.getElem?_eq_some_iff.1 hj).1
    have := hR.at_ j hjl
    rw [if_pos hjl, Nat.zero_add, h6 j (by omega), List.getD_eq_getElem?_getD, hj] at this
    rw [Addr.add_mid, Nat.zero_add]
    exact this
theorem ti_stat (T : TI W t q b c L) : Calls Tryd.prog 19 #[.pointer (some ⟨t, 0, none⟩), .int .i64 1] W fun e W' => ∃ F bl, F 0 5 = ((L.length : Nat) : Int) ∧ e = .returned (.tuple #[.agg (statW F bl 0).toArray, .int .i64 0]) ∧ Mod (fun _ => False) W W' := by
  obtain ⟨⟨F, R, u, D, h1, h2, h3, _⟩, _⟩ := T
  exact Calls.mono (tstat h1 0 (by omega) h2) fun e W' ⟨⟨bl, he⟩, hM⟩ => ⟨F, bl, h3, he, hM⟩
end
set_option maxHeartbeats 1000000 in
theorem same_true {W : World} {v v' : Value} {L : List Nat} (h : BytesAt W v L) (h' : BytesAt W v' L) : Calls Tryd.prog 32 #[v, v'] W fun e W' => e = .returned (.bool true) ∧ W' = W := by
  have c1 := conv_bytes h
  have c2 := conv_bytes h'
  clear h h'
  go_enter Tryd.func32, Tryd.ntmps32
  go_wp2
  go_ret
  exact ⟨by simp, rfl⟩
end Go.Proofs.YtgplmgliockbcaaDoor
