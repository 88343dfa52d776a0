/- Sets of bytes in memory; the walks of the program's addClass, addRange, bytes. Conditions: a set that lies in memory, a name of a class, bytes. -/
import Derived.Test.YtncnmeidciailaaDoorLb1
import Derived.Test.YtncnmeidciailaaDoorLa8
namespace Go.Proofs.YtncnmeidciailaaDoor
open Go.RowKit
attribute [local go_sem] ext_eq app_eq get_eq
theorem gInClass (n : List UInt8) (hn : n ∈ Gl.names) (c : UInt8) (w : World) : Calls Tryd.prog 70 #[.string ⟨n.toArray⟩, .int .u8 c.toNat] w fun e w' => e = .returned (.bool (Gl.inC n c)) ∧ w' = w := by
  simp only [Gl.names, List.mem_cons, List.not_mem_nil, or_false] at hn
  rcases hn with rfl | rfl | rfl | rfl | rfl | rfl | rfl | rfl | rfl | rfl | rfl | rfl
  · exact gInAlnum c w
  · exact gInAlpha c w
  · exact gInBlank c w
  · exact gInCntrl c w
  · exact gInDigit c w
  · exact gInGraph c w
  · exact gInLower c w
  · exact gInPrint c w
  · exact gInPunct c w
  · exact gInSpace c w
  · exact gInUpper c w
  · exact gInXdigit c w
namespace Gl
def updB (g : UInt8 → Bool) (k : UInt8) (v : Bool) : UInt8 → Bool := fun x => if x = k then v else g x
end Gl
theorem SetT.cell {W : World} {b : Nat} {g : UInt8 → Bool} (h : SetT W b g) (k : UInt8) : W.cell? ⟨b, k.toNat, none⟩ = some (.bool (g k)) := by
  obtain ⟨arr, h1, h2⟩ := h
  rw [cell_heap h1]; exact h2 k
theorem SetT.cellN {W : World} {b : Nat} {g : UInt8 → Bool} (h : SetT W b g) (k : Nat) (hk : k < 256) : W.cell? ⟨b, k, none⟩ = some (.bool (g (UInt8.ofNat k))) := by
  have := h.cell (UInt8.ofNat k)
  rwa [UInt8.toNat_ofNat', Nat.mod_eq_of_lt (by simpa using hk)] at this
theorem SetT.frozen {W : World} {b : Nat} {g : UInt8 → Bool} (h : SetT W b g) (k : Nat) : W.frozen? ⟨b, k, none⟩ = false := by
  obtain ⟨arr, h1, h2⟩ := h
  simp [World.frozen?, h1]
theorem SetT.lt {W : World} {b : Nat} {g : UInt8 → Bool} (h : SetT W b g) : b < W.heap.size := by
  obtain ⟨arr, h1, h2⟩ := h
  exact heap_lt h1
theorem SetT.congr {W : World} {b : Nat} {g g' : UInt8 → Bool} (h : SetT W b g) (e : ∀ x, g' x = g x) : SetT W b g' := by
  obtain ⟨arr, h1, h2⟩ := h
  exact ⟨arr, h1, fun k => by rw [e]; exact h2 k⟩
theorem SetT.drewN {W : World} {b : Nat} {g : UInt8 → Bool} (h : SetT W b g) (m : Nat) : SetT (W.drewN m) b g := h
theorem SetT.set {W : World} {b : Nat} {g : UInt8 → Bool} (h : SetT W b g) (k : UInt8) (v : Bool) : SetT (W.setCell ⟨b, k.toNat, none⟩ (.bool v)) b (Gl.updB g k v) := by
  obtain ⟨arr, h1, h2⟩ := h
  refine ⟨arr.setIfInBounds k.toNat (.bool v), ?_, fun j => ?_⟩
  · show (W.heap.modify b _)[b]? = _
    rw [Array.getElem?_modify, if_pos rfl, h1]; rfl
  · unfold Gl.updB
    rw [Array.getElem?_setIfInBounds]
    by_cases e : j = k
    · subst e
      rw [if_pos rfl, if_pos rfl, if_pos (by have := h2 j; exact (Array.getElem?_eq_some_iff.1 this).1)]
    · rw [if_neg (fun h => e (UInt8.toNat_inj.1 h.symm)), if_neg e]; exact h2 j
theorem SetT.setN {W : World} {b : Nat} {g : UInt8 → Bool} (h : SetT W b g) (k : Nat) (hk : k < 256) (v : Bool) : SetT (W.setCell ⟨b, k, none⟩ (.bool v)) b (Gl.updB g (UInt8.ofNat k) v) := by
  have := h.set (UInt8.ofNat k) v
  rwa [UInt8.toNat_ofNat', Nat.mod_eq_of_lt (by simpa using hk)] at this
theorem ofN {k : Nat} (hk : k < 256) : (UInt8.ofNat k).toNat = k := by rw [UInt8.toNat_ofNat', Nat.mod_eq_of_lt (by simpa using hk)]
theorem ofN_eq {k : Nat} (hk : k < 256) (x : UInt8) : x = UInt8.ofNat k ↔ x.toNat = k := by rw [← UInt8.toNat_inj, ofN hk]
set_option maxHeartbeats 1000000 in
theorem gAddRange (b lo hi : Nat) (hlo : lo < 256) (hhi : hi < 256) (g : UInt8 → Bool) (w : World) (h : SetT w b g) : Calls Tryd.prog 93 #[.pointer (some ⟨b, 0, none⟩), .int .i64 lo, .int .i64 hi] w fun e w' => e = .returned (.tuple #[]) ∧ SetT w' b (fun x => g x || (decide (lo ≤ x.toNat) && decide (x.toNat ≤ hi))) ∧ Md (fun k => k = b) w w' := by
  have HS := hidA h
  have HM := hidA (Md.refl (fun k => k = b) w)
  clear h
  go_enter Tryd.func93, Tryd.ntmps93
  go_wp2
  go_loopw [6] (fun s6 W => ∃ (k : Nat), s6 = .int .i64 k ∧ lo ≤ k ∧ (k ≤ hi + 1 ∨ k = lo) ∧ Hid (SetT W b (fun x => g x || (decide (lo ≤ x.toNat) && decide (x.toNat < k)))) ∧ Hid (Md (fun k => k = b) w W)) (fun s6 _ => hi + 1 - (intOf s6).toNat)
  case atStart => exact ⟨lo, rfl, Nat.le_refl _, .inr rfl, HS.out.congr (fun x => by simp; omega), HM⟩
  case round =>
    obtain ⟨k, rfl, hk1, hk2, HK, HMk⟩ := hrel
    rename_i wr
    have hw1 : IntKind.i64.wrap ((k : Int) + 1) = ((k + 1 : Nat) : Int) := by rw [IntKind.wrap_i64]; omega
    by_cases hlt : k ≤ hi
    · have hc := HK.out.cellN k (by omega)
      have hf := HK.out.frozen k
      have HK2 := hidA (HK.out.setN k (by omega) true)
      have HM2 := hidA (HMk.out.setCell ⟨b, k, none⟩ (.bool true) (.inl rfl))
      go_wp2
      exact ⟨⟨k + 1, by first | rfl | go_num, by omega, .inl (by omega), HK2.out.congr (fun x => by
        unfold Gl.updB
        by_cases e : x = UInt8.ofNat k
        · have := (ofN_eq (by omega) x).1 e
          rw [if_pos e]; simp; omega
        · have : x.toNat ≠ k := fun h => e ((ofN_eq (k := k) (by omega) x).2 h)
          rw [if_neg e]; congr 1; rw [Bool.eq_iff_iff]; simp; omega), HM2⟩, by simp [intOf]; omega⟩
    · clear HS HM
      go_wp2
      exact ⟨rfl, _, results_none rfl _ _ _, rfl, HK.out.congr (fun x => by congr 1; rw [Bool.eq_iff_iff]; simp; omega), HMk.out⟩
set_option maxRecDepth 100000 in
set_option maxHeartbeats 2000000 in
theorem gAddClass (b : Nat) (n : List UInt8) (hn : n ∈ Gl.names) (g : UInt8 → Bool) (w : World) (h : SetT w b g) : Calls Tryd.prog 50 #[.pointer (some ⟨b, 0, none⟩), .string ⟨n.toArray⟩] w fun e w' => e = .returned (.tuple #[]) ∧ SetT w' b (fun x => g x || Gl.inC n x) ∧ Md (fun k => k = b) w w' := by
  have HS := hidA h
  have HM := hidA (Md.refl (fun k => k = b) w)
  clear h
  go_enter Tryd.func50, Tryd.ntmps50
  go_wp2
  go_loopw [5] (fun s5 W => ∃ (k : Nat), s5 = .int .i64 k ∧ k ≤ 256 ∧ Hid (SetT W b (fun x => g x || (Gl.inC n x && decide (x.toNat < k)))) ∧ Hid (Md (fun k => k = b) w W)) (fun s5 _ => 256 - (intOf s5).toNat)
  case atStart => exact ⟨0, rfl, Nat.zero_le _, HS.out.congr (fun x => by simp), HM⟩
  case round =>
    obtain ⟨k, rfl, hk, HK, HMk⟩ := hrel
    rename_i wr
    clear HS HM
    by_cases hlt : k < 256
    · have hc := HK.out.cellN k hlt
      have hf := HK.out.frozen k
      have hoN := ofN hlt
      have hgk : (g (UInt8.ofNat k) || (Gl.inC n (UInt8.ofNat k) && decide ((UInt8.ofNat k).toNat < k))) = g (UInt8.ofNat k) := by rw [hoN]; simp
      rw [hgk] at hc
      have HC : Hid (∀ W, Calls Tryd.prog 70 #[.string ⟨n.toArray⟩, .int .u8 k] W fun e w' => e = .returned (.bool (Gl.inC n (UInt8.ofNat k))) ∧ w' = W) := fun W => by
        have := gInClass n hn (UInt8.ofNat k) W
        rwa [hoN] at this
      have hu8 : IntKind.u8.wrap (k : Int) = (k : Int) := by rw [IntKind.wrap_u8]; omega
      have HK2 := hidA (fun v => HK.out.setN k hlt v)
      have HM2 := hidA (fun v => HMk.out.setCell ⟨b, k, none⟩ (.bool v) (.inl rfl))
      have HF : Hid (∀ x, (g x || (Gl.inC n x && decide (x.toNat < k + 1))) = Gl.updB (fun x => g x || (Gl.inC n x && decide (x.toNat < k))) (UInt8.ofNat k) (g (UInt8.ofNat k) || Gl.inC n (UInt8.ofNat k)) x) := fun x => by
        unfold Gl.updB
        by_cases e : x = UInt8.ofNat k
        · rw [if_pos e, e, hoN]; simp
        · have : x.toNat ≠ k := fun h => e ((ofN_eq (k := k) hlt x).2 h)
          rw [if_neg e]
          congr 2
          rw [Bool.eq_iff_iff]; simp; omega
      clear hgk hoN
      generalize g (UInt8.ofNat k) = gk at *
      generalize Gl.inC n (UInt8.ofNat k) = ck at *
      cases gk with
      | true =>
        go_wp2_with (go_region_with (fail))
        all_goals exact ⟨⟨k + 1, by first | rfl | go_num, hlt, (HK2.out true).congr HF.out, (HM2.out true).drewN 1⟩, by simp [intOf]; omega⟩
      | false =>
        go_wp2_with (go_region_with ((go_at_call 70; refine (HC.out _).mono ?_; rintro e w1 ⟨rfl, hw'⟩; rw [hw']; clear hw' w1)))
        all_goals exact ⟨⟨k + 1, by first | rfl | go_num, hlt, (HK2.out ck).congr HF.out, (HM2.out ck).drewN 1⟩, by simp [intOf]; omega⟩
    · obtain rfl : k = 256 := by omega
      go_wp2
      exact ⟨rfl, _, results_none rfl _ _ _, rfl, HK.out.congr (fun x => by rw [decide_eq_true x.toNat_lt, Bool.and_true]), HMk.out⟩
namespace Gl
/-- The bytes of a set below k, rising. -/
def lst (g : UInt8 → Bool) : Nat → List UInt8
  | 0 => []
  | k + 1 => lst g k ++ (if g (UInt8.ofNat k) then [UInt8.ofNat k] else [])
theorem lst_len (g : UInt8 → Bool) : ∀ k, (lst g k).length ≤ k
  | 0 => Nat.le_refl _
  | k + 1 => by
    have := lst_len g k
    simp only [lst, List.length_append]
    split <;> simp <;> omega
end Gl
set_option maxRecDepth 100000 in
set_option maxHeartbeats 2000000 in
theorem gBytes (b : Nat) (g : UInt8 → Bool) (w : World) (h : SetT w b g) : Calls Tryd.prog 51 #[.pointer (some ⟨b, 0, none⟩)] w fun e w' => ∃ v, e = .returned v ∧ By w.heap.size w' v (Gl.lst g 256) ∧ Below w.heap.size w w' := by
  obtain ⟨iB, hiB, hz0, hz1, hz2⟩ := infoB
  have HS := hidA h
  have HY0 := hidA (By.nil w.heap.size w)
  have HB0 := hidA (Below.refl w.heap.size w)
  have hb := h.lt
  clear h
  go_enter Tryd.func51, Tryd.ntmps51
  go_wp2
  go_loopw [3, 5] (fun v s5 W => ∃ (k : Nat), s5 = .int .i64 k ∧ k ≤ 256 ∧ Hid (By w.heap.size W v (Gl.lst g k)) ∧ Hid (Below w.heap.size w W)) (fun _ s5 _ => 256 - (intOf s5).toNat)
  case atStart => exact ⟨0, rfl, Nat.zero_le _, HY0, HB0⟩
  case round =>
    obtain ⟨k, rfl, hk, HY, HB⟩ := hrel
    rename_i wr
    have hsz : w.heap.size ≤ wr.heap.size := HB.out.size
    by_cases hlt : k < 256
    · have hc : wr.cell? ⟨b, k, none⟩ = some (.bool (g (UInt8.ofNat k))) := (HB.out.cell (p := ⟨b, k, none⟩) hb).trans (HS.out.cellN k hlt)
      have hoN := ofN hlt
      have hu8 : IntKind.u8.wrap (k : Int) = (k : Int) := by rw [IntKind.wrap_u8]; omega
      have hll := Gl.lst_len g k
      have HE : Hid (Gl.lst g (k + 1) = Gl.lst g k ++ (if g (UInt8.ofNat k) then [UInt8.ofNat k] else [])) := rfl
      generalize Gl.lst g k = PK at *
      cases hg : g (UInt8.ofNat k) with
      | false =>
        rw [hg] at hc HE
        clear hg HS HY0 HB0
        go_wp2
        exact ⟨⟨k + 1, by first | rfl | go_num, hlt, hidA (by rw [HE.out]; simpa using HY.out), HB⟩, by simp [intOf]; omega⟩
      | true =>
        rw [hg] at hc HE
        clear hg HS HY0 HB0
        go_wp2_with (at_builtin; refine wpList_append_own_at _ rfl _ _ 32 rfl w.heap.size 5 iB (.int .u8 0) 1 1 Tryd.underlying32 hiB hz0 hz1 hz2 rfl (by decide) _ _ _ rfl (HY.out.alloc _) ⟨wr.heap.size, 0, none⟩ 1 1 [.int .u8 k] rfl rfl (cell_one_new _ _ _) (one_u8 _) (by unfold maxLen; omega) (by omega) (by simp; omega) ?_; intro v2 w2 hown hg _ hat; obtain ⟨y2, b2, k2⟩ := HY.out.add (c := UInt8.ofNat k) HB.out hsz _ (by rw [hoN]; exact hown) hg; have Y2 := hidA y2; have B2 := hidA b2; clear hown hg hat y2 b2 k2)
        exact ⟨⟨k + 1, by first | rfl | go_num, hlt, hidA (by rw [HE.out]; simpa using Y2.out), B2⟩, by simp [intOf]; omega⟩
    · obtain rfl : k = 256 := by omega
      clear HS HY0 HB0
      go_wp2
      go_ret
      exact ⟨_, rfl, HY.out, HB.out⟩
end Go.Proofs.YtncnmeidciailaaDoor
