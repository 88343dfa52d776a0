/- The program's fieldEnd and field. Condition: lengths that fit. -/
import Derived.Test.YtdjefinehabifaaDoorOa1
import Derived.Test.YtdjefinehabifaaDoorShelf
namespace Go.Proofs.YtdjefinehabifaaDoor
open Go.RowKit
attribute [local go_sem] ext_eq app_eq get_eq
namespace Od
theorem index_ix (c : UInt8) : ∀ l : List UInt8, Lib.indexByte l c = if ix c l < l.length then (ix c l : Int) else -1
  | [] => rfl
  | x :: l => by
    have ih := index_ix c l
    by_cases h : x = c
    · have e : ix c (x :: l) = 0 := if_neg (by simp [h])
      rw [e]
      simp [Lib.indexByte, h]
    · have e : ix c (x :: l) = ix c l + 1 := if_pos (by simp [h])
      rw [e]
      have hb : (x == c) = false := by simpa using h
      simp only [Lib.indexByte, hb, Bool.false_eq_true, if_false, ih, List.length_cons, Nat.add_lt_add_iff_right]
      by_cases hl : ix c l < l.length
      · have : ¬ ((ix c l : Int) == -1) = true := by simp
        rw [if_pos hl, if_pos hl, if_neg this]; simp
      · rw [if_neg hl, if_neg hl]; simp
end Od
def nums (l : List UInt8) : List Int := l.map fun c => (c.toNat : Int)
theorem nums_len (l : List UInt8) : (nums l).length = l.length := by simp [nums]
theorem nums_of (l : List UInt8) : Lib.bytesOf (nums l) = l := by
  unfold Lib.bytesOf nums
  rw [List.map_map]
  conv => rhs; rw [← List.map_id l]
  apply List.map_congr_left
  intro c _
  simp
theorem nums_get (l : List UInt8) {j : Nat} (h : j < l.length) : (nums l).getD j 0 = (l[j].toNat : Int) := by simp [nums, List.getD, h]
theorem oIndex (l : List UInt8) (a : Option Addr) (c : Nat) (x : UInt8) (w : World) (hS : Sr w a c l) : Calls Tryd.prog 101 #[.slice a l.length c, .int .u8 x.toNat] w fun e w' => e = .returned (.int .i64 (Lib.indexByte l x)) ∧ w' = w := by
  cases a with
  | none =>
    have h0 : c = 0 := hS.nil rfl
    have hl : l = [] := List.length_eq_zero_iff.1 (by have := hS.le; omega)
    subst h0 hl
    exact Tryd.bytes_IndexByte_nil _ w
  | some ad =>
    have h := Tryd.bytes_IndexByte_at ad l.length c (nums l) x.toNat w (nums_len l) (fun i hi => by
      obtain ⟨g, o, e, _, hc⟩ := hS.src i hi
      cases e
      rw [nums_get l hi]
      rw [show (⟨g, o, none⟩ : Addr).add i = ⟨g, o + i, none⟩ by simp [Addr.add]]; exact hc)
    rw [nums_of] at h
    simpa using h
set_option maxRecDepth 100000 in
set_option maxHeartbeats 2000000 in
theorem oFieldEnd (l : List UInt8) (a : Option Addr) (c b : Nat) (sep : UInt8) (hl : l.length ≤ 2 ^ 60) (hb : b ≤ l.length) (w : World) (hS : Sr w a c l) : Calls Tryd.prog 78 #[.slice a l.length c, .int .i64 b, .int .u8 sep.toNat] w fun e w' => e = .returned (.int .i64 ((b + Od.fe sep (l.drop b) : Nat) : Int)) ∧ Below w.heap.size w w' := by
  obtain ⟨a1, c1, hs1, hr⟩ := sl_from hS b hb
  have hrl : (l.drop b).length = l.length - b := List.length_drop
  have hfe := Od.fe_le sep (l.drop b)
  obtain ⟨R, HRR⟩ : ∃ R : Nat, Hid (R = b + Od.fe sep (l.drop b)) := ⟨_, hidA rfl⟩
  rw [← HRR.out]
  have hR := HRR.out
  clear HRR
  generalize l.drop b = r at *
  by_cases h0 : sep = 0
  · subst h0
    have e1 : Od.fe 0 r = Od.lead Od.bl r + Od.lead Od.nb (r.drop (Od.lead Od.bl r)) := if_pos rfl
    have hB := Od.lead_le Od.bl r
    obtain ⟨a2, c2, hs2, hq⟩ := sl_from hr (Od.lead Od.bl r) hB
    have HA := hidA (oLeadBlank r a1 c1 (by omega) w hr.src)
    have HC := hidA (oLeadWord (r.drop (Od.lead Od.bl r)) a2 c2 (by rw [List.length_drop]; omega) w hq.src)
    have hql : (r.drop (Od.lead Od.bl r)).length = r.length - Od.lead Od.bl r := List.length_drop
    have hW := Od.lead_le Od.nb (r.drop (Od.lead Od.bl r))
    generalize r.drop (Od.lead Od.bl r) = q at *
    generalize Od.lead Od.bl r = B at *
    generalize Od.lead Od.nb q = V at *
    have hb3 : (b : Int) + (B : Int) + (V : Int) ≤ 2 ^ 61 := by omega
    have hHR := hidA (show R = b + B + V by omega)
    clear hR e1 hS hr hq hfe hrl hql hB hW
    go_enter Tryd.func78, Tryd.ntmps78
    go_wp2_with fail
    refine HA.out.mono ?_
    rintro e w1 ⟨rfl, rfl⟩
    go_wp2_with fail
    refine HC.out.mono ?_
    rintro e w1 ⟨rfl, rfl⟩
    go_wp2_with fail
    go_ret
    exact ⟨by rw [hHR.out]; simp, Below.refl _ _⟩
  · have e1 : Od.fe sep r = Od.ix sep r := if_neg h0
    have e0 := byte_no sep 0 0 rfl h0
    have HA := hidA (oIndex r a1 c1 sep w hr)
    rw [Od.index_ix] at HA
    rw [e1] at hR hfe
    by_cases hlt : Od.ix sep r < r.length
    · rw [if_pos hlt] at HA
      generalize Od.ix sep r = i at *
      have hw1 : IntKind.i64.wrap ((b : Int) + (i : Int)) = (R : Int) := by rw [IntKind.wrap_i64]; omega
      have hge : (0 : Int) ≤ (i : Int) := by omega
      clear hR e1 hS hr hfe hrl
      go_enter Tryd.func78, Tryd.ntmps78
      go_wp2_with fail
      refine HA.out.mono ?_
      rintro e w1 ⟨rfl, rfl⟩
      go_wp2_with fail
      go_ret
      exact ⟨rfl, Below.refl _ _⟩
    · rw [if_neg hlt] at HA
      have hR2 := hidA (show l.length = R by omega)
      clear hR e1 hS hr hfe hrl hlt
      go_enter Tryd.func78, Tryd.ntmps78
      go_wp2_with fail
      refine HA.out.mono ?_
      rintro e w1 ⟨rfl, rfl⟩
      go_wp2_with fail
      go_ret
      exact ⟨by rw [← hR2.out]; rfl, Below.refl _ _⟩
namespace Od
/-- A field's place behind so many steps. -/
def FR (sep : UInt8) (l : List UInt8) (m b : Nat) : Prop := ∃ pre, fs sep l = pre ++ E sep b (l.drop b) ∧ pre.length = m ∧ b ≤ l.length
theorem FR.zero (sep : UInt8) (l : List UInt8) : FR sep l 0 0 := ⟨[], rfl, rfl, Nat.zero_le _⟩
theorem FR.next {sep : UInt8} {l : List UInt8} {m b : Nat} (h : FR sep l m b) (hlt : b + fe sep (l.drop b) < l.length) : FR sep l (m + 1) (nx sep (b + fe sep (l.drop b))) := by
  obtain ⟨pre, h1, h2, h3⟩ := h
  refine ⟨pre ++ [(b, b + fe sep (l.drop b))], ?_, by simp [h2], by unfold nx; split <;> omega⟩
  rw [h1, E_step sep b l h3, if_pos hlt, List.append_assoc]; rfl
theorem FR.here {sep : UInt8} {l : List UInt8} {m b : Nat} (h : FR sep l m b) (d : Nat × Nat) : (fs sep l).getD m d = (b, b + fe sep (l.drop b)) := by
  obtain ⟨pre, h1, h2, h3⟩ := h
  rw [h1, E_step sep b l h3, List.getD_eq_getElem?_getD, List.getElem?_append_right (by omega), h2, Nat.sub_self]; rfl
theorem FR.last {sep : UInt8} {l : List UInt8} {m b : Nat} (h : FR sep l m b) (hlt : ¬ b + fe sep (l.drop b) < l.length) (d : Nat × Nat) {k : Nat} (hk : m < k) : (fs sep l).getD k d = d := by
  obtain ⟨pre, h1, h2, h3⟩ := h
  rw [h1, E_step sep b l h3, if_neg hlt, List.getD_eq_getElem?_getD, List.getElem?_eq_none (by simp; omega)]; rfl
end Od
set_option maxRecDepth 100000 in
set_option maxHeartbeats 4000000 in
theorem oField0 (l : List UInt8) (a : Option Addr) (c : Nat) (n : Int) (hl : l.length ≤ 2 ^ 60) (hn : -(2 ^ 63) ≤ n ∧ n < 2 ^ 63) (w : World) (hS : Sr w a c l) : Calls Tryd.prog 52 #[.slice a l.length c, .int .i64 n, .int .u8 0] w fun e w' => e = .returned (.tuple #[.int .i64 ((Od.fd 0 l n).1 : Int), .int .i64 ((Od.fd 0 l n).2 : Int)]) ∧ Below w.heap.size w w' := by
  obtain ⟨F1, HF1⟩ : ∃ r : Nat, Hid (r = (Od.fd 0 l n).1) := ⟨_, hidA rfl⟩
  obtain ⟨F2, HF2⟩ : ∃ r : Nat, Hid (r = (Od.fd 0 l n).2) := ⟨_, hidA rfl⟩
  rw [← HF1.out, ← HF2.out]
  have HS := hidA hS
  clear hS
  have HA : Hid (Calls Tryd.prog 78 #[.slice a l.length c, .int .i64 0, .int .u8 0] w fun e w' => e = .returned (.int .i64 ((0 + Od.fe 0 (l.drop 0) : Nat) : Int)) ∧ Below w.heap.size w w') := oFieldEnd l a c 0 0 hl (Nat.zero_le _) w HS.out
  obtain ⟨e0, He0⟩ : ∃ r : Nat, Hid (r = 0 + Od.fe 0 (l.drop 0)) := ⟨_, hidA rfl⟩
  rw [← He0.out] at HA
  go_enter Tryd.func52, Tryd.ntmps52
  go_wp2_with fail
  refine HA.out.mono ?_
  rintro e w1 ⟨rfl, b1⟩
  have HB1 := hidA b1
  clear b1 HA
  go_wp2
  go_loopw [1, 8, 9] (fun s1 s8 s9 W => ∃ (q : Int) (m b e : Nat), s1 = .int .i64 q ∧ s8 = .int .i64 b ∧ s9 = .int .i64 e ∧ Hid (e = b + Od.fe 0 (l.drop b)) ∧ Hid (Od.FR 0 l m b) ∧ Hid (q = n - m) ∧ Hid (m = 0 ∨ 1 ≤ q) ∧ Hid (Below w.heap.size w W)) (fun s1 _ _ _ => (intOf s1).toNat)
  case atStart => exact ⟨n, 0, 0, e0, rfl, rfl, rfl, He0, hidA (Od.FR.zero 0 l), hidA (by simp), hidA (.inl rfl), HB1⟩
  case round =>
    obtain ⟨q, m, b, e, rfl, rfl, rfl, HE, HF, HQ, HM, HB⟩ := hrel
    have hle : e ≤ l.length := by
      have h1 := HE.out
      have h2 := Od.fe_le 0 (l.drop b)
      obtain ⟨_, _, _, h3⟩ := HF.out
      rw [List.length_drop] at h2; omega
    by_cases h1 : 1 < q
    · have hq1 : IntKind.i64.wrap (q - 1) = q - 1 := by have := HQ.out; rw [IntKind.wrap_i64]; omega
      have hqb : q - 1 < 2 ^ 63 := by have := HQ.out; omega
      by_cases he : e = l.length
      · have hee : ((e : Int) == (l.length : Int)) = true := by simp [he]
        have HR : Hid (F1 = e ∧ F2 = e) := by
          have hf : Od.fd 0 l n = (l.length, l.length) := HF.out.last (by have := HE.out; omega) _ (by have := HQ.out; omega)
          have h1 := HF1.out
          have h2 := HF2.out
          rw [hf] at h1 h2
          exact ⟨by rw [h1, he], by rw [h2, he]⟩
        clear HS HE HF HQ HM He0 he hle
        go_wp2_with fail
        go_ret2
        exact ⟨by rw [HR.out.1, HR.out.2]; rfl, HB.out⟩
      · have hee : ((e : Int) == (l.length : Int)) = false := by rw [beq_eq_false_iff_ne]; omega
        have hlt : e < l.length := by omega
        have HF2 := hidA (HF.out.next (by rw [← HE.out]; exact hlt))
        rw [← HE.out] at HF2
        have HQ2 : Hid (q - 1 = n - ((m + 1 : Nat) : Int)) := by have := HQ.out; show q - 1 = _; omega
        have hnx : Od.nx 0 e = e := if_pos rfl
        rw [hnx] at HF2
        obtain ⟨B, HBB⟩ : ∃ B : Nat, Hid (B = e) := ⟨_, hidA rfl⟩
        rw [← HBB.out] at HF2 hlt hle he hee ⊢
        clear HBB
        have HA : Hid (Calls Tryd.prog 78 #[.slice a l.length c, .int .i64 B, .int .u8 0] wr fun e w' => e = .returned (.int .i64 ((B + Od.fe 0 (l.drop B) : Nat) : Int)) ∧ Below wr.heap.size wr w') := oFieldEnd l a c B 0 hl (by omega) wr (HS.out.grow HB.out)
        obtain ⟨e1, He1⟩ : ∃ r : Nat, Hid (r = B + Od.fe 0 (l.drop B)) := ⟨_, hidA rfl⟩
        rw [← He1.out] at HA
        clear HS HE HF HQ HM hlt he hle
        go_wp2_with fail
        refine HA.out.mono ?_
        rintro x w2 ⟨rfl, b2⟩
        have HB2 := hidA (HB.out.trans (b2.mono HB.out.size))
        clear HA HB b2
        go_wp2_with fail
        exact ⟨⟨q - 1, m + 1, B, e1, by first | rfl | go_num, by first | rfl | go_num, rfl, He1, HF2, HQ2, hidA (.inr (by omega)), HB2⟩, by simp [intOf]; omega⟩
    · have HR : Hid (F1 = b ∧ F2 = e) := by
        have hf : Od.fd 0 l n = (b, e) := by
          have h := HF.out.here (l.length, l.length)
          rw [← HE.out] at h
          have hm : (n - 1).toNat = m := by have h1 := HQ.out; have h2 := HM.out; omega
          unfold Od.fd
          rw [hm]; exact h
        have h1 := HF1.out
        have h2 := HF2.out
        rw [hf] at h1 h2
        exact ⟨h1, h2⟩
      clear HS HE HF HQ HM He0 hle
      go_wp2_with fail
      go_ret2
      exact ⟨by rw [HR.out.1, HR.out.2]; rfl, HB.out⟩
set_option maxRecDepth 100000 in
set_option maxHeartbeats 4000000 in
theorem oFieldS (l : List UInt8) (a : Option Addr) (c : Nat) (n : Int) (sep : UInt8) (h0 : sep ≠ 0) (hl : l.length ≤ 2 ^ 60) (hn : -(2 ^ 63) ≤ n ∧ n < 2 ^ 63) (w : World) (hS : Sr w a c l) : Calls Tryd.prog 52 #[.slice a l.length c, .int .i64 n, .int .u8 sep.toNat] w fun e w' => e = .returned (.tuple #[.int .i64 ((Od.fd sep l n).1 : Int), .int .i64 ((Od.fd sep l n).2 : Int)]) ∧ Below w.heap.size w w' := by
  obtain ⟨F1, HF1⟩ : ∃ r : Nat, Hid (r = (Od.fd sep l n).1) := ⟨_, hidA rfl⟩
  obtain ⟨F2, HF2⟩ : ∃ r : Nat, Hid (r = (Od.fd sep l n).2) := ⟨_, hidA rfl⟩
  rw [← HF1.out, ← HF2.out]
  have HS := hidA hS
  clear hS
  have HA := hidA (oFieldEnd l a c 0 sep hl (Nat.zero_le _) w HS.out)
  obtain ⟨e0, He0⟩ : ∃ r : Nat, Hid (r = 0 + Od.fe sep (l.drop 0)) := ⟨_, hidA rfl⟩
  rw [← He0.out] at HA
  go_enter Tryd.func52, Tryd.ntmps52
  go_wp2_with fail
  refine HA.out.mono ?_
  rintro e w1 ⟨rfl, b1⟩
  have HB1 := hidA b1
  clear b1 HA
  go_wp2
  go_loopw [1, 8, 9] (fun s1 s8 s9 W => ∃ (q : Int) (m b e : Nat), s1 = .int .i64 q ∧ s8 = .int .i64 b ∧ s9 = .int .i64 e ∧ Hid (e = b + Od.fe sep (l.drop b)) ∧ Hid (Od.FR sep l m b) ∧ Hid (q = n - m) ∧ Hid (m = 0 ∨ 1 ≤ q) ∧ Hid (Below w.heap.size w W)) (fun s1 _ _ _ => (intOf s1).toNat)
  case atStart => exact ⟨n, 0, 0, e0, rfl, rfl, rfl, He0, hidA (Od.FR.zero sep l), hidA (by simp), hidA (.inl rfl), HB1⟩
  case round =>
    obtain ⟨q, m, b, e, rfl, rfl, rfl, HE, HF, HQ, HM, HB⟩ := hrel
    have hle : e ≤ l.length := by
      have h1 := HE.out
      have h2 := Od.fe_le sep (l.drop b)
      obtain ⟨_, _, _, h3⟩ := HF.out
      rw [List.length_drop] at h2; omega
    by_cases h1 : 1 < q
    · have hq1 : IntKind.i64.wrap (q - 1) = q - 1 := by have := HQ.out; rw [IntKind.wrap_i64]; omega
      have hqb : q - 1 < 2 ^ 63 := by have := HQ.out; omega
      by_cases he : e = l.length
      · have hee : ((e : Int) == (l.length : Int)) = true := by simp [he]
        have HR : Hid (F1 = e ∧ F2 = e) := by
          have hf : Od.fd sep l n = (l.length, l.length) := HF.out.last (by have := HE.out; omega) _ (by have := HQ.out; omega)
          have h1 := HF1.out
          have h2 := HF2.out
          rw [hf] at h1 h2
          exact ⟨by rw [h1, he], by rw [h2, he]⟩
        clear HS HE HF HQ HM He0 he hle
        go_wp2_with fail
        go_ret2
        exact ⟨by rw [HR.out.1, HR.out.2]; rfl, HB.out⟩
      · have hee : ((e : Int) == (l.length : Int)) = false := by rw [beq_eq_false_iff_ne]; omega
        have hlt : e < l.length := by omega
        have HF2 := hidA (HF.out.next (by rw [← HE.out]; exact hlt))
        rw [← HE.out] at HF2
        have HQ2 : Hid (q - 1 = n - ((m + 1 : Nat) : Int)) := by have := HQ.out; show q - 1 = _; omega
        have hnx : Od.nx sep e = e + 1 := if_neg h0
        rw [hnx] at HF2
        have e0 := byte_no sep 0 0 rfl h0
        obtain ⟨B, HBB⟩ : ∃ B : Nat, Hid (B = e + 1) := ⟨_, hidA rfl⟩
        have hwB : IntKind.i64.wrap ((e : Int) + 1) = (B : Int) := by have := HBB.out; rw [IntKind.wrap_i64]; omega
        rw [← HBB.out] at HF2
        have hBl : B ≤ l.length := by have := HBB.out; omega
        have HA := hidA (oFieldEnd l a c B sep hl (by omega) wr (HS.out.grow HB.out))
        obtain ⟨e1, He1⟩ : ∃ r : Nat, Hid (r = B + Od.fe sep (l.drop B)) := ⟨_, hidA rfl⟩
        rw [← He1.out] at HA
        clear HS HE HF HQ HM hlt he hle
        go_wp2_with fail
        refine HA.out.mono ?_
        rintro x w2 ⟨rfl, b2⟩
        have HB2 := hidA (HB.out.trans (b2.mono HB.out.size))
        clear HA HB b2
        go_wp2_with fail
        exact ⟨⟨q - 1, m + 1, B, e1, by first | rfl | go_num, by first | rfl | go_num, rfl, He1, HF2, HQ2, hidA (.inr (by omega)), HB2⟩, by simp [intOf]; omega⟩
    · have HR : Hid (F1 = b ∧ F2 = e) := by
        have hf : Od.fd sep l n = (b, e) := by
          have h := HF.out.here (l.length, l.length)
          rw [← HE.out] at h
          have hm : (n - 1).toNat = m := by have h1 := HQ.out; have h2 := HM.out; omega
          unfold Od.fd
          rw [hm]; exact h
        have h1 := HF1.out
        have h2 := HF2.out
        rw [hf] at h1 h2
        exact ⟨h1, h2⟩
      clear HS HE HF HQ HM He0 hle
      go_wp2_with fail
      go_ret2
      exact ⟨by rw [HR.out.1, HR.out.2]; rfl, HB.out⟩
theorem oField (l : List UInt8) (a : Option Addr) (c : Nat) (n : Int) (sep : UInt8) (hl : l.length ≤ 2 ^ 60) (hn : -(2 ^ 63) ≤ n ∧ n < 2 ^ 63) (w : World) (hS : Sr w a c l) : Calls Tryd.prog 52 #[.slice a l.length c, .int .i64 n, .int .u8 sep.toNat] w fun e w' => e = .returned (.tuple #[.int .i64 ((Od.fd sep l n).1 : Int), .int .i64 ((Od.fd sep l n).2 : Int)]) ∧ Below w.heap.size w w' := by
  by_cases h0 : sep = 0
  · subst h0; exact oField0 l a c n hl hn w hS
  · exact oFieldS l a c n sep h0 hl hn w hS
end Go.Proofs.YtdjefinehabifaaDoor
