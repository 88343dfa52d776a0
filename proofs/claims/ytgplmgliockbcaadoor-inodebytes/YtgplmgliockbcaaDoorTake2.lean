/- The walk of take, of 256 places. Conditions: the store lies in memory as 'St' says, the table's first cell leads to it, the ref lies in a block of its own. -/
import Derived.Test.YtgplmgliockbcaaDoorT2NB
import Derived.Test.YtgplmgliockbcaaDoorT2NG
import Derived.Test.YtgplmgliockbcaaDoorT2HB
import Derived.Test.YtgplmgliockbcaaDoorT2HG
namespace Go.Proofs.YtgplmgliockbcaaDoor
open Go.RowKit
section
variable {w : World} {b c n : Nat} {u : Nat → Bool} {D : Nat → Nat}
theorem tk_eq2 (n : Nat) (u : Nat → Bool) (D : Nat → Nat) (r k : Nat) : tk 2 n u D r k = (if r ≠ 0 then some (u, r) else (low u n).map fun i => (upd u i true, i + 1)).bind fun x => (tk 1 n x.1 D (ptr x.1 D x.2 (k / 16)) (k % 16)).map fun y => (y.1, saved y.1 y.2.1 x.2 (upd (ptr x.1 D x.2) (k / 16) y.2.2.1), x.2, y.2.2.2) := by
  rw [tk]
theorem tk_lt1 {n : Nat} {u : Nat → Bool} {D : Nat → Nat} {r k : Nat} {u2 : Nat → Bool} {D2 : Nat → Nat} {p f : Nat} (hn : n ≤ 4096) (hr : r < 4294967296) (h : tk 1 n u D r k = some (u2, D2, p, f)) : p < 4294967296 := by
  rw [tk] at h
  by_cases h0 : r ≠ 0
  · rw [if_pos h0] at h
    simp only [Option.bind_some, Option.map_eq_some_iff, Prod.mk.injEq] at h; obtain ⟨_, _, _, _, h, _⟩ := h; omega
  · rw [if_neg h0] at h
    cases hl : low u n with
    | none => rw [hl] at h; simp at h
    | some i =>
      have := (low_some hl).1
      rw [hl] at h
      simp only [Option.map_some, Option.bind_some, Option.map_eq_some_iff, Prod.mk.injEq] at h; obtain ⟨_, _, _, _, h, _⟩ := h; omega
theorem take2 (S : St w b c n u D) (t ab ao r k : Nat) (ht : w.cell? ⟨t, 0, none⟩ = some (.pointer (some ⟨b, 0, none⟩))) (ha : w.cell? ⟨ab, ao, none⟩ = some (.int .i64 (r : Nat)))
    (hf : w.frozen? ⟨ab, ao, none⟩ = false) (hA : Apart b c t ab) (hk : k < 256) (hr : r < 4294967296) :
    Calls Tryd.prog 63 #[.pointer (some ⟨t, 0, none⟩), .pointer (some ⟨ab, ao, none⟩), .int .i64 256, .int .i64 k] w (TkPost b c n t ab ao u D r w (tk 2 n u D r k)) := by
  rw [tk_eq2 n u D r k]
  by_cases h : r ≠ 0
  · rw [if_pos h, Option.bind_some]
    cases hx : tk 1 n u D (ptr u D r (k / 16)) (k % 16) with
    | none => exact take_have2_bad S t ab ao k r ht ha hf hA hk hr h hx
    | some y =>
      obtain ⟨u2, D2, p, f⟩ := y
      exact take_have2_good S t ab ao k r u2 D2 p f ht ha hf hA hk hr h hx (tk_lt1 S.n2 (ptr_lt _ _ S.dl _ _) hx)
  · rw [if_neg h]
    obtain rfl : r = 0 := by omega
    cases hl : low u n with
    | none => exact take_full S t ab ao k 256 ht ha hf hA hl
    | some i =>
      rw [Option.map_some, Option.bind_some]
      cases hx : tk 1 n (upd u i true) D (ptr (upd u i true) D (i + 1) (k / 16)) (k % 16) with
      | none => exact take_new2_bad S t ab ao k i ht ha hf hA hk hl hx
      | some y =>
        obtain ⟨u2, D2, p, f⟩ := y
        exact take_new2_good S t ab ao k i u2 D2 p f ht ha hf hA hk hl hx (tk_lt1 S.n2 (ptr_lt _ _ S.dl _ _) hx)
end
end Go.Proofs.YtgplmgliockbcaaDoor
