/- The walks of the program's takeOperands and takeWithArgument. Conditions: the parting lies in memory as 'Pt' says; lengths that fit. -/
import Derived.Test.YtgbkgfmljcfhoaaGa5
namespace Go.Proofs.Ytgbkgfmljcfhoaa
open Go.RowKit
attribute [local go_sem] ext_eq app_eq get_eq
def qLen (W : World) (qb : Nat) : Nat := match W.cell? ⟨qb, 0, none⟩ with
  | some (.slice _ n _) => n
  | _ => 0
def bN : Value → Nat
  | .bool true => 1
  | _ => 0
theorem one_cell (x : List UInt8) : ∀ u ∈ [Value.string ⟨x.toArray⟩], u.oneCell' = true := by intro u hu; simp at hu; subst hu; rfl
theorem two_cell (x y : List UInt8) : ∀ u ∈ [Value.string ⟨x.toArray⟩, Value.string ⟨y.toArray⟩], u.oneCell' = true := by intro u hu; simp at hu; rcases hu with rfl | rfl <;> rfl
theorem cell_two_new (w : World) (x y : Value) (t : TypeId) : ∀ j u, [x, y][j]? = some u → (w.alloc (.cells #[x, y] t)).cell? ((⟨w.heap.size, 0, none⟩ : Addr).add j) = some u := by
  intro j u hj
  match j, hj with
  | 0, hj => simp at hj; subst hj; simp [Addr.add]
  | 1, hj => simp at hj; subst hj; simp [Addr.add]
theorem own_slice {W : World} {B k n : Nat} {t : TypeId} {v : Value} {xs : List Value} (h : W.ownsRow B t k v n xs) : ∃ a m c, v = .slice a m c := by
  rcases h.2 with ⟨h1, _⟩ | ⟨g, cap, cur, h1, _⟩
  · exact ⟨_, _, _, h1⟩
  · exact ⟨_, _, _, h1⟩
section
variable {w W : World} {B pb qb : Nat} {st : Bool} {al tk : List UInt8} {a : Option Addr} {c : Nat} {left : List (List UInt8)} {vo vr : Value} {opts : List Ga.Opt} {rest : List (List UInt8)}
theorem Pt.qlen (h : Pt w W B pb qb st al tk a c left vo vr opts rest) : qLen W qb = left.length := by unfold qLen; rw [h.q0]
theorem gNextP0 (h : Pt w W B pb qb st al tk a c [] vo vr opts rest) : Calls Try.prog 27 #[.pointer (some ⟨qb, 0, none⟩)] W fun e W' => e = .returned (.tuple #[.string ⟨#[]⟩, .bool false]) ∧ W' = W := gNext0 qb c a W h.q0
theorem gNextP1 {x : List UInt8} {r : List (List UInt8)} (h : Pt w W B pb qb st al tk a c (x :: r) vo vr opts rest) : Calls Try.prog 27 #[.pointer (some ⟨qb, 0, none⟩)] W fun e W' => e = .returned (.tuple #[.string ⟨x.toArray⟩, .bool true]) ∧ ∃ a' c', Pt w W' B pb qb st al tk a' c' r vo vr opts rest :=
  (gNext1 qb c a x r W h.q0 h.fq h.cl h.strs h.cm).mono fun e W' ⟨he, a', c', h1, h2, h3, h4, h5⟩ => ⟨he, a', c', by subst h5; exact h.took h1 h2 h3 h4 (by simp)⟩
theorem Pt.after (h : Pt w W B pb qb st al tk a c left vo vr opts rest) {o : Obj} {w1 : World} {row : Option Nat} (hg : (W.alloc o).grownBy w1 row) (hr : row ≠ some pb) : (∀ i, w1.cell? ⟨pb, i, none⟩ = W.cell? ⟨pb, i, none⟩) ∧ ∀ i, w1.frozen? ⟨pb, i, none⟩ = false := by
  have hp := h.plt
  have e : w1.heap[pb]? = W.heap[pb]? := (hg.block pb (by simp; omega) (fun e => hr e.symm)).trans (Below.heap_alloc _ _ _ hp)
  exact ⟨fun i => World.cell?_of_block (a := ⟨pb, i, none⟩) e, fun i => (World.frozen?_of_block (a := ⟨pb, i, none⟩) e).trans (h.fp i)⟩
theorem gNextP (h : Pt w W B pb qb st al tk a c left vo vr opts rest) : Calls Try.prog 27 #[.pointer (some ⟨qb, 0, none⟩)] W fun e W' => e = .returned (.tuple #[.string ⟨(left.head?.getD []).toArray⟩, .bool (!left.isEmpty)]) ∧ ∃ a' c', Pt w W' B pb qb st al tk a' c' left.tail vo vr opts rest := by
  cases left with
  | nil => exact (gNextP0 h).mono fun e W' ⟨he, hw⟩ => ⟨he, a, c, hw ▸ h⟩
  | cons x r => exact gNextP1 h
set_option maxRecDepth 100000 in
set_option maxHeartbeats 4000000 in
theorem gTakeOperands (h : Pt w W B pb qb st al tk a c left vo vr opts rest) (hM : rest.length + left.length ≤ 2 ^ 40) : Calls Try.prog 39 #[.pointer (some ⟨pb, 0, none⟩)] W fun e W' =>
    e = .returned (.tuple #[]) ∧ ∃ a' c' vr', Pt w W' B pb qb st al tk a' c' [] vo vr' opts (rest ++ left) := by
  obtain ⟨i0, hi, hz0, hz1, hz2⟩ := infoS
  have H : Hid (Pt w W B pb qb st al tk a c left vo vr opts rest) := h
  have c3 := h.c3
  clear h
  have HL : Hid ((rest ++ left).length ≤ 2 ^ 40) := by show _ ≤ _; simp; omega
  go_enter Try.func39, Try.ntmps39
  go_wp2_with fail
  refine (gNextP H.out).mono ?_
  rintro e w1 ⟨rfl, a1, c1, hP1⟩
  have HP1 : Hid (Pt w w1 B pb qb st al tk a1 c1 left.tail vo vr opts rest) := hP1
  clear hP1 c3
  go_wp2_with fail
  go_loopw [2, 3] (fun x y V => ∃ (lf r : List (List UInt8)) (a : Option Addr) (c : Nat) (v : Value), x = .string ⟨(lf.head?.getD []).toArray⟩ ∧ y = .bool (!lf.isEmpty) ∧ Hid (Pt w V B pb qb st al tk a c lf.tail vo v opts r) ∧ Hid (r ++ lf = rest ++ left)) (fun _ y V => qLen V qb + bN y)
  case atStart => exact ⟨left, rest, a1, c1, vr, rfl, rfl, HP1, rfl⟩
  case round =>
    obtain ⟨lf, r, a, c, v, rfl, rfl, HP, HE⟩ := hrel
    have HQ : Hid (qLen wr qb = lf.tail.length) := HP.out.qlen
    have HB : Hid (r.length ≤ 2 ^ 40 - lf.length) := by
      have := HL.out; rw [← HE.out] at this; simp at this; show _ ≤ _; omega
    cases lf with
    | nil =>
      go_wp2
      go_end0
      exact ⟨rfl, a, c, v, by have := HE.out; rw [List.append_nil] at this; rw [← this]; exact HP.out⟩
    | cons x l =>
      have hbl : r.length ≤ 2 ^ 40 := Nat.le_trans HB.out (Nat.sub_le _ _)
      have c5 := HP.out.c5
      have f5 := HP.out.fp 5
      have HO : Hid (wr.ownsRow B 9 1 v r.length (r.map sv)) := HP.out.ro
      have hbs : B ≤ wr.heap.size := HP.out.hB
      go_wp2_with (first
        | (at_builtin; refine wpList_append_own_at _ rfl _ _ 22 rfl B 9 i0 (.string ⟨#[]⟩) 1 16 Try.underlying22 hi hz0 hz1 hz2 rfl (by decide) _ _ _ rfl (HO.out.alloc _) ⟨wr.heap.size, 0, none⟩ 1 1 [.string ⟨x.toArray⟩] rfl rfl (cell_one_new _ _ _) (one_cell _) (by unfold maxLen; omega) (by omega) (by simp; omega) ?_; intro v' w2 hown hg _ hat; obtain ⟨va, vn, vc, hv⟩ := own_slice hown; subst hv; have HA := HP.out.after hg HP.out.rp; have HP2 : Hid (Pt w (w2.setCell ⟨pb, 5, none⟩ (.slice va vn vc)) B pb qb st al tk a c l vo (.slice va vn vc) opts (r ++ [x])) := HP.out.pushR x hown hg hat; have c5' := (HA.1 5).trans HP.out.c5; have f5' := HA.2 5; have c3' := (HA.1 3).trans HP.out.c3; clear hown hg hat HA)
        | (go_at_call 27; refine (gNextP HP2.out).mono ?_; rintro e w3 ⟨rfl, a3, c3, hP3⟩; have HP3 : Hid (Pt w w3 B pb qb st al tk a3 c3 l.tail vo (.slice va vn vc) opts (r ++ [x])) := hP3; clear hP3))
      refine ⟨⟨l, r ++ [x], a3, c3, _, rfl, rfl, HP3, by show _ = _; rw [← HE.out]; simp⟩, ?_⟩
      rw [HQ.out, HP3.out.qlen]
      cases l <;> simp [bN]
end
end Go.Proofs.Ytgbkgfmljcfhoaa
