/- The program's Lines: the lines, each a row of one's own; is the last one ended? Condition: a length that fits. -/
import Derived.Test.YtplnojohlbbalaaM6
namespace Go.Proofs.Ytplnojohlbbalaa
open Go.RowKit
attribute [local go_sem] ext_eq app_eq get_eq
theorem Tl.ls_mem_le (l : List UInt8) : ∀ x ∈ Tl.ls l, x.length ≤ l.length := by
  intro x hx
  obtain ⟨p, hp, rfl⟩ := List.mem_map.1 hx
  have hm : Tl.pc p ∈ (Tl.prs l).map Tl.pc := List.mem_map.2 ⟨p, hp, rfl⟩
  have h := (List.sublist_flatten_of_mem hm).length_le
  rw [Tl.flat_all] at h
  unfold Tl.pc at h
  rw [List.length_append] at h
  omega
theorem Tl.ls_len (l : List UInt8) : (Tl.ls l).length ≤ l.length := by
  unfold Tl.ls; rw [List.length_map]; exact Tl.prs_len l.length l (Nat.le_refl _)
theorem RO.at {B : Nat} {W : World} {v : Value} {X : List (List UInt8)} {k : Nat} (h : RO B W v X k) (hk : k < X.length) : ∃ g cap a c, v = .slice (some ⟨g, 0, none⟩) X.length cap ∧ B ≤ g ∧ g < W.heap.size ∧ W.cell? ⟨g, k, none⟩ = some (.slice a X[k].length c) ∧ W.frozen? ⟨g, k, none⟩ = false ∧ Sr W a c X[k] := by
  obtain ⟨vs, o1, o2, o3, o4, o5⟩ := h
  obtain ⟨a, c, e, hs, _⟩ := (o4 k hk).sr
  rcases o1.2 with ⟨_, h0⟩ | ⟨g, cap, cur, e2, hb, hg, hnc, hcm, hsz, ht⟩
  · omega
  · subst e2
    have hc := o1.cells (g := g) rfl k (vs[k]'(by omega)) (by simp [o2, hk])
    rw [add0] at hc
    refine ⟨g, cap, a, c, rfl, hb, heap_lt hg, ?_, o1.frozenAt k, hs⟩
    rw [hc, e]
set_option maxRecDepth 100000 in
set_option maxHeartbeats 4000000 in
theorem oLines (l : List UInt8) (a : Option Addr) (c : Nat) (hl : l.length ≤ 1048577) (w : World) (hS : Sr w a c l) : Calls Try.prog 7 #[.slice a l.length c] w fun e w' => ∃ v, e = .returned (.tuple #[v, .bool (Tl.eb l)]) ∧ RO w.heap.size w' v (Tl.ls l) (Tl.ls l).length ∧ Below w.heap.size w w' := by
  have HT := hidA (oTexts l a c hl w hS)
  have hll := Tl.ls_mem_le l
  have hln := Tl.ls_len l
  have HS := hidA (fun W (b : Below w.heap.size w W) => hS.grow b)
  have HE := hidA (Tl.eb_at l.length l (Nat.le_refl _))
  have HE0 : Hid (l = [] → Tl.eb l = true) := fun h => by subst h; rfl
  clear hS
  generalize Tl.ls l = X at *
  generalize Tl.eb l = y at *
  go_enter Try.func7, Try.ntmps7
  go_upto_region 3 with (go_at_call 21; with_reducible refine HT.out.mono ?_; rintro e w1 ⟨v, rfl, h1, h2⟩; have HI := hidA h1.ro; have HB1 := hidA h2; obtain ⟨a1, c1, hv1⟩ := h1.slice; subst hv1; clear h1 h2)
  go_loopw [11] (fun s11 W => ∃ (k : Nat), s11 = .int .i64 k ∧ k ≤ X.length ∧ Hid (RO w.heap.size W (.slice a1 X.length c1) X k) ∧ Hid (Below w.heap.size w W)) (fun s11 _ => X.length - (intOf s11).toNat)
  case atStart => exact ⟨0, rfl, Nat.zero_le _, HI, HB1⟩
  case round =>
    obtain ⟨k, rfl, hk, HR, HB⟩ := hrel
    clear HI HB1 HT
    by_cases hlt : k < X.length
    · obtain ⟨g, cap, a', c', ev, hgB, hgw, hc, hf, hs⟩ := HR.out.at hlt
      injection ev with ev1 _ ev3
      subst ev1 ev3
      have hxl := hll X[k] (List.getElem_mem hlt)
      have HC := hidA (oClone X[k] a' c' (by omega) wr hs)
      have hw1 : IntKind.i64.wrap ((k : Int) + 1) = ((k + 1 : Nat) : Int) := by rw [IntKind.wrap_i64]; omega
      have HSt : Hid (∀ (W2 : World) (v2 : Value), By wr.heap.size W2 v2 X[k] → Below wr.heap.size wr W2 → RO w.heap.size (W2.setCell ⟨g, k, none⟩ v2) (.slice (some ⟨g, 0, none⟩) X.length c1) X (k + 1) ∧ Below w.heap.size w (W2.setCell ⟨g, k, none⟩ v2) ∧ W2.cell? ⟨g, k, none⟩ = some (.slice a' X[k].length c') ∧ W2.frozen? ⟨g, k, none⟩ = false) := fun W2 v2 h1 h2 => by
        refine ⟨(HR.out.grow h2).store hlt (h1.mono HB.out.size) h1.one, (HB.out.trans (h2.mono HB.out.size)).setCell hgB _, (h2.cell (p := ⟨g, k, none⟩) hgw).trans hc, ?_⟩
        have := h2.block g hgw
        rw [← hf]; simp [World.frozen?, this]
      clear hs
      generalize X[k] = x at *
      go_wp2_with (go_at_call 22; with_reducible refine HC.out.mono ?_; rintro e w2 ⟨v2, rfl, h1, h2⟩; obtain ⟨q1, q2, hc2, hf2⟩ := HSt.out w2 v2 h1 h2; have Q1 := hidA q1; have Q2 := hidA q2; obtain ⟨a2, c2, hv2⟩ := h1.slice; subst hv2; clear h1 h2 q1 q2)
      exact ⟨⟨k + 1, by first | rfl | go_num, hlt, Q1, Q2⟩, by simp [intOf]; omega⟩
    · have ek : k = X.length := by omega
      by_cases h0 : l = []
      · have h1 := HE0.out h0
        subst h1 h0
        go_wp2_with (go_region)
        go_ret2
        exact ⟨_, rfl, by rw [ek] at HR; exact HR.out.grow (bl_drew _ _), HB.out.trans ((bl_drew _ _).mono HB.out.size)⟩
      · have hpos : 0 < l.length := List.length_pos_iff.2 h0
        obtain ⟨m, hm⟩ : ∃ m, m + 1 = l.length := ⟨l.length - 1, by omega⟩
        have hml : m < l.length := by omega
        have h1 := HE.out m hml hm
        obtain ⟨gs, os, ea, hgs, hcs⟩ := (HS.out wr HB.out).src m hml
        subst ea
        have hsub : IntKind.i64.wrap ((l.length : Int) - 1) = (m : Int) := by rw [IntKind.wrap_i64]; omega
        have hne : ((l.length : Int) == 0) = false := beq_eq_false_iff_ne.2 (by omega)
        have hb10 : (((l[m]).toNat : Int) == 10) = decide (l[m] = 10) := byte_eq l[m] 10
        obtain ⟨z, hz⟩ : ∃ z, z = l[m] := ⟨_, rfl⟩
        rw [← hz] at h1 hcs hb10
        clear hz
        subst h1
        go_wp2_with (go_region)
        go_ret2
        exact ⟨_, rfl, by rw [ek] at HR; exact HR.out.grow (bl_drew _ _), HB.out.trans ((bl_drew _ _).mono HB.out.size)⟩
end Go.Proofs.Ytplnojohlbbalaa
