/- The walk of the program's whole where no byte fills. Conditions: the reader lies in memory, and has read a byte at least. -/
import Derived.Test.YtncnmeidciailaaDoorLb7
import Derived.Lib.AppendZeros
namespace Go.Proofs.YtncnmeidciailaaDoor
open Go.RowKit
attribute [local go_sem] ext_eq app_eq get_eq
theorem step_append_own_at {P : Program} {ops : Array Oper} {o : Oper} {a : Act} {w : World} {K : Act → World → Prop} {Q : Exit → Act → World → Prop} {E : Prop} (hgd : o.guard = none) (s x : Operand) (t : TypeId)
    (ho : o.op = .call { callee := .builtin .append, args := #[s, x], argTypes := #[t, t] })
    (base : Nat) (e : TypeId) (i : TypeInfo) (z : Value) (size bytes : Nat) (ht : P.underlying t = some (.slice e)) (hi : P.info? e = some i) (hz : i.zero = some z)
    (hsize : i.size = size) (hby : i.bytes = bytes) (hzs : z.cells.size = size) (hsz : 0 < size)
    (v : Value) (n : Nat) (xs : List Value) (hs : a.eval s = v) (hown : w.ownsRow base e size v n xs)
    (ad : Addr) (m c : Nat) (news : List Value) (hx : a.eval x = .slice (some ad) m c) (hl : news.length = m * size) (hnews : ∀ j u, news[j]? = some u → w.cell? (ad.add j) = some u) (h1 : ∀ u ∈ news, u.oneCell' = true)
    (h63 : n + m ≤ maxLen) (hbytes : (n + m) * bytes ≤ 140737488355328) (hbase : base ≤ w.heap.size)
    (h : ∀ v' w', w'.ownsRow base e size v' (n + m) (xs ++ news) → w.grownBy w' v.ownBlock → (v'.ownBlock = v.ownBlock ∨ v'.ownBlock = some w.heap.size) → K (a.put o.dst v') w') :
    if Region.wanted o (yielded ops a.tmps) = true then Oper.wp P o a w K Q else E := by
  rw [if_pos (by simp [Region.wanted, hgd])]
  obtain ⟨v', w', hr, h2, h3, _, h5⟩ := run_append_own_at (P := P) w base t o.type e i z size bytes ht hi hz hsize hby hzs hsz v n xs hown ad m c news hl hnews h1 h63 hbytes hbase
  exact Lib.wp_append_run w s x t t ho _ _ hs hx _ _ hr (h v' w' h2 h3 h5)
theorem By.news {B : Nat} {W : World} {g n c : Nat} {bs : List UInt8} (h : By B W (.slice (some ⟨g, 0, none⟩) n c) bs) : ∀ j u, (bCs bs)[j]? = some u → W.cell? ((⟨g, 0, none⟩ : Addr).add j) = some u := fun j u hj => World.ownsRow.cells h (g := g) rfl j u hj
theorem bCs_one (bs : List UInt8) : ∀ u ∈ bCs bs, u.oneCell' = true := by
  intro u hu
  simp only [bCs, List.mem_map] at hu
  obtain ⟨c, _, rfl⟩ := hu
  rfl
theorem grown_below {w w' : World} {v : Value} {xs : List Value} {n : Nat} {T : TypeId} {k : Nat} (hown : w.ownsRow w.heap.size T k v n xs) (hg : w.grownBy w' v.ownBlock) : Below w.heap.size w w' := (Below.refl _ _).grown hg (Nat.le_refl _) (fun k hk => (hown.lt k hk).1)
set_option maxRecDepth 100000 in
set_option maxHeartbeats 1000000 in
theorem gWhole0 {B : Nat} {W : World} {rb : Nat} {l : List UInt8} {size last : Int} {v : Value} {s : Gl.SS} (h : SR B W rb l size last v s) (hf : s.fil = none) (h0 : s.out ≠ []) (h4 : s.out.length ≤ 4096) : Calls Tryd.prog 44 #[.pointer (some ⟨rb, 0, none⟩)] W fun e W' => ∃ v', e = .returned (.tuple #[v', .int .i64 0]) ∧ By W.heap.size W' v' s.out ∧ Below W.heap.size W W' := by
  obtain ⟨iB, hiB, hz0, hz1, hz2⟩ := infoB
  have hrow : By B W v s.out := by have := h.row; rwa [List.take_of_length_le (by omega)] at this
  obtain ⟨c0, c1, c2, c3, c4, c5, c6⟩ := h.cells
  rw [hf] at c4 c5 c6
  have hl1 : 1 ≤ s.out.length := by cases hs : s.out with | nil => exact absurd hs h0 | cons => simp
  obtain ⟨g, cap, hv⟩ : ∃ g cap, v = .slice (some ⟨g, 0, none⟩) s.out.length cap := by
    obtain ⟨g, cap, cur, e1, _⟩ := hrow.at 0 (by omega)
    exact ⟨g, cap, e1⟩
  subst hv
  have hlc : s.out.length ≤ cap := by
    rcases hrow.2 with ⟨e, _⟩ | ⟨g', cap', cur, e, _, _, h5, _⟩
    · cases e
    · injection e with _ _ e3; subst e3; exact h5
  have hrb := h.lt.1
  have HR := hidA hrow
  clear h hrow h0 c0 c1 c2 hf
  generalize s.out = L at *
  have d4 : W.cell? ⟨rb, 4, none⟩ = some (.bool false) := c4
  have d6 : W.cell? ⟨rb, 6, none⟩ = some (.int .i64 0) := c6
  clear c4 c5 c6
  have hL : decide ((4096 : Int) < (L.length : Int)) = false := by simp; omega
  go_enter Tryd.func44, Tryd.ntmps44
  go_wp2_with fail
  go_region_law (refine step_append_own_at rfl (.const (.slice none 0 0)) (.tmp 31) 32 rfl W.heap.size 5 iB (.int .u8 0) 1 1 Tryd.underlying32 hiB hz0 hz1 hz2 rfl (by decide) (.slice none 0 0) 0 [] (by first | (simp [Act.eval]; done) | (simp [Act.eval, Act.put]; done)) (World.ownsRow_nil _ _ _ _) ⟨g, 0, none⟩ 0 cap [] (by first | (simp [Act.eval]; done) | (simp [Act.eval, Act.put]; done)) rfl (fun j u hj => (by cases hj)) (fun u hu => (by cases hu)) (by unfold maxLen; omega) (by omega) (Nat.le_refl _) ?_; intro v1 w1 hown hgrow hat)
  all_goals
    have b1 : Below W.heap.size W w1 := ⟨hgrow.os, hgrow.tape, hgrow.output, hgrow.size, fun k hk => hgrow.block k hk (by simp [Value.ownBlock])⟩
    obtain ⟨a1, n1, k1, rfl⟩ := own_slice3 hown
    have HO1 := hidA hown
    have HB1 := hidA b1
    have f3 : w1.cell? ⟨rb, 3, none⟩ = some (.slice (some ⟨g, 0, none⟩) L.length cap) := (b1.cell (p := ⟨rb, 3, none⟩) hrb).trans c3
    have f6 : w1.cell? ⟨rb, 6, none⟩ = some (.int .i64 0) := (b1.cell (p := ⟨rb, 6, none⟩) hrb).trans d6
    have hs1 : W.heap.size ≤ w1.heap.size := b1.size
    have HR1 := hidA (HR.out.grow b1)
    clear hown hgrow hat b1 c3 d6 d4
    go_wp2_with fail
    go_loop [5, 40] (fun s5 s40 => s5 = .slice a1 n1 k1 ∧ s40 = .int .i64 0) (fun _ _ => 0)
    case atStart => exact ⟨rfl, rfl⟩
    case round =>
      obtain ⟨rfl, rfl⟩ := hrel
      go_wp2_with fail
      go_region_law (refine step_append_own_at rfl (.tmp 50) (.tmp 59) 32 rfl W.heap.size 5 iB (.int .u8 0) 1 1 Tryd.underlying32 hiB hz0 hz1 hz2 rfl (by decide) (.slice a1 n1 k1) 0 [] (by first | (simp [Act.eval]; done) | (simp [Act.eval, Act.put]; done)) HO1.out ⟨g, 0, none⟩ L.length cap (bCs L) (by first | (simp [Act.eval]; done) | (simp [Act.eval, Act.put]; done)) (by rw [bCs_len]; omega) HR1.out.news (bCs_one L) (by unfold maxLen; omega) (by omega) hs1 ?_; intro v2 w2 hown2 hgrow2 hat2)
      all_goals
        have b2 : Below W.heap.size w1 w2 := ((bl_drew w1 1).mono hs1).trans ((Below.refl W.heap.size w1.drew).grown hgrow2 hs1 (fun k hk => (HO1.out.lt k hk).1))
        have HB2 := hidA (HB1.out.trans b2)
        obtain ⟨a2, n2, k2, rfl⟩ := own_slice3 hown2
        have HY : Hid (By W.heap.size w2 (.slice a2 n2 k2) L) := by
          have := hown2
          rw [Nat.zero_add, List.nil_append] at this
          exact this
        clear hown2 hgrow2 hat2 b2
        go_wp2_with fail
        go_ret2
        exact ⟨_, rfl, HY.out, HB2.out⟩
end Go.Proofs.YtncnmeidciailaaDoor
