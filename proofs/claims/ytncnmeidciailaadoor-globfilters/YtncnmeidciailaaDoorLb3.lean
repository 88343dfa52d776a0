/- A reader of sets in memory; the walk of the program's add. Conditions: the reader lies in memory. -/
import Derived.Test.YtncnmeidciailaaDoorLp2
namespace Go.Proofs.YtncnmeidciailaaDoor
open Go.RowKit
attribute [local go_sem] ext_eq app_eq get_eq
/-- A set's reader: what has been read, at most 4097 bytes of it. -/
structure SR (B : Nat) (W : World) (rb : Nat) (l : List UInt8) (size last : Int) (v : Value) (s : Gl.SS) : Prop where
  hb : W.heap[rb]? = some (.cells #[.string ⟨l.toArray⟩, .int .i64 size, .int .i64 last, v, .bool s.fil.isSome, .int .u8 (s.fil.getD (0, 0)).1.toNat, .int .i64 ((min (s.fil.getD (0, 0)).2 4097 : Nat) : Int)] 61 (0, 0))
  rB : B ≤ rb
  row : By B W v (s.out.take 4097)
/-- The blocks that the reading may turn. -/
def sS (rb : Nat) (v : Value) (k : Nat) : Prop := k = rb ∨ v.ownBlock = some k
/-- The row's block is the old one, or new. -/
def vNew (W : World) (v v' : Value) : Prop := v'.ownBlock = v.ownBlock ∨ ∃ b, v'.ownBlock = some b ∧ W.heap.size ≤ b
theorem vNew.refl (W : World) (v : Value) : vNew W v v := .inl rfl
section
variable {B : Nat} {W W1 W2 : World} {rb : Nat} {l : List UInt8} {size last : Int} {v v1 v2 : Value} {s s1 : Gl.SS}
theorem SR.cells (h : SR B W rb l size last v s) : W.cell? ⟨rb, 0, none⟩ = some (.string ⟨l.toArray⟩) ∧ W.cell? ⟨rb, 1, none⟩ = some (.int .i64 size) ∧ W.cell? ⟨rb, 2, none⟩ = some (.int .i64 last) ∧ W.cell? ⟨rb, 3, none⟩ = some v ∧ W.cell? ⟨rb, 4, none⟩ = some (.bool s.fil.isSome) ∧ W.cell? ⟨rb, 5, none⟩ = some (.int .u8 (s.fil.getD (0, 0)).1.toNat) ∧ W.cell? ⟨rb, 6, none⟩ = some (.int .i64 ((min (s.fil.getD (0, 0)).2 4097 : Nat) : Int)) := by
  refine ⟨?_, ?_, ?_, ?_, ?_, ?_, ?_⟩ <;> (rw [cell_heap h.hb]; rfl)
theorem SR.frozen (h : SR B W rb l size last v s) (j : Nat) : W.frozen? ⟨rb, j, none⟩ = false := by simp [World.frozen?, h.hb]
theorem SR.lt (h : SR B W rb l size last v s) : rb < W.heap.size ∧ ∀ k, v.ownBlock = some k → k < W.heap.size ∧ k ≠ rb ∧ B ≤ k := by
  refine ⟨heap_lt h.hb, fun k hk => ?_⟩
  obtain ⟨c, fz, hc⟩ := h.row.kind k hk
  exact ⟨heap_lt hc, heap_ne hc h.hb (by decide), (h.row.lt k hk).1⟩
theorem SR.on (h : SR B W rb l size last v s) (e : W1.heap[rb]? = W.heap[rb]?) (e2 : ∀ k, v.ownBlock = some k → W1.heap[k]? = W.heap[k]?) : SR B W1 rb l size last v s := by
  refine ⟨e.trans h.hb, h.rB, h.row.1, ?_⟩
  rcases h.row.2 with h1 | ⟨g, cap, cur, h1, h2, h3, h4⟩
  · exact .inl h1
  · exact .inr ⟨g, cap, cur, h1, h2, (e2 g (by rw [h1]; rfl)).trans h3, h4⟩
theorem SR.grow (h : SR B W rb l size last v s) (hB : Below W.heap.size W W1) : SR B W1 rb l size last v s :=
  h.on (hB.block _ h.lt.1) fun k e => hB.block _ (h.lt.2 k e).1
theorem sS_trans (h1 : Md (sS rb v) W W1) (hn : vNew W v v1) (h2 : Md (sS rb v1) W1 W2) : Md (sS rb v) W W2 := by
  refine ⟨h2.os.trans h1.os, h2.tape.trans h1.tape, h2.output.trans h1.output, Nat.le_trans h1.size h2.size, fun k hk hs => ?_⟩
  rw [← h1.block k hk hs]
  refine h2.block k (Nat.lt_of_lt_of_le hk h1.size) (fun hh => ?_)
  rcases hh with e | e
  · exact hs (.inl e)
  · rcases hn with hn | ⟨b, hb, hb2⟩
    · exact hs (.inr (hn ▸ e))
    · rw [hb] at e; cases e; omega
theorem vNew.trans (h1 : vNew W v v1) (hs : W.heap.size ≤ W1.heap.size) (h2 : vNew W1 v1 v2) : vNew W v v2 := by
  rcases h2 with h2 | ⟨b, hb, hb2⟩
  · rcases h1 with h1 | ⟨b, hb, hb2⟩
    · exact .inl (h2.trans h1)
    · exact .inr ⟨b, h2.trans hb, hb2⟩
  · exact .inr ⟨b, hb, by omega⟩
end
theorem heap_set3 (W : World) (b : Nat) (x0 x1 x2 x3 x4 x5 x6 v : Value) (T : TypeId) (h : W.heap[b]? = some (.cells #[x0, x1, x2, x3, x4, x5, x6] T (0, 0))) : (W.setCell ⟨b, 3, none⟩ v).heap[b]? = some (.cells #[x0, x1, x2, v, x4, x5, x6] T (0, 0)) := by
  show (W.heap.modify b _)[b]? = _
  rw [Array.getElem?_modify, if_pos rfl, h]
  rfl
theorem own_slice3 {w' : World} {base e k n : Nat} {v : Value} {xs : List Value} (h : w'.ownsRow base e k v n xs) : ∃ a m c, v = .slice a m c := by
  obtain ⟨a, c, h⟩ := own_slice h
  exact ⟨a, n, c, h⟩
/-- One byte more. -/
theorem SR.push {B : Nat} {W w2 : World} {rb : Nat} {l : List UInt8} {size last : Int} {v v' : Value} {s : Gl.SS} (h : SR B W rb l size last v s) (hB : B ≤ W.heap.size) (c : UInt8) (hlt : s.out.length < 4097) (o : Obj) (hown : w2.ownsRow B 5 1 v' ((s.out.take 4097).length + 1) (bCs (s.out.take 4097) ++ [.int .u8 c.toNat])) (hg : (W.alloc o).grownBy w2 v.ownBlock) (hat : v'.ownBlock = v.ownBlock ∨ v'.ownBlock = some (W.alloc o).heap.size) :
    SR B (w2.setCell ⟨rb, 3, none⟩ v') rb l size last v' (s.add [c]) ∧ Md (sS rb v) W (w2.setCell ⟨rb, 3, none⟩ v') ∧ vNew W v v' ∧ w2.cell? ⟨rb, 3, none⟩ = some v ∧ w2.frozen? ⟨rb, 3, none⟩ = false := by
  obtain ⟨y2, b2, k2⟩ := h.row.add (Below.refl B W) hB o hown hg
  have hk := fun (g : Nat) (cc : Array Value) (T : TypeId) (fz : Nat × Nat) (hg : W.heap[g]? = some (Obj.cells cc T fz)) (hT : T ≠ 5) => (k2 g _ hg (by simp) (fun c' fz' e => by injection e with _ e2 _; exact hT e2))
  have hb2 := hk _ _ _ _ h.hb (by decide)
  have hM : Md (sS rb v) W w2 := by
    have hm : Md (sS rb v) (W.alloc o) w2 := ⟨hg.os, hg.tape, hg.output, hg.size, fun k hk hs => hg.block k hk (fun e => hs (.inr e.symm))⟩
    exact ((Md.refl (sS rb v) W).alloc o).trans hm
  refine ⟨⟨heap_set3 _ _ _ _ _ _ _ _ _ _ _ hb2, h.rB, ?_⟩, hM.setCell _ _ (.inl (.inl rfl)), ?_, by rw [cell_heap hb2]; rfl, by simp [World.frozen?, hb2]⟩
  · have e : (s.add [c]).out.take 4097 = s.out.take 4097 ++ [c] := by
      show (s.out ++ [c]).take 4097 = _
      rw [List.take_of_length_le (by simp; omega), List.take_of_length_le (by omega)]
    rw [e]
    exact y2.on (fun g cc hgg => Below.heap_setCell _ _ _ _ (heap_ne hgg hb2 (by decide)))
  · rcases hat with e | e
    · exact .inl e
    · exact .inr ⟨_, e, by simp⟩
namespace Gl
theorem add_add (s : SS) (a b : List UInt8) : (s.add a).add b = s.add (a ++ b) := by simp [SS.add]
theorem add_nil (s : SS) : s.add [] = s := by simp [SS.add]
end Gl
/-- What is added beyond the limit is not kept. -/
theorem SR.over {B : Nat} {W : World} {rb : Nat} {l : List UInt8} {size last : Int} {v : Value} {s : Gl.SS} (h : SR B W rb l size last v s) (hlt : 4097 ≤ s.out.length) (x : List UInt8) : SR B W rb l size last v (s.add x) := by
  refine ⟨h.hb, h.rB, ?_⟩
  show By B W v ((s.out ++ x).take 4097)
  rw [List.take_append_of_le_length hlt]; exact h.row
set_option maxRecDepth 100000 in
set_option maxHeartbeats 2000000 in
theorem gAdd {B : Nat} {W : World} {rb : Nat} {l : List UInt8} {size last : Int} {v : Value} {s : Gl.SS} (h : SR B W rb l size last v s) (hB : B ≤ W.heap.size) (c : UInt8) (n : Nat) (hn : n ≤ 4097) : Calls Tryd.prog 81 #[.pointer (some ⟨rb, 0, none⟩), .int .u8 c.toNat, .int .i64 n] W fun e W' => e = .returned (.tuple #[]) ∧ ∃ v', SR B W' rb l size last v' (s.add (List.replicate n c)) ∧ Md (sS rb v) W W' ∧ vNew W v v' := by
  obtain ⟨iB, hiB, hz0, hz1, hz2⟩ := infoB
  obtain ⟨va, vc, rfl⟩ := h.row.slice
  obtain ⟨-, -, -, c3, -, -, -⟩ := h.cells
  have HS := hidA h
  have hL : (s.out.take 4097).length ≤ 4097 := by simp; omega
  have hLs : (s.out.take 4097).length = min 4097 s.out.length := by simp
  clear h
  generalize (s.out.take 4097).length = L at *
  obtain ⟨m, hm⟩ : ∃ m, m = min n (4097 - L) := ⟨_, rfl⟩
  have hmi : (min (n : Int) (4097 - (L : Int))) = (m : Int) := by omega
  have HLs := hidA hLs
  have HMm := hidA hm
  have hmn : m ≤ 4097 - L := by omega
  clear hLs hm
  go_enter Tryd.func81, Tryd.ntmps81
  go_wp2
  go_loopw [14] (fun s14 W' => ∃ (k : Nat) (ua : Option Addr) (un uc : Nat), s14 = .int .i64 k ∧ k ≤ m ∧ Hid (SR B W' rb l size last (.slice ua un uc) (s.add (List.replicate k c))) ∧ Hid (Md (sS rb (.slice va L vc)) W W') ∧ Hid (vNew W (.slice va L vc) (.slice ua un uc))) (fun s14 _ => m - (intOf s14).toNat)
  case atStart => exact ⟨0, _, _, _, rfl, Nat.zero_le _, hidA (by rw [List.replicate_zero, Gl.add_nil]; exact HS.out), Md.refl _ _, vNew.refl _ _⟩
  case round =>
    obtain ⟨k, ua, un, uc, rfl, hk, HK, HMk, HV⟩ := hrel
    rename_i wr
    obtain ⟨-, -, -, d3, -, -, -⟩ := HK.out.cells
    have hsz : W.heap.size ≤ wr.heap.size := HMk.out.size
    by_cases hlt : k < m
    · have hol : (s.add (List.replicate k c)).out.length < 4097 := by
        have := HLs.out
        show (s.out ++ List.replicate k c).length < 4097
        simp; omega
      have hun : ((s.add (List.replicate k c)).out.take 4097).length ≤ 4097 := by simp; omega
      have HO := hidA hol
      have HR := hidA HK.out.row
      clear hol HS HMm HLs c3
      go_wp2_with (at_builtin; refine wpList_append_own_at _ rfl _ _ 32 rfl B 5 iB (.int .u8 0) 1 1 Tryd.underlying32 hiB hz0 hz1 hz2 rfl (by decide) _ _ _ rfl (HR.out.alloc _) ⟨wr.heap.size, 0, none⟩ 1 1 [.int .u8 c.toNat] rfl rfl (cell_one_new _ _ _) (one_u8 _) (by unfold maxLen; omega) (by omega) (by simp; omega) ?_; intro v2 w2 hown hg _ hat; obtain ⟨ub, ux, ud, hv2⟩ := own_slice3 hown; subst hv2; (obtain ⟨q1, q2, q3, q4, q5⟩ := HK.out.push (by omega) c HO.out _ hown hg hat); have Q1 := hidA q1; have Q2 := hidA q2; have Q3 := hidA q3; clear hown hg hat q1 q2 q3)
      exact ⟨⟨k + 1, _, _, _, by first | rfl | go_num, hlt, hidA (by rw [List.replicate_succ', ← Gl.add_add]; exact Q1.out), sS_trans HMk.out HV.out Q2.out, HV.out.trans hsz Q3.out⟩, by simp [intOf]; omega⟩
    · obtain rfl : k = m := by omega
      have HE : Hid (SR B wr rb l size last (.slice ua un uc) (s.add (List.replicate n c))) := by
        have h1 := HLs.out
        have h2 := HMm.out
        by_cases e : k = n
        · rw [← e]; exact HK.out
        · have e2 : List.replicate n c = List.replicate k c ++ List.replicate (n - k) c := by rw [List.replicate_append_replicate]; congr 1; omega
          rw [e2, ← Gl.add_add]
          refine HK.out.over ?_ _
          show 4097 ≤ (s.out ++ List.replicate k c).length
          simp; omega
      clear HS HMm HLs c3
      go_wp2
      exact ⟨rfl, _, results_none rfl _ _ _, rfl, _, HE.out, HMk.out, HV.out⟩
end Go.Proofs.YtncnmeidciailaaDoor
