/- What read keeps while it reads a pattern; the walk of the program's read. Conditions: a text of at most 2^40 bytes; what bracket answers, as a premise. -/
import Derived.Test.YtncnmeidciailaaDoorLa6
import Derived.Maps.AppendAt
namespace Go.Proofs.YtncnmeidciailaaDoor
open Go.RowKit
attribute [local go_sem] ext_eq app_eq get_eq
theorem infoP : ∃ i, Tryd.prog.info? 84 = some i ∧ i.zero = some (.agg #[.int .i64 0, .int .u8 0, .pointer none]) ∧ i.size = 3 ∧ i.bytes = 24 := info_of (by kernel_rfl)
def qC (q : Gl.Pc × Option Addr) : List Value := [.int .i64 q.1.kd, .int .u8 q.1.by_, .pointer q.2]
def qCs (l : List (Gl.Pc × Option Addr)) : List Value := l.flatMap qC
theorem qCs_snoc (l : List (Gl.Pc × Option Addr)) (x : Gl.Pc × Option Addr) : qCs (l ++ [x]) = qCs l ++ qC x := by simp [qCs]
theorem qCs_len (l : List (Gl.Pc × Option Addr)) : (qCs l).length = l.length * 3 := by
  induction l with
  | nil => rfl
  | cons o l ih => simp only [qCs, List.flatMap_cons, List.length_append, qC, List.length_cons, List.length_nil] at *; omega
theorem qCs_get : ∀ (l : List (Gl.Pc × Option Addr)) (j : Nat) (h : j < l.length), (qCs l)[j * 3]? = some (.int .i64 l[j].1.kd) ∧ (qCs l)[j * 3 + 1]? = some (.int .u8 l[j].1.by_) ∧ (qCs l)[j * 3 + 2]? = some (.pointer l[j].2)
  | [], j, h => by simp at h
  | x :: l, 0, _ => ⟨rfl, rfl, rfl⟩
  | x :: l, j + 1, h => by
    have hh := qCs_get l j (by simpa using h)
    have e : qCs (x :: l) = qC x ++ qCs l := rfl
    rw [e]
    refine ⟨?_, ?_, ?_⟩
    · rw [List.getElem?_append_right (by simp [qC]; omega), List.getElem_cons_succ, show (j + 1) * 3 - (qC x).length = j * 3 by simp [qC]; omega]; exact hh.1
    · rw [List.getElem?_append_right (by simp [qC]; omega), List.getElem_cons_succ, show (j + 1) * 3 + 1 - (qC x).length = j * 3 + 1 by simp [qC]; omega]; exact hh.2.1
    · rw [List.getElem?_append_right (by simp [qC]; omega), List.getElem_cons_succ, show (j + 1) * 3 + 2 - (qC x).length = j * 3 + 2 by simp [qC]; omega]; exact hh.2.2
theorem own_on {W W' : World} {B k n : Nat} {T : TypeId} {v : Value} {xs : List Value} (h : W.ownsRow B T k v n xs) (e : ∀ (g : Nat) (c : Array Value), W.heap[g]? = some (Obj.cells c T (0, 0)) → W'.heap[g]? = W.heap[g]?) : W'.ownsRow B T k v n xs := by
  refine ⟨h.1, ?_⟩
  rcases h.2 with h | ⟨g, cap, cur, h1, h2, h3, h4⟩
  · exact .inl h
  · exact .inr ⟨g, cap, cur, h1, h2, (e g cur h3).trans h3, h4⟩
theorem own_kind {W : World} {B k n : Nat} {T : TypeId} {v : Value} {xs : List Value} (h : W.ownsRow B T k v n xs) : ∀ g, v.ownBlock = some g → ∃ c fz, W.heap[g]? = some (.cells c T fz) := by
  intro g hg
  rcases h.2 with ⟨rfl, _⟩ | ⟨g', cap, cur, rfl, _, hgg, _⟩
  · simp [Value.ownBlock] at hg
  · simp [Value.ownBlock] at hg
    subst hg
    exact ⟨cur, _, hgg⟩
theorem own_slice {w' : World} {base e k n : Nat} {v : Value} {xs : List Value} (h : w'.ownsRow base e k v n xs) : ∃ a c, v = .slice a n c := by
  rcases h.2 with ⟨rfl, rfl⟩ | ⟨g, cap, cur, rfl, _⟩
  · exact ⟨_, _, rfl⟩
  · exact ⟨_, _, rfl⟩
theorem heap_set (W : World) (b : Nat) (v x y : Value) (T : TypeId) (h : W.heap[b]? = some (.cells #[x, y] T (0, 0))) : (W.setCell ⟨b, 0, none⟩ v).heap[b]? = some (.cells #[v, y] T (0, 0)) := by
  show (W.heap.modify b _)[b]? = _
  rw [Array.getElem?_modify, if_pos rfl, h]
  rfl
theorem cell_three_new (w : World) (x y z : Value) (t : TypeId) : ∀ j u, [x, y, z][j]? = some u → (w.alloc (.cells #[x, y, z] t)).cell? ((⟨w.heap.size, 0, none⟩ : Addr).add j) = some u := by
  intro j u hj
  match j, hj with
  | 0, hj => simp at hj; subst hj; simp [Addr.add]
  | 1, hj => simp at hj; subst hj; simp [Addr.add]
  | 2, hj => simp at hj; subst hj; simp [Addr.add]
theorem three_cell (x y : Int) (p : Option Addr) : ∀ u ∈ [Value.int .i64 x, Value.int .u8 y, Value.pointer p], u.oneCell' = true := by intro u hu; simp at hu; rcases hu with rfl | rfl | rfl <;> rfl
/-- What the reading keeps. -/
structure RL (w W : World) (l : List UInt8) (fl : Int) (rb pb : Nat) (v : Value) (sb : Option Nat) (k : Nat) (qs : List (Gl.Pc × Option Addr)) : Prop where
  bel : Below w.heap.size w W
  rs : RS W rb l fl sb k
  rB : w.heap.size ≤ rb
  sB : ∀ b, sb = some b → w.heap.size ≤ b
  hp : W.heap[pb]? = some (.cells #[v, .int .i64 fl] 52 (0, 0))
  pB : w.heap.size < pb
  hz : W.heap[w.heap.size]? = some (.cells #[.slice none 0 0, .int .i64 0] 52 (0, 0))
  row : W.ownsRow w.heap.size 84 3 v qs.length (qCs qs)
  rep : ∀ q ∈ qs, PcT W q.1 q.2
section
variable {w W W' : World} {l : List UInt8} {fl : Int} {rb pb : Nat} {v : Value} {sb sb' : Option Nat} {k k' : Nat} {qs : List (Gl.Pc × Option Addr)}
theorem RL.md (h : RL w W l fl rb pb v sb k qs) (hM : Md (sR rb sb) W W') (hn : sbNew W sb sb') (hr : RS W' rb l fl sb' k') : RL w W' l fl rb pb v sb' k' qs := by
  have hsz := h.bel.size
  have key : ∀ (g : Nat) (c : Array Value) (T : TypeId), W.heap[g]? = some (Obj.cells c T (0, 0)) → T ≠ 82 → T ≠ 4 → W'.heap[g]? = W.heap[g]? := fun g c T hg h1 h2 => by
    obtain ⟨t1, t2⟩ := h.rs.tag hg h1 h2
    exact hM.block g (heap_lt hg) (fun hh => hh.elim (fun e => t1 e.symm) (fun e => t2 g e rfl))
  refine ⟨h.bel.trans (hM.below hsz (fun k hk hh => hh.elim (fun e => by have := h.rB; omega) (fun e => by have := h.sB _ e; omega))), hr, h.rB, fun b e => ?_, (key _ _ _ h.hp (by decide) (by decide)).trans h.hp, h.pB, (key _ _ _ h.hz (by decide) (by decide)).trans h.hz, own_on h.row (fun g c hg => key g c _ hg (by decide) (by decide)), fun q hq => (h.rep q hq).on (fun b arr hb => key b arr _ hb (by decide) (by decide))⟩
  rcases hn with rfl | ⟨rfl, b', rfl, hb'⟩
  · exact h.sB b e
  · cases e; omega
theorem RL.push (h : RL w W l fl rb pb v sb k qs) {x : Gl.Pc} {p : Option Addr} (hx : PcT W x p) (o1 o2 : Obj) {w2 : World} {v' : Value} (hown : w2.ownsRow w.heap.size 84 3 v' (qs.length + 1) (qCs qs ++ [.int .i64 x.kd, .int .u8 x.by_, .pointer p])) (hg : ((W.alloc o1).alloc o2).grownBy w2 v.ownBlock) :
    RL w (w2.setCell ⟨pb, 0, none⟩ v') l fl rb pb v' sb k (qs ++ [(x, p)]) ∧ w2.cell? ⟨pb, 0, none⟩ = some v ∧ w2.frozen? ⟨pb, 0, none⟩ = false := by
  have hk : Lib.OthersKept 84 none W w2 := (((Lib.OthersKept.refl _ _ _).alloc o1).alloc o2).grown hg (fun g hgg => by
    obtain ⟨cc, fz, hc⟩ := own_kind h.row g hgg
    have hlt := heap_lt hc
    exact ⟨cc, fz, (Lib.alloc_old _ o2 g (by simp; omega)).trans ((Lib.alloc_old W o1 g hlt).trans hc)⟩)
  have key : ∀ (g : Nat) (c : Array Value) (T : TypeId) (fz : Nat × Nat), W.heap[g]? = some (Obj.cells c T fz) → T ≠ 84 → w2.heap[g]? = W.heap[g]? := fun g c T fz hg h1 =>
    (hk g _ hg (by simp) (fun c' fz' e => by injection e with _ e2 _; exact h1 e2)).trans hg.symm
  have hp2 := (key _ _ _ _ h.hp (by decide)).trans h.hp
  have off : ∀ (g : Nat), g ≠ pb → (w2.setCell ⟨pb, 0, none⟩ v').heap[g]? = w2.heap[g]? := fun g hg => Below.heap_setCell _ _ _ _ hg
  have tp := fun (g : Nat) (c : Array Value) (T : TypeId) (hg : W.heap[g]? = some (Obj.cells c T (0, 0))) (h1 : T ≠ 84) (h2 : T ≠ 52) => (off g (heap_ne hg h.hp h2)).trans (key g c T _ hg h1)
  refine ⟨⟨?_, ?_, h.rB, h.sB, heap_set _ _ _ _ _ _ hp2, h.pB, ?_, ?_, ?_⟩, by rw [cell_heap hp2]; rfl, by simp [World.frozen?, hp2]⟩
  · exact (((h.bel.alloc h.bel.size o1).alloc (by simp; have := h.bel.size; omega) o2).grown hg (by simp; have := h.bel.size; omega) (fun k hk => (h.row.lt k hk).1)).setCell (by have := h.pB; simp; omega) _
  · obtain ⟨sv, h1, h2⟩ := h.rs
    refine ⟨sv, (tp _ _ _ h1 (by decide) (by decide)).trans h1, ?_⟩
    cases sb with
    | none => exact h2
    | some b =>
      obtain ⟨sn, arr, cap, h3, h4, h5⟩ := h2
      exact ⟨sn, arr, cap, h3, (tp _ _ _ h4 (by decide) (by decide)).trans h4, h5⟩
  · exact (off _ (by have := h.pB; omega)).trans ((key _ _ _ _ h.hz (by decide)).trans h.hz)
  · rw [qCs_snoc, List.length_append]
    exact own_on hown (fun g c hg => off g (heap_ne hg hp2 (by decide)))
  · intro q hq
    rcases List.mem_append.1 hq with hq | hq
    · exact (h.rep q hq).on (fun b arr hb => tp b arr _ hb (by decide) (by decide))
    · simp at hq; subst hq
      exact hx.on (fun b arr hb => tp b arr _ hb (by decide) (by decide))
end
/-- What read tells: the pattern, its pieces in memory. -/
def RdOut (ps : List Gl.Pc) (fl : Int) (w : World) (e : Ending) (w' : World) : Prop := ∃ a c, e = .returned (.agg #[.slice a ps.length c, .int .i64 fl]) ∧ Pcs w' a ps ∧ Below w.heap.size w w'
theorem RL.pcs {w W : World} {l : List UInt8} {fl : Int} {rb pb : Nat} {a : Option Addr} {n c : Nat} {sb : Option Nat} {k : Nat} {qs : List (Gl.Pc × Option Addr)} (h : RL w W l fl rb pb (.slice a n c) sb k qs) {W' : World} (hh : ∀ g, g ≠ w.heap.size → W'.heap[g]? = W.heap[g]?) (hs : W.heap.size ≤ W'.heap.size) : Pcs W' a (qs.map (·.1)) := by
  intro j x hx
  rw [List.getElem?_map] at hx
  obtain ⟨q, hq, rfl⟩ := Option.map_eq_some_iff.1 hx
  obtain ⟨hj, rfl⟩ := List.getElem?_eq_some_iff.1 hq
  rcases h.row.2 with ⟨e, h0⟩ | ⟨g, cap, cur, e, hb, hg, hnc, hcm, hcz, ht⟩
  · rw [h0] at hj; exact absurd hj (Nat.not_lt_zero _)
  · cases e
    have hgz : g ≠ w.heap.size := heap_ne hg h.hz (by decide)
    have hg' := (hh g hgz).trans hg
    obtain ⟨q0, q1, q2⟩ := qCs_get qs j hj
    have hcu : ∀ o v, (qCs qs)[o]? = some v → cur[o]? = some v := fun o v hv => by
      rw [← ht] at hv
      rw [← Array.getElem?_toList]
      rw [List.getElem?_take] at hv
      split at hv
      · exact hv
      · cases hv
    refine ⟨g, 0, qs[j].2, rfl, by have := heap_lt hg; omega, ?_, ?_, ?_, ?_⟩
    · rw [cell_heap hg', Nat.zero_add]; exact hcu _ _ q0
    · rw [cell_heap hg', Nat.zero_add]; exact hcu _ _ q1
    · rw [cell_heap hg', Nat.zero_add]; exact hcu _ _ q2
    · exact ((h.rep qs[j] (List.getElem_mem hj)).on (fun b arr hb => hh b (heap_ne hb h.hz (by decide)))).rep
set_option maxRecDepth 100000 in
set_option maxHeartbeats 4000000 in
theorem gRead (l : List UInt8) (fl : Int) (hl : l.length ≤ 2 ^ 40) (w : World)
    (hbr : ∀ k (hk : k < l.length), Gl.Reach (Gl.flOf fl) l k → l[k] = 91 → ∀ W sb rb, Below w.heap.size w W → RS W rb l fl sb k → Calls Tryd.prog 73 #[.pointer (some ⟨rb, 0, none⟩), .int .i64 ((k + 1 : Nat) : Int)] W (BrOut l fl rb sb k W)) :
    Calls Tryd.prog 36 #[.string ⟨l.toArray⟩, .int .i64 fl] w (RdOut (Gl.pcs (Gl.flOf fl) l) fl w) := by
  have hs : (⟨l.toArray⟩ : ByteArray).size = l.length := str_size l
  obtain ⟨iP, hi, hz0, hz1, hz2⟩ := infoP
  have HPc := hidA (fun k (hk : k < l.length) (hr : Gl.Reach (Gl.flOf fl) l k) W sb rb h (hB : Below w.heap.size w W) => gPiece rb l fl sb k hk (by omega) W h (fun hc W' hB' h' => hbr k hk hr hc W' sb rb (hB.trans (hB'.mono hB.size)) h'))
  clear hbr
  have HL0 : Hid (RL w (((w.alloc (.cells #[.slice none 0 0, .int .i64 0] 52)).alloc (.cells #[.string ⟨l.toArray⟩, .int .i64 fl, .slice none 0 0] 82)).alloc (.cells #[.slice none 0 0, .int .i64 fl] 52)) l fl (w.heap.size + 1) (w.heap.size + 2) (.slice none 0 0) none 0 []) := by
    refine ⟨(((Below.refl _ _).alloc (Nat.le_refl _) _).alloc (by simp) _).alloc (by simp; omega) _, ⟨_, ?_, rfl⟩, by omega, fun b e => (by cases e), ?_, by omega, ?_, World.ownsRow_nil _ _ _ _, fun q hq => (by cases hq)⟩
    · exact (Below.heap_alloc _ _ _ (by simp)).trans (by have := heap_new (w.alloc (.cells #[.slice none 0 0, .int .i64 0] 52)) (.cells #[.string ⟨l.toArray⟩, .int .i64 fl, .slice none 0 0] 82); simpa using this)
    · have := heap_new ((w.alloc (.cells #[.slice none 0 0, .int .i64 0] 52)).alloc (.cells #[.string ⟨l.toArray⟩, .int .i64 fl, .slice none 0 0] 82)) (.cells #[.slice none 0 0, .int .i64 fl] 52); simpa using this
    · exact (Below.heap_alloc _ _ _ (by simp; omega)).trans ((Below.heap_alloc _ _ _ (by simp)).trans (heap_new _ _))
  go_enter Tryd.func36, Tryd.ntmps36
  go_wp2
  go_loopw [7] (fun s7 W => ∃ (k : Nat) (va : Option Addr) (vn vc : Nat) (sb : Option Nat) (qs : List (Gl.Pc × Option Addr)), s7 = .int .i64 k ∧ k ≤ l.length ∧ Hid (RL w W l fl (w.heap.size + 1) (w.heap.size + 2) (.slice va vn vc) sb k qs) ∧ Hid (Gl.pcs (Gl.flOf fl) l = qs.map (·.1) ++ Gl.pcs (Gl.flOf fl) (l.drop k)) ∧ Hid (Gl.Reach (Gl.flOf fl) l k) ∧ qs.length ≤ k) (fun s7 _ => l.length - (intOf s7).toNat)
  case atStart => exact ⟨0, _, _, _, none, [], rfl, Nat.zero_le _, HL0, rfl, .zero, Nat.le_refl _⟩
  case round =>
    obtain ⟨k, va, vn, vc, sb, qs, rfl, hk, HL, HQ, HRe, hqk⟩ := hrel
    rename_i wr
    by_cases hlt : k < l.length
    · have HP1 := hidA (HPc.out k hlt HRe.out wr sb _ HL.out.rs HL.out.bel)
      have hne : l.drop k ≠ [] := by intro e; have := congrArg List.length e; simp at this; omega
      obtain ⟨hp1, hp2⟩ := Gl.piece_pos (Gl.flOf fl) (l.drop k) hne
      rw [List.length_drop] at hp2
      have HRe2 := hidA (Gl.Reach.next HRe.out hlt)
      have HQ2 : Hid (Gl.pcs (Gl.flOf fl) l = (qs.map (·.1) ++ [(Gl.piece (Gl.flOf fl) (l.drop k)).1]) ++ Gl.pcs (Gl.flOf fl) (l.drop (k + (Gl.piece (Gl.flOf fl) (l.drop k)).2))) := by
        show _ = _
        rw [HQ.out, Gl.pcs_step _ _ hne, List.drop_drop]; simp
      unfold PcOut at HP1
      generalize Gl.piece (Gl.flOf fl) (l.drop k) = O at *
      obtain ⟨x, n⟩ := O
      dsimp only at *
      clear hne
      go_wp2_with (first | (go_at_call 56; refine HP1.out.mono ?_; rintro e w1 ⟨hM, sb', p, hsn, hrs, hpt, rfl⟩; (have HL1 := hidA (HL.out.md hM hsn hrs)); (have HT := hidA hpt); (have hsz1 : w.heap.size + 2 < w1.heap.size := heap_lt HL1.out.hp); (have y0 : w1.cell? ⟨w.heap.size + 2, 0, none⟩ = some (.slice va vn vc) := by rw [cell_heap HL1.out.hp]; rfl); clear hM hsn hrs hpt) | (at_builtin; refine wpList_append_own_at _ rfl _ _ 50 rfl w.heap.size 84 iP (.agg #[.int .i64 0, .int .u8 0, .pointer none]) 3 24 Tryd.underlying50 hi hz0 hz1 hz2 rfl (by decide) _ _ _ rfl ((HL1.out.row.alloc _).alloc _) ⟨w1.heap.size + 1, 0, none⟩ 1 1 [.int .i64 x.kd, .int .u8 x.by_, .pointer p] rfl rfl (by have := cell_three_new (w1.alloc (.cells #[.int .i64 x.kd, .int .u8 x.by_, .pointer p] 84)) (.int .i64 x.kd) (.int .u8 x.by_) (.pointer p) 84; simpa using this) (three_cell _ _ _) (by unfold maxLen; omega) (by omega) (by simp; omega) ?_; intro v2 w2 hown hg _ hat; obtain ⟨va2, vc2, hv2⟩ := own_slice hown; subst hv2; (obtain ⟨hl2, y1, y2⟩ := HL1.out.push HT.out _ _ hown hg); (have HL2 := hidA hl2); clear hown hg hat hl2))
      exact ⟨⟨k + n, va2, _, vc2, sb', qs ++ [(x, p)], rfl, by omega, HL2, hidA (by rw [HQ2.out]; simp), HRe2, by simp; omega⟩, by simp [intOf]; omega⟩
    · obtain rfl : k = l.length := by omega
      have hvn : vn = qs.length := by
        rcases HL.out.row.2 with ⟨e, h0⟩ | ⟨g, cap, cur, e, _⟩
        · cases e; exact h0.symm
        · cases e; rfl
      subst hvn
      have HQ2 : Hid (Gl.pcs (Gl.flOf fl) l = qs.map (·.1)) := by
        show _ = _
        rw [HQ.out, List.drop_length]; simp [Gl.pcs_nil]
      have hsz1 : w.heap.size + 2 < wr.heap.size := heap_lt HL.out.hp
      have y0 : wr.cell? ⟨w.heap.size + 2, 0, none⟩ = some (.slice va qs.length vc) := by rw [cell_heap HL.out.hp]; rfl
      have y1 : wr.cell? ⟨w.heap.size + 2, 1, none⟩ = some (.int .i64 fl) := by rw [cell_heap HL.out.hp]; rfl
      have z0 : wr.cell? ⟨w.heap.size, 0, none⟩ = some (.slice none 0 0) := by rw [cell_heap HL.out.hz]; rfl
      have z1 : wr.cell? ⟨w.heap.size, 1, none⟩ = some (.int .i64 0) := by rw [cell_heap HL.out.hz]; rfl
      have hfz : ∀ j, wr.frozen? ⟨w.heap.size, j, none⟩ = false := fun j => by simp [World.frozen?, HL.out.hz]
      clear HPc HL0 HQ
      go_wp2
      refine bodyPost_ret (v := .agg #[.slice va qs.length vc, .int .i64 fl]) (by simp [results, Tryd.results36, go_sem, z0, z1]) rfl ?_
      unfold RdOut
      rw [HQ2.out]
      refine ⟨va, vc, by simp, HL.out.pcs (fun g hg => ?_) (by simp [World.setCell]), (HL.out.bel.setCell (by simp) _).setCell (by simp) _⟩
      rw [Below.heap_setCell _ _ _ _ hg, Below.heap_setCell _ _ _ _ hg]
end Go.Proofs.YtncnmeidciailaaDoor
