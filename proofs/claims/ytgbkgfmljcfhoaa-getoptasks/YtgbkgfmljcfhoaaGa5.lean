/- Arguments that are being parted, in memory: the parting in block pb, the queue in block qb, the options' and operands' rows. -/
import Derived.Test.YtgbkgfmljcfhoaaGa4
import Derived.Maps.AppendAt
namespace Go.Proofs.Ytgbkgfmljcfhoaa
open Go.RowKit
def sv (x : List UInt8) : Value := .string ⟨x.toArray⟩
def opC (o : Ga.Opt) : List Value := [.string ⟨o.1.toArray⟩, .string ⟨o.2.toArray⟩]
def opCs (l : List Ga.Opt) : List Value := l.flatMap opC
theorem opCs_snoc (l : List Ga.Opt) (o : Ga.Opt) : opCs (l ++ [o]) = opCs l ++ opC o := by simp [opCs]
theorem opCs_len (l : List Ga.Opt) : (opCs l).length = l.length * 2 := by
  induction l with
  | nil => rfl
  | cons o l ih => simp only [opCs, List.flatMap_cons, List.length_append, opC, List.length_cons, List.length_nil] at *; omega
theorem info_of {t s b : Nat} {z : Option Value} (h : (Try.prog.info? t).map (fun i => (i.zero, i.size, i.bytes)) = some (z, s, b)) : ∃ i, Try.prog.info? t = some i ∧ i.zero = z ∧ i.size = s ∧ i.bytes = b := by
  cases hi : Try.prog.info? t with
  | none => rw [hi] at h; cases h
  | some i => rw [hi] at h; simp at h; exact ⟨i, rfl, h.1, h.2.1, h.2.2⟩
theorem infoS : ∃ i, Try.prog.info? 9 = some i ∧ i.zero = some (.string ⟨#[]⟩) ∧ i.size = 1 ∧ i.bytes = 16 := info_of (by kernel_rfl)
theorem infoO : ∃ i, Try.prog.info? 67 = some i ∧ i.zero = some (.agg #[.string ⟨#[]⟩, .string ⟨#[]⟩]) ∧ i.size = 2 ∧ i.bytes = 32 := info_of (by kernel_rfl)
structure Pt (w W : World) (B pb qb : Nat) (st : Bool) (al tk : List UInt8) (a : Option Addr) (c : Nat) (left : List (List UInt8)) (vo vr : Value) (opts : List Ga.Opt) (rest : List (List UInt8)) : Prop where
  bel : Below B w W
  hB : B ≤ W.heap.size
  p1 : B ≤ pb
  q1 : B ≤ qb
  pq : pb ≠ qb
  c0 : W.cell? ⟨pb, 0, none⟩ = some (.bool st)
  c1 : W.cell? ⟨pb, 1, none⟩ = some (.string ⟨al.toArray⟩)
  c2 : W.cell? ⟨pb, 2, none⟩ = some (.string ⟨tk.toArray⟩)
  c3 : W.cell? ⟨pb, 3, none⟩ = some (.func (.func 27) #[.pointer (some ⟨qb, 0, none⟩)] #[])
  c4 : W.cell? ⟨pb, 4, none⟩ = some vo
  c5 : W.cell? ⟨pb, 5, none⟩ = some vr
  c6 : W.cell? ⟨pb, 6, none⟩ = some (.string ⟨#[]⟩)
  c7 : W.cell? ⟨pb, 7, none⟩ = some (.bool false)
  fp : ∀ o, W.frozen? ⟨pb, o, none⟩ = false
  q0 : W.cell? ⟨qb, 0, none⟩ = some (.slice a left.length c)
  fq : W.frozen? ⟨qb, 0, none⟩ = false
  cl : left.length ≤ c
  cm : c < 2 ^ 63
  strs : Strs W a left
  aB : left ≠ [] → ∀ b, a.map (·.block) = some b → b < B
  oo : W.ownsRow B 67 2 vo opts.length (opCs opts)
  ro : W.ownsRow B 9 1 vr rest.length (rest.map sv)
  op : vo.ownBlock ≠ some pb
  oq : vo.ownBlock ≠ some qb
  rp : vr.ownBlock ≠ some pb
  rq : vr.ownBlock ≠ some qb
  orr : vo.ownBlock = none ∨ vo.ownBlock ≠ vr.ownBlock
section
variable {w W : World} {B pb qb : Nat} {st : Bool} {al tk : List UInt8} {a : Option Addr} {c : Nat} {left : List (List UInt8)} {vo vr : Value} {opts : List Ga.Opt} {rest : List (List UInt8)}
theorem Pt.plt (h : Pt w W B pb qb st al tk a c left vo vr opts rest) : pb < W.heap.size := World.block_lt_of_cell? _ _ h.c0
theorem Pt.qlt (h : Pt w W B pb qb st al tk a c left vo vr opts rest) : qb < W.heap.size := World.block_lt_of_cell? _ _ h.q0
/-- Only blocks other than the parting's, the queue's and the rows' have turned. -/
theorem Pt.grow {W' : World} (h : Pt w W B pb qb st al tk a c left vo vr opts rest) (hB : Below W.heap.size W W') : Pt w W' B pb qb st al tk a c left vo vr opts rest := by
  have hp := h.plt
  have hq := h.qlt
  have eP : W'.heap[pb]? = W.heap[pb]? := hB.block _ hp
  have eQ : W'.heap[qb]? = W.heap[qb]? := hB.block _ hq
  have hg : W.grownBy W' none := ⟨hB.os, hB.tape, hB.output, hB.size, fun k hk _ => hB.block k hk⟩
  have hkeep : ∀ v : Value, v.ownBlock = none ∨ v.ownBlock ≠ none := fun v => by cases v.ownBlock <;> simp
  have cP : ∀ o, W'.cell? ⟨pb, o, none⟩ = W.cell? ⟨pb, o, none⟩ := fun o => World.cell?_of_block (a := ⟨pb, o, none⟩) eP
  have h1 := hB.size
  have h2 := h.hB
  exact {
    bel := h.bel.trans (hB.mono h.hB), hB := by omega, p1 := h.p1, q1 := h.q1, pq := h.pq
    c0 := (cP 0).trans h.c0, c1 := (cP 1).trans h.c1, c2 := (cP 2).trans h.c2, c3 := (cP 3).trans h.c3, c4 := (cP 4).trans h.c4, c5 := (cP 5).trans h.c5, c6 := (cP 6).trans h.c6, c7 := (cP 7).trans h.c7
    fp := fun o => (World.frozen?_of_block (a := ⟨pb, o, none⟩) eP).trans (h.fp o)
    q0 := (World.cell?_of_block (a := ⟨qb, 0, none⟩) eQ).trans h.q0
    fq := (World.frozen?_of_block (a := ⟨qb, 0, none⟩) eQ).trans h.fq
    cl := h.cl, cm := h.cm, strs := h.strs.grow hB, aB := h.aB
    oo := h.oo.kept hg (hkeep _), ro := h.ro.kept hg (hkeep _)
    op := h.op, oq := h.oq, rp := h.rp, rq := h.rq, orr := h.orr }
/-- The next argument has been taken. -/
theorem Pt.took (h : Pt w W B pb qb st al tk a c left vo vr opts rest) {a' : Option Addr} {c' : Nat} {r : List (List UInt8)} (hc : r.length ≤ c') (hm : c' ≤ c) (hS : Strs W a' r) (ha : ∀ b, a'.map (·.block) = some b → a.map (·.block) = some b) (hl : left ≠ []) :
    Pt w (W.setCell ⟨qb, 0, none⟩ (.slice a' r.length c')) B pb qb st al tk a' c' r vo vr opts rest := by
  have hq1 := h.q1
  have hp := h.plt
  have hpq := h.pq
  have eo : ∀ k, k ≠ qb → (W.setCell ⟨qb, 0, none⟩ (.slice a' r.length c')).heap[k]? = W.heap[k]? := fun k hk => Below.heap_setCell _ _ _ _ hk
  have hB : Below B W (W.setCell ⟨qb, 0, none⟩ (.slice a' r.length c')) := (Below.refl _ _).setCell hq1 _
  have cP : ∀ o, (W.setCell ⟨qb, 0, none⟩ (.slice a' r.length c')).cell? ⟨pb, o, none⟩ = W.cell? ⟨pb, o, none⟩ := fun o => World.cell?_of_block (a := ⟨pb, o, none⟩) (eo _ hpq)
  have hg : W.grownBy (W.setCell ⟨qb, 0, none⟩ (.slice a' r.length c')) (some qb) := ⟨rfl, rfl, rfl, by simp [World.setCell], fun k hk hne => eo k (fun e => hne (by rw [e]))⟩
  exact {
    bel := h.bel.trans hB, hB := Nat.le_trans h.hB hB.size, p1 := h.p1, q1 := h.q1, pq := h.pq
    c0 := (cP 0).trans h.c0, c1 := (cP 1).trans h.c1, c2 := (cP 2).trans h.c2, c3 := (cP 3).trans h.c3, c4 := (cP 4).trans h.c4, c5 := (cP 5).trans h.c5, c6 := (cP 6).trans h.c6, c7 := (cP 7).trans h.c7
    fp := fun o => (World.frozen?_of_block (a := ⟨pb, o, none⟩) (eo _ hpq)).trans (h.fp o)
    q0 := sc_in h.q0
    fq := by simp [h.fq]
    cl := hc, cm := Nat.lt_of_le_of_lt hm h.cm
    strs := hS.below hB (fun _ b hb => h.aB hl b (ha b hb)), aB := fun _ b hb => h.aB hl b (ha b hb)
    oo := h.oo.kept hg (.inr h.oq), ro := h.ro.kept hg (.inr h.rq)
    op := h.op, oq := h.oq, rp := h.rp, rq := h.rq, orr := h.orr }
/-- What an append of one operand leaves, behind the store. -/
theorem Pt.pushR (h : Pt w W B pb qb st al tk a c left vo vr opts rest) {o : Obj} {v' : Value} {w1 : World} (x : List UInt8) (hown : w1.ownsRow B 9 1 v' (rest.length + 1) (rest.map sv ++ [.string ⟨x.toArray⟩])) (hg : (W.alloc o).grownBy w1 vr.ownBlock) (hat : v'.ownBlock = vr.ownBlock ∨ v'.ownBlock = some (W.alloc o).heap.size) :
    Pt w (w1.setCell ⟨pb, 5, none⟩ v') B pb qb st al tk a c left vo v' opts (rest ++ [x]) := by
  have hp := h.plt
  have hq := h.qlt
  have hpq := h.pq
  have hp1 := h.p1
  have hb := h.hB
  have hsz : (W.alloc o).heap.size = W.heap.size + 1 := by simp
  have e1 : ∀ k, k < W.heap.size → some k ≠ vr.ownBlock → w1.heap[k]? = W.heap[k]? := fun k hk hne => (hg.block k (by omega) hne).trans (Below.heap_alloc _ _ _ hk)
  have eo : ∀ k, k ≠ pb → (w1.setCell ⟨pb, 5, none⟩ v').heap[k]? = w1.heap[k]? := fun k hk => Below.heap_setCell _ _ _ _ hk
  have eP := e1 pb hp (fun e => h.rp e.symm)
  have eQ := e1 qb hq (fun e => h.rq e.symm)
  have eQ2 : (w1.setCell ⟨pb, 5, none⟩ v').heap[qb]? = W.heap[qb]? := (eo qb (fun e => hpq e.symm)).trans eQ
  have cP : ∀ i, w1.cell? ⟨pb, i, none⟩ = W.cell? ⟨pb, i, none⟩ := fun i => World.cell?_of_block (a := ⟨pb, i, none⟩) eP
  have cO : ∀ i, i ≠ 5 → (w1.setCell ⟨pb, 5, none⟩ v').cell? ⟨pb, i, none⟩ = W.cell? ⟨pb, i, none⟩ := fun i hi => (sc_out (by intro e; cases e; exact hi rfl)).trans (cP i)
  have hlt := h.ro.lt
  have hB1 : Below B W w1 := by
    refine ⟨hg.os, hg.tape, hg.output, Nat.le_trans (by omega) hg.size, fun k hk => e1 k (by omega) (fun e => ?_)⟩
    have := (hlt k e.symm).1; omega
  have hB2 : Below B W (w1.setCell ⟨pb, 5, none⟩ v') := hB1.setCell hp1 _
  have hs : w1.heap.size = (w1.setCell ⟨pb, 5, none⟩ v').heap.size := by simp [World.setCell]
  have h1 := hg.size
  have hg2 : w1.grownBy (w1.setCell ⟨pb, 5, none⟩ v') (some pb) := ⟨rfl, rfl, rfl, by simp [World.setCell], fun k hk hne => eo k (fun e => hne (by rw [e]))⟩
  have hne : ∀ k, k < W.heap.size → vr.ownBlock ≠ some k → v'.ownBlock ≠ some k := by
    intro k hk hv e
    rcases hat with h2 | h2
    · rw [h2] at e; exact hv e
    · rw [h2, hsz] at e; have := Option.some.inj e; omega
  exact {
    bel := h.bel.trans hB2, hB := by omega, p1 := h.p1, q1 := h.q1, pq := h.pq
    c0 := (cO 0 (by decide)).trans h.c0, c1 := (cO 1 (by decide)).trans h.c1, c2 := (cO 2 (by decide)).trans h.c2, c3 := (cO 3 (by decide)).trans h.c3, c4 := (cO 4 (by decide)).trans h.c4, c5 := sc_in ((cP 5).trans h.c5), c6 := (cO 6 (by decide)).trans h.c6, c7 := (cO 7 (by decide)).trans h.c7
    fp := fun i => by
      have : w1.frozen? ⟨pb, i, none⟩ = false := (World.frozen?_of_block (a := ⟨pb, i, none⟩) eP).trans (h.fp i)
      simp [this]
    q0 := (World.cell?_of_block (a := ⟨qb, 0, none⟩) eQ2).trans h.q0
    fq := (World.frozen?_of_block (a := ⟨qb, 0, none⟩) eQ2).trans h.fq
    cl := h.cl, cm := h.cm
    strs := h.strs.below hB2 h.aB, aB := h.aB
    oo := ((h.oo.alloc o).kept hg (by rcases h.orr with e | e; exact .inl e; exact .inr e)).kept hg2 (.inr h.op)
    ro := by
      rw [List.map_append, List.length_append]
      exact hown.kept hg2 (.inr (hne pb hp h.rp))
    op := h.op, oq := h.oq, rp := hne pb hp h.rp, rq := hne qb hq h.rq
    orr := by
      cases hv : vo.ownBlock with
      | none => exact .inl rfl
      | some k =>
        refine .inr (fun e => ?_)
        have hk := (h.oo.lt k hv).2
        rcases h.orr with h3 | h3
        · rw [hv] at h3; cases h3
        · exact hne k hk (fun e2 => h3 (by rw [hv, e2])) e.symm }
/-- What an append of one option leaves, behind the store. -/
theorem Pt.pushO (h : Pt w W B pb qb st al tk a c left vo vr opts rest) {o : Obj} {v' : Value} {w1 : World} (x y : List UInt8) (hown : w1.ownsRow B 67 2 v' (opts.length + 1) (opCs opts ++ [.string ⟨x.toArray⟩, .string ⟨y.toArray⟩])) (hg : (W.alloc o).grownBy w1 vo.ownBlock) (hat : v'.ownBlock = vo.ownBlock ∨ v'.ownBlock = some (W.alloc o).heap.size) :
    Pt w (w1.setCell ⟨pb, 4, none⟩ v') B pb qb st al tk a c left v' vr (opts ++ [(x, y)]) rest := by
  have hp := h.plt
  have hq := h.qlt
  have hpq := h.pq
  have hp1 := h.p1
  have hb := h.hB
  have hsz : (W.alloc o).heap.size = W.heap.size + 1 := by simp
  have e1 : ∀ k, k < W.heap.size → some k ≠ vo.ownBlock → w1.heap[k]? = W.heap[k]? := fun k hk hne => (hg.block k (by omega) hne).trans (Below.heap_alloc _ _ _ hk)
  have eo : ∀ k, k ≠ pb → (w1.setCell ⟨pb, 4, none⟩ v').heap[k]? = w1.heap[k]? := fun k hk => Below.heap_setCell _ _ _ _ hk
  have eP := e1 pb hp (fun e => h.op e.symm)
  have eQ := e1 qb hq (fun e => h.oq e.symm)
  have eQ2 : (w1.setCell ⟨pb, 4, none⟩ v').heap[qb]? = W.heap[qb]? := (eo qb (fun e => hpq e.symm)).trans eQ
  have cP : ∀ i, w1.cell? ⟨pb, i, none⟩ = W.cell? ⟨pb, i, none⟩ := fun i => World.cell?_of_block (a := ⟨pb, i, none⟩) eP
  have cO : ∀ i, i ≠ 4 → (w1.setCell ⟨pb, 4, none⟩ v').cell? ⟨pb, i, none⟩ = W.cell? ⟨pb, i, none⟩ := fun i hi => (sc_out (by intro e; cases e; exact hi rfl)).trans (cP i)
  have hlt := h.oo.lt
  have hB1 : Below B W w1 := by
    refine ⟨hg.os, hg.tape, hg.output, Nat.le_trans (by omega) hg.size, fun k hk => e1 k (by omega) (fun e => ?_)⟩
    have := (hlt k e.symm).1; omega
  have hB2 : Below B W (w1.setCell ⟨pb, 4, none⟩ v') := hB1.setCell hp1 _
  have hs : w1.heap.size = (w1.setCell ⟨pb, 4, none⟩ v').heap.size := by simp [World.setCell]
  have h1 := hg.size
  have hg2 : w1.grownBy (w1.setCell ⟨pb, 4, none⟩ v') (some pb) := ⟨rfl, rfl, rfl, by simp [World.setCell], fun k hk hne => eo k (fun e => hne (by rw [e]))⟩
  have hne : ∀ k, k < W.heap.size → vo.ownBlock ≠ some k → v'.ownBlock ≠ some k := by
    intro k hk hv e
    rcases hat with h2 | h2
    · rw [h2] at e; exact hv e
    · rw [h2, hsz] at e; have := Option.some.inj e; omega
  have hrr : vr.ownBlock = none ∨ vr.ownBlock ≠ vo.ownBlock := by
    rcases h.orr with e | e
    · cases hv : vr.ownBlock with
      | none => exact .inl rfl
      | some k => rw [e]; exact .inr (by simp)
    · exact .inr (fun e2 => e e2.symm)
  exact {
    bel := h.bel.trans hB2, hB := by omega, p1 := h.p1, q1 := h.q1, pq := h.pq
    c0 := (cO 0 (by decide)).trans h.c0, c1 := (cO 1 (by decide)).trans h.c1, c2 := (cO 2 (by decide)).trans h.c2, c3 := (cO 3 (by decide)).trans h.c3, c4 := sc_in ((cP 4).trans h.c4), c5 := (cO 5 (by decide)).trans h.c5, c6 := (cO 6 (by decide)).trans h.c6, c7 := (cO 7 (by decide)).trans h.c7
    fp := fun i => by
      have : w1.frozen? ⟨pb, i, none⟩ = false := (World.frozen?_of_block (a := ⟨pb, i, none⟩) eP).trans (h.fp i)
      simp [this]
    q0 := (World.cell?_of_block (a := ⟨qb, 0, none⟩) eQ2).trans h.q0
    fq := (World.frozen?_of_block (a := ⟨qb, 0, none⟩) eQ2).trans h.fq
    cl := h.cl, cm := h.cm
    strs := h.strs.below hB2 h.aB, aB := h.aB
    ro := ((h.ro.alloc o).kept hg (by rcases hrr with e | e; exact .inl e; exact .inr e)).kept hg2 (.inr h.rp)
    oo := by
      rw [opCs_snoc, List.length_append]
      exact hown.kept hg2 (.inr (hne pb hp h.op))
    op := hne pb hp h.op, oq := hne qb hq h.oq, rp := h.rp, rq := h.rq
    orr := by
      cases hv : v'.ownBlock with
      | none => exact .inl rfl
      | some k =>
        refine .inr (fun e => ?_)
        have hk := (h.ro.lt k e.symm).2
        rcases hrr with h3 | h3
        · rw [← e] at h3; cases h3
        · exact hne k hk (fun e2 => h3 (by rw [← e, e2])) hv }
end
end Go.Proofs.Ytgbkgfmljcfhoaa
