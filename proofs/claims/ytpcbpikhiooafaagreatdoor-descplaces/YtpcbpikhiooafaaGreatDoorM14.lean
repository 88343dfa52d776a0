/- Several texts of this claim, one behind the other, in their order. -/
import Derived.RangeFuncNested
import Derived.RangeFuncBound
import Derived.RangeFuncCalls
import Derived.RangeFuncLeaves
import Derived.RangeFuncFrom
import Derived.Shelf.Abstract
import Derived.Shelf.RegionOpen
import Derived.WalkKit
import Derived.OwnWalkIn
import Derived.TacticsInMore
import Derived.LoopNIn
import Derived.LoopIn
import Derived.Deep.MidRow
import Derived.Test.YtpcbpikhiooafaaGreatDoorM13
import Derived.Laws.CopyOwn
import Derived.Deep.RegionLaw
/- A loop over an iterator that itself may loop over another one: the contract SeqA, and the loop's law. Condition: what the loop keeps does not speak of blocks laid since it began. -/
namespace Go.Proofs.YtpcbpikhiooafaaGreatDoor
open Go.RowKit Go
/-- J abides whatever is done with blocks from B on. -/
def AbidesB {β : Type} (B : Nat) (J : β → World → Prop) : Prop := ∀ s W W' row, J s W → W.grownBy W' row → (∀ r, row = some r → B ≤ r) → J s W'
/-- The cells that lay, but for own's, lie as they lay. -/
def KC (own : Nat → Prop) (W W' : World) : Prop := W.heap.size ≤ W'.heap.size ∧ ∀ k o, W.heap[k]? = some o → o.isCells = true → ¬ own k → W'.heap[k]? = some o
theorem KC.refl (own : Nat → Prop) (W : World) : KC own W W := ⟨Nat.le_refl _, fun _ _ h _ _ => h⟩
theorem KC.trans {own : Nat → Prop} {A B C : World} (h : KC own A B) (k : KC own B C) : KC own A C := ⟨Nat.le_trans h.1 k.1, fun i o hi ho hn => k.2 i o (h.2 i o hi ho hn) ho hn⟩
theorem KC.put {own : Nat → Prop} {W : World} {l : Nat} {o : Obj} (o' : Obj) (hl : W.heap[l]? = some o) (hc : o.isCells = false) : KC own W (W.putObj l o') :=
  ⟨(grownBy_putObj' W l o').size, fun k p hk hp _ => by
    by_cases e : k = l
    · subst e; rw [hl] at hk; cases hk; rw [hc] at hp; cases hp
    · exact ((grownBy_putObj' W l o').block k (Array.getElem?_eq_some_iff.1 hk).1 (fun h => e (by cases h; rfl))).trans hk⟩
theorem KC.of_below {own : Nat → Prop} {W W' : World} (h : Below W.heap.size W W') : KC own W W' := ⟨h.size, fun k _ hk _ _ => (h.block k (Array.getElem?_eq_some_iff.1 hk).1).trans hk⟩
theorem KO.of_below {W W' : World} (h : Below W.heap.size W W') : KeepsOthers W W' := ⟨h.size, fun k _ hk _ => (h.block k (Array.getElem?_eq_some_iff.1 hk).1).trans hk⟩
theorem AbidesB.putObj {β : Type} {B : Nat} {I : β → World → Prop} (h : AbidesB B I) {s : β} {W : World} {l : Nat} (o' : Obj) (hs : I s W) (hB : B ≤ l) : I s (W.putObj l o') :=
  h s W _ (some l) hs (grownBy_putObj' W l o') (fun r e => by cases e; exact hB)
theorem AbidesB.alloc {β : Type} {B : Nat} {I : β → World → Prop} (h : AbidesB B I) {s : β} {W : World} (o : Obj) (hs : I s W) : I s (W.alloc o) :=
  h s W _ none hs (World.grownBy_alloc W o none) (fun r e => by cases e)
theorem AbidesB.and {β : Type} {B : Nat} {I I' : β → World → Prop} (h : AbidesB B I) (h' : AbidesB B I') : AbidesB B (fun s W => I s W ∧ I' s W) := fun s W W' row hs hg hr => ⟨h s W W' row hs.1 hg hr, h' s W W' row hs.2 hg hr⟩
theorem abidesB_below {β : Type} {n₀ B : Nat} {w₀ : World} (hn : n₀ ≤ w₀.heap.size) (hB : n₀ ≤ B) : AbidesB B (fun (_ : β) W => Below n₀ w₀ W) :=
  fun _ _ _ _ hs hg hr => hs.grown hg (Nat.le_trans hn hs.size) (fun k e => Nat.le_trans hB (hr k e))
theorem abidesB_block {β : Type} {B k : Nat} {o : Obj} (hk : k < B) : AbidesB B (fun (_ : β) W => W.heap[k]? = some o) :=
  fun _ W _ _ hs hg hr => (hg.block k (Array.getElem?_eq_some_iff.1 hs).1 (fun e => by have := hr k e.symm; omega)).trans hs
theorem abidesB_pure {β : Type} (B : Nat) (p : β → Prop) : AbidesB B (fun s (_ : World) => p s) := fun _ _ _ _ hs _ _ => hs
variable {P : Program}
/-- An iterator's contract. -/
def SeqA {α : Type} (P : Program) (g : Nat) (lb : Array Value) (encs : α → Array Value) (own : Nat → Prop) (T : List α) (w : World) : Prop :=
  ∀ (l : Nat) (J Jx : List α → World → Prop) (W : World), Below w.heap.size w W → AbidesB W.heap.size J → AbidesB W.heap.size Jx →
    (∀ pre x W1, J pre W1 → pre ++ [x] <+: T → YieldAt Fence.wide 9 P l (encs x) W1 fun e W' =>
      (e = .returned (.bool true) ∧ J (pre ++ [x]) W' ∧ KC own W1 W' ∧ KeepsFrom W.heap.size W1 W') ∨ (e = .returned (.bool false) ∧ Jx (pre ++ [x]) W' ∧ KeepsFrom W.heap.size W1 W')) →
    J [] W →
    CallsIn Fence.wide 9 P g (#[.func (.yield l) #[] #[]] ++ lb) W fun e W' => (∃ v, e = .returned v) ∧ (J T W' ∨ (∃ pre, pre <+: T ∧ Jx pre W'))
/-- How a round may be left. -/
def postA {α : Type} (B : Nat) (own : Nat → Prop) (I : List α → World → Prop) (Ix : Code → List α → World → Prop) (xs : List α) (W : World) : Exit → Act → World → Prop
  | .normal, _, W' => KeepsFrom B W W' ∧ KC own W W' ∧ I xs W'
  | .ret, _, W' => KeepsFrom B W W' ∧ Ix .ret xs W'
  | .exit id, _, W' => KeepsFrom B W W' ∧ Ix (.exit id) xs W'
  | _, _, _ => False
theorem roundIn_any {l m m' k : Nat} {f : FuncId} {tmps : Array Value} {assign body : Code} {w : World} {R : Ending → World → Prop} (h : RoundIn Fence.wide m P l f tmps assign body w R) : RoundIn (Fence.wide.inRound k) m' P l f tmps assign body w R :=
  ⟨h.1, fun c cs _ => h.2 c cs (room_wide _)⟩
theorem roundIn_wide {l m m' : Nat} {f : FuncId} {tmps : Array Value} {assign body : Code} {w : World} {R : Ending → World → Prop} (h : RoundIn Fence.wide m P l f tmps assign body w R) : RoundIn Fence.wide m' P l f tmps assign body w R :=
  ⟨h.1, fun c cs _ => h.2 c cs (room_wide _)⟩
theorem callsIn_any {m m' : Nat} {f : FuncId} {args : Array Value} {w : World} {R : Ending → World → Prop} (h : CallsIn Fence.wide m P f args w R) : CallsIn Fence.wide m' P f args w R := callsIn_wide.2 (callsIn_wide.1 h)
theorem wpIn_rangeA {α : Type} {m : Nat} {g : Operand} {ps : Array Tmp} {assign body : Code} {Q : Exit → Act → World → Prop} {a : Act} {w : World} {gf : Nat} {lb : Array Value}
    (hg : a.eval g = .func (.func gf) #[] lb) (eg : ∀ args w, (callFunc gf args).run P w = .ok (.enter gf args) w)
    {encs : α → Array Value} {own : Nat → Prop} {T : List α} {w0 : World} (hseq : SeqA P gf lb encs own T w0) (hb0 : Below w0.heap.size w0 w) (hps : ∀ x, (encs x).size = ps.size)
    (I : List α → World → Prop) (Ix : Code → List α → World → Prop) (hI : AbidesB w.heap.size I) (hIx : ∀ c, AbidesB w.heap.size (Ix c)) (h0 : I [] w)
    (hround : ∀ (l : Nat) (pre : List α) (x : α) (W : World), w.heap.size ≤ l → l < W.heap.size → I pre W → pre ++ [x] <+: T →
      assign.wpIn (Fence.wide.inRound l) 9 P (Exit.then (fun a1 W1 => KeepsFrom w.heap.size W W1 ∧ KC own W W1 ∧ ∀ W2, W1.grownBy W2 (some l) → body.wpIn (Fence.wide.inRound l) 9 P (postA w.heap.size own I Ix (pre ++ [x]) W2) a1 W2) (fun _ _ _ => False))
        { tmps := (ps.zip (encs x)).foldl (fun t (p, v) => t.setIfInBounds p v) a.tmps, defers := [] } W)
    (hdone : ∀ (D : Nat) (W : World), w.heap.size ≤ D → I T W → W.heap[D]? = some (.deferred (some [])) → Q .normal { a with defers := { target := .collected D, args := #[] } :: a.defers } W)
    (hstop : ∀ (D : Nat) (c : Code) (pre : List α) (W : World), w.heap.size ≤ D → pre <+: T → Ix c pre W → W.heap[D]? = some (.deferred (some [])) → c.wpIn Fence.wide m P Q { a with defers := { target := .collected D, args := #[] } :: a.defers } W) :
    (Code.rangeFunc g ps assign body).wpIn Fence.wide m P Q a w := by
  refine wpIn_rangeFunc fun fn hfn => ?_
  obtain ⟨D, hD⟩ : ∃ D, D = w.heap.size := ⟨_, rfl⟩
  obtain ⟨rec, hrec⟩ : ∃ rec : LoopState → Option Code → Loop, rec = fun st pe => { state := st, pending := pe, fn, tmps := a.tmps, params := ps, assign, body, defers := D } := ⟨_, rfl⟩
  obtain ⟨W0, hW0⟩ : ∃ W0, W0 = (w.alloc (.deferred (some []))).alloc (.loop (rec .ready none)) := ⟨_, rfl⟩
  have sz : W0.heap.size = D + 2 := by rw [hW0, hD]; simp
  have hl0 : W0.heap[D + 1]? = some (.loop (rec .ready none)) := by
    have := World.alloc_heap_new (w.alloc (.deferred (some []))) (.loop (rec .ready none))
    rwa [World.size_alloc, ← hW0, ← hD] at this
  have hd0 : W0.heap[D]? = some (.deferred (some [])) := by
    rw [hW0, hD]; exact (Below.heap_alloc _ _ _ (by simp)).trans (World.alloc_heap_new w _)
  have hB0 : Below w0.heap.size w0 W0 := by rw [hW0]; exact (hb0.alloc hb0.size _).alloc (by have := hb0.size; simp; omega) _
  have hI0 : I [] W0 := by rw [hW0]; exact hI.alloc _ (hI.alloc _ h0)
  refine ⟨D + 1, [{ target := .collected D, args := #[] }], W0, { target := .fn (.func gf) lb, args := #[.func (.yield (D + 1)) #[] #[]] }, W0, gf, #[.func (.yield (D + 1)) #[] #[]] ++ lb, W0, ?_, ?_, ?_, ?_, fun h => (by cases h), ?_⟩
  · rw [hW0, hrec, hD]; exact run_enterLoop_outer _ _ _ _ _
  · simp only [resolve, hg]; simp [go_sem]
  · intro f' _; trivial
  · simp [invoke, go_sem, eg]
  refine callsIn_any ((hseq (D + 1) (fun pre W => I pre W ∧ W.heap[D + 1]? = some (.loop (rec .ready none)) ∧ W.heap[D]? = some (.deferred (some [])))
    (fun pre W => ∃ c, Ix c pre W ∧ W.heap[D + 1]? = some (.loop (rec .done (some c))) ∧ W.heap[D]? = some (.deferred (some []))) W0 hB0 ?_ ?_ ?_ ⟨hI0, hl0, hd0⟩).mono ?_)
  · intro s X Y row hs hgr hr
    have hne : ∀ k, k < D + 2 → some k ≠ row := fun k hk e => by have := hr k e.symm; omega
    exact ⟨hI s X Y row hs.1 hgr (fun r e => by have := hr r e; omega), (hgr.block _ (Array.getElem?_eq_some_iff.1 hs.2.1).1 (hne _ (by omega))).trans hs.2.1, (hgr.block _ (Array.getElem?_eq_some_iff.1 hs.2.2).1 (hne _ (by omega))).trans hs.2.2⟩
  · intro s X Y row hs hgr hr
    have hne : ∀ k, k < D + 2 → some k ≠ row := fun k hk e => by have := hr k e.symm; omega
    obtain ⟨c, h1, h2, h3⟩ := hs
    exact ⟨c, hIx c s X Y row h1 hgr (fun r e => by have := hr r e; omega), (hgr.block _ (Array.getElem?_eq_some_iff.1 h2).1 (hne _ (by omega))).trans h2, (hgr.block _ (Array.getElem?_eq_some_iff.1 h3).1 (hne _ (by omega))).trans h3⟩
  · rintro pre x W ⟨hi, hl, hd⟩ hlen
    have hy := run_yield (P := P) (args := encs x) hl (by rw [hrec]; exact hps x)
    rw [hrec] at hy
    refine ⟨fn, _, assign, body, hy, roundIn_of_wpIn hfn (wpIn_mono (hround (D + 1) pre x W (by omega) (Array.getElem?_eq_some_iff.1 hl).1 hi hlen) ?_)⟩
    rintro e a1 W1 h1
    cases e with
    | normal =>
      obtain ⟨ko1, kc1, hbody⟩ := h1
      have hl1 := ko1.same _ _ (by omega) hl rfl
      have hd1 := ko1.same _ _ (by omega) hd rfl
      refine ⟨_, run_beginRound hl1 (by rw [hrec]), ?_⟩
      obtain ⟨W2, hW2⟩ : ∃ W2, W2 = W1.putObj (D + 1) (.loop { rec .ready none with state := .busy }) := ⟨_, rfl⟩
      have hl2 : W2.heap[D + 1]? = some (.loop { rec .ready none with state := .busy }) := by rw [hW2]; exact World.putObj_heap_same (Array.getElem?_eq_some_iff.1 hl1).1
      have hd2 : W2.heap[D]? = some (.deferred (some [])) := by rw [hW2]; exact (World.putObj_heap_other (by omega)).trans hd1
      have kc2 : KC own W W2 := by rw [hW2]; exact kc1.trans (KC.put _ hl1 rfl)
      have kf2 : KeepsFrom W0.heap.size W W2 := ⟨kc2.1, fun k o hk ho hc => by rw [hW2, World.putObj_heap_other (by omega)]; exact ko1.same k o (by omega) ho hc⟩
      have kf3 : ∀ W3 o', KeepsFrom w.heap.size W2 W3 → KeepsFrom W0.heap.size W (W3.putObj (D + 1) o') := fun W3 o' h => ⟨Nat.le_trans kf2.size (Nat.le_trans h.size (grownBy_putObj' W3 (D + 1) o').size), fun k o hk ho hc => by rw [World.putObj_heap_other (by omega)]; exact h.same k o (by omega) (kf2.same k o hk ho hc) hc⟩
      refine wpIn_mono (by rw [← hW2]; exact hbody W2 (by rw [hW2]; exact grownBy_putObj' _ _ _)) ?_
      rintro e3 a3 W3 hp
      cases e3 with
      | normal =>
        obtain ⟨ko3, kc3, hi3⟩ := hp
        have hl3 := ko3.same _ _ (by omega) hl2 rfl
        have hr := run_endRound (P := P) none hl3
        refine ⟨_, _, hr, .inl ⟨rfl, ⟨hI.putObj _ hi3 (by omega), ?_, ?_⟩, (kc2.trans kc3).trans (KC.put _ hl3 rfl), kf3 W3 _ ko3⟩⟩
        · rw [World.putObj_heap_same (Array.getElem?_eq_some_iff.1 hl3).1, hrec]; rfl
        · exact (World.putObj_heap_other (by omega)).trans (ko3.same _ _ (by omega) hd2 rfl)
      | ret =>
        obtain ⟨ko3, hi3⟩ := hp
        have hl3 := ko3.same _ _ (by omega) hl2 rfl
        refine ⟨_, _, run_endRound (P := P) (some .ret) hl3, .inr ⟨rfl, ⟨.ret, (hIx _).putObj _ hi3 (by omega), ?_, ?_⟩, kf3 W3 _ ko3⟩⟩
        · rw [World.putObj_heap_same (Array.getElem?_eq_some_iff.1 hl3).1, hrec]; rfl
        · exact (World.putObj_heap_other (by omega)).trans (ko3.same _ _ (by omega) hd2 rfl)
      | exit id =>
        obtain ⟨ko3, hi3⟩ := hp
        have hl3 := ko3.same _ _ (by omega) hl2 rfl
        refine ⟨_, _, run_endRound (P := P) (some (.exit id)) hl3, .inr ⟨rfl, ⟨.exit id, (hIx _).putObj _ hi3 (by omega), ?_, ?_⟩, kf3 W3 _ ko3⟩⟩
        · rw [World.putObj_heap_same (Array.getElem?_eq_some_iff.1 hl3).1, hrec]; rfl
        · exact (World.putObj_heap_other (by omega)).trans (ko3.same _ _ (by omega) hd2 rfl)
      | goto t => exact hp.elim
      | panic ch => exact hp.elim
      | outgrown => exact hp.elim
    | ret => exact h1.elim
    | exit id => exact h1.elim
    | goto t => exact h1.elim
    | panic ch => exact h1.elim
    | outgrown => exact h1.elim
  · rintro e W2 ⟨⟨v, rfl⟩, (⟨hi, hl, hd⟩ | ⟨pre, hSp, c, hi, hl, hd⟩)⟩
    · have hr : (Instr.endLoop (D + 1)).run P W2 = .ok none (W2.putObj (D + 1) (.loop { rec .ready none with state := .exhausted })) := by have := run_endLoop (P := P) hl (by rw [hrec]; simp); rw [hrec] at this ⊢; exact this
      exact ⟨none, _, hr, hdone D _ (by omega) (hI.putObj _ hi (by omega)) ((World.putObj_heap_other (by omega)).trans hd)⟩
    · have hr : (Instr.endLoop (D + 1)).run P W2 = .ok (some c) (W2.putObj (D + 1) (.loop { rec .done (some c) with state := .exhausted })) := by have := run_endLoop (P := P) hl (by rw [hrec]; simp); rw [hrec] at this ⊢; exact this
      exact ⟨some c, _, hr, hstop D c pre _ (by omega) hSp ((hIx c).putObj _ hi (by omega)) ((World.putObj_heap_other (by omega)).trans hd)⟩
theorem wpListIn_load_mid {F : Fence} {n : Nat} {ops : Array Oper} {rest : List Oper} {op : Oper} {a : Act} {w : World} {Q : Exit → Act → World → Prop} (hgd : Region.wanted op (yielded ops a.tmps) = true) (ty : TypeId) (x : Operand) (ho : op.op = .load ty x)
    (b o : Nat) (hx : a.eval x = .pointer (some ⟨b, o, none⟩)) (cs : List Value) (d : TypeDesc) (hc : w.rangeAt b o cs)
    (hu : P.underlying ty = some d) (hd : d.isRow = true) (hi : (P.info? ty).map (·.size) = some cs.length)
    (h : wpListIn F n P ops Q rest (a.put op.dst (.agg cs.toArray)) w) : wpListIn F n P ops Q (op :: rest) a w := by
  unfold wpListIn
  rw [if_pos hgd]
  have hK : ∀ a w, wpListIn F n P ops Q rest a w → wpListIn F n P ops Q rest a w := fun _ _ h => h
  unfold Oper.wpIn
  refine ⟨by simp [Oper.about, ho], ?_⟩
  rw [Oper.semAt_plain F _ _ (by rw [ho]; intro c hc'; cases hc')]
  unfold execOp
  simp only [ho, hx, Instr.loadAt, Instr.sureAddr, Sem.run_bind, Sem.run_pure, Result.andThen_ok, run_loadVar_mid w b o ty cs d hc hu hd hi]
  exact hK _ _ h
theorem wpListIn_store_mid {F : Fence} {n : Nat} {ops : Array Oper} {rest : List Oper} {op : Oper} {a : Act} {w : World} {Q : Exit → Act → World → Prop} (hgd : op.guard = none) (ty : TypeId) (x y : Operand) (ho : op.op = .store ty x y)
    (b o : Nat) (cells : Array Value) (hx : a.eval x = .pointer (some ⟨b, o, none⟩)) (hy : a.eval y = .agg cells)
    (ht : w.there b o cells.size) (hi : (P.info? ty).map (·.size) = some cells.size) (h1 : cells.all (·.oneCell') = true)
    (h : wpListIn F n P ops Q rest (a.put op.dst undef) (w.setCells b o cells.toList)) : wpListIn F n P ops Q (op :: rest) a w := by
  refine wpListIn_plain hgd fun K hK => ?_
  unfold Oper.wpIn
  refine ⟨by simp [Oper.about, ho], ?_⟩
  rw [Oper.semAt_plain F _ _ (by rw [ho]; intro c hc'; cases hc')]
  unfold execOp
  simp only [ho, hx, hy, Instr.storeAt, Instr.sureAddr, Sem.run_bind, Sem.run_pure, Result.andThen_ok, run_storeVar_mid w b o ty cells ht hi h1]
  exact hK _ _ h
theorem stepIn_load_mid {F : Fence} {n : Nat} {ops : Array Oper} {op : Oper} {a : Act} {w : World} {K : Act → World → Prop} {Q : Exit → Act → World → Prop} {E : Prop} (hgd : Region.wanted op (yielded ops a.tmps) = true) (ty : TypeId) (x : Operand) (ho : op.op = .load ty x)
    (b o : Nat) (hx : a.eval x = .pointer (some ⟨b, o, none⟩)) (cs : List Value) (d : TypeDesc) (hc : w.rangeAt b o cs)
    (hu : P.underlying ty = some d) (hd : d.isRow = true) (hi : (P.info? ty).map (·.size) = some cs.length)
    (h : K (a.put op.dst (.agg cs.toArray)) w) : if Region.wanted op (yielded ops a.tmps) = true then Oper.wpIn F n P op a w K Q else E := by
  rw [if_pos hgd]
  unfold Oper.wpIn
  refine ⟨by simp [Oper.about, ho], ?_⟩
  rw [Oper.semAt_plain F _ _ (by rw [ho]; intro c hc'; cases hc')]
  unfold execOp
  simp only [ho, hx, Instr.loadAt, Instr.sureAddr, Sem.run_bind, Sem.run_pure, Result.andThen_ok, run_loadVar_mid w b o ty cs d hc hu hd hi]
  exact h
theorem stepIn_store_mid {F : Fence} {n : Nat} {ops : Array Oper} {op : Oper} {a : Act} {w : World} {K : Act → World → Prop} {Q : Exit → Act → World → Prop} {E : Prop} (hgd : Region.wanted op (yielded ops a.tmps) = true) (ty : TypeId) (x y : Operand) (ho : op.op = .store ty x y)
    (b o : Nat) (cells : Array Value) (hx : a.eval x = .pointer (some ⟨b, o, none⟩)) (hy : a.eval y = .agg cells)
    (ht : w.there b o cells.size) (hi : (P.info? ty).map (·.size) = some cells.size) (h1 : cells.all (·.oneCell') = true)
    (h : K (a.put op.dst undef) (w.setCells b o cells.toList)) : if Region.wanted op (yielded ops a.tmps) = true then Oper.wpIn F n P op a w K Q else E := by
  rw [if_pos hgd]
  unfold Oper.wpIn
  refine ⟨by simp [Oper.about, ho], ?_⟩
  rw [Oper.semAt_plain F _ _ (by rw [ho]; intro c hc'; cases hc')]
  unfold execOp
  simp only [ho, hx, hy, Instr.storeAt, Instr.sureAddr, Sem.run_bind, Sem.run_pure, Result.andThen_ok, run_storeVar_mid w b o ty cells ht hi h1]
  exact h
end Go.Proofs.YtpcbpikhiooafaaGreatDoor
/- The iterator over all whole slots of a content. Condition: its bytes lie in memory as said. -/
namespace Go.Proofs.YtpcbpikhiooafaaGreatDoor
open Go.RowKit Go.Shelf
attribute [local go_sem] Oper.semAt_some
/-- A content: n bytes, of which the j-th is D j. -/
structure Cont (W : World) (p : Option Addr) (n c : Nat) (D : Nat → Nat) : Prop where
  le : n ≤ c
  cm : c ≤ 1099511627776
  lt : ∀ j, D j < 256
  at_ : 0 < n → ∃ g o, p = some ⟨g, o, none⟩ ∧ ∀ j, j < n → W.cell? ⟨g, o + j, none⟩ = some (.int .u8 (D j : Nat))
theorem cell_cells {W : World} {a : Addr} {v : Value} (h : W.cell? a = some v) : ∃ o, W.heap[a.block]? = some o ∧ o.isCells = true := by
  unfold World.cell? at h
  split at h
  · rename_i e; exact ⟨_, e, rfl⟩
  · exact absurd h (by simp)
theorem KC.cell {own : Nat → Prop} {W W' : World} (h : KC own W W') {a : Addr} {v : Value} (hc : W.cell? a = some v) (hn : ¬ own a.block) : W'.cell? a = some v := by
  obtain ⟨o, ho, hi⟩ := cell_cells hc
  rw [World.cell?_of_block (w := W) (a := a) ((h.2 _ o ho hi hn).trans ho.symm)]; exact hc
/-- What the iterator reads. -/
structure AllAt (W : World) (Bn : Nat) (p : Option Addr) (n c : Nat) (D : Nat → Nat) : Prop where
  bn : W.cell? ⟨Bn, 0, none⟩ = some (.slice p n c)
  ct : Cont W p n c D
theorem Cont.keep {own : Nat → Prop} {W W' : World} {p : Option Addr} {n c : Nat} {D : Nat → Nat} (h : Cont W p n c D) (k : KC own W W') (hg : ∀ g, p.map (·.block) = some g → ¬ own g) : Cont W' p n c D :=
  ⟨h.le, h.cm, h.lt, fun h0 => by
    obtain ⟨g, o, e, hc⟩ := h.at_ h0
    exact ⟨g, o, e, fun j hj => k.cell (hc j hj) (hg g (by rw [e]; rfl))⟩⟩
theorem AllAt.keep {own : Nat → Prop} {W W' : World} {Bn : Nat} {p : Option Addr} {n c : Nat} {D : Nat → Nat} (h : AllAt W Bn p n c D) (k : KC own W W') (hb : ¬ own Bn) (hg : ∀ g, p.map (·.block) = some g → ¬ own g) : AllAt W' Bn p n c D :=
  ⟨k.cell h.bn hb, h.ct.keep k hg⟩
def slotV (D : Nat → Nat) (k : Nat) : List Value := (List.range 32).map fun j => .int .u8 (D (k * 32 + j) : Nat)
def slotD (D : Nat → Nat) (k : Nat) : Nat → Nat := fun j => D (k * 32 + j)
theorem slotV_slot (D : Nat → Nat) (hD : ∀ j, D j < 256) (k : Nat) : Slot (slotV D k) (slotD D k) :=
  ⟨by simp [slotV], fun j hj => by simp [slotV, slotD, hj], fun j => hD _⟩
def encK (D : Nat → Nat) (k : Nat) : Array Value := #[.int .i64 k, .agg (slotV D k).toArray]
theorem count_any (p : Option Addr) (n c : Nat) (w : World) (hn : n ≤ 1099511627776) : Calls Tryz.prog 121 #[.slice p n c] w fun e w' => e = .returned (.int .i64 ((n / 32 : Nat) : Int)) ∧ w' = w := by
  go_enter Tryz.func121, Tryz.ntmps121
  go_wp2
  go_ret
  exact ⟨by simp, rfl⟩
theorem all_any (p : Option Addr) (n c : Nat) (w : World) : Calls Tryz.prog 119 #[.slice p n c] w fun e w' => e = .returned (.func (.func 138) #[] #[.pointer (some ⟨w.heap.size, 0, none⟩)]) ∧ w' = w.alloc (.cells #[.slice p n c] 181) := by
  go_enter Tryz.func119, Tryz.ntmps119
  go_wp2
  go_ret
  exact ⟨rfl, rfl⟩
theorem taken_any (p : Option Addr) (n c : Nat) (w : World) : Calls Tryz.prog 117 #[.slice p n c] w fun e w' => e = .returned (.func (.func 136) #[] #[.pointer (some ⟨w.heap.size, 0, none⟩)]) ∧ w' = w.alloc (.cells #[.slice p n c] 181) := by
  go_enter Tryz.func117, Tryz.ntmps117
  go_wp2
  go_ret
  exact ⟨rfl, rfl⟩
theorem size5 : (Tryz.prog.info? 5).map (·.size) = some 1 := by kernel_rfl
theorem undC : Tryz.prog.underlying 181 = some (.slice 5) := by kernel_rfl
theorem range_pre {a b : Nat} (h : a ≤ b) : List.range a <+: List.range b := by
  rw [show b = a + (b - a) by omega, List.range_add]; exact List.prefix_append _ _
theorem splice0 (L : List Value) (h : L.length = 32) : splice zeroSl.toList 0 L = L := by
  unfold splice
  rw [List.take_zero, List.nil_append, h, List.drop_eq_nil_of_le (by simp [zeroSl]), List.append_nil]
set_option maxRecDepth 100000 in
set_option maxHeartbeats 2000000 in
theorem all1 (own : Nat → Prop) (Bn : Nat) (p : Option Addr) (n c : Nat) (D : Nat → Nat) (hob : ¬ own Bn) (hog : ∀ g, p.map (·.block) = some g → ¬ own g) (w : World) (hS0 : AllAt w Bn p n c D) :
    SeqA Tryz.prog 138 #[.pointer (some ⟨Bn, 0, none⟩)] (encK D) own (List.range (n / 32)) w := fun l J Jx W hW hJ _ hY h0 => by
  have hS : AllAt W Bn p n c D := hS0.keep (own := fun _ => False) (KC.of_below hW) (fun h => h) (fun _ _ h => h)
  refine callsIn_of_wp Tryz.func138 rfl trivial ?_ rfl
  simp only [Tryz.ntmps138, List.size_toArray, List.length_cons, List.length_nil, Nat.reduceAdd, Nat.reduceSub, Array.replicate_succ, Array.replicate_zero, List.push_toArray, List.append_toArray, List.nil_append, List.cons_append]
  have hb := hS.bn
  have HS : Hid (AllAt W Bn p n c D) := hS
  have hnc := hS.ct.le
  have hcm := hS.ct.cm
  have HJ0 : Hid (J [] W) := h0
  have HY := (show Hid (∀ pre x W1, J pre W1 → pre ++ [x] <+: List.range (n / 32) → YieldAt Fence.wide 9 Tryz.prog l (encK D x) W1 fun e W' => (e = .returned (.bool true) ∧ J (pre ++ [x]) W' ∧ KC own W1 W' ∧ KeepsFrom W.heap.size W1 W') ∨ (e = .returned (.bool false) ∧ Jx (pre ++ [x]) W' ∧ KeepsFrom W.heap.size W1 W')) from hY)
  have HAb := (show Hid (AbidesB W.heap.size J) from hJ)
  have hz := zvSl
  clear hS h0 hY hJ hS0 hW
  gi_wp2_with (refine ⟨trivial, ?_⟩; gi_at_call 121; refine (callsIn_wide.2 (count_any p n c _ (by omega))).mono ?_; rintro e w1 ⟨rfl, hw1⟩; rw [hw1]; clear hw1 w1)
  gi_loopw [7] (fun x wx => ∃ k : Nat, k ≤ n / 32 ∧ x = .int .i64 k ∧ Hid (AllAt wx Bn p n c D) ∧ Hid (J (List.range k) wx)) (fun x _ => n / 32 - (intOf x).toNat)
  case atStart => exact ⟨0, Nat.zero_le _, rfl, HS, HJ0⟩
  case round =>
    obtain ⟨k, hk, rfl, HSr, HJr⟩ := hrel
    by_cases hlt : k < n / 32
    · obtain ⟨g, o, rfl, hc⟩ := HSr.out.ct.at_ (by omega)
      have hb' := HSr.out.bn
      have hbl := block_lt_of_cell hb'
      have HG : Hid ((wr.alloc (.cells zeroSl 97)).drew.heap[wr.heap.size]? = some (.cells zeroSl.toList.toArray 97 (0, 0))) := heap_alloc_new wr _
      have HL : Hid ((slotV D k).length = Nat.min (n - k * 32) 32) := by show _ = _; rw [(slotV_slot D HSr.out.ct.lt k).len]; exact (Nat.min_eq_right (by omega)).symm
      have HSl : Hid (Slot (slotV D k) (slotD D k)) := slotV_slot D HSr.out.ct.lt k
      have HC : Hid (∀ j v, (slotV D k)[j]? = some v → (wr.alloc (.cells zeroSl 97)).drew.cell? ((⟨g, o + k * 32, none⟩ : Addr).add j) = some v) := fun j v hv => by
        have hj : j < 32 := by have := (List.getElem?_eq_some_iff.1 hv).1; rw [HSl.out.len] at this; exact this
        have h1 := hc (k * 32 + j) (by omega)
        rw [HSl.out.at_ j hj] at hv
        rw [Addr.add_mid, show o + k * 32 + j = o + (k * 32 + j) by omega, ← hv]
        refine Eq.trans ?_ h1
        exact World.cell?_alloc_past _ _ _ (block_lt_of_cell h1)
      have HF : Hid (0 + (slotV D k).length ≤ zeroSl.toList.length) := by show _ ≤ _; rw [HSl.out.len]; simp [zeroSl]
      have HBl : Hid (Below wr.heap.size wr (wr.alloc (.cells zeroSl 97)).drew) := below_drewN0 ((Below.refl _ wr).alloc (Nat.le_refl _) _) 1
      obtain ⟨m, hm⟩ : ∃ m, m = k * 32 := ⟨_, rfl⟩
      have hwr : IntKind.i64.wrap ((k : Int) * 32) = (m : Int) := by rw [IntKind.wrap_i64, hm]; omega
      have hm1 : m ≤ n := by omega
      have hkn : ¬ c = m := by omega
      rw [← hm] at HL HC
      clear hc hm
      gi_wp2
      refine (wpIn_wide).2 ?_
      go_region_law (refine step_copy_splice rfl (.tmp 10) (.tmp 14) 22 181 rfl 5 undB size5 (some ⟨wr.heap.size, 0, none⟩) (some ⟨g, o + m, none⟩) 32 32 (n - m) (c - m) (by simp [Act.eval, Act.put]) (by simp [Act.eval, Act.put]) wr.heap.size 0 zeroSl.toList 97 HG.out (slotV D k) HL.out (fun _ => ⟨rfl, _, rfl, HC.out⟩) HF.out HSl.out.one wr.heap.size wr HBl.out (Nat.le_refl _) ?_; intro w4 HG4 hB4)
      have HR4 : w4.rangeAt wr.heap.size 0 (slotV D k) := fun j v hv => by
        rw [Nat.zero_add, cell_of_row _ _ j _ _ _ HG4.out, splice0 _ HSl.out.len]; simpa using hv
      have HR4' : Hid (w4.rangeAt wr.heap.size 0 (slotV D k)) := HR4
      have HS4 : Hid (AllAt w4 Bn (some ⟨g, o, none⟩) n c D) := HSr.out.keep (own := fun _ => False) (KC.of_below hB4) (fun h => h) (fun _ _ h => h)
      have hJ4 : J (List.range k) w4 := HAb.out _ _ _ none HJr.out ⟨hB4.os, hB4.tape, hB4.output, hB4.size, fun k hk _ => hB4.block k hk⟩ (fun _ e => by cases e)
      obtain ⟨fn, tmps, assign, body, hy, hR⟩ := HY.out (List.range k) k w4 hJ4 (by rw [← List.range_succ]; exact range_pre (by omega))
      unfold encK at hy
      clear hJ4 HR4 HG4 hB4
      gi_wp2_with (refine wpListIn_load_mid rfl 97 _ rfl wr.heap.size 0 rfl (slotV D k) _ HR4'.out undS rfl HSl.out.inf ?_)
      refine (roundIn_wide hR).mono ?_
      rintro e W3 (⟨rfl, hJ3, hk3, -⟩ | ⟨rfl, hJx3, -⟩)
      · have HS3 : Hid (AllAt W3 Bn (some ⟨g, o, none⟩) n c D) := HS4.out.keep hk3 hob hog
        have HJ3 : Hid (J (List.range (k + 1)) W3) := by show J _ _; rw [List.range_succ]; exact hJ3
        clear hJ3 hk3
        gi_wp2
        exact ⟨⟨k + 1, by omega, by go_num, HS3, HJ3⟩, by simp [intOf]; omega⟩
      · gi_wp2
        refine bodyPost_ret (results_none rfl _ _ _) rfl ?_
        refine ⟨⟨_, rfl⟩, .inr ⟨List.range k ++ [k], ?_, hJx3⟩⟩
        rw [← List.range_succ]
        exact range_pre (by omega)
    · obtain rfl : k = n / 32 := by omega
      gi_wp2
      go_end0
      exact ⟨⟨_, rfl⟩, .inl HJr.out⟩
end Go.Proofs.YtpcbpikhiooafaaGreatDoor
/- The iterator over the slots that are not free. Condition: the bytes lie in memory as said. -/
namespace Go.Proofs.YtpcbpikhiooafaaGreatDoor
open Go.RowKit Go.Shelf
attribute [local go_sem] Oper.semAt_some
def tkn (D : Nat → Nat) (k : Nat) : Bool := !decide (le4 (slotD D k) 0 = 0)
theorem set_slot (w : World) (L : List Value) {s : Nat → Nat} (h : Slot L s) : (w.alloc (.cells zeroSl 97)).setCells w.heap.size 0 L = w.alloc (.cells L.toArray 97) :=
  setCells_new w 97 zeroSl L (by rw [sizeSl, h.len]) (all_oneCell_toArray h.one) h.inf
theorem there_slot (w : World) (L : List Value) {s : Nat → Nat} (h : Slot L s) : (w.alloc (.cells zeroSl 97)).there w.heap.size 0 L.toArray.size := by
  rw [show L.toArray.size = 32 by simpa using h.len]; exact there_new w 97 zeroSl sizeSl
theorem Slot.infA {L : List Value} {s : Nat → Nat} (h : Slot L s) : (Tryz.prog.info? 97).map (·.size) = some L.toArray.size := by rw [show L.toArray.size = L.length by simp]; exact h.inf
theorem filter_pre {α : Type} {p : α → Bool} {a b : List α} (h : a <+: b) : a.filter p <+: b.filter p := by
  obtain ⟨c, rfl⟩ := h
  rw [List.filter_append]; exact List.prefix_append _ _
set_option maxRecDepth 100000 in
set_option maxHeartbeats 2000000 in
theorem taken1 (own : Nat → Prop) (Bn : Nat) (p : Option Addr) (n c : Nat) (D : Nat → Nat) (hog : ∀ g, p.map (·.block) = some g → ¬ own g) (w : World) (hS0 : AllAt w Bn p n c D) (hlt : ∀ k, own k → k < w.heap.size) :
    SeqA Tryz.prog 136 #[.pointer (some ⟨Bn, 0, none⟩)] (encK D) own ((List.range (n / 32)).filter (tkn D)) w := fun l J Jx W hW hJ hJx hY h0 => by
  have hS : AllAt W Bn p n c D := hS0.keep (own := fun _ => False) (KC.of_below hW) (fun h => h) (fun _ _ h => h)
  refine callsIn_of_wp_marks Tryz.func136 rfl trivial ?_ rfl
  simp only [Tryz.ntmps136, List.size_toArray, List.length_cons, List.length_nil, Nat.reduceAdd, Nat.reduceSub, Array.replicate_succ, Array.replicate_zero, List.push_toArray, List.append_toArray, List.nil_append, List.cons_append]
  have hb := hS.bn
  have hbl := block_lt_of_cell hb
  have HS : Hid (AllAt W Bn p n c D) := hS
  have HJ0 : Hid (J [] W) := h0
  have HY := (show Hid (∀ pre x W1, J pre W1 → pre ++ [x] <+: (List.range (n / 32)).filter (tkn D) → YieldAt Fence.wide 9 Tryz.prog l (encK D x) W1 fun e W' => (e = .returned (.bool true) ∧ J (pre ++ [x]) W' ∧ KC own W1 W' ∧ KeepsFrom W.heap.size W1 W') ∨ (e = .returned (.bool false) ∧ Jx (pre ++ [x]) W' ∧ KeepsFrom W.heap.size W1 W')) from hY)
  have HAb := (show Hid (AbidesB W.heap.size J ∧ AbidesB W.heap.size Jx) from ⟨hJ, hJx⟩)
  have HO : Hid (∀ k, W.heap.size ≤ k → ¬ own k) := fun k hk ho => by have := hlt k ho; have := hW.size; omega
  have hz := zvSl
  clear hS h0 hY hJ hJx hS0 hlt hW
  refine wpIn_wide.2 ?_
  go_wp2_with (go_at_call 119; refine (all_any p n c _).mono ?_; rintro e w1 ⟨rfl, rfl⟩)
  obtain ⟨V0, hV0⟩ : ∃ V0, V0 = (W.alloc (.cells #[.func (.yield l) #[] #[]] 218)).alloc (.cells #[.slice p n c] 181) := ⟨_, rfl⟩
  have hsz : V0.heap.size = W.heap.size + 2 := by rw [hV0]; simp
  have hBV : Below W.heap.size W V0 := by rw [hV0]; exact ((Below.refl W.heap.size W).alloc (Nat.le_refl _) _).alloc (by simp) _
  have hYb : V0.heap[W.heap.size]? = some (.cells #[.func (.yield l) #[] #[]] 218 (0, 0)) := by
    rw [hV0]; exact (Below.heap_alloc _ _ _ (by simp)).trans (World.alloc_heap_new W _)
  have hA : AllAt V0 (W.heap.size + 1) p n c D := ⟨by rw [hV0, World.cell?_alloc_at _ _ _ _ (by simp)]; rfl, HS.out.ct.keep (own := fun _ => False) (KC.of_below hBV) (fun _ _ h => h)⟩
  have hD := HS.out.ct.lt
  rw [← hV0]
  clear hV0
  refine (wpIn_wide (n := 9)).1 ?_
  refine wpIn_rangeA rfl (enters_of Tryz.func138 (by kernel_rfl) rfl) (all1 own (W.heap.size + 1) p n c D (HO.out _ (by omega)) hog V0 hA) (Below.refl _ _) (fun _ => rfl)
    (fun pre V => J (pre.filter (tkn D)) V ∧ V.heap[W.heap.size]? = some (.cells #[.func (.yield l) #[] #[]] 218 (0, 0)))
    (fun c pre V => c = .ret ∧ Jx (pre.filter (tkn D)) V)
    (AbidesB.and (fun s X Y row hs hg hr => HAb.out.1 _ X Y row hs hg (fun r e => by have := hr r e; omega)) (abidesB_block (by omega)))
    (fun c => AbidesB.and (abidesB_pure _ _) (fun s X Y row hs hg hr => HAb.out.2 _ X Y row hs hg (fun r e => by have := hr r e; omega)))
    ⟨HAb.out.1 [] W V0 none HJ0.out ⟨hBV.os, hBV.tape, hBV.output, hBV.size, fun k hk _ => hBV.block k hk⟩ (fun r e => by cases e), hYb⟩ ?round ?done ?stop
  case round =>
    rintro l' pre x V hl' hl2 ⟨hJp, hYV⟩ hpre
    have HSl : Hid (Slot (slotV D x) (slotD D x)) := slotV_slot D hD x
    have HP := (show Hid (J (pre.filter (tkn D)) V ∧ V.heap[W.heap.size]? = some (.cells #[.func (.yield l) #[] #[]] 218 (0, 0)) ∧ pre ++ [x] <+: List.range (n / 32)) from ⟨hJp, hYV, hpre⟩)
    have HTh := (show Hid _ from there_slot V (slotV D x) HSl.out)
    unfold encK
    clear hJp hYV hpre
    gi_wp2_with (refine wpListIn_store_mid rfl 97 _ _ rfl V.heap.size 0 (slotV D x).toArray rfl rfl HTh.out HSl.out.infA (all_oneCell_toArray HSl.out.one) ?_)
    rw [set_slot V _ HSl.out]
    have hBA : Below V.heap.size V (V.alloc (.cells (slotV D x).toArray 97)) := (Below.refl _ V).alloc (Nat.le_refl _) _
    refine ⟨(KO.of_below hBA).from _, KC.of_below hBA, fun W2 hg2 => ?_⟩
    have hVs := (Array.getElem?_eq_some_iff.1 HP.out.2.1).1
    have HR2 : Hid (W2.rangeAt V.heap.size 0 (slotV D x)) := fun j v hv => hg2.cell (range_new V (slotV D x) 97 j v hv) (fun e => by have h1 : V.heap.size = l' := Option.some.inj e; omega)
    have hY1 : (V.alloc (.cells (slotV D x).toArray 97)).heap[W.heap.size]? = some (.cells #[.func (.yield l) #[] #[]] 218 (0, 0)) := (hBA.block _ hVs).trans HP.out.2.1
    have hY2 : W2.heap[W.heap.size]? = some (.cells #[.func (.yield l) #[] #[]] 218 (0, 0)) := (hg2.block _ (Array.getElem?_eq_some_iff.1 hY1).1 (fun e => by cases e; omega)).trans hY1
    have hJ2 : J (pre.filter (tkn D)) W2 := HAb.out.1 _ _ _ (some l') (HAb.out.1 _ _ _ none HP.out.1 ⟨hBA.os, hBA.tape, hBA.output, hBA.size, fun k hk _ => hBA.block k hk⟩ (fun r e => by cases e)) hg2 (fun r e => by cases e; omega)
    have HW2 := (show Hid (J (pre.filter (tkn D)) W2 ∧ W2.heap[W.heap.size]? = some (.cells #[.func (.yield l) #[] #[]] 218 (0, 0))) from ⟨hJ2, hY2⟩)
    have hVW : V.heap.size < W2.heap.size := by have := hg2.size; simp at this; omega
    clear hY1 hY2 hJ2 hBA hg2
    by_cases ht : tkn D x = true
    · have HT : Hid (tkn D x = true) := ht
      have hfr : decide (le4 (slotD D x) 0 = 0) = false := by simpa [tkn] using ht
      clear ht
      have HF := (show Hid (∀ w3, Below W2.heap.size W2 w3 → ∃ fn tmps assign body, (Instr.yield l #[.int .i64 x, .agg (slotV D x).toArray]).run Tryz.prog w3 = .ok (.round l fn tmps assign body) w3 ∧ RoundIn Fence.wide 9 Tryz.prog l fn tmps assign body w3 fun e W' => (e = .returned (.bool true) ∧ J (pre.filter (tkn D) ++ [x]) W' ∧ KC own w3 W' ∧ KeepsFrom W.heap.size w3 W') ∨ (e = .returned (.bool false) ∧ Jx (pre.filter (tkn D) ++ [x]) W' ∧ KeepsFrom W.heap.size w3 W')) from fun w3 hB3 =>
        HY.out (pre.filter (tkn D)) x w3 (HAb.out.1 _ _ _ none HW2.out.1 ⟨hB3.os, hB3.tape, hB3.output, hB3.size, fun k hk _ => hB3.block k hk⟩ (fun r e => by cases e)) (by have := filter_pre (p := tkn D) HP.out.2.2; rwa [List.filter_append, show [x].filter (tkn D) = [x] by simp [HT.out]] at this))
      gi_wp2_with (first | (refine wpListIn_load_mid rfl 97 _ rfl V.heap.size 0 rfl (slotV D x) _ (by first | exact HR3.out | exact HR2.out) undS rfl HSl.out.inf ?_) | (refine ⟨trivial, ?_⟩; gi_at_call 120; refine (CallsIn.inRound l' (callsIn_wide.2 (sFree _ _ _ HSl.out))).mono ?_; rw [hfr]; rintro e w3 ⟨rfl, HB3⟩; have HR3 : Hid (w3.rangeAt V.heap.size 0 (slotV D x)) := (fun j v hv => (HB3.cell (p := ⟨V.heap.size, 0 + j, none⟩) hVW).trans (HR2.out j v hv)); have hyc : w3.cell? ⟨W.heap.size, 0, none⟩ = some (.func (.yield l) #[] #[]) := (by rw [HB3.cell (p := ⟨W.heap.size, 0, none⟩) (Array.getElem?_eq_some_iff.1 HW2.out.2).1, cell_of_row _ _ 0 _ _ _ HW2.out.2]; rfl); obtain ⟨fn, tmps, assign, body, hy, hR⟩ := HF.out w3 HB3; have HB3' : Hid (Below W2.heap.size W2 w3) := HB3; clear HB3))
      refine (roundIn_any hR).mono ?_
      have HE : Hid ((pre ++ [x]).filter (tkn D) = pre.filter (tkn D) ++ [x]) := by show _ = _; rw [List.filter_append, show [x].filter (tkn D) = [x] by simp [HT.out]]
      have HKF : Hid (KeepsFrom V0.heap.size W2 w3) := (KO.of_below HB3'.out).from _
      have HYc : Hid (w3.heap[W.heap.size]? = some (.cells #[.func (.yield l) #[] #[]] 218 (0, 0))) := (HB3'.out.block _ (Array.getElem?_eq_some_iff.1 HW2.out.2).1).trans HW2.out.2
      rintro e W4 (⟨rfl, hJ4, hk4, hf4⟩ | ⟨rfl, hJ4, hf4⟩)
      · have HK : Hid (KeepsFrom V0.heap.size W2 W4 ∧ KC own W2 W4 ∧ J ((pre ++ [x]).filter (tkn D)) W4 ∧ W4.heap[W.heap.size]? = some (.cells #[.func (.yield l) #[] #[]] 218 (0, 0))) :=
          ⟨HKF.out.trans ⟨hf4.size, fun k o hk ho hc => hf4.same k o (by omega) ho hc⟩, (KC.of_below HB3'.out).trans hk4, by rw [HE.out]; exact hJ4, hk4.2 _ _ HYc.out rfl (HO.out _ (Nat.le_refl _))⟩
        clear hJ4 hk4 hf4
        gi_wp2
        exact ⟨HK.out.1, HK.out.2.1, HK.out.2.2⟩
      · have HK : Hid (KeepsFrom V0.heap.size W2 W4 ∧ Jx ((pre ++ [x]).filter (tkn D)) W4) :=
          ⟨HKF.out.trans ⟨hf4.size, fun k o hk ho hc => hf4.same k o (by omega) ho hc⟩, by rw [HE.out]; exact hJ4⟩
        clear hJ4 hf4
        gi_wp2
        exact ⟨HK.out.1, rfl, HK.out.2⟩
    · have HT : Hid (tkn D x = false) := by show _ = _; simpa using ht
      have hfr : decide (le4 (slotD D x) 0 = 0) = true := by simpa [tkn] using ht
      clear ht
      gi_wp2_with (first | (refine wpListIn_load_mid rfl 97 _ rfl V.heap.size 0 rfl (slotV D x) _ HR2.out undS rfl HSl.out.inf ?_) | (refine ⟨trivial, ?_⟩; gi_at_call 120; refine (CallsIn.inRound l' (callsIn_wide.2 (sFree _ _ _ HSl.out))).mono ?_; rw [hfr]; rintro e w3 ⟨rfl, HB3⟩))
      have HB3' : Hid (Below W2.heap.size W2 w3) := HB3
      clear HB3
      refine ⟨fun _ h => (by cases h), ?_⟩
      gi_wp2
      have HB3 := HB3'.out
      refine ⟨(KO.of_below HB3).from _, KC.of_below HB3, ?_, (HB3.block _ (Array.getElem?_eq_some_iff.1 HW2.out.2).1).trans HW2.out.2⟩
      rw [List.filter_append, show [x].filter (tkn D) = [] by simp [HT.out], List.append_nil]
      exact HAb.out.1 _ _ _ none HW2.out.1 ⟨HB3.os, HB3.tape, HB3.output, HB3.size, fun k hk _ => HB3.block k hk⟩ (fun r e => by cases e)
  case done =>
    rintro DD V hDD ⟨hJV, -⟩ hK
    go_wp2
    refine ⟨by simp, .inl ⟨_, _, rfl, run_takeDeferred hK, ?_⟩⟩
    exact ⟨_, results_none rfl _ _ _, ⟨_, rfl⟩, .inl (HAb.out.1.putObj _ hJV (by omega))⟩
  case stop =>
    rintro DD c pre V hDD hpre ⟨rfl, hJV⟩ hK
    gi_wp2
    refine ⟨by simp, .inl ⟨_, _, rfl, run_takeDeferred hK, ?_⟩⟩
    exact ⟨_, results_none rfl _ _ _, ⟨_, rfl⟩, .inr ⟨_, filter_pre hpre, HAb.out.2.putObj _ hJV (by omega)⟩⟩
end Go.Proofs.YtpcbpikhiooafaaGreatDoor
