/- The rows of the plain answer's Parse in memory, and an append as a step of a region that draws. -/
import Derived.Test.YtgbkgfmljcfhoaaGd2
import Derived.Test.YtgbkgfmljcfhoaaGs1
import Derived.Deep.RegionHeld3
namespace Go.Proofs.Ytgbkgfmljcfhoaa
open Go.RowKit
theorem step_append_at {P : Program} {ops : Array Oper} {o : Oper} {a : Act} {w : World} {K : Act → World → Prop} {Q : Exit → Act → World → Prop} {E : Prop} (hgd : o.guard = none) (s x : Operand) (t : TypeId)
    (ho : o.op = .call { callee := .builtin .append, args := #[s, x], argTypes := #[t, t] })
    (base : Nat) (e : TypeId) (i : TypeInfo) (z : Value) (size bytes : Nat) (ht : P.underlying t = some (.slice e)) (hi : P.info? e = some i) (hz : i.zero = some z)
    (hsize : i.size = size) (hby : i.bytes = bytes) (hzs : z.cells.size = size) (hsz : 0 < size)
    (v : Value) (n : Nat) (xs : List Value) (hs : a.eval s = v) (hown : w.ownsRow base e size v n xs)
    (ad : Addr) (m c : Nat) (news : List Value) (hx : a.eval x = .slice (some ad) m c) (hl : news.length = m * size) (hnews : ∀ j u, news[j]? = some u → w.cell? (ad.add j) = some u) (h1 : ∀ u ∈ news, u.oneCell' = true)
    (h63 : n + m ≤ maxLen) (hbytes : (n + m) * bytes ≤ 140737488355328) (hbase : base ≤ w.heap.size)
    (h : ∀ v' w', w'.ownsRow base e size v' (n + m) (xs ++ news) → w.grownBy w' v.ownBlock → (v'.ownBlock = v.ownBlock ∨ v'.ownBlock = some w.heap.size) → K (a.put o.dst v') w') :
    if Region.wanted o (yielded ops a.tmps) = true then Oper.wp P o a w K Q else E := by
  rw [if_pos (by simp [Region.wanted, hgd])]
  obtain ⟨v', w', hr, h2, h3, _, h5⟩ := run_append_own_at (P := P) w base t o.type e i z size bytes ht hi hz hsize hby hzs hsz v n xs hown ad m c news hl hnews h1 h63 hbytes hbase
  unfold Oper.wp execOp
  simp only [ho, resolve, invoke, builtin, Sem.run_bind, Sem.run_pure, Result.andThen_ok, List.map_toArray, List.map_cons, List.map_nil, hs, hx, hr]
  exact h v' w' h2 h3 h5
structure Rp (w2 V : World) (B : Nat) (vo vr : Value) (o : List Ga.Opt) (r : List (List UInt8)) : Prop where
  bel : Below B w2 V
  hB : B ≤ V.heap.size
  oo : V.ownsRow B 67 2 vo o.length (opCs o)
  ro : V.ownsRow B 9 1 vr r.length (r.map sv)
  orr : vo.ownBlock = none ∨ vo.ownBlock ≠ vr.ownBlock
section
variable {w2 V V' V0 w1 : World} {B : Nat} {vo vr v' : Value} {o : List Ga.Opt} {r : List (List UInt8)}
theorem Rp.grow (h : Rp w2 V B vo vr o r) (hB : Below V.heap.size V V') : Rp w2 V' B vo vr o r := by
  have h1 := hB.size
  have h2 := h.hB
  exact ⟨h.bel.trans (hB.mono h.hB), by omega, own_grow h.oo hB, own_grow h.ro hB, h.orr⟩
theorem Rp.drew (h : Rp w2 V B vo vr o r) : Rp w2 V.drew B vo vr o r := h.grow ⟨rfl, rfl, rfl, Nat.le_refl _, fun _ _ => rfl⟩
theorem Rp.sym (h : Rp w2 V B vo vr o r) : vr.ownBlock = none ∨ vr.ownBlock ≠ vo.ownBlock := by
  rcases h.orr with e | e
  · cases hv : vr.ownBlock with
    | none => exact .inl rfl
    | some k => rw [e]; exact .inr (by simp)
  · exact .inr (fun e2 => e e2.symm)
theorem Rp.putR (h : Rp w2 V B vo vr o r) (h0 : Below V.heap.size V V0) (hg : V0.grownBy w1 vr.ownBlock) (hat : v'.ownBlock = vr.ownBlock ∨ v'.ownBlock = some V0.heap.size) {r' : List (List UInt8)} (hown : w1.ownsRow B 9 1 v' r'.length (r'.map sv)) : Rp w2 w1 B vo v' o r' := by
  have hb := h.hB
  have hs0 := h0.size
  have hs1 := hg.size
  refine ⟨(h.bel.trans (h0.mono hb)).grown hg (by omega) (fun k hk => (h.ro.lt k hk).1), by omega, (own_grow h.oo h0).kept hg h.orr, hown, ?_⟩
  cases hv : vo.ownBlock with
  | none => exact .inl rfl
  | some k =>
    refine .inr (fun e => ?_)
    have hk := (h.oo.lt k hv).2
    rcases hat with h2 | h2
    · rcases h.orr with h3 | h3
      · rw [hv] at h3; cases h3
      · exact h3 (by rw [hv, e, h2])
    · rw [h2] at e; have := Option.some.inj e; omega
theorem Rp.putO (h : Rp w2 V B vo vr o r) (h0 : Below V.heap.size V V0) (hg : V0.grownBy w1 vo.ownBlock) (hat : v'.ownBlock = vo.ownBlock ∨ v'.ownBlock = some V0.heap.size) {o' : List Ga.Opt} (hown : w1.ownsRow B 67 2 v' o'.length (opCs o')) : Rp w2 w1 B v' vr o' r := by
  have hb := h.hB
  have hs0 := h0.size
  have hs1 := hg.size
  refine ⟨(h.bel.trans (h0.mono hb)).grown hg (by omega) (fun k hk => (h.oo.lt k hk).1), by omega, hown, (own_grow h.ro h0).kept hg h.sym, ?_⟩
  cases hv : v'.ownBlock with
  | none => exact .inl rfl
  | some k =>
    refine .inr (fun e => ?_)
    have hk := (h.ro.lt k e.symm).2
    rcases hat with h2 | h2
    · rcases h.sym with h3 | h3
      · rw [← e] at h3; cases h3
      · exact h3 (by rw [← e, ← hv, h2])
    · rw [h2] at hv; have := Option.some.inj hv; omega
theorem own_optsnoc {W : World} {x y : List UInt8} (h : W.ownsRow B 67 2 v' (o.length + 1) (opCs o ++ [.string ⟨x.toArray⟩, .string ⟨y.toArray⟩])) : W.ownsRow B 67 2 v' (o ++ [(x, y)]).length (opCs (o ++ [(x, y)])) := by
  rw [opCs_snoc, List.length_append]; exact h
end
theorem own_app' {W : World} {B n : Nat} {T : TypeId} {v : Value} {ws xs : List (List UInt8)} (h : W.ownsRow B T 1 v (ws.length + n) (ws.map sv ++ xs.map sv)) (hn : n = xs.length) : W.ownsRow B T 1 v (ws ++ xs).length ((ws ++ xs).map sv) := by
  subst hn; exact own_app h
theorem own_end2 {W : World} {B b0 k n : Nat} {T : TypeId} {v : Value} {xs : List Value} (h : W.ownsRow B T k v n xs) (hb : b0 < B) (x y : Value) : ((W.setCell ⟨b0, 0, none⟩ x).setCell ⟨b0, 1, none⟩ y).ownsRow b0 T k v n xs := by
  have := own_end h hb x y
  exact this
theorem Strs.drop {W : World} {bk o : Nat} {xs : List (List UInt8)} (h : Strs W (some ⟨bk, o, none⟩) xs) (k : Nat) : Strs W (some ⟨bk, o + k, none⟩) (xs.drop k) := by
  intro j x hx
  rw [List.getElem?_drop] at hx
  obtain ⟨b, o', he, hlt, hc⟩ := h (k + j) x hx
  cases he
  exact ⟨bk, o + k, rfl, hlt, by rw [Nat.add_assoc]; exact hc⟩
end Go.Proofs.Ytgbkgfmljcfhoaa
