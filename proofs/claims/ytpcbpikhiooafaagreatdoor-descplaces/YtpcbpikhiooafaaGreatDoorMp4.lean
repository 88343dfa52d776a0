/- Plain facts on a write: how a file grows, what is read behind it, and that it is whole where blocks are enough. No walk. -/
import Derived.Test.YtpcbpikhiooafaaGreatDoorM28
namespace Go.Proofs.YtpcbpikhiooafaaGreatDoor
open Go.RowKit
namespace Mp
/-- How a file may grow. -/
structure Gr (n : Nat) (u : Nat → Bool) (D R : Nat → Nat) (u' : Nat → Bool) (D' R' : Nat → Nat) : Prop where
  fi : FI u' D' R'
  new : ∀ b, OwF u' D' R' b → OwF u D R b ∨ (u b = false ∧ b < n)
  old : ∀ b, OwF u D R b → OwF u' D' R' b
  up : ∀ b, u b = true → u' b = true
  un : ∀ b, u' b = true → u b = true ∨ OwF u' D' R' b
  out : ∀ b, ¬ OwF u' D' R' b → ∀ x, x < 64 → D' (b * 64 + x) = D (b * 64 + x)
  d8 : ∀ j, D' j < 256
def Zf (n : Nat) (u : Nat → Bool) (D : Nat → Nat) : Prop := ∀ i, i < n → u i = false → ∀ x, x < 64 → D (i * 64 + x) = 0
theorem Gr.refl {n : Nat} {u : Nat → Bool} {D R : Nat → Nat} (F : FI u D R) (hD : ∀ j, D j < 256) : Gr n u D R u D R := ⟨F, fun _ h => .inl h, fun _ h => h, fun _ h => h, fun _ h => .inl h, fun _ _ _ _ => rfl, hD⟩
theorem Gr.trans {n : Nat} {u : Nat → Bool} {D R : Nat → Nat} {u1 : Nat → Bool} {D1 R1 : Nat → Nat} {u2 : Nat → Bool} {D2 R2 : Nat → Nat} (a : Gr n u D R u1 D1 R1) (b : Gr n u1 D1 R1 u2 D2 R2) : Gr n u D R u2 D2 R2 where
  fi := b.fi
  new x h := by
    rcases b.new x h with h | h
    · exact a.new x h
    · refine .inr ⟨?_, h.2⟩
      cases hu : u x with
      | false => rfl
      | true => have := a.up x hu; rw [this] at h; cases h.1
  old x h := b.old x (a.old x h)
  up x h := b.up x (a.up x h)
  un x h := by
    rcases b.un x h with h | h
    · rcases a.un x h with h | h
      · exact .inl h
      · exact .inr (b.old x h)
    · exact .inr h
  out x h y hy := (b.out x h y hy).trans (a.out x (fun h' => h (b.old x h')) y hy)
  d8 := b.d8
theorem Gr.free {n : Nat} {u : Nat → Bool} {D R : Nat → Nat} {u' : Nat → Bool} {D' R' : Nat → Nat} (T : Gr n u D R u' D' R') (hz : Zf n u D) : Zf n u' D' := fun i hi h x hx => by
  have h1 : ¬ OwF u' D' R' i := fun ho => by rw [T.fi.use ho] at h; cases h
  have h2 : u i = false := by
    cases hu : u i with
    | false => rfl
    | true => rw [T.up i hu] at h; cases h
  rw [T.out i h1 x hx]
  exact hz i hi h2 x hx
theorem TaOk.gr {n : Nat} {u : Nat → Bool} {D R : Nat → Nat} {k : Nat} {u' : Nat → Bool} {D' R' : Nat → Nat} {f : Nat} (T : TaOk n u D R k u' D' R' f) : Gr n u D R u' D' R' := ⟨T.fi, T.new, T.old, T.up, T.un, T.out, T.d8⟩
theorem over_lt {D : Nat → Nat} {o : Nat} {bs : List Nat} (hD : ∀ j, D j < 256) (hb : ∀ x ∈ bs, x < 256) (j : Nat) : over D o bs j < 256 := by
  unfold over
  split
  · rename_i h
    rw [List.getD_eq_getElem?_getD, List.getElem?_eq_getElem (by omega)]
    exact hb _ (List.getElem_mem _)
  · exact hD j
/-- Bytes are written into a leaf. -/
theorem put_ok {n : Nat} {u : Nat → Bool} {D R : Nat → Nat} {k f o : Nat} {bs : List Nat} (F : FI u D R) (hD : ∀ j, D j < 256) (hk : k < 278) (hf : lkAt u D R k = f) (f0 : f ≠ 0) (ho : o + bs.length ≤ 64) (hb : ∀ x ∈ bs, x < 256) :
    Gr n u D R u (wrt u D f o bs) R ∧ ∀ x, x < 17792 → rd u (wrt u D f o bs) R x = if x / 64 = k ∧ o ≤ x % 64 ∧ x % 64 < o + bs.length then bs.getD (x % 64 - o) 0 else rd u D R x := by
  have huf : u (f - 1) = true := by
    have := F.use ⟨_, rt_lt k, lkAt_ow hk (by rw [hf]; exact f0)⟩
    rw [hf] at this
    exact this
  have hw : wrt u D f o bs = over D ((f - 1) * 64 + o) bs := by unfold wrt; rw [if_pos ⟨f0, huf⟩]
  rw [hw]
  have hoth : ∀ b x, b ≠ f - 1 → x < 64 → over D ((f - 1) * 64 + o) bs (b * 64 + x) = D (b * 64 + x) := fun b x hb hx => over_else _ _ _ _ (by omega)
  have fr := F.frame (u' := u) (D' := over D ((f - 1) * 64 + o) bs) (fun _ _ => rfl) (fun b hb x hx => hoth b x (fun e => F.leaf hk (by rw [hf]; exact f0) (by rw [hf, ← e]; exact hb)) hx)
  refine ⟨⟨fr.1, fun b hb => .inl ((fr.2.1 b).1 hb), fun b hb => (fr.2.1 b).2 hb, fun _ h => h, fun _ h => .inl h, fun b hb x hx => hoth b x (fun e => hb ((fr.2.1 b).2 (by rw [e, ← hf]; exact ⟨_, rt_lt k, lkAt_ow hk (by rw [hf]; exact f0)⟩))) hx, over_lt hD hb⟩, fun x hx => ?_⟩
  have hx2 : x / 64 < 278 := by omega
  have hx3 : x % 64 < 64 := by omega
  unfold rd
  rw [fr.2.2 _ hx2]
  by_cases e : x / 64 = k
  · rw [e, hf, if_pos ⟨f0, huf⟩]
    by_cases hin : o ≤ x % 64 ∧ x % 64 < o + bs.length
    · rw [if_pos ⟨rfl, hin⟩]
      unfold over
      rw [if_pos (by omega), show (f - 1) * 64 + x % 64 - ((f - 1) * 64 + o) = x % 64 - o by omega]
    · rw [if_neg (fun h => hin h.2), if_pos ⟨f0, huf⟩]
      exact over_else _ _ _ _ (by omega)
  · rw [if_neg (show ¬ (x / 64 = k ∧ o ≤ x % 64 ∧ x % 64 < o + bs.length) from fun h => e h.1)]
    by_cases h0 : lkAt u D R (x / 64) = 0
    · rw [if_neg (by rw [h0]; simp), if_neg (by rw [h0]; simp)]
    · have hne : lkAt u D R (x / 64) - 1 ≠ f - 1 := fun h => F.inj hx2 hk e h0 (by rw [hf]; omega)
      by_cases hu : u (lkAt u D R (x / 64) - 1) = true
      · rw [if_pos ⟨h0, hu⟩, if_pos ⟨h0, hu⟩]
        exact hoth _ _ hne hx3
      · rw [if_neg (fun h => hu h.2), if_neg (fun h => hu h.2)]
/-- A write, as far as it comes. -/
theorem wrun_ok {n : Nat} (hn : n ≤ 4096) (off : Nat) (bs : List Nat) (hb : ∀ x ∈ bs, x < 256) (hoff : off + bs.length ≤ 17792) : ∀ (f : Nat) (s : WS), FI s.u s.D s.R → (∀ j, s.D j < 256) → Zf n s.u s.D → s.done ≤ bs.length →
    Gr n s.u s.D s.R (wrun n off bs f s).u (wrun n off bs f s).D (wrun n off bs f s).R ∧ s.done ≤ (wrun n off bs f s).done ∧ (wrun n off bs f s).done ≤ bs.length ∧
      ∀ x, x < 17792 → rd (wrun n off bs f s).u (wrun n off bs f s).D (wrun n off bs f s).R x = if off + s.done ≤ x ∧ x < off + (wrun n off bs f s).done then bs.getD (x - off) 0 else rd s.u s.D s.R x
  | 0, s, F, hD, hz, hle => ⟨Gr.refl F hD, Nat.le_refl _, hle, fun x _ => by rw [wrun, if_neg (by omega)]⟩
  | f + 1, s, F, hD, hz, hle => by
    by_cases hlt : s.done < bs.length
    · cases ht : tkAt n s.u s.D s.R ((off + s.done) / 64) with
      | none => rw [wrun_stop ht]; exact ⟨Gr.refl F hD, Nat.le_refl _, hle, fun x _ => by rw [if_neg (by omega)]⟩
      | some y =>
        obtain ⟨u', D', r', x0⟩ := y
        have hk : (off + s.done) / 64 < 278 := by omega
        have T := tkAt_ok hn F hD hz hk ht
        have hml : ((bs.drop s.done).take (min (bs.length - s.done) (64 - (off + s.done) % 64))).length = min (bs.length - s.done) (64 - (off + s.done) % 64) := by
          rw [List.length_take, List.length_drop]; omega
        have hm0 : 0 < min (bs.length - s.done) (64 - (off + s.done) % 64) := by omega
        have hm1 : min (bs.length - s.done) (64 - (off + s.done) % 64) ≤ bs.length - s.done := Nat.min_le_left _ _
        have hm2 : min (bs.length - s.done) (64 - (off + s.done) % 64) ≤ 64 - (off + s.done) % 64 := Nat.min_le_right _ _
        rw [wrun_step hlt ht]
        generalize min (bs.length - s.done) (64 - (off + s.done) % 64) = m at *
        have P := put_ok (n := n) (o := (off + s.done) % 64) (bs := (bs.drop s.done).take m) T.fi T.d8 hk T.at_ T.f0 (by rw [hml]; omega) (fun x hx => hb x (List.mem_of_mem_drop (List.mem_of_mem_take hx)))
        have G := T.gr.trans P.1
        have I := wrun_ok hn off bs hb hoff f ⟨s.done + m, u', wrt u' D' x0 ((off + s.done) % 64) ((bs.drop s.done).take m), upd s.R (rt ((off + s.done) / 64)) r'⟩ P.1.fi P.1.d8 (G.free hz) (by show s.done + m ≤ _; omega)
        generalize wrun n off bs f _ = E at *
        refine ⟨G.trans I.1, Nat.le_trans (by show s.done ≤ s.done + m; omega) I.2.1, I.2.2.1, fun x hx => ?_⟩
        have hge : s.done + m ≤ E.done := I.2.1
        rw [I.2.2.2 x hx]
        show (if off + (s.done + m) ≤ x ∧ x < off + E.done then _ else rd u' (wrt u' D' x0 ((off + s.done) % 64) ((bs.drop s.done).take m)) (upd s.R (rt ((off + s.done) / 64)) r') x) = _
        by_cases h1 : off + (s.done + m) ≤ x ∧ x < off + E.done
        · rw [if_pos h1, if_pos (by omega)]
        · rw [if_neg h1, P.2 x hx, hml]
          by_cases h2 : x / 64 = (off + s.done) / 64 ∧ (off + s.done) % 64 ≤ x % 64 ∧ x % 64 < (off + s.done) % 64 + m
          · rw [if_pos h2, if_pos (by omega)]
            have hj : x % 64 - (off + s.done) % 64 < m := by omega
            rw [List.getD_eq_getElem?_getD, List.getD_eq_getElem?_getD, List.getElem?_take_of_lt hj, List.getElem?_drop, show s.done + (x % 64 - (off + s.done) % 64) = x - off by omega]
          · rw [if_neg h2, if_neg (by omega)]
            exact T.rd x hx
    · rw [wrun_end hlt]; exact ⟨Gr.refl F hD, Nat.le_refl _, hle, fun x _ => by rw [if_neg (by omega)]⟩
/-- Blocks enough: a place is taken. -/
theorem pig : ∀ (n : Nat) (L : List Nat), (∀ i, i < n → i ∈ L) → n ≤ L.length
  | 0, _, _ => Nat.zero_le _
  | n + 1, L, h => by
    have hm := h n (Nat.lt_succ_self n)
    have := pig n (L.erase n) (fun i hi => (List.mem_erase_of_ne (by omega)).2 (h i (by omega)))
    rw [List.length_erase_of_mem hm] at this
    have := List.length_pos_of_mem hm
    omega
theorem low_yes {u : Nat → Bool} {n : Nat} {L : List Nat} (hL : ∀ b, u b = true → b ∈ L) (hl : L.length < n) : ∃ i, low u n = some i := by
  cases h : low u n with
  | some i => exact ⟨i, rfl⟩
  | none =>
    have := pig n L (fun i hi => hL i (low_none h i hi))
    omega
theorem tk_some (n : Nat) : ∀ (l : Nat) (u : Nat → Bool) (D : Nat → Nat) (r k : Nat) (L : List Nat), (∀ b, u b = true → b ∈ L) → L.length + l < n → ∃ y, tk l n u D r k = some y
  | 0, u, D, r, k, L, hL, hl => by
    unfold tk
    by_cases hr : r ≠ 0
    · rw [if_pos hr]; exact ⟨_, rfl⟩
    · obtain ⟨i, hi⟩ := low_yes (n := n) hL (by omega)
      rw [if_neg hr, hi]; exact ⟨_, rfl⟩
  | l + 1, u, D, r, k, L, hL, hl => by
    unfold tk
    by_cases hr : r ≠ 0
    · rw [if_pos hr]
      obtain ⟨y, hy⟩ := tk_some n l u D (ptr u D r (k / 16 ^ l)) (k % 16 ^ l) L hL (by omega)
      simp only [Option.bind_some, hy]
      exact ⟨_, rfl⟩
    · obtain ⟨i, hi⟩ := low_yes (n := n) hL (by omega)
      rw [if_neg hr, hi]
      obtain ⟨y, hy⟩ := tk_some n l (upd u i true) D (ptr (upd u i true) D (i + 1) (k / 16 ^ l)) (k % 16 ^ l) (i :: L) (fun b hb => by
        rcases upd_un hb with h | rfl
        · exact List.mem_cons_of_mem _ (hL b h)
        · exact List.mem_cons_self) (by simp; omega)
      simp only [Option.map_some, Option.bind_some, hy]
      exact ⟨_, rfl⟩
def owL : Nat → (Nat → Bool) → (Nat → Nat) → Nat → List Nat
  | 0, _, _, r => if r = 0 then [] else [r - 1]
  | l + 1, u, D, r => if r = 0 then [] else (r - 1) :: (List.range 16).flatMap fun j => owL l u D (ptr u D r j)
theorem owL_mem : ∀ (l : Nat) (u : Nat → Bool) (D : Nat → Nat) (r b : Nat), Ow l u D r b → b ∈ owL l u D r
  | 0, u, D, r, b, h => by unfold owL; rw [if_neg h.1, h.2]; exact List.mem_singleton.2 rfl
  | l + 1, u, D, r, b, h => by
    unfold owL
    rw [if_neg h.1]
    rcases h.2 with h | ⟨j, hj, h⟩
    · rw [h]; exact List.mem_cons_self
    · exact List.mem_cons_of_mem _ (List.mem_flatMap.2 ⟨j, List.mem_range.2 hj, owL_mem l u D _ b h⟩)
def capL : Nat → Nat
  | 0 => 1
  | l + 1 => 1 + 16 * capL l
theorem flat_len {α β : Type} (g : α → List β) (c : Nat) (h : ∀ x, (g x).length ≤ c) : ∀ L : List α, (L.flatMap g).length ≤ L.length * c
  | [] => by simp
  | x :: L => by
    have h1 := flat_len g c h L
    have h2 := h x
    rw [List.flatMap_cons, List.length_append, List.length_cons, Nat.add_mul]
    omega
theorem owL_len : ∀ (l : Nat) (u : Nat → Bool) (D : Nat → Nat) (r : Nat), (owL l u D r).length ≤ capL l
  | 0, u, D, r => by unfold owL; split <;> simp [capL]
  | l + 1, u, D, r => by
    unfold owL
    split
    · simp
    · have := flat_len (fun j => owL l u D (ptr u D r j)) (capL l) (fun j => owL_len l u D _) (List.range 16)
      rw [List.length_range] at this
      rw [List.length_cons, capL]
      omega
def owFL (u : Nat → Bool) (D R : Nat → Nat) : List Nat := [0, 1, 2, 3, 4, 5, 6, 7].flatMap fun j => owL (lwOf j) u D (R j)
theorem owFL_mem {u : Nat → Bool} {D R : Nat → Nat} {b : Nat} (h : OwF u D R b) : b ∈ owFL u D R := by
  obtain ⟨j, hj, h⟩ := h
  refine List.mem_flatMap.2 ⟨j, ?_, owL_mem _ _ _ _ _ h⟩
  match j, hj with
  | 0, _ => simp
  | 1, _ => simp
  | 2, _ => simp
  | 3, _ => simp
  | 4, _ => simp
  | 5, _ => simp
  | 6, _ => simp
  | 7, _ => simp
theorem owFL_len (u : Nat → Bool) (D R : Nat → Nat) : (owFL u D R).length ≤ 296 := by
  have a0 : (owL (lwOf 0) u D (R 0)).length ≤ 1 := owL_len 0 u D _
  have a1 : (owL (lwOf 1) u D (R 1)).length ≤ 1 := owL_len 0 u D _
  have a2 : (owL (lwOf 2) u D (R 2)).length ≤ 1 := owL_len 0 u D _
  have a3 : (owL (lwOf 3) u D (R 3)).length ≤ 1 := owL_len 0 u D _
  have a4 : (owL (lwOf 4) u D (R 4)).length ≤ 1 := owL_len 0 u D _
  have a5 : (owL (lwOf 5) u D (R 5)).length ≤ 1 := owL_len 0 u D _
  have a6 : (owL (lwOf 6) u D (R 6)).length ≤ 17 := owL_len 1 u D _
  have a7 : (owL (lwOf 7) u D (R 7)).length ≤ 273 := owL_len 2 u D _
  unfold owFL
  simp only [List.flatMap_cons, List.flatMap_nil, List.length_append, List.length_nil]
  omega
/-- Where a file owns all that is in use, and there are blocks enough, a write is whole. -/
theorem wrun_all {n : Nat} (hn : n ≤ 4096) (hn2 : 300 ≤ n) (off : Nat) (bs : List Nat) (hb : ∀ x ∈ bs, x < 256) (hoff : off + bs.length ≤ 17792) : ∀ (f : Nat) (s : WS), FI s.u s.D s.R → (∀ j, s.D j < 256) → Zf n s.u s.D → s.done ≤ bs.length → bs.length - s.done ≤ f →
    (∀ b, s.u b = true → OwF s.u s.D s.R b) → (wrun n off bs f s).done = bs.length
  | 0, s, F, hD, hz, hle, hf, ho => by rw [wrun]; omega
  | f + 1, s, F, hD, hz, hle, hf, ho => by
    by_cases hlt : s.done < bs.length
    · obtain ⟨⟨u', D', r', x0⟩, ht⟩ : ∃ y, tkAt n s.u s.D s.R ((off + s.done) / 64) = some y := by
        unfold tkAt
        refine tk_some n _ _ _ _ _ (owFL s.u s.D s.R) (fun b hb => owFL_mem (ho b hb)) ?_
        have := owFL_len s.u s.D s.R
        have : lv ((off + s.done) / 64) ≤ 2 := by unfold lv; split; omega; split <;> omega
        omega
      have hk : (off + s.done) / 64 < 278 := by omega
      have T := tkAt_ok hn F hD hz hk ht
      have hml : ((bs.drop s.done).take (min (bs.length - s.done) (64 - (off + s.done) % 64))).length = min (bs.length - s.done) (64 - (off + s.done) % 64) := by
        rw [List.length_take, List.length_drop]; omega
      have hm0 : 0 < min (bs.length - s.done) (64 - (off + s.done) % 64) := by omega
      have hm1 : min (bs.length - s.done) (64 - (off + s.done) % 64) ≤ bs.length - s.done := Nat.min_le_left _ _
      have hm2 : min (bs.length - s.done) (64 - (off + s.done) % 64) ≤ 64 - (off + s.done) % 64 := Nat.min_le_right _ _
      rw [wrun_step hlt ht]
      generalize min (bs.length - s.done) (64 - (off + s.done) % 64) = m at *
      have P := put_ok (n := n) (o := (off + s.done) % 64) (bs := (bs.drop s.done).take m) T.fi T.d8 hk T.at_ T.f0 (by rw [hml]; omega) (fun x hx => hb x (List.mem_of_mem_drop (List.mem_of_mem_take hx)))
      have G := T.gr.trans P.1
      exact wrun_all hn hn2 off bs hb hoff f ⟨s.done + m, u', wrt u' D' x0 ((off + s.done) % 64) ((bs.drop s.done).take m), upd s.R (rt ((off + s.done) / 64)) r'⟩ P.1.fi P.1.d8 (G.free hz) (by show s.done + m ≤ _; omega) (by show bs.length - (s.done + m) ≤ f; omega) (fun b hb => by
        rcases G.un b hb with h | h
        · exact G.old b (ho b h)
        · exact h)
    · rw [wrun_end hlt]; omega
end Mp
end Go.Proofs.YtpcbpikhiooafaaGreatDoor
