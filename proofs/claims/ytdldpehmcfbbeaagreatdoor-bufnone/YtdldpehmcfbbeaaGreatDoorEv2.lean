/- The evaluator's memory and the machine's: what stands for what. No condition. -/
import Derived.Test.YtdldpehmcfbbeaaGreatDoorEv1
namespace Go.Proofs.YtdldpehmcfbbeaaGreatDoor.Ev
/-! Trees -/
theorem sel_eq {α : Type} (k : Nat) (x y : α) : sel k x y = if k % 2 = 0 then x else y := by
  show Nat.rec (motive := fun _ => α) x (fun _ _ => y) (k % 2) = _
  rcases Nat.mod_two_eq_zero_or_one k with h | h <;> rw [h] <;> rfl
@[simp] theorem get_nil {α : Type} (n : Nat) : (Tr.nil : Tr α).get n = none := rfl
@[simp] theorem get_node0 {α : Type} (l r : Tr α) (v : Option α) : (Tr.node l v r).get 0 = v := rfl
theorem get_nodeS {α : Type} (l r : Tr α) (v : Option α) (k : Nat) : (Tr.node l v r).get (k + 1) = if k % 2 = 0 then l.get (k / 2) else r.get (k / 2) := by
  show sel k (l.get (k / 2)) (r.get (k / 2)) = _
  exact sel_eq _ _ _
theorem set_zero {α : Type} (t : Tr α) (n : Nat) (x : Option α) : Tr.set 0 t n x = .nil := rfl
theorem set_nil0 {α : Type} (f : Nat) (x : Option α) : Tr.set (f + 1) (.nil : Tr α) 0 x = .node .nil x .nil := rfl
theorem set_nilS {α : Type} (f k : Nat) (x : Option α) : Tr.set (f + 1) (.nil : Tr α) (k + 1) x = if k % 2 = 0 then .node (Tr.set f .nil (k / 2) x) none .nil else .node .nil none (Tr.set f .nil (k / 2) x) := sel_eq _ _ _
theorem set_node0 {α : Type} (f : Nat) (l r : Tr α) (v x : Option α) : Tr.set (f + 1) (.node l v r) 0 x = .node l x r := rfl
theorem set_nodeS {α : Type} (f k : Nat) (l r : Tr α) (v x : Option α) : Tr.set (f + 1) (.node l v r) (k + 1) x = if k % 2 = 0 then .node (Tr.set f l (k / 2) x) v r else .node l v (Tr.set f r (k / 2) x) := sel_eq _ _ _
/-- What a tree tells behind a change: what was laid, or what it told ahead of it. -/
theorem get_set {α : Type} (f : Nat) : ∀ (t : Tr α) (n m : Nat) (x : Option α) (y : α), (Tr.set f t n x).get m = some y → (m = n ∧ x = some y) ∨ (m ≠ n ∧ t.get m = some y) := by
  induction f with
  | zero => intro t n m x y h; rw [set_zero, get_nil] at h; cases h
  | succ f ih =>
    intro t n m x y h
    cases t with
    | nil =>
      cases n with
      | zero =>
        rw [set_nil0] at h
        cases m with
        | zero => exact .inl ⟨rfl, h⟩
        | succ m => rw [get_nodeS] at h; split at h <;> (rw [get_nil] at h; cases h)
      | succ n =>
        rw [set_nilS] at h
        cases m with
        | zero => split at h <;> (rw [get_node0] at h; cases h)
        | succ m =>
          split at h <;> rename_i hn <;> rw [get_nodeS] at h <;> split at h <;> rename_i hm
          · rcases ih _ _ _ _ _ h with ⟨h1, h2⟩ | ⟨h1, h2⟩
            · exact .inl ⟨by omega, h2⟩
            · rw [get_nil] at h2; cases h2
          · rw [get_nil] at h; cases h
          · rw [get_nil] at h; cases h
          · rcases ih _ _ _ _ _ h with ⟨h1, h2⟩ | ⟨h1, h2⟩
            · exact .inl ⟨by omega, h2⟩
            · rw [get_nil] at h2; cases h2
    | node l v r =>
      cases n with
      | zero =>
        rw [set_node0] at h
        cases m with
        | zero => exact .inl ⟨rfl, h⟩
        | succ m => exact .inr ⟨by omega, by rw [get_nodeS] at h ⊢; exact h⟩
      | succ n =>
        rw [set_nodeS] at h
        cases m with
        | zero => exact .inr ⟨by omega, by split at h <;> exact h⟩
        | succ m =>
          split at h <;> rename_i hn <;> rw [get_nodeS] at h <;> split at h <;> rename_i hm
          · rcases ih _ _ _ _ _ h with ⟨h1, h2⟩ | ⟨h1, h2⟩
            · exact .inl ⟨by omega, h2⟩
            · exact .inr ⟨by omega, by rw [get_nodeS, if_pos hm]; exact h2⟩
          · exact .inr ⟨by intro e; apply hm; have : m = n := by omega
                           rw [this]; exact hn, by rw [get_nodeS, if_neg hm]; exact h⟩
          · exact .inr ⟨by intro e; apply hn; have : m = n := by omega
                           rw [← this]; exact hm, by rw [get_nodeS, if_pos hm]; exact h⟩
          · rcases ih _ _ _ _ _ h with ⟨h1, h2⟩ | ⟨h1, h2⟩
            · exact .inl ⟨by omega, h2⟩
            · exact .inr ⟨by omega, by rw [get_nodeS, if_neg hm]; exact h2⟩
theorem get_put {α : Type} {t : Tr α} {n m : Nat} {x y : α} (h : (t.put n x).get m = some y) : (m = n ∧ x = y) ∨ (m ≠ n ∧ t.get m = some y) := by
  rcases get_set 40 t n m (some x) y h with ⟨h1, h2⟩ | h
  · exact .inl ⟨h1, Option.some.inj h2⟩
  · exact .inr h
theorem get_cut {α : Type} {t : Tr α} {n m : Nat} {y : α} (h : (t.cut n).get m = some y) : m ≠ n ∧ t.get m = some y := by
  rcases get_set 40 t n m none y h with ⟨_, h2⟩ | h
  · cases h2
  · exact h
/-- The whole of it, where the number is not too great. -/
theorem get_set_all {α : Type} (f : Nat) : ∀ (t : Tr α) (n m : Nat) (x : Option α), n + 1 < 2 ^ f → m ≠ n → (Tr.set f t n x).get m = t.get m := by
  induction f with
  | zero => intro t n m x hn; simp at hn
  | succ f ih =>
    intro t n m x hn hne
    rw [Nat.pow_succ] at hn
    cases t with
    | nil =>
      rw [get_nil]
      cases n with
      | zero =>
        rw [set_nil0]
        cases m with
        | zero => exact (hne rfl).elim
        | succ m => rw [get_nodeS]; split <;> rfl
      | succ n =>
        rw [set_nilS]
        cases m with
        | zero => split <;> rfl
        | succ m =>
          split <;> rename_i h1 <;> rw [get_nodeS] <;> split <;> rename_i h2
          · rw [ih _ _ _ _ (by omega) (by omega)]; rfl
          · rfl
          · rfl
          · rw [ih _ _ _ _ (by omega) (by omega)]; rfl
    | node l v r =>
      cases n with
      | zero =>
        rw [set_node0]
        cases m with
        | zero => exact (hne rfl).elim
        | succ m => rw [get_nodeS, get_nodeS]
      | succ n =>
        rw [set_nodeS]
        cases m with
        | zero => split <;> rfl
        | succ m =>
          rw [get_nodeS]
          split <;> rename_i h1 <;> rw [get_nodeS] <;> split <;> rename_i h2
          · rw [ih _ _ _ _ (by omega) (by omega)]
          · rfl
          · rfl
          · rw [ih _ _ _ _ (by omega) (by omega)]
theorem get_set_self {α : Type} (f : Nat) : ∀ (t : Tr α) (n : Nat) (x : Option α), n + 1 < 2 ^ f → (Tr.set f t n x).get n = x := by
  induction f with
  | zero => intro t n x hn; simp at hn
  | succ f ih =>
    intro t n x hn
    rw [Nat.pow_succ] at hn
    cases t with
    | nil =>
      cases n with
      | zero => rfl
      | succ n => rw [set_nilS]; split <;> rename_i h1 <;> rw [get_nodeS] <;> simp only [h1, if_true, if_false] <;> exact ih _ _ _ (by omega)
    | node l v r =>
      cases n with
      | zero => rfl
      | succ n => rw [set_nodeS]; split <;> rename_i h1 <;> rw [get_nodeS] <;> simp only [h1, if_true, if_false] <;> exact ih _ _ _ (by omega)
theorem put_self {α : Type} {t : Tr α} {n : Nat} {x : α} (hn : n ≤ 549755813887) : (t.put n x).get n = some x := get_set_self 40 t n (some x) (by omega)
theorem put_ne {α : Type} {t : Tr α} {n m : Nat} {x : α} (hn : n ≤ 549755813887) (h : m ≠ n) : (t.put n x).get m = t.get m := get_set_all 40 t n m (some x) (by omega) h
/-! What follows -/
@[simp] theorem nat_eq {α : Type} (n : Nat) (f : Nat → α) : nat n f = f n := by cases n <;> rfl
@[simp] theorem iff_eq {α : Type} (b : Bool) (x y : α) : iff b x y = if b = true then x else y := by cases b <;> rfl
theorem get_ok {α : Type} {x : Option α} {f : α → Ans} (h : get x f = .ok) : ∃ a, x = some a ∧ f a = .ok := by
  cases x with
  | none => cases h
  | some a => exact ⟨a, rfl, h⟩
theorem opt_some {α β : Type} {x : Option α} {f : α → Option β} {y : β} (h : opt x f = some y) : ∃ a, x = some a ∧ f a = some y := by
  cases x with
  | none => cases h
  | some a => exact ⟨a, rfl, h⟩
theorem iff_ok {b : Bool} {x y : Ans} (h : iff b x y = .ok) : (b = true ∧ x = .ok) ∨ (b = false ∧ y = .ok) := by cases b <;> simp_all
theorem iff_no {b : Bool} {x : Ans} (h : iff b x .no = .ok) : b = true ∧ x = .ok := by cases b <;> simp_all
@[simp] theorem firm_eq {α : Type} (v : V) (f : V → α) : v.firm f = f v := by
  unfold V.firm
  split <;> simp
  rename_i b
  cases b <;> rfl
@[simp] theorem hp_get (H : Hp) (i : Nat) : H.get i = H.tr.get i := rfl
theorem hp_put (H : Hp) (i : Nat) (o : O) : H.put i o = ⟨H.next, H.tr.put i o⟩ := rfl
theorem hp_kill (H : Hp) (i : Nat) : H.kill i = ⟨H.next, H.tr.cut i⟩ := rfl
theorem hp_new (H : Hp) (o : O) : H.new o = ⟨H.next + 1, H.tr.put H.next o⟩ := by
  cases H
  simp [Hp.new]
/-! Sets of numbers -/
def On (m x : Nat) : Prop := m.testBit x = true
theorem on_bit {i x : Nat} : On (bit i) x ↔ x = i := by
  have e : bit i = 2 ^ i := by show 1 <<< i = 2 ^ i; rw [Nat.shiftLeft_eq, Nat.one_mul]
  unfold On
  rw [e, Nat.testBit_two_pow]
  simp [eq_comm]
theorem on_lor {a b x : Nat} : On (Nat.lor a b) x ↔ On a x ∨ On b x := by
  show (a ||| b).testBit x = true ↔ _
  rw [Nat.testBit_or]
  simp [On]
theorem on_zero {x : Nat} : ¬ On 0 x := by simp [On]
theorem on_apart {a b : Nat} (h : Nat.beq (Nat.land a b) 0 = true) (x : Nat) (ha : On a x) (hb : On b x) : False := by
  have h0 : a &&& b = 0 := Nat.eq_of_beq_eq_true h
  have := Nat.testBit_and a b x
  rw [h0] at this
  simp [On] at ha hb
  rw [ha, hb] at this
  simp at this
theorem tb_eq (m i : Nat) : tb m i = m.testBit i := by
  show Nat.beq ((m >>> i) % 2) 1 = _
  rw [Nat.testBit_eq_decide_div_mod_eq, Nat.shiftRight_eq_div_pow]
  rcases Nat.mod_two_eq_zero_or_one (m / 2 ^ i) with h | h <;> rw [h] <;> rfl
/-! Values -/
/-- Where a block lies: its number, its first cell, how many elements it has room for. -/
structure Blk where
  b : Nat
  o : Nat
  K : Nat
abbrev Env := Nat → Option Blk
def Env.Le (ρ ρ' : Env) : Prop := ∀ x k, ρ x = some k → ρ' x = some k
mutual
/-- A value of the evaluator's, and the machine's. -/
def VR (ρ : Env) : V → Value → Prop
  | .bool b, r => r = .bool b
  | .int k n, r => r = .int k n
  | .str s, r => r = .string ⟨s.toArray⟩
  | .ptr i off, r => ∃ k, ρ i = some k ∧ r = .pointer (some ⟨k.b, k.o + off, none⟩)
  | .nilp, r => r = .pointer none
  | .slice i off len (.k c), r => ∃ k, ρ i = some k ∧ r = .slice (some ⟨k.b, k.o + off, none⟩) len c
  | .slice i off len (.g s), r => ∃ k, ρ i = some k ∧ s + len ≤ k.K ∧ r = .slice (some ⟨k.b, k.o + off, none⟩) len (k.K - s)
  | .nils, r => r = .slice none 0 0
  | .map i, r => ∃ k, ρ i = some k ∧ r = .map (some k.b)
  | .nilm, r => r = .map none
  | .func f a b, r => ∃ ra rb, r = .func (.func f) ra rb ∧ VRs ρ a ra.toList ∧ VRs ρ b rb.toList
  | .yield i, r => ∃ k, ρ i = some k ∧ r = .func (.yield k.b) #[] #[]
  | .nilf, r => r = .nilFunc
  | .iface t v, r => ∃ s, r = .iface t s ∧ VR ρ v s
  | .nili, r => r = .nilIface
  | .agg l, r => ∃ a, r = .agg a ∧ VRs ρ l a.toList
  | .tuple l, r => ∃ a, r = .tuple a ∧ VRs ρ l a.toList
  | .mt, r => ∃ a c, r = .slice (some a) 0 c
  | .opq x, r => r = x ∧ (∀ a, r ≠ .agg a) ∧ ∀ a, r ≠ .tuple a
  | .vs i n sl L, r => ∃ k cp off, ρ i = some k ∧ off + n ≤ k.K ∧ off + n ≤ L ∧ n ≤ cp ∧ n + sl ≤ 140737488355328 ∧ r = .slice (some ⟨k.b, k.o + off, none⟩) n cp
  | .unk, r => (∀ a, r ≠ .agg a) ∧ ∀ a, r ≠ .tuple a
def VRs (ρ : Env) : List V → List Value → Prop
  | [], rs => rs = []
  | v :: l, rs => ∃ r rs', rs = r :: rs' ∧ VR ρ v r ∧ VRs ρ l rs'
end
mutual
theorem VR.mono {ρ ρ' : Env} (h : ρ.Le ρ') : ∀ (v : V) (r : Value), VR ρ v r → VR ρ' v r
  | .bool _, _, x => x
  | .int _ _, _, x => x
  | .str _, _, x => x
  | .ptr _ _, _, ⟨k, a, b⟩ => ⟨k, h _ _ a, b⟩
  | .nilp, _, x => x
  | .slice _ _ _ (.k _), _, ⟨k, a, b⟩ => ⟨k, h _ _ a, b⟩
  | .slice _ _ _ (.g _), _, ⟨k, a, b⟩ => ⟨k, h _ _ a, b⟩
  | .nils, _, x => x
  | .map _, _, ⟨k, a, b⟩ => ⟨k, h _ _ a, b⟩
  | .nilm, _, x => x
  | .func _ a b, _, ⟨ra, rb, e, x, y⟩ => ⟨ra, rb, e, VRs.mono h a _ x, VRs.mono h b _ y⟩
  | .yield _, _, ⟨k, a, b⟩ => ⟨k, h _ _ a, b⟩
  | .nilf, _, x => x
  | .iface _ v, _, ⟨s, e, x⟩ => ⟨s, e, VR.mono h v s x⟩
  | .nili, _, x => x
  | .agg l, _, ⟨a, e, x⟩ => ⟨a, e, VRs.mono h l _ x⟩
  | .tuple l, _, ⟨a, e, x⟩ => ⟨a, e, VRs.mono h l _ x⟩
  | .mt, _, x => x
  | .opq _, _, x => x
  | .vs _ _ _ _, _, ⟨k, cp, off, a, b⟩ => ⟨k, cp, off, h _ _ a, b⟩
  | .unk, _, x => x
theorem VRs.mono {ρ ρ' : Env} (h : ρ.Le ρ') : ∀ (l : List V) (rs : List Value), VRs ρ l rs → VRs ρ' l rs
  | [], _, x => x
  | v :: l, _, ⟨r, rs', e, x, y⟩ => ⟨r, rs', e, VR.mono h v r x, VRs.mono h l rs' y⟩
end
theorem VRs.nil {ρ : Env} {rs : List Value} (h : VRs ρ [] rs) : rs = [] := h
theorem VRs.length {ρ : Env} : ∀ {l : List V} {rs : List Value}, VRs ρ l rs → rs.length = l.length
  | [], _, h => by rw [VRs.nil h]; rfl
  | _ :: l, _, ⟨_, rs', e, _, y⟩ => by rw [e, List.length_cons, List.length_cons, VRs.length y]
theorem VRs.append {ρ : Env} : ∀ {a : List V} {x : List Value} {b : List V} {y : List Value}, VRs ρ a x → VRs ρ b y → VRs ρ (a ++ b) (x ++ y)
  | [], _, _, _, h, h' => by rw [VRs.nil h]; exact h'
  | _ :: _, _, _, _, ⟨r, rs', e, x, y⟩, h' => by rw [e]; exact ⟨r, _, rfl, x, VRs.append y h'⟩
theorem VRs.at {ρ : Env} : ∀ {l : List V} {rs : List Value}, VRs ρ l rs → ∀ {i : Nat} {v : V}, l[i]? = some v → ∃ r, rs[i]? = some r ∧ VR ρ v r
  | [], _, _, _, _, hi => by simp at hi
  | _ :: _, _, ⟨r, rs', e, x, y⟩, 0, v, hi => by
    rw [e]
    simp at hi
    exact ⟨r, rfl, hi ▸ x⟩
  | _ :: _, _, ⟨r, rs', e, x, y⟩, i + 1, v, hi => by
    rw [e]
    simp at hi
    obtain ⟨s, h1, h2⟩ := VRs.at y hi
    exact ⟨s, by simpa using h1, h2⟩
theorem VRs.take {ρ : Env} : ∀ {l : List V} {rs : List Value} (n : Nat), VRs ρ l rs → VRs ρ (l.take n) (rs.take n)
  | [], _, n, h => by rw [VRs.nil h]; simp [VRs]
  | _ :: _, _, 0, _ => by simp [VRs]
  | _ :: _, _, n + 1, ⟨r, rs', e, x, y⟩ => by rw [e]; exact ⟨r, _, rfl, x, VRs.take n y⟩
theorem VRs.drop {ρ : Env} : ∀ {l : List V} {rs : List Value} (n : Nat), VRs ρ l rs → VRs ρ (l.drop n) (rs.drop n)
  | [], _, n, h => by rw [VRs.nil h]; simp [VRs]
  | _ :: _, _, 0, h => h
  | _ :: _, _, n + 1, ⟨r, rs', e, _, y⟩ => by rw [e]; exact VRs.drop n y
/-- The cells of a value, and the machine's. -/
theorem VR.cells {ρ : Env} {v : V} {r : Value} (h : VR ρ v r) : VRs ρ v.cells r.cells.toList := by
  cases v with
  | agg l => obtain ⟨a, rfl, x⟩ := h; exact x
  | slice i off len c => cases c <;> (obtain ⟨k, h1, h2⟩ := h; first | (subst h2; exact ⟨_, _, rfl, ⟨k, h1, rfl⟩, rfl⟩) | (obtain ⟨h2, rfl⟩ := h2; exact ⟨_, _, rfl, ⟨k, h1, h2, rfl⟩, rfl⟩))
  | ptr i off => obtain ⟨k, h1, rfl⟩ := h; exact ⟨_, _, rfl, ⟨k, h1, rfl⟩, rfl⟩
  | map i => obtain ⟨k, h1, rfl⟩ := h; exact ⟨_, _, rfl, ⟨k, h1, rfl⟩, rfl⟩
  | yield i => obtain ⟨k, h1, rfl⟩ := h; exact ⟨_, _, rfl, ⟨k, h1, rfl⟩, rfl⟩
  | func f a b => obtain ⟨ra, rb, rfl, x, y⟩ := h; exact ⟨_, _, rfl, ⟨ra, rb, rfl, x, y⟩, rfl⟩
  | iface t v => obtain ⟨s, rfl, x⟩ := h; exact ⟨_, _, rfl, ⟨s, rfl, x⟩, rfl⟩
  | tuple l => obtain ⟨a, rfl, x⟩ := h; exact ⟨_, _, rfl, ⟨a, rfl, x⟩, rfl⟩
  | mt => obtain ⟨a, c, rfl⟩ := h; exact ⟨_, _, rfl, ⟨a, c, rfl⟩, rfl⟩
  | vs i n sl L => obtain ⟨k, cp, off, h1, h2, h3, h4, h5, rfl⟩ := h; exact ⟨_, _, rfl, ⟨k, cp, off, h1, h2, h3, h4, h5, rfl⟩, rfl⟩
  | unk =>
    have e : r.cells = #[r] := by cases r <;> first | rfl | exact absurd rfl (h.1 _)
    exact ⟨r, [], by rw [e], h, rfl⟩
  | opq x =>
    have e : r.cells = #[r] := by cases r <;> first | rfl | exact absurd rfl (h.2.1 _)
    exact ⟨r, [], by rw [e], h, rfl⟩
  | _ => cases h; exact ⟨_, _, rfl, rfl, rfl⟩
/-- A value of one cell, and the machine's. -/
theorem VR.one {ρ : Env} {v : V} {r : Value} (h : VR ρ v r) (h1 : v.one = true) : (∀ a, r ≠ .agg a) ∧ ∀ a, r ≠ .tuple a := by
  cases v with
  | agg l => cases h1
  | tuple l => cases h1
  | slice i off len c => cases c <;> (obtain ⟨k, _, h2⟩ := h; first | (subst h2; simp) | (obtain ⟨_, rfl⟩ := h2; simp))
  | ptr i off => obtain ⟨k, _, rfl⟩ := h; simp
  | map i => obtain ⟨k, _, rfl⟩ := h; simp
  | yield i => obtain ⟨k, _, rfl⟩ := h; simp
  | func f a b => obtain ⟨ra, rb, rfl, _⟩ := h; simp
  | iface t v => obtain ⟨s, rfl, _⟩ := h; simp
  | mt => obtain ⟨a, c, rfl⟩ := h; simp
  | vs i n sl L => obtain ⟨k, cp, off, h1, h2, h3, h4, h5, rfl⟩ := h; simp
  | unk => exact h
  | opq x => exact h.2
  | _ => cases h; simp
end Go.Proofs.YtdldpehmcfbbeaaGreatDoor.Ev
