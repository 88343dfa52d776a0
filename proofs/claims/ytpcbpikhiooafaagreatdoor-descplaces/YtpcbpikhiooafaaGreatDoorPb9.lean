/- The walk of the program's Split. Condition: a length that fits. -/
import Derived.Test.YtpcbpikhiooafaaGreatDoorM12
import Derived.Deep.RegionWith
namespace Go.Proofs.YtpcbpikhiooafaaGreatDoor
open Go.RowKit Go.Shelf
attribute [local go_sem] ext_eq app_eq get_eq toL_eq
attribute [local go_sem] Oper.semAt_some
/-- A box of three cells. -/
def Box3 (W : World) (B : Nat) (t : TypeId) (a b c : Value) : Prop := W.heap[B]? = some (.cells #[a, b, c] t (0, 0))
theorem Box3.c0 {W : World} {B : Nat} {t : TypeId} {a b c : Value} (h : Box3 W B t a b c) : W.cell? ⟨B, 0, none⟩ = some a ∧ W.cell? ⟨B, 1, none⟩ = some b ∧ W.cell? ⟨B, 2, none⟩ = some c := by
  refine ⟨?_, ?_, ?_⟩ <;> simp [World.cell?, show W.heap[B]? = _ from h]
theorem Box3.fz {W : World} {B : Nat} {t : TypeId} {a b c : Value} (h : Box3 W B t a b c) : W.frozen? ⟨B, 0, none⟩ = false ∧ W.frozen? ⟨B, 1, none⟩ = false ∧ W.frozen? ⟨B, 2, none⟩ = false := by
  refine ⟨?_, ?_, ?_⟩ <;> simp [World.frozen?, show W.heap[B]? = _ from h]
theorem Box3.kept {W W' : World} {row : Option Nat} {B : Nat} {t : TypeId} {a b c : Value} (h : Box3 W B t a b c) (hg : W.grownBy W' row) (hne : some B ≠ row) : Box3 W' B t a b c := (hg.block B (Array.getElem?_eq_some_iff.1 h).1 hne).trans h
theorem box3_own {β : Type} (B : Nat) (t : TypeId) (a b c : Value) : Own (fun (_ : β) W => Box3 W B t a b c) := by
  rintro s X Y row h hg hrow
  refine h.kept hg (fun e' => ?_)
  obtain ⟨o, ho, hc⟩ := hrow B e'.symm
  rw [show X.heap[B]? = _ from h] at ho; cases ho; cases hc
/-- The normal way out alone. -/
def OnlyN (Q : Exit → Act → World → Prop) : Exit → Act → World → Prop
  | .normal, a, w => Q .normal a w
  | _, _, _ => False
theorem wp_only {P : Program} {c : Code} {Q : Exit → Act → World → Prop} {a : Act} {w : World} (h : c.wp P (OnlyN Q) a w) : c.wp P Q a w :=
  Code.wp_mono (fun e a w hq => by cases e <;> first | exact hq | exact hq.elim) h
theorem suf_last (l : List UInt8) : Lib.hasSuffix l [47] = (l.getLast? == some 47) := by
  rw [Bool.eq_iff_iff, Lib.hasSuffix, List.isSuffixOf_iff_suffix, beq_iff_eq]
  constructor
  · rintro ⟨p, rfl⟩; simp
  · intro h
    obtain ⟨p, rfl⟩ := List.getLast?_eq_some_iff.1 h
    exact ⟨p, rfl⟩
theorem sSuf (l : List UInt8) (w : World) (hl : l.length ≤ 2 ^ 60) : Calls Tryz.prog 112 #[.string ⟨l.toArray⟩, .string ⟨#[47]⟩] w fun e w' => e = .returned (.bool (l.getLast? == some 47)) ∧ w' = w := by
  rw [← suf_last]
  exact Tryz.strings_HasSuffix ⟨l.toArray⟩ ⟨#[47]⟩ w (by rw [str_size]; omega)
theorem grow_set (W : World) (a : Addr) (v : Value) : W.grownBy (W.setCell a v) (some a.block) :=
  ⟨rfl, rfl, rfl, (KeepsWalks.setCell W _ v).size, fun k _ hk => Below.heap_setCell _ _ _ k (fun e => hk (by rw [e]))⟩
theorem Box3.set {W : World} {B : Nat} {t : TypeId} {a b c : Value} (h : Box3 W B t a b c) (a' b' c' : Value) : Box3 (((W.setCell ⟨B, 0, none⟩ a').setCell ⟨B, 1, none⟩ b').setCell ⟨B, 2, none⟩ c') B t a' b' c' :=
  heap_setCell_same _ B 2 _ t c' (heap_setCell_same _ B 1 _ t b' (heap_setCell_same W B 0 _ t a' h))
theorem app_heap {W w1 : World} {n₁ B : Nat} {e : TypeId} {v v' : Value} {k : Nat} {xs : List Value} {tmp : Obj}
    (hn : n₁ ≤ W.heap.size) (hrow : W.ownsRow n₁ e 1 v k xs) (hgrow : (W.alloc tmp).grownBy w1 v.ownBlock) : ∀ j, j < n₁ → j ≠ B → (w1.setCell ⟨B, 0, none⟩ v').heap[j]? = W.heap[j]? := by
  intro j hj hB
  rw [Below.heap_setCell _ _ _ j hB, hgrow.block j (by simp; omega) (fun e' => by have := (hrow.lt j e'.symm).1; omega)]
  exact Below.heap_alloc W tmp j (by omega)
theorem ret_split {W : World} {s : Nat} {a b c : Value} {n : Int} (h3 : Box3 W s 176 a b c) (he : Boxed W (s + 1) 25 (.int .i64 n)) (tmps : Array Value) (h2 : tmps[2]?.getD undef = .pointer (some ⟨s, 0, none⟩)) (h4 : tmps[3]?.getD undef = .pointer (some ⟨s + 1, 0, none⟩)) :
    (results Tryz.f91 tmps).run Tryz.prog W = .ok (.tuple #[.agg #[a, b, c], .int .i64 n]) W := by
  obtain ⟨r0, r1, r2⟩ := h3.c0
  have hec := he.cell
  simp [results, Tryz.results91, go_sem, h2, h4, r0, r1, r2, hec]
theorem own_keep {W W' : World} {n₁ j : Nat} {e : TypeId} {v : Value} {n : Nat} {xs : List Value} (h : W.ownsRow n₁ e 1 v n xs) (hg : W.grownBy W' (some j)) (hj : j < n₁) : W'.ownsRow n₁ e 1 v n xs :=
  h.kept hg (.inr fun e' => by have := (h.lt j e').1; omega)
/-- What lies when the parts have been stored. -/
def endW (W : World) (s : Nat) (va vb vc : Value) (n : Int) : World := (((W.setCell ⟨s, 0, none⟩ va).setCell ⟨s, 1, none⟩ vb).setCell ⟨s, 2, none⟩ vc).setCell ⟨s + 1, 0, none⟩ (.int .i64 n)
theorem split_end {W : World} {s DD : Nat} {a b c va vb vc : Value} {n₀ n : Int} {R : Ending → World → Prop} {tmps : Array Value} (hb3 : Box3 W s 176 a b c) (hbe : Boxed W (s + 1) 25 (.int .i64 n₀)) (hK : W.heap[DD]? = some (.deferred (some []))) (hD : s + 1 < DD)
    (h2 : tmps[2]?.getD undef = .pointer (some ⟨s, 0, none⟩)) (h4 : tmps[3]?.getD undef = .pointer (some ⟨s + 1, 0, none⟩)) (hR : R (.returned (.tuple #[.agg #[va, vb, vc], .int .i64 n])) ((endW W s va vb vc n).drew.putObj DD (.deferred none))) :
    bodyPostM Fence.wide 6 Tryz.prog Tryz.f91 R .ret { tmps := tmps, defers := [{ target := .collected DD, args := #[] }] } (endW W s va vb vc n).drew := by
  have hk4 : KeepsOthers W (endW W s va vb vc n) := ((((KeepsOthers.setCell _ _ _).trans (KeepsOthers.setCell _ _ _)).trans (KeepsOthers.setCell _ _ _)).trans (KeepsOthers.setCell _ _ _))
  have hK4 : (endW W s va vb vc n).drew.heap[DD]? = some (.deferred (some [])) := hk4.same DD _ hK rfl
  refine ⟨by simp, .inl ⟨_, _, rfl, run_takeDeferred hK4, ?_⟩⟩
  have h3a : Box3 (endW W s va vb vc n) s 176 va vb vc := (hb3.set va vb vc).kept (grow_set (((W.setCell ⟨s, 0, none⟩ va).setCell ⟨s, 1, none⟩ vb).setCell ⟨s, 2, none⟩ vc) ⟨s + 1, 0, none⟩ (.int .i64 n)) (by simp)
  have h3 : Box3 (endW W s va vb vc n).drew s 176 va vb vc := h3a
  have h4a : Boxed (endW W s va vb vc n) (s + 1) 25 (.int .i64 n) := (((hbe.kept (grow_set _ ⟨s, 0, none⟩ va) (by simp)).kept (grow_set _ ⟨s, 1, none⟩ vb) (by simp)).kept (grow_set _ ⟨s, 2, none⟩ vc) (by simp)).set (.int .i64 n)
  have h4' : Boxed (endW W s va vb vc n).drew (s + 1) 25 (.int .i64 n) := h4a
  exact ⟨_, ret_split (h3.kept (grownBy_putObj' _ DD (.deferred none)) (fun e => by cases e; omega)) (h4'.kept (grownBy_putObj' _ DD (.deferred none)) (fun e => by cases e; omega)) _ h2 h4, hR⟩
theorem end_own {W : World} {s DD n₁ n m : Nat} {va vb vc v : Value} {k : Int} {xs : List Value} (h : W.ownsRow n₁ 9 1 v n xs) (hs : s + 1 < n₁) (hm : m ≤ n₁) (hK : W.heap[DD]? = some (.deferred (some []))) : ((endW W s va vb vc k).drew.putObj DD (.deferred none)).ownsRow m 9 1 v n xs := by
  have hk4 : KeepsOthers W (endW W s va vb vc k) := ((((KeepsOthers.setCell _ _ _).trans (KeepsOthers.setCell _ _ _)).trans (KeepsOthers.setCell _ _ _)).trans (KeepsOthers.setCell _ _ _))
  have hK4 : (endW W s va vb vc k).drew.heap[DD]? = some (.deferred (some [])) := hk4.same DD _ hK rfl
  have h1 : (endW W s va vb vc k).drew.ownsRow n₁ 9 1 v n xs := World.ownsRow.drew (own_keep (own_keep (own_keep (own_keep h (grow_set _ ⟨s, 0, none⟩ va) (by show s < n₁; omega)) (grow_set _ ⟨s, 1, none⟩ vb) (by show s < n₁; omega)) (grow_set _ ⟨s, 2, none⟩ vc) (by show s < n₁; omega)) (grow_set _ ⟨s + 1, 0, none⟩ _) (by show s + 1 < n₁; omega))
  exact own_mono (ownsRow_putObj h1 _ hK4 rfl) hm
theorem end_below {w W : World} {DD : Nat} {va vb vc : Value} {k : Int} (hB : Below w.heap.size w W) (hD : w.heap.size ≤ DD) (hK : W.heap[DD]? = some (.deferred (some []))) : Below w.heap.size w ((endW W w.heap.size va vb vc k).drew.putObj DD (.deferred none)) := by
  have hk4 : KeepsOthers W (endW W w.heap.size va vb vc k) := ((((KeepsOthers.setCell _ _ _).trans (KeepsOthers.setCell _ _ _)).trans (KeepsOthers.setCell _ _ _)).trans (KeepsOthers.setCell _ _ _))
  have hK4 : (endW W w.heap.size va vb vc k).drew.heap[DD]? = some (.deferred (some [])) := hk4.same DD _ hK rfl
  have h1 : Below w.heap.size w (endW W w.heap.size va vb vc k).drew := ((((hB.setCell (p := ⟨w.heap.size, 0, none⟩) (Nat.le_refl _) _).setCell (p := ⟨w.heap.size, 1, none⟩) (Nat.le_refl _) _).setCell (p := ⟨w.heap.size, 2, none⟩) (Nat.le_refl _) _).setCell (p := ⟨w.heap.size + 1, 0, none⟩) (Nat.le_succ _) _).drew
  exact h1.trans (belowK_b (w := w) (Nat.le_refl _) _ DD _ _ hD hK4 rfl rfl)
set_option maxRecDepth 100000 in
set_option maxHeartbeats 4000000 in
theorem pSplit (l : List UInt8) (w : World) (hl : l.length ≤ 2 ^ 40) : Calls Tryz.prog 91 #[.string ⟨l.toArray⟩] w fun e w' => ∃ v, e = .returned (.tuple #[.agg #[.bool (Pa.splA l), v, .bool (Pa.splS l)], .int .i64 (Pa.splC l)]) ∧ w'.ownsRow w.heap.size 9 1 v (Pa.splN l).length ((Pa.splN l).map sv) ∧ Below w.heap.size w w' := by
  obtain ⟨i0, hi, hz0, hz1, hz2⟩ := info_parts info9
  refine (callsIn_wide (n := 6)).1 ?_
  refine callsIn_of_wp_marks Tryz.func91 rfl trivial ?_ rfl
  simp only [Tryz.ntmps91, List.size_toArray, List.length_cons, List.length_nil, Nat.reduceAdd, Nat.reduceSub, Array.replicate_succ, Array.replicate_zero, List.push_toArray, List.append_toArray, List.nil_append, List.cons_append]
  refine wpIn_wide.2 ?_
  by_cases h0 : l = []
  · subst h0
    go_wp2
    exact ⟨.tuple #[.agg #[.bool false, .slice none 0 0, .bool false], .int .i64 2], by simp [results, Tryz.results91, go_sem], _, rfl, World.ownsRow_nil _ _ _ _, ((Below.refl _ w).alloc (Nat.le_refl _) _).alloc (by simp) _⟩
  · have h0' : l.isEmpty = false := by simp [h0]
    by_cases h1 : 255 < l.length
    · have HC : Hid (Pa.splC l = 36) := by show _ = _; rw [Pa.splC, if_neg h0, if_pos h1]
      go_wp2
      refine ⟨.tuple #[.agg #[.bool false, .slice none 0 0, .bool false], .int .i64 36], by simp [results, Tryz.results91, go_sem], .slice none 0 0, ?_, ?_, ((Below.refl _ w).alloc (Nat.le_refl _) _).alloc (by simp) _⟩
      · rw [Pa.splA, Pa.splS, HC.out]; rfl
      · rw [Pa.splN, HC.out]; exact World.ownsRow_nil _ _ _ _
    · have h1' : decide ((255 : Int) < (l.length : Int)) = false := by simp; omega
      have hls : l.length ≤ 255 := by omega
      go_wp2_with (go_at_call 109; refine (names_any l _).mono ?_; rintro e w1 ⟨rfl, rfl⟩)
      have hsz4 : ((((w.alloc (.cells #[.bool false, .slice none 0 0, .bool false] 176)).alloc (.cells #[.int .i64 0] 25)).alloc (.cells #[.slice none 0 0] 151)).alloc (.cells #[.string ⟨l.toArray⟩] 9)).heap.size = w.heap.size + 4 := by simp
      have hB0 : Below w.heap.size w ((((w.alloc (.cells #[.bool false, .slice none 0 0, .bool false] 176)).alloc (.cells #[.int .i64 0] 25)).alloc (.cells #[.slice none 0 0] 151)).alloc (.cells #[.string ⟨l.toArray⟩] 9)) := ((((Below.refl _ w).alloc (Nat.le_refl _) _).alloc (by simp) _).alloc (by simp; omega) _).alloc (by simp; omega) _
      have hb3 : Box3 ((((w.alloc (.cells #[.bool false, .slice none 0 0, .bool false] 176)).alloc (.cells #[.int .i64 0] 25)).alloc (.cells #[.slice none 0 0] 151)).alloc (.cells #[.string ⟨l.toArray⟩] 9)) w.heap.size 176 (.bool false) (.slice none 0 0) (.bool false) := (Box3.kept (World.alloc_heap_new w _) (World.grownBy_alloc _ _ none) (by simp) |>.kept (World.grownBy_alloc _ _ none) (by simp)).kept (World.grownBy_alloc _ _ none) (by simp)
      have hbe : Boxed ((((w.alloc (.cells #[.bool false, .slice none 0 0, .bool false] 176)).alloc (.cells #[.int .i64 0] 25)).alloc (.cells #[.slice none 0 0] 151)).alloc (.cells #[.string ⟨l.toArray⟩] 9)) (w.heap.size + 1) 25 (.int .i64 0) := by
        have := ((Boxed.new (w.alloc (.cells #[.bool false, .slice none 0 0, .bool false] 176)) 25 (.int .i64 0)).alloc (.cells #[.slice none 0 0] 151)).alloc (.cells #[.string ⟨l.toArray⟩] 9)
        rw [World.size_alloc] at this; exact this
      have hbx : Boxed ((((w.alloc (.cells #[.bool false, .slice none 0 0, .bool false] 176)).alloc (.cells #[.int .i64 0] 25)).alloc (.cells #[.slice none 0 0] 151)).alloc (.cells #[.string ⟨l.toArray⟩] 9)) (w.heap.size + 1 + 1) 151 (.slice none 0 0) := by
        have := (Boxed.new ((w.alloc (.cells #[.bool false, .slice none 0 0, .bool false] 176)).alloc (.cells #[.int .i64 0] 25)) 151 (.slice none 0 0)).alloc (.cells #[.string ⟨l.toArray⟩] 9)
        rw [World.size_alloc, World.size_alloc] at this; exact this
      have hnm : NmAt ((((w.alloc (.cells #[.bool false, .slice none 0 0, .bool false] 176)).alloc (.cells #[.int .i64 0] 25)).alloc (.cells #[.slice none 0 0] 151)).alloc (.cells #[.string ⟨l.toArray⟩] 9)) (w.heap.size + 1 + 1 + 1) l := by
        have := (Boxed.new (((w.alloc (.cells #[.bool false, .slice none 0 0, .bool false] 176)).alloc (.cells #[.int .i64 0] 25)).alloc (.cells #[.slice none 0 0] 151)) 9 (.string ⟨l.toArray⟩)).cell
        rw [World.size_alloc, World.size_alloc, World.size_alloc] at this; exact this
      refine (wpIn_wide (n := 6)).1 ?_
      refine wpIn_rangeFunc_ownF rfl (by omega) (gf := 130) (lb := #[.pointer (some ⟨w.heap.size + 1 + 1 + 1, 0, none⟩)]) rfl trivial (enters_of Tryz.func130 (by kernel_rfl) rfl)
        (names_stops (6 - 1) (by omega) (w.heap.size + 1 + 1 + 1) l hl (KpB (w.heap.size + 4) (w.heap.size + 1 + 1)) (KpB.nm (by omega) (by omega)) _ hnm)
        (fun h k x hx hn => (k x hx hn).trans (h x hx hn)) (fun W lq o o' hq h h2 h3 x hx _ => (belowK_b (n₀ := w.heap.size + 4) (w := ((((w.alloc (.cells #[.bool false, .slice none 0 0, .bool false] 176)).alloc (.cells #[.int .i64 0] 25)).alloc (.cells #[.slice none 0 0] 151)).alloc (.cells #[.string ⟨l.toArray⟩] 9))) (by simp) W lq o o' hq h h2 h3).cell hx) (Below.refl _ _) (fun _ => rfl)
        (fun pre W => ((∃ v, Boxed W (w.heap.size + 1 + 1) 151 v ∧ W.ownsRow (w.heap.size + 4) 9 1 v (pre.map (·.2)).length ((pre.map (·.2)).map sv) ∧ True) ∧ (Box3 W w.heap.size 176 (.bool false) (.slice none 0 0) (.bool false) ∧ Boxed W (w.heap.size + 1) 25 (.int .i64 0))) ∧ (Below w.heap.size w W ∧ w.heap.size + 4 ≤ W.heap.size) ∧ ∀ x ∈ pre, ¬ 27 < x.2.length)
        (fun c pre W => ((Box3 W w.heap.size 176 (.bool false) (.slice none 0 0) (.bool false) ∧ Boxed W (w.heap.size + 1) 25 (.int .i64 36)) ∧ Below w.heap.size w W) ∧ (c = .ret ∧ ∃ x ∈ pre, 27 < x.2.length))
        (OwnFrom.and (OwnFrom.and (Own.from (holdsRow_own (w.heap.size + 4) (w.heap.size + 1 + 1) 151 9 1 (fun pre : List NmX => (pre.map (·.2)).length) (fun pre => (pre.map (·.2)).map sv) (fun _ _ => True)) _) (OwnFrom.and (Own.from (box3_own _ _ _ _ _) _) (Own.from (boxed_own (w.heap.size + 1) 25 (fun _ => .int .i64 0)) _))) (OwnFrom.and (OwnFrom.and (ownFrom_below (Nat.le_refl _) (by simp; omega)) (Own.from (fun s A B row hs hg hr => Nat.le_trans hs hg.size) _)) (Own.from (fun _ _ _ _ hs _ _ => hs) _)))
        (fun c => OwnFrom.and (OwnFrom.and (OwnFrom.and (Own.from (box3_own _ _ _ _ _) _) (Own.from (boxed_own (w.heap.size + 1) 25 (fun _ => .int .i64 36)) _)) (ownFrom_below (Nat.le_refl _) (by simp; omega))) (Own.from (fun _ _ _ _ hs _ _ => hs) _))
        ⟨⟨⟨_, hbx, World.ownsRow_nil _ _ _ _, trivial⟩, hb3, hbe⟩, ⟨hB0, by rw [hsz4]; exact Nat.le_refl _⟩, by intro x hx; cases hx⟩
        (fun x => { tmps := #[.string ⟨l.toArray⟩, undef, .pointer (some ⟨w.heap.size, 0, none⟩), .pointer (some ⟨w.heap.size + 1, 0, none⟩), .pointer (some ⟨w.heap.size + 1 + 1, 0, none⟩), undef, .string ⟨x.2.toArray⟩, .string ⟨l.toArray⟩, .bool false, undef, .string ⟨l.toArray⟩, .int .i64 l.length, .bool false, undef, .string ⟨l.toArray⟩, .func (.func 130) #[] #[.pointer (some ⟨w.heap.size + 1 + 1 + 1, 0, none⟩)], .int .i64 x.1, .string ⟨x.2.toArray⟩, undef, undef, undef, undef, undef, undef, undef, undef, undef, undef, undef, undef, undef, undef, undef, undef, undef, undef, undef, undef, undef, undef, undef], defers := [] }) ?assign ?body ?done ?stop
      case assign =>
        intro lp x W K hK
        dsimp only [nmEnc]
        gi_wp2
        exact hK
      case body =>
        rintro lp pre ⟨pos, x⟩ W ⟨⟨⟨v, hv, hrow, -⟩, hb3, hbe⟩, ⟨hB, hsz⟩, hall⟩ hlt
        rw [List.length_map] at hrow
        have hnl := Pa.nms_length l
        have hvc := hv.cell
        have hvf := hv.frozen
        have hec := hbe.cell
        have hef := hbe.frozen
        obtain ⟨r0, r1, r2⟩ := hb3.c0
        obtain ⟨f0, f1, f2⟩ := hb3.fz
        by_cases hx : 27 < x.length
        · have hx' : decide ((27 : Int) < (x.length : Int)) = true := by simp; omega
          gi_wp2
          refine ⟨((((KeepsOthers.setCell _ _ _).trans (KeepsOthers.setCell _ _ _)).trans (KeepsOthers.setCell _ _ _)).trans (KeepsOthers.setCell _ _ _)), ⟨⟨(hb3.set _ _ _).kept (grow_set _ ⟨w.heap.size + 1, 0, none⟩ _) (by simp), ?_⟩, ?_⟩, rfl, (pos, x), by simp, hx⟩
          · exact (((hbe.kept (grow_set _ ⟨w.heap.size, 0, none⟩ _) (by simp)).kept (grow_set _ ⟨w.heap.size, 1, none⟩ _) (by simp)).kept (grow_set _ ⟨w.heap.size, 2, none⟩ _) (by simp)).set _
          · exact (((hB.setCell (p := ⟨w.heap.size, 0, none⟩) (Nat.le_refl _) _).setCell (p := ⟨w.heap.size, 1, none⟩) (Nat.le_refl _) _).setCell (p := ⟨w.heap.size, 2, none⟩) (Nat.le_refl _) _).setCell (p := ⟨w.heap.size + 1, 0, none⟩) (Nat.le_succ _) _
        · have hx' : decide ((27 : Int) < (x.length : Int)) = false := by simp; omega
          gi_wp2_with (gi_at_builtin; refine wpListIn_append_own _ rfl _ _ 151 rfl (w.heap.size + 4) 9 i0 (.string ⟨#[]⟩) 1 16 Tryz.underlying151 hi hz0 hz1 hz2 rfl (by decide) _ _ _ rfl (hrow.alloc _) ⟨W.heap.size, 0, none⟩ 1 1 [.string ⟨x.toArray⟩] rfl rfl (cell_one_new _ _ _) (one_cell _) (by unfold maxLen; omega) (by omega) (by simp; omega) ?_; intro v' w1 hown' hgrow _; obtain ⟨g', cap', rfl⟩ := ownsRow_succ hown'; obtain ⟨hv1, hv2, hr2, hk2, hp2, hb2⟩ := boxed_app (n₀ := w.heap.size) hv (by omega) (by omega) (by omega) hrow hown' hgrow; have hx2 := app_heap (B := w.heap.size + 1 + 1) (v' := .slice (some ⟨g', 0, none⟩) (pre.length + 1) cap') (by omega) hrow hgrow; have hc1 := hv1.cell; have hf1 := hv1.frozen)
          refine ⟨hk2, hp2, ⟨⟨⟨_, hv2, ?_, trivial⟩, (hx2 _ (by omega) (by omega)).trans hb3, (hx2 _ (by omega) (by omega)).trans hbe⟩, ⟨hB.trans hb2, Nat.le_trans hsz hb2.size⟩, ?_⟩⟩
          · rw [List.length_map, List.length_append, List.map_append, List.map_append]; exact hr2
          · intro y hy
            rw [List.mem_append] at hy
            rcases hy with hy | hy
            · exact hall y hy
            · simp at hy; rw [hy]; exact hx
      case done =>
        rintro DD ys W hD hys ⟨⟨⟨v, hv, hrow, -⟩, hb3, hbe⟩, ⟨hB, hsz⟩, hall⟩ hK
        rw [hys] at hrow
        have hvc := hv.cell
        have hec := hbe.cell
        have hef := hbe.frozen
        obtain ⟨r0, r1, r2⟩ := hb3.c0
        obtain ⟨f0, f1, f2⟩ := hb3.fz
        have hany : (Pa.nms l).any (fun n => decide (27 < n.length)) = false := by
          rw [← hys, List.any_map, List.any_eq_false]
          intro y hy; simpa using hall y hy
        have hneD3 : some w.heap.size ≠ some DD := fun e => by cases e; simp at hD; omega
        have hneD1 : some (w.heap.size + 1) ≠ some DD := fun e => by cases e; simp at hD; omega
        have HDD : Hid (w.heap.size ≤ DD) := by show _ ≤ _; simp at hD; omega
        rcases Pa.indexByte_cut 0 l with ⟨he, hno⟩ | ⟨k, he, hk, hno, hcut⟩
        · have HI : Hid (Calls Tryz.prog 110 #[.string ⟨l.toArray⟩, .int .u8 0] W fun e w' => e = .returned (.int .i64 (-1)) ∧ w' = W) := by show Calls _ _ _ _ _; rw [← he]; exact sIndexB l 0 W
          have HC : Hid (Pa.splC l = 0) := by show _ = _; rw [Pa.splC, if_neg h0, if_neg h1, if_neg (by simp [hany]), if_neg (by simpa using hno)]
          clear he hno
          go_wp2_with (go_at_call 110; refine HI.out.mono ?_; rintro e w1 ⟨rfl, hw1⟩; rw [hw1]; clear hw1 w1)
          obtain ⟨-, av, cv, rfl, hcv, HSv, hbv⟩ := own_strs hrow
          obtain ⟨N, hN⟩ : ∃ N, (Pa.nms l).length = N := ⟨_, rfl⟩
          rw [hN] at hvc
          have HR : Hid (W.ownsRow (w.heap.size + 4) 9 1 (.slice av (Pa.nms l).length cv) (Pa.nms l).length ((Pa.nms l).map sv)) := hrow
          have HN : Hid ((Pa.nms l).length = N) := hN
          clear hN hany hcv hrow hv HSv hbv
          have HD1 : Hid (w.heap.size + 1 < DD) := by show _ < _; simp at hD; omega
          cases N with
          | zero =>
            have HF : Hid (∃ v, Ending.returned (.tuple #[.agg #[.bool (Pa.absB l), .slice av (0) cv, .bool false], .int .i64 0]) = .returned (.tuple #[.agg #[.bool (Pa.splA l), v, .bool (Pa.splS l)], .int .i64 (Pa.splC l)]) ∧ ((endW W w.heap.size (.bool (Pa.absB l)) (.slice av (0) cv) (.bool false) 0).drew.putObj DD (.deferred none)).ownsRow w.heap.size 9 1 v (Pa.splN l).length ((Pa.splN l).map sv) ∧ Below w.heap.size w ((endW W w.heap.size (.bool (Pa.absB l)) (.slice av (0) cv) (.bool false) 0).drew.putObj DD (.deferred none))) := by
              refine ⟨.slice av 0 cv, ?_, ?_, end_below hB HDD.out hK⟩
              · rw [Pa.splA, Pa.splS, HC.out]; rw [List.length_eq_zero_iff.1 HN.out]; simp
              · rw [Pa.splN, HC.out, if_pos rfl]
                have := HR.out
                rw [HN.out] at this
                rw [HN.out]
                exact end_own this (by omega) (by omega) hK
            refine wp_only ?_
            first | (go_region_with (first | (go_at_call 111; refine (pAbs l _).mono ?_; rintro e w1 ⟨rfl, hw1⟩; rw [hw1]; clear hw1 w1) | (go_at_call 112; refine (sSuf l _ (by omega)).mono ?_; rintro e w1 ⟨rfl, hw1⟩; rw [hw1]; clear hw1 w1))) | fail
            all_goals simp only [OnlyN]
            all_goals go_wp2
            all_goals exact split_end hb3 hbe hK HD1.out rfl rfl HF.out
          | succ M =>
            have HF : Hid (∃ v, Ending.returned (.tuple #[.agg #[.bool (Pa.absB l), .slice av (M + 1) cv, .bool (l.getLast? == some 47)], .int .i64 0]) = .returned (.tuple #[.agg #[.bool (Pa.splA l), v, .bool (Pa.splS l)], .int .i64 (Pa.splC l)]) ∧ ((endW W w.heap.size (.bool (Pa.absB l)) (.slice av (M + 1) cv) (.bool (l.getLast? == some 47)) 0).drew.putObj DD (.deferred none)).ownsRow w.heap.size 9 1 v (Pa.splN l).length ((Pa.splN l).map sv) ∧ Below w.heap.size w ((endW W w.heap.size (.bool (Pa.absB l)) (.slice av (M + 1) cv) (.bool (l.getLast? == some 47)) 0).drew.putObj DD (.deferred none))) := by
              refine ⟨.slice av (M + 1) cv, ?_, ?_, end_below hB HDD.out hK⟩
              · rw [Pa.splA, Pa.splS, HC.out]; have hne : Pa.nms l ≠ [] := fun e => by have h := HN.out; rw [e] at h; simp at h
                simp [hne]
              · rw [Pa.splN, HC.out, if_pos rfl]
                have := HR.out
                rw [HN.out] at this
                rw [HN.out]
                exact end_own this (by omega) (by omega) hK
            refine wp_only ?_
            first | (go_region_with (first | (go_at_call 111; refine (pAbs l _).mono ?_; rintro e w1 ⟨rfl, hw1⟩; rw [hw1]; clear hw1 w1) | (go_at_call 112; refine (sSuf l _ (by omega)).mono ?_; rintro e w1 ⟨rfl, hw1⟩; rw [hw1]; clear hw1 w1))) | fail
            all_goals simp only [OnlyN]
            all_goals go_wp2
            all_goals exact split_end hb3 hbe hK HD1.out rfl rfl HF.out
        · have HI : Hid (Calls Tryz.prog 110 #[.string ⟨l.toArray⟩, .int .u8 0] W fun e w' => e = .returned (.int .i64 (k : Int)) ∧ w' = W) := by show Calls _ _ _ _ _; rw [← he]; exact sIndexB l 0 W
          have HC : Hid (Pa.splC l = 22) := by
            show _ = _
            rw [Pa.splC, if_neg h0, if_neg h1, if_neg (by simp [hany]), if_pos]
            rw [hcut]; simp
          clear he hno hcut
          go_wp2_with (go_at_call 110; refine HI.out.mono ?_; rintro e w1 ⟨rfl, hw1⟩; rw [hw1]; clear hw1 w1)
          have hk4 : KeepsOthers W ((((W.setCell ⟨w.heap.size, 0, none⟩ (.bool false)).setCell ⟨w.heap.size, 1, none⟩ (.slice none 0 0)).setCell ⟨w.heap.size, 2, none⟩ (.bool false)).setCell ⟨w.heap.size + 1, 0, none⟩ (.int .i64 22)) := ((((KeepsOthers.setCell _ _ _).trans (KeepsOthers.setCell _ _ _)).trans (KeepsOthers.setCell _ _ _)).trans (KeepsOthers.setCell _ _ _))
          have hK4 := hk4.same DD _ hK rfl
          refine ⟨by simp, .inl ⟨_, _, rfl, run_takeDeferred hK4, ?_⟩⟩
          have h3 := ((hb3.set (.bool false) (.slice none 0 0) (.bool false)).kept (grow_set _ ⟨w.heap.size + 1, 0, none⟩ (.int .i64 22)) (by simp)).kept (grownBy_putObj' _ DD (.deferred none)) hneD3
          have h4 := ((((hbe.kept (grow_set _ ⟨w.heap.size, 0, none⟩ (.bool false)) (by simp)).kept (grow_set _ ⟨w.heap.size, 1, none⟩ (.slice none 0 0)) (by simp)).kept (grow_set _ ⟨w.heap.size, 2, none⟩ (.bool false)) (by simp)).set (.int .i64 22)).kept (grownBy_putObj' _ DD (.deferred none)) hneD1
          refine ⟨_, ret_split h3 h4 _ rfl rfl, .slice none 0 0, ?_, ?_, ?_⟩
          · rw [Pa.splA, Pa.splS, HC.out]; rfl
          · rw [Pa.splN, HC.out]; exact World.ownsRow_nil _ _ _ _
          · exact ((((hB.setCell (p := ⟨w.heap.size, 0, none⟩) (Nat.le_refl _) _).setCell (p := ⟨w.heap.size, 1, none⟩) (Nat.le_refl _) _).setCell (p := ⟨w.heap.size, 2, none⟩) (Nat.le_refl _) _).setCell (p := ⟨w.heap.size + 1, 0, none⟩) (Nat.le_succ _) _).trans (belowK_b (w := w) (Nat.le_refl _) _ DD _ _ HDD.out hK4 rfl rfl)
      case stop =>
        rintro DD c pre W hD hsp ⟨⟨⟨hb3, hbe⟩, hB⟩, rfl, x, hxm, hx⟩ hK
        have HC : Hid (Pa.splC l = 36) := by
          show _ = _
          rw [Pa.splC, if_neg h0, if_neg h1, if_pos]
          obtain ⟨r, hr⟩ := hsp
          rw [← hr, List.any_append, List.any_map, Bool.or_eq_true]
          exact .inl (List.any_eq_true.2 ⟨x, hxm, by simpa using hx⟩)
        gi_wp2
        refine ⟨by simp, .inl ⟨_, _, rfl, run_takeDeferred hK, ?_⟩⟩
        have hg := grownBy_putObj' W DD (.deferred none)
        have hne3 : some w.heap.size ≠ some DD := fun e => by cases e; simp at hD; omega
        have hne1 : some (w.heap.size + 1) ≠ some DD := fun e => by cases e; simp at hD; omega
        refine ⟨_, ret_split (hb3.kept hg hne3) (hbe.kept hg hne1) _ rfl rfl, .slice none 0 0, ?_, ?_, ?_⟩
        · rw [Pa.splA, Pa.splS, HC.out]; rfl
        · rw [Pa.splN, HC.out]; exact World.ownsRow_nil _ _ _ _
        · exact hB.trans (belowK_b (w := w) (Nat.le_refl _) W DD _ _ (by simp at hD; omega) hK rfl rfl)
end Go.Proofs.YtpcbpikhiooafaaGreatDoor
