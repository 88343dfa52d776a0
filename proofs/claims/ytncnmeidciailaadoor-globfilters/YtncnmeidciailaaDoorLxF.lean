/- GlobFilters, its tied card: for whatever pattern, flags and names the statement's function answers true and leaves them as they were. Condition (the row's own): the table of names starts as the program's text lays it. -/
import Derived.Test.YtncnmeidciailaaDoorLtB
import Derived.Test.YtncnmeidciailaaDoorLx2
namespace Go.Proofs.YtncnmeidciailaaDoor
open Go.ChangeShapes Go.WideShapes Go.ChangeAt Go.RowKit
open Go.ChangeMaps (open_string shut_string)
theorem exists_list {α : Type} {Q : Nat → α → Prop} : ∀ n, (∀ i, i < n → ∃ x, Q i x) → ∃ l : List α, l.length = n ∧ ∀ i x, l[i]? = some x → Q i x
  | 0, _ => ⟨[], rfl, fun i x h => by simp at h⟩
  | n + 1, h => by
    obtain ⟨l, hl, hq⟩ := exists_list n (fun i hi => h i (by omega))
    obtain ⟨x, hx⟩ := h n (by omega)
    refine ⟨l ++ [x], by simp [hl], fun i y hy => ?_⟩
    by_cases hi : i < l.length
    · rw [List.getElem?_append_left hi] at hy; exact hq i y hy
    · rw [List.getElem?_append_right (by omega)] at hy
      by_cases he : i = n
      · subst he; rw [show i - l.length = 0 by omega] at hy; simp at hy; subst hy; exact hx
      · rw [List.getElem?_eq_none (by simp; omega)] at hy; cases hy
theorem add_none (a : Addr) (h : (a.add 0).spot = none) : ∃ b o, a = ⟨b, o, none⟩ ∧ ∀ j, a.add j = ⟨b, o + j, none⟩ := by
  obtain ⟨b, o, sp⟩ := a
  cases sp with
  | none => exact ⟨b, o, rfl, fun j => by unfold Addr.add; split <;> simp_all⟩
  | some x => simp [Addr.add] at h
theorem mem_all {H : Type} {P : Program} {e : TypeId} : ∀ {ss : List (List UInt8)} {s : List UInt8}, s ∈ ss → s.length ∈ DataW.weightsAll P e (ss.map (fun s => DataW.lit (H := H) (.string s)))
  | x :: r, s, h => by
    rw [List.map_cons, DataW.weightsAll, List.mem_append]
    rcases List.mem_cons.1 h with rfl | h
    · left; simp [DataW.weights]
    · right; exact mem_all h
section
variable {H : Type} {enc : TypeId × Value → H} {W : World} {base : Nat} {spare : Nat → Bool} {held : Bool}
theorem strs_openF {fuel : Nat} {a : Option Addr} {len cap : Nat} {x : DataW H × List MemPlace} (h : DataW.trod enc Tryd.prog W base spare held fuel 28 [.slice a len cap] = some x) :
    ∃ ss : List (List UInt8), ss.length = len ∧ StrS W a ss ∧ (a = none → cap = 0 ∧ ss = []) ∧ (ss = [] ∨ ∃ sp, x.1 = .slice (ss.map (fun s => DataW.lit (H := H) (.string s))) sp) := by
  rcases DataW.trod_slice Tryd.underlying28 h with ⟨hc, hx⟩ | ⟨ad, len', cap', elems, rest, n, _, hc, hx, hb, hl, hm, hlen, hel, _, _⟩
  · simp at hc
    obtain ⟨rfl, rfl, rfl⟩ := hc
    exact ⟨[], rfl, StrS.nil _ _, fun _ => ⟨rfl, rfl⟩, .inl rfl⟩
  · simp at hc
    obtain ⟨rfl, rfl, rfl⟩ := hc
    have each : ∀ i, i < len → ∃ s : List UInt8, elems[i]? = some (.lit (.string s), []) ∧ W.cell? (ad.add i) = some (.string ⟨s.toArray⟩) := by
      intro i hi
      have h1 := hel i hi
      rw [List.getElem?_eq_getElem (by omega), Option.bind_eq_some_iff] at h1
      obtain ⟨cs, hcs, hy⟩ := h1
      obtain ⟨s, rfl, hy2, hsz⟩ := DataW.trod_string Tryd.underlying9 hy
      rw [show Tryd.prog.cellsOf 9 = 1 by kernel_rfl, Nat.mul_one] at hcs
      refine ⟨s.data.toList, ?_, ?_⟩
      · rw [List.getElem?_eq_getElem (by omega), hy2]
      · rw [cell_of_cells?_one hcs]
    obtain ⟨ss, hss, hq⟩ := exists_list len each
    have hmap : elems.map (·.1) = ss.map (fun s => DataW.lit (H := H) (.string s)) := by
      apply List.ext_getElem?
      intro i
      by_cases hi : i < len
      · have hi' : i < ss.length := by omega
        obtain ⟨q1, _⟩ := hq i ss[i] (List.getElem?_eq_getElem hi')
        rw [List.getElem?_map, List.getElem?_map, q1, List.getElem?_eq_getElem hi']; rfl
      · rw [List.getElem?_eq_none (by simp; omega), List.getElem?_eq_none (by simp; omega)]
    refine ⟨ss, hss, fun j hj => ?_, fun e => (by cases e), .inr ⟨rest.map (·.1), by rw [hx, ← hmap]⟩⟩
    obtain ⟨_, q2⟩ := hq j ss[j] (List.getElem?_eq_getElem hj)
    obtain ⟨_, _, q0⟩ := each 0 (by omega)
    obtain ⟨b, o, rfl, hadd⟩ := add_none ad (spot_of_cell q0)
    rw [hadd j] at q2
    exact ⟨b, o, rfl, World.block_lt_of_cell? _ _ q2, q2⟩
end
set_option maxRecDepth 100000 in
theorem filters_lifted (os : Os) (started : os.Started) (H : Type) (enc : TypeId × Value → H) :
    ReturnsInHanded {} Tryd.checked os 5 .any (fun w args => (Rows.globFiltersSpec.pre enc Tryd.prog Tryd.f5 [] false w args ∧ laidMetH Tryd.prog laidL w) ∧ sizedMet enc Tryd.prog Tryd.f5 (OpenSpec.ofChange Rows.globFiltersSpec) false w args)
      (Rows.globFiltersSpec.post enc Tryd.prog Tryd.f5 false true false false) := by
  refine of_change_and_shaped (C := Tryd.checked) (X := fun w _ => laidMetH Tryd.prog laidL w) (fun _ _ _ hh h => h.of_heap hh) own started (by kernel_rfl) Tryd.func5
    (ChangeSpec.witness_shaped (enc := enc) (C := Tryd.checked) (os := os) (X := fun w _ => laidMetH Tryd.prog laidL w) false (World.laidAll Tryd.prog os laidL) #[.string ⟨#[]⟩, .int .i64 0, .slice none 0 0] 8 (World.laidAll_os _ _ _) (World.shaped_of_ZipB (by kernel_rfl) (by kernel_rfl)) (by kernel_rfl) (by kernel_rfl) (by kernel_rfl) (start_met os _)) ?_
  intro W base args ds gs before hval0 hW _ hsz hL hsh _
  have hval : ∀ (j : Nat) t v, Tryd.f5.params[j]? = some t → args[j]? = some v → Value.okWide Tryd.prog W .any base t v := hval0
  have hW' := hW
  obtain ⟨p, q, hA0, hV, rfl, hfz, hnd⟩ := hW
  have hA : DataW.TrodAll enc Tryd.prog W 0 (fun _ => true) true Tryd.f5.params.toList args.toList ds p := hA0
  rw [Tryd.params5] at hA hval hsz
  obtain ⟨v0, v1, v2, d0, d1, d2, p0, p1, p2, rfl, rfl, rfl, h0, h1, h2⟩ := trodAll_three hA
  obtain ⟨rfl, rfl⟩ := trodVars_none hV
  obtain ⟨x, rfl, rfl, rfl, wx⟩ := open_string Tryd.underlying9 (hval 0 9 v0 rfl rfl) h0
  obtain ⟨y, rfl, rfl, rfl, wy⟩ := open_int Tryd.underlying3 (hval 1 3 v1 rfl rfl) h1
  obtain ⟨a, len, cap, rfl⟩ := okWide_slice Tryd.underlying28 (hval 2 28 v2 rfl rfl)
  have lt2 : ∀ z ∈ p2, z.block < W.heap.size := by obtain ⟨m, hm⟩ := h2; exact DataW.trod_lt m _ _ _ hm
  have hb1 : Tryd.prog.bytesOf 9 = 16 := by kernel_rfl
  have hrb : reachBytes = 140737488351232 := rfl
  have k2 : ∃ ss : List (List UInt8), ss.length = len ∧ StrS W a ss ∧ (a = none → cap = 0 ∧ ss = []) ∧ ss.length ≤ 2 ^ 43 ∧ ∀ s ∈ ss, s.length ≤ 2 ^ 47 := by
    obtain ⟨fuel, hf⟩ := h2
    obtain ⟨ss, e1, e2, e3, e4⟩ := strs_openF hf
    rcases e4 with rfl | ⟨sp, e4⟩
    · exact ⟨[], e1, e2, e3, Nat.zero_le _, fun s hs => by cases hs⟩
    · have e5 : d2 = .slice (ss.map (fun s => DataW.lit (H := H) (.string s))) sp := e4
      subst e5
      have hb := sized_slice hsz (j := 2) (t := 28) rfl rfl Tryd.underlying28
      rw [show Tryd.checked.prog.bytesOf 9 = 16 from hb1, List.length_map] at hb
      refine ⟨ss, e1, e2, e3, by omega, fun s hs => ?_⟩
      have hm := List.all_eq_true.1 hsz s.length (DataW.weights_mem_each (j := 2) (t := 28) rfl rfl s.length (by
        rw [DataW.weights, show Tryd.checked.prog.underlying 28 = some (.slice 9) from Tryd.underlying28]
        show s.length ∈ _ :: (DataW.weightsAll _ _ _ ++ _)
        rw [List.mem_cons, List.mem_append]
        exact .inr (.inl (mem_all hs))))
      have hm2 := of_decide_eq_true hm
      omega
  clear hA0 hval0
  obtain ⟨ss, rfl, hS, hn, hl, hx⟩ := k2
  refine (filters_walk x.data.toList y ss a cap hl hx hn W hS (cn_of_laid hL) (ml_of_shape hsh)).mono fun e W' ⟨he, bel⟩ => ?_
  subst he
  exact ⟨_, rfl, _, _, _, [], _, [], hW', trodAll_mk1 (shut_bool Tryd.underlying4 _), trodAll_mk3 (shut_string Tryd.underlying9 wx) (shut_int Tryd.underlying3 wy) (Below.trod laidOut (by kernel_rfl) (of_decide_eq_true (by kernel_rfl)) h2 bel lt2), rfl, bel.frame _, fun h => by cases h⟩
theorem globFilters_holds : Rows.GlobFiltersSaid :=
  OpenClaim.holds_of_wide 5 Tryd.f5 rfl rfl rfl rfl rfl rfl rfl ⟨rfl, rfl, rfl, rfl, rfl⟩ rfl rfl rfl rfl rfl (by kernel_rfl) Tryd.func5 (by kernel_rfl)
    (of_decide_eq_true (by kernel_rfl)) (by unfold Func.isWrapper; first | (rw [if_pos (by decide +kernel)]; kernel_rfl) | (rw [if_neg (by decide +kernel)]; exact ⟨rfl, rfl⟩))
    (fun os started H enc _ => filters_lifted os started H enc)
theorem globFilters_card : Rows.GlobFiltersCardSaid :=
  Claim7.holds_tied_plain_at .later [] [.data] true (true, "c897198b1c2f9eeff671c31a37bbedfba52b4db7db211f206ef3ce9fc9bf56c7") false
    globFilters_holds (fun _ h => by cases h) (by kernel_rfl) (fun _ h => by cases h) globFilters_row_tie rfl ⟨rfl, rfl⟩ (by kernel_rfl) rfl
    (fun f fn hf hfn => by
      obtain rfl : f = 5 := Option.some.inj ((show Tryd.prog.funcNamed "tinsel/tinsellaw12.GlobFilters" = some 5 by kernel_rfl).symm.trans hf) |>.symm
      obtain rfl : fn = Tryd.f5 := (Option.some.inj (Tryd.func5.symm.trans hfn)).symm
      exact ⟨by kernel_rfl, fun j t ht => by
        rw [Tryd.params5] at ht
        have hm : t ∈ [9, 3, 28] := by simpa using Array.mem_of_getElem? ht
        have hall : ([9, 3, 28].all fun u => !Tryd.prog.wantsStandIn u) = true := by kernel_rfl
        exact (show Tryd.prog.wantsStandIn t = false by simpa using List.all_eq_true.1 hall t hm)⟩)
    (by kernel_rfl)
#print axioms globFilters_card
end Go.Proofs.YtncnmeidciailaaDoor
