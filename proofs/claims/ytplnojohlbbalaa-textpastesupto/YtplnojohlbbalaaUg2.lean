/- TextPastes: for whatever rows of bytes and delims (of bulk at most 1048576 together) the statement's function answers true and leaves them as they were. Condition: the second form's bound. -/
import Derived.Test.YtplnojohlbbalaaRows
import Derived.Test.YtplnojohlbbalaaUg1
import Derived.Deep.Slices
import Derived.ProofKit
import Derived.ChangeMaps5
import Derived.JoinedCond
import Derived.ChangeOld
namespace Go.Proofs.Ytplnojohlbbalaa
open Go.ChangeShapes Go.WideShapes Go.ChangeAt Go.RowKit
theorem own : ownKnob Try.prog.godebug = none := by kernel_rfl
theorem laidOut : laidOutB Try.prog = true := by kernel_rfl
theorem i64_range {x : Int} (h : (Lit.int .i64 x).wf = true) : -9223372036854775808 ≤ x ∧ x ≤ 9223372036854775807 := by
  simp only [Lit.wf, Bool.and_eq_true, decide_eq_true_eq] at h
  exact ⟨h.1, h.2⟩
theorem bulk_lits {H : Type} (k : IntKind) : ∀ zs : List Int, Rows.uptoBulkAll (lits (H := H) k zs) = zs.length
  | [] => rfl
  | z :: zs => by
    have ih := bulk_lits (H := H) k zs
    show Rows.uptoBulk (DataW.lit (.int k z)) + Rows.uptoBulkAll (lits (H := H) k zs) = _
    rw [ih]
    simp [Rows.uptoBulk]; omega
/-- A cell that can be read lies in a block's plain cells. -/
theorem spot_of_cell {w : World} {a : Addr} {v : Value} (h : w.cell? a = some v) : a.spot = none := by
  unfold World.cell? at h
  split at h
  · split at h
    · exact absurd h (by simp)
    · rename_i hs
      cases e : a.spot with
      | none => rfl
      | some x => rw [e] at hs; simp at hs
  · exact absurd h (by simp)
/-- A row of bytes that comes in, and its bulk. -/
theorem bytes_in {H : Type} {enc : TypeId × Value → H} {W : World} {base : Nat} {spare : Nat → Bool} {held : Bool} {a : Option Addr} {len cap : Nat} {d : DataW H} {ps : List MemPlace} (h : DataW.Trod enc Try.prog W base spare held 22 (.slice a len cap) d ps) : ∃ l : List UInt8, l.length = len ∧ Sr W a cap l ∧ l.length + 1 ≤ Rows.uptoBulk d := by
  obtain ⟨fuel, hf⟩ := h
  rcases open_ints Try.underlying22 Try.underlying5 (by kernel_rfl) hf with ⟨hcs, hd⟩ | ⟨x, l, c, zs, hcs, _, hl, hm, hz, hx, hcell, hwz⟩
  · simp [Value.cells] at hcs
    obtain ⟨rfl, rfl, rfl⟩ := hcs
    have hd1 : d = .nil := congrArg Prod.fst hd
    exact ⟨[], rfl, Sr.empty W, by rw [hd1]; simp [Rows.uptoBulk]⟩
  · simp [Value.cells] at hcs
    obtain ⟨rfl, rfl, rfl⟩ := hcs
    injection hx with hx1 hx2
    subst hx1
    have hzl : len ≤ zs.length := by rw [hz]; split <;> omega
    have hlen : ((zs.take len).map fun z => UInt8.ofNat z.toNat).length = len := by rw [List.length_map, List.length_take, Nat.min_eq_left hzl]
    refine ⟨_, hlen, ⟨fun j hj => ?_, by omega, fun e => by cases e⟩, ?_⟩
    · rw [hlen] at hj
      have h1 := hcell j (by omega)
      obtain ⟨g, go, sp⟩ := x
      have hsp : sp = none := by
        have := spot_of_cell (hcell 0 (by omega))
        cases sp with
        | none => rfl
        | some y => unfold Addr.add at this; simp at this
      subst hsp
      rw [show (⟨g, go, none⟩ : Addr).add j = ⟨g, go + j, none⟩ by simp [Addr.add]] at h1
      refine ⟨g, go, rfl, block_lt_of_cell h1, ?_⟩
      rw [h1]
      have hjz : j < zs.length := by omega
      have e : zs.getD j 0 = zs[j] := by rw [List.getD_eq_getElem?_getD, List.getElem?_eq_getElem hjz]; rfl
      have hb := bounds_u8 (hwz zs[j] (List.getElem_mem hjz))
      rw [e]
      simp only [List.getElem_map, List.getElem_take]
      have e2 : (UInt8.ofNat (zs[j]).toNat).toNat = (zs[j]).toNat := by simp; omega
      rw [e2, Int.toNat_of_nonneg hb.1]
    · rw [hlen]
      simp only [Rows.uptoBulk, bulk_lits, List.length_take]; omega
theorem exists_rows {α : Type} {Q : Nat → α → Prop} : ∀ n, (∀ i, i < n → ∃ x, Q i x) → ∃ l : List α, l.length = n ∧ ∀ i (h : i < l.length), Q i l[i]
  | 0, _ => ⟨[], rfl, fun i h => by simp at h⟩
  | n + 1, h => by
    obtain ⟨l, hl, hq⟩ := exists_rows n (fun i hi => h i (by omega))
    obtain ⟨x, hx⟩ := h n (by omega)
    refine ⟨l ++ [x], by simp [hl], fun i hi => ?_⟩
    by_cases e : i < l.length
    · rw [List.getElem_append_left e]; exact hq i e
    · have ei : i = l.length := by simp at hi; omega
      subst ei
      simp
      rw [hl]; exact hx
theorem bulk_rows {H : Type} : ∀ (X : List (List UInt8)) (E : List (DataW H)), E.length = X.length → (∀ i (h : i < X.length) (h2 : i < E.length), X[i].length + 1 ≤ Rows.uptoBulk E[i]) → X.flatten.length + X.length ≤ Rows.uptoBulkAll E
  | [], _, _, _ => by simp
  | x :: X, [], h, _ => by simp at h
  | x :: X, d :: E, h, hq => by
    have ih := bulk_rows X E (by simpa using h) (fun i h1 h2 => by have := hq (i + 1) (by simpa using h1) (by simpa using h2); simpa using this)
    have h0 := hq 0 (by simp) (by simp)
    simp only [List.getElem_cons_zero] at h0
    simp only [List.flatten_cons, List.length_append, List.length_cons, Rows.uptoBulkAll]
    omega
/-- Rows of bytes that come in, and their bulk. -/
theorem rows_in {H : Type} {enc : TypeId × Value → H} {W : World} {base : Nat} {spare : Nat → Bool} {held : Bool} {a : Option Addr} {len cap : Nat} {d : DataW H} {ps : List MemPlace} (h : DataW.Trod enc Try.prog W base spare held 23 (.slice a len cap) d ps) : ∃ X : List (List UInt8), X.length = len ∧ Rd W a X ∧ len ≤ cap ∧ X.flatten.length + X.length + 1 ≤ Rows.uptoBulk d := by
  obtain ⟨fuel, hf⟩ := h
  rcases Go.Deep.open_slice1 Try.underlying23 (by kernel_rfl) hf with ⟨hcs, hd⟩ | ⟨x, l, c, m, n, V, D, Pl, hcs, _, hl, hm, hmm, hx, hcell⟩
  · simp [Value.cells] at hcs
    obtain ⟨rfl, rfl, rfl⟩ := hcs
    have hd1 : d = .nil := congrArg Prod.fst hd
    exact ⟨[], rfl, fun i hi => by simp at hi, Nat.le_refl _, by rw [hd1]; simp [Rows.uptoBulk]⟩
  · simp [Value.cells] at hcs
    obtain ⟨rfl, rfl, rfl⟩ := hcs
    injection hx with hx1 hx2
    subst hx1
    have hlm : len ≤ m := by rw [hmm]; split <;> omega
    have each : ∀ i, i < len → ∃ y : List UInt8, ∃ a' c', W.cell? (x.add i) = some (.slice a' y.length c') ∧ Sr W a' c' y ∧ y.length + 1 ≤ Rows.uptoBulk (D i) := by
      intro i hi
      obtain ⟨h1, h2⟩ := hcell i (by omega)
      obtain ⟨a', n', c', hv⟩ : ∃ a' n' c', V i = .slice a' n' c' := by
        rcases DataW.trod_slice Try.underlying22 h2 with ⟨hc, _⟩ | ⟨ad, len', cap', _, _, _, _, hc, _⟩
        · exact ⟨none, 0, 0, by simpa using hc⟩
        · exact ⟨some ad, len', cap', by simpa using hc⟩
      rw [hv] at h1 h2
      obtain ⟨y, hy, hs, hb⟩ := bytes_in (H := H) (enc := enc) (W := W) (base := base) (spare := spare) (held := held) (a := a') (len := n') (cap := c') (d := D i) (ps := Pl i) ⟨n, h2⟩
      exact ⟨y, a', c', by rw [hy]; exact h1, hs, hb⟩
    obtain ⟨X, hX, hq⟩ := exists_rows len each
    refine ⟨X, hX, fun i hi => ?_, hl, ?_⟩
    · obtain ⟨a', c', h1, hs, _⟩ := hq i hi
      obtain ⟨g, go, sp⟩ := x
      have hsp : sp = none := by
        have := spot_of_cell (hcell 0 (by omega)).1
        cases sp with
        | none => rfl
        | some y => unfold Addr.add at this; simp at this
      subst hsp
      rw [show (⟨g, go, none⟩ : Addr).add i = ⟨g, go + i, none⟩ by simp [Addr.add]] at h1
      exact ⟨g, go, a', c', rfl, block_lt_of_cell h1, h1, hs⟩
    · have hb := bulk_rows X ((List.range len).map D) (by simp [hX]) (fun i h1 h2 => by
        obtain ⟨_, _, _, _, hb⟩ := hq i h1
        simpa using hb)
      simp only [Rows.uptoBulk]; omega
set_option maxRecDepth 100000 in
theorem pastes_contract (H : Type) (enc : TypeId × Value → H) (W : World) (base : Nat) (args : Array Value) (ds gs : List (DataW H)) (before : List MemPlace)
    (hval : ∀ (j : Nat) t v, Try.f4.params[j]? = some t → args[j]? = some v → Value.okWide Try.prog W .any base t v)
    (hW : DataW.Whole enc Try.prog Try.f4.params.toList Rows.textPastesSpec.vars false W args.toList ds gs before) (hk : Rows.uptoSmall H (ds ++ gs) = true) :
    Calls Try.prog 4 args W fun e W' => ∃ v, e = .returned v ∧ Rows.textPastesSpec.post enc Try.prog Try.f4 false true false false W args v W' := by
  have hW' := hW
  obtain ⟨p, q, hA0, hV, rfl, hfz, hnd⟩ := hW
  have hA : DataW.TrodAll enc Try.prog W 0 (fun _ => true) true Try.f4.params.toList args.toList ds p := hA0
  rw [Try.params4] at hA hval
  obtain ⟨v0, v1, d0, d1, p0, p1, rfl, rfl, rfl, h0, h1⟩ := trodAll_two hA
  obtain ⟨rfl, rfl⟩ := trodVars_none hV
  obtain ⟨a, len, cap, rfl⟩ := okWide_slice Try.underlying23 (hval 0 23 v0 rfl rfl)
  obtain ⟨t, rfl, rfl, rfl, wt⟩ := Go.ChangeMaps.open_string Try.underlying9 (hval 1 9 v1 rfl rfl) h1
  have lt0 : ∀ z ∈ p0, z.block < W.heap.size := by obtain ⟨m, hm⟩ := h0; exact DataW.trod_lt m _ _ _ hm
  obtain ⟨L, rfl, hR, hc2, hbx⟩ := rows_in h0
  have hb : Rows.uptoBulkAll ([d0, DataW.lit (.string t.data.toList)] ++ ([] : List (DataW H))) ≤ 1048576 := of_decide_eq_true hk
  simp only [List.append_nil, Rows.uptoBulkAll, Rows.uptoBulk] at hb
  clear hA0
  refine (pastes_walk L t.data.toList a cap (by omega) (by omega) W hR).mono fun e W' ⟨he, bel⟩ => ?_
  subst he
  exact ⟨_, rfl, _, _, _, [], _, [], hW', trodAll_mk1 (shut_bool Try.underlying4 _), trodAll_mk2 (Below.trod laidOut (by kernel_rfl) (of_decide_eq_true (by kernel_rfl)) h0 bel lt0) (Go.ChangeMaps.shut_string Try.underlying9 wt), rfl, bel.frame _, fun h => by cases h⟩
set_option maxRecDepth 100000 in
theorem pastes_lifted (os : Os) (started : os.Started) (H : Type) (enc : TypeId × Value → H) (F : Stop.Interp) :
    ReturnsInHanded {} Try.checked os 4 .any ((Rows.OpenSpec.upto Rows.textPastesSpec).pre6 enc Try.prog Try.f4 Rows.textPastesUptoRow.domain false) (((Rows.OpenSpec.upto Rows.textPastesSpec).at F).post enc Try.prog Try.f4 false true false false) := by
  refine returnsInHanded_of_cond (C := Try.checked) (s := Rows.OpenSpec.upto Rows.textPastesSpec) (k := Rows.uptoSmall) rfl own started (by kernel_rfl) Try.func4
    (OpenSpec.witness (enc := enc) (C := Try.checked) (s := Rows.OpenSpec.upto Rows.textPastesSpec) (k := Rows.uptoSmall) rfl false ⟨#[], #[.slice none 0 0, .string ⟨#[]⟩], []⟩ 8 (by kernel_rfl) (by kernel_rfl) (by kernel_rfl)
      (x := ([.nil, .lit (.string [])], [], [])) (by kernel_rfl) rfl (by kernel_rfl)) ?_
  intro W base args ds gs before hval hW _ hk _
  exact pastes_contract H enc W base args ds gs before hval hW hk
theorem textPastes_holds : Rows.TextPastesUptoSaid :=
  OpenClaim.holds_of_cond 4 Try.f4 rfl rfl rfl rfl rfl rfl rfl ⟨rfl, rfl, rfl, rfl, rfl⟩ rfl rfl rfl rfl rfl (by kernel_rfl) Try.func4 (by kernel_rfl)
    (of_decide_eq_true (by kernel_rfl)) (by unfold Func.isWrapper; first | (rw [if_pos (by decide +kernel)]; kernel_rfl) | (rw [if_neg (by decide +kernel)]; exact ⟨rfl, rfl⟩))
    (fun os started H enc _ F => pastes_lifted os started H enc F)
end Go.Proofs.Ytplnojohlbbalaa
