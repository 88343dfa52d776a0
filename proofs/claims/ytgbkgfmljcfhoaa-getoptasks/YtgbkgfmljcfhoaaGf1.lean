/- GetoptAsks: counting, and the plain answer's last one. Conditions: the options' cells are as said; a length that fits. -/
import Derived.Test.YtgbkgfmljcfhoaaGs3
namespace Go.Proofs.Ytgbkgfmljcfhoaa
open Go.RowKit
attribute [local go_sem] ext_eq app_eq get_eq
/-- How many options bear this name. -/
def cntO (opts : List Ga.Opt) (nm : List UInt8) : Nat := opts.countP (fun o => decide (o.1 = nm))
theorem cnt_step (opts : List Ga.Opt) (nm : List UInt8) (k : Nat) (h : k < opts.length) : cntO (opts.take (k + 1)) nm = cntO (opts.take k) nm + (if opts[k].1 = nm then 1 else 0) := by
  unfold cntO
  rw [List.take_succ_eq_append_getElem h, List.countP_append]
  by_cases h2 : opts[k].1 = nm <;> simp [h2]
theorem cnt_le (opts : List Ga.Opt) (nm : List UInt8) : cntO opts nm ≤ opts.length := List.countP_le_length
/-- The last of the first k options that bears this name. -/
def lstO (opts : List Ga.Opt) (nm : List UInt8) : Nat → Option (List UInt8)
  | 0 => none
  | k + 1 => match opts[k]? with
    | some o => if o.1 = nm then some o.2 else lstO opts nm k
    | none => lstO opts nm k
theorem lst_step (opts : List Ga.Opt) (nm : List UInt8) (k : Nat) (h : k < opts.length) : lstO opts nm (k + 1) = if opts[k].1 = nm then some opts[k].2 else lstO opts nm k := by
  simp [lstO, h]
/-- What Last tells. -/
def lstV (x : Option (List UInt8)) : Value := .tuple #[.string ⟨(x.getD []).toArray⟩, .bool x.isSome]
set_option maxRecDepth 100000 in
set_option maxHeartbeats 1000000 in
theorem rCount (opts : List Ga.Opt) (nm : List UInt8) (a : Option Addr) (c : Nat) (w : World) (hO : Opts w a opts) (hl : opts.length < 2 ^ 63) :
    Calls Try.prog 17 #[.slice a opts.length c, .string ⟨nm.toArray⟩] w fun e w' => e = .returned (.int .i64 (cntO opts nm)) ∧ Below w.heap.size w w' := by
  have HO : Hid (Opts w a opts) := hO
  clear hO
  go_enter Try.func17, Try.ntmps17
  go_wp2
  go_loopw [5, 10] (fun x i V => ∃ k q : Nat, k ≤ opts.length ∧ q ≤ k ∧ i = .int .i64 k ∧ x = .int .i64 q ∧ Hid (q = cntO (opts.take k) nm) ∧ Hid (Below w.heap.size w V)) (fun _ i _ => opts.length - (intOf i).toNat)
  case atStart => exact ⟨0, 0, Nat.zero_le _, Nat.le_refl _, rfl, rfl, rfl, Below.refl _ _⟩
  case round =>
    obtain ⟨k, q, hk, hq, rfl, rfl, HQ, HB⟩ := hrel
    by_cases hlt : k < opts.length
    · obtain ⟨bk, o, ha, hb, hc1, hc2⟩ := (HO.out.grow HB.out) k opts[k] (List.getElem?_eq_getElem hlt)
      have HS : Hid (cntO (opts.take (k + 1)) nm = cntO (opts.take k) nm + (if opts[k].1 = nm then 1 else 0)) := cnt_step opts nm k hlt
      have HN : Hid (∀ ob, Below w.heap.size w (wr.alloc ob)) := fun ob => HB.out.alloc HB.out.size _
      subst ha
      generalize opts[k] = p at *
      obtain ⟨p1, p2⟩ := p
      dsimp only at hc1 hc2 HS
      by_cases h2 : p1 = nm
      · have h2' : (p1 == nm) = true := by simpa using h2
        have HN2 : Hid (q + 1 = cntO (opts.take (k + 1)) nm) := by show _ = _; rw [HS.out, if_pos h2, HQ.out]
        clear h2
        go_wp2_with (go_quiet (fail))
        exact ⟨⟨k + 1, q + 1, by omega, by omega, by go_num, by go_num, HN2, HN.out _⟩, by simp [intOf]; omega⟩
      · have h2' : (p1 == nm) = false := by simpa using h2
        have HN2 : Hid (q = cntO (opts.take (k + 1)) nm) := by show _ = _; rw [HS.out, if_neg h2, HQ.out]; rfl
        clear h2
        go_wp2_with (go_quiet (fail))
        exact ⟨⟨k + 1, q, by omega, by omega, by go_num, rfl, HN2, HN.out _⟩, by simp [intOf]; omega⟩
    · have HN : Hid (q = cntO opts nm) := by
        have := HQ.out
        rw [List.take_of_length_le (by omega)] at this
        exact this
      go_wp2
      go_ret
      exact ⟨by rw [HN.out]; rfl, HB.out⟩
set_option maxRecDepth 100000 in
set_option maxHeartbeats 1000000 in
theorem gCount (opts : List Ga.Opt) (nm : List UInt8) (a : Option Addr) (c : Nat) (w : World) (hO : Opts w a opts) (hl : opts.length < 2 ^ 63) :
    Calls Try.prog 18 #[.slice a opts.length c, .string ⟨nm.toArray⟩] w fun e w' => e = .returned (.int .i64 (cntO opts nm)) ∧ Below w.heap.size w w' := by
  have HO : Hid (Opts w a opts) := hO
  clear hO
  go_enter Try.func18, Try.ntmps18
  go_wp2
  go_loopw [5, 10] (fun x i V => ∃ k q : Nat, k ≤ opts.length ∧ q ≤ k ∧ i = .int .i64 k ∧ x = .int .i64 q ∧ Hid (q = cntO (opts.take k) nm) ∧ Hid (Below w.heap.size w V)) (fun _ i _ => opts.length - (intOf i).toNat)
  case atStart => exact ⟨0, 0, Nat.zero_le _, Nat.le_refl _, rfl, rfl, rfl, Below.refl _ _⟩
  case round =>
    obtain ⟨k, q, hk, hq, rfl, rfl, HQ, HB⟩ := hrel
    by_cases hlt : k < opts.length
    · obtain ⟨bk, o, ha, hb, hc1, hc2⟩ := (HO.out.grow HB.out) k opts[k] (List.getElem?_eq_getElem hlt)
      have HS : Hid (cntO (opts.take (k + 1)) nm = cntO (opts.take k) nm + (if opts[k].1 = nm then 1 else 0)) := cnt_step opts nm k hlt
      have HN : Hid (∀ ob, Below w.heap.size w (wr.alloc ob)) := fun ob => HB.out.alloc HB.out.size _
      subst ha
      generalize opts[k] = p at *
      obtain ⟨p1, p2⟩ := p
      dsimp only at hc1 hc2 HS
      by_cases h2 : p1 = nm
      · have h2' : (p1 == nm) = true := by simpa using h2
        have HN2 : Hid (q + 1 = cntO (opts.take (k + 1)) nm) := by show _ = _; rw [HS.out, if_pos h2, HQ.out]
        clear h2
        go_wp2_with (go_quiet (fail))
        exact ⟨⟨k + 1, q + 1, by omega, by omega, by go_num, by go_num, HN2, HN.out _⟩, by simp [intOf]; omega⟩
      · have h2' : (p1 == nm) = false := by simpa using h2
        have HN2 : Hid (q = cntO (opts.take (k + 1)) nm) := by show _ = _; rw [HS.out, if_neg h2, HQ.out]; rfl
        clear h2
        go_wp2_with (go_quiet (fail))
        exact ⟨⟨k + 1, q, by omega, by omega, by go_num, rfl, HN2, HN.out _⟩, by simp [intOf]; omega⟩
    · have HN : Hid (q = cntO opts nm) := by
        have := HQ.out
        rw [List.take_of_length_le (by omega)] at this
        exact this
      go_wp2
      go_ret
      exact ⟨by rw [HN.out]; rfl, HB.out⟩
set_option maxRecDepth 100000 in
set_option maxHeartbeats 1000000 in
theorem gHas (opts : List Ga.Opt) (nm : List UInt8) (a : Option Addr) (c : Nat) (w : World) (hO : Opts w a opts) (hl : opts.length < 2 ^ 63) :
    Calls Try.prog 19 #[.slice a opts.length c, .string ⟨nm.toArray⟩] w fun e w' => e = .returned (.bool (decide (((cntO opts nm : Nat) : Int) > 0))) ∧ Below w.heap.size w w' := by
  have HQ : Hid (Calls Try.prog 18 #[.slice a opts.length c, .string ⟨nm.toArray⟩] w fun e w' => e = .returned (.int .i64 (cntO opts nm)) ∧ Below w.heap.size w w') := gCount opts nm a c w hO hl
  clear hO
  generalize cntO opts nm = n at *
  go_enter Try.func19, Try.ntmps19
  go_wp2_with (go_at_call 18; refine HQ.out.mono ?_; rintro e w1 ⟨rfl, hB⟩; have HB : Hid (Below w.heap.size w w1) := hB; clear hB)
  go_ret
  exact ⟨ret_bool (by simp), HB.out⟩
set_option maxRecDepth 100000 in
set_option maxHeartbeats 1000000 in
theorem rLast (opts : List Ga.Opt) (nm : List UInt8) (a : Option Addr) (c : Nat) (w : World) (hO : Opts w a opts) (hl : opts.length < 2 ^ 63) :
    Calls Try.prog 16 #[.slice a opts.length c, .string ⟨nm.toArray⟩] w fun e w' => e = .returned (lstV (lstO opts nm opts.length)) ∧ w' = w := by
  have HO : Hid (Opts w a opts) := hO
  clear hO
  go_enter Try.func16, Try.ntmps16
  go_wp2
  go_loopw [6] (fun i V => ∃ k : Nat, k ≤ opts.length ∧ i = .int .i64 ((k : Int) - 1) ∧ V = w ∧ Hid (lstO opts nm k = lstO opts nm opts.length)) (fun i _ => (intOf i + 1).toNat)
  case atStart => exact ⟨opts.length, Nat.le_refl _, by go_num, rfl, rfl⟩
  case round =>
    obtain ⟨k, hk, rfl, hV, HE⟩ := hrel
    subst hV
    cases k with
    | zero =>
      go_wp2
      go_ret2
      exact ⟨by rw [← HE.out]; rfl, rfl⟩
    | succ j =>
      have hlt : j < opts.length := by omega
      obtain ⟨bk, o, ha, hb, hc1, hc2⟩ := HO.out j opts[j] (List.getElem?_eq_getElem hlt)
      have HS : Hid (lstO opts nm (j + 1) = if opts[j].1 = nm then some opts[j].2 else lstO opts nm j) := lst_step opts nm j hlt
      have hj : (((j + 1 : Nat) : Int) - 1) = (j : Int) := by omega
      rw [hj] at *
      subst ha
      generalize opts[j] = p at *
      obtain ⟨p1, p2⟩ := p
      dsimp only at hc1 hc2 HS
      by_cases h2 : p1 = nm
      · have h2' : (p1 == nm) = true := by simpa using h2
        have HN : Hid (lstO opts nm opts.length = some p2) := by show _ = _; rw [← HE.out, HS.out, if_pos h2]
        clear h2
        go_wp2_with (go_quiet (fail))
        go_ret2
        exact ⟨by rw [HN.out]; rfl, rfl⟩
      · have h2' : (p1 == nm) = false := by simpa using h2
        have HN : Hid (lstO opts nm j = lstO opts nm opts.length) := by show _ = _; rw [← HE.out, HS.out, if_neg h2]
        clear h2
        go_wp2_with (go_quiet (fail))
        exact ⟨⟨j, by omega, by go_num, by first | rfl | trivial, HN⟩, by first | (simp [intOf]; omega) | simp [intOf]⟩
end Go.Proofs.Ytgbkgfmljcfhoaa
