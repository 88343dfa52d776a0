/- The walks of the program's Usage and of Says, both sides. Conditions: lengths that fit. -/
import Derived.Test.YtgbkgfmljcfhoaaGs1
namespace Go.Proofs.Ytgbkgfmljcfhoaa
open Go.RowKit
attribute [local go_sem] ext_eq app_eq get_eq
theorem enc_low (c : UInt8) (h : c.toNat < 128) : Utf8.encode (c.toNat : Int) = ⟨#[c]⟩ := by
  have hv : Utf8.valid (c.toNat : Int) = true := by simp [Utf8.valid]; omega
  unfold Utf8.encode
  simp [hv, h]
def pc (c : UInt8) : List UInt8 := [91, 45] ++ [c] ++ [32, 97, 114, 103, 93]
def parts0 (al : List UInt8) : List (List UInt8) := if al = [] then [] else [[91, 45] ++ al ++ [93]]
theorem join_pc (x : List UInt8) (tk : List UInt8) : Lib.join (x :: tk.map pc) [32] = x ++ wth tk := by
  rw [Lib.join_cons, Lib.joinTail]
  congr 1
  induction tk with
  | nil => rfl
  | cons c r ih => simp [wth, pc] at *; exact ih
theorem join_parts (al tk : List UInt8) : Lib.join (parts0 al ++ tk.map pc) [32] = usg al tk := by
  unfold parts0 usg
  by_cases h : al = []
  · rw [if_pos h, if_neg (by simp [h]), List.nil_append]
    cases tk with
    | nil => rfl
    | cons c r =>
      rw [List.map_cons, join_pc]
      simp [wth, pc]
  · rw [if_neg h, if_pos h, List.cons_append, List.nil_append, join_pc]
theorem usg_len (al tk : List UInt8) (ha : al.length ≤ 256) (ht : tk.length ≤ 256) : (usg al tk).length ≤ 3000 := by
  have := wth_len tk
  unfold usg
  split
  · simp; omega
  · simp; omega
theorem sJoin (xs : List (List UInt8)) (a : Option Addr) (c : Nat) (w : World) (hS : Strs w a xs) (hn : xs.length ≤ 2 ^ 40) (hc : xs.length ≤ c) (hj : (Lib.join xs [32]).length ≤ 2 ^ 40) :
    Calls Try.prog 34 #[.slice a xs.length c, .string ⟨#[32]⟩] w fun e w' => e = .returned (.string ⟨(Lib.join xs [32]).toArray⟩) ∧ Below w.heap.size w w' := by
  cases xs with
  | nil => exact (Try.strings_Join_none a c ⟨#[32]⟩ w).mono fun e w' h => ⟨h.1, h.2 ▸ Below.refl _ _⟩
  | cons x r =>
    obtain ⟨bk, o, rfl, hlt, _⟩ := hS 0 x rfl
    have e1 : Lib.join (((x :: r).map (fun l : List UInt8 => (⟨l.toArray⟩ : ByteArray))).map (·.data.toList)) [32] = Lib.join (x :: r) [32] := by
      rw [List.map_map]; congr 1; exact List.map_id' _
    have h := Try.strings_Join bk o c ((x :: r).map (fun l : List UInt8 => (⟨l.toArray⟩ : ByteArray))) ⟨#[32]⟩ w (by
      intro j u hu
      rw [List.getElem?_map] at hu
      obtain ⟨z, hz, rfl⟩ := Option.map_eq_some_iff.1 hu
      obtain ⟨bk', o', he, _, hcell⟩ := hS j z hz
      cases he
      exact hcell) hlt (by rw [List.length_map]; omega) (by rw [List.length_map]; exact hc) (by rw [show (⟨#[(32 : UInt8)]⟩ : ByteArray).data.toList = [32] from rfl, e1]; omega)
    rw [List.length_map, show (⟨#[(32 : UInt8)]⟩ : ByteArray).data.toList = [32] from rfl, e1] at h
    exact h
def saysT (ap nm : List UInt8) (ms : Bool) : List UInt8 := ap ++ (if ms then [58, 32, 111, 112, 116, 105, 111, 110, 32, 114, 101, 113, 117, 105, 114, 101, 115, 32, 97, 110, 32, 97, 114, 103, 117, 109, 101, 110, 116, 32, 45, 45, 32, 39] else [58, 32, 105, 110, 118, 97, 108, 105, 100, 32, 111, 112, 116, 105, 111, 110, 32, 45, 45, 32, 39]) ++ nm ++ [39]
set_option maxRecDepth 100000 in
set_option maxHeartbeats 1000000 in
theorem gSays (ap nm : List UInt8) (ms : Bool) (w : World) (ha : ap.length ≤ 2 ^ 48) (hn : nm.length ≤ 2 ^ 48) : Calls Try.prog 24 #[.string ⟨ap.toArray⟩, .agg #[.string ⟨nm.toArray⟩, .bool ms]] w fun e w' => e = .returned (.string ⟨(saysT ap nm ms).toArray⟩) ∧ Below w.heap.size w w' := by
  have HB : Hid (∀ o, Below w.heap.size w (w.alloc o)) := fun o => (Below.refl _ _).alloc (Nat.le_refl _) o
  cases ms
  all_goals
    go_enter Try.func24, Try.ntmps24
    go_wp2
    go_ret
    exact ⟨ret_str (by simp [saysT]), HB.out _⟩
set_option maxRecDepth 100000 in
set_option maxHeartbeats 1000000 in
theorem rSays (ap nm : List UInt8) (ms : Bool) (w : World) (ha : ap.length ≤ 2 ^ 48) (hn : nm.length ≤ 2 ^ 48) : Calls Try.prog 25 #[.string ⟨ap.toArray⟩, .agg #[.string ⟨nm.toArray⟩, .bool ms]] w fun e w' => e = .returned (.string ⟨(saysT ap nm ms).toArray⟩) ∧ Below w.heap.size w w' := by
  have HB : Hid (∀ o, Below w.heap.size w (w.alloc o)) := fun o => (Below.refl _ _).alloc (Nat.le_refl _) o
  cases ms
  all_goals
    go_enter Try.func25, Try.ntmps25
    go_wp2
    go_ret
    exact ⟨ret_str (by simp [saysT]), HB.out _⟩
theorem cell_new1 (w : World) (x : Value) (t : TypeId) (n : Nat) (hn : w.heap.size = n) : ∀ j u, [x][j]? = some u → (w.alloc (.cells #[x] t)).cell? ((⟨n, 0, none⟩ : Addr).add j) = some u := by subst hn; exact cell_one_new w x t
/-- Usage that is being written: the letters in block lb, the range's place in block ib, the parts in a row of their own. -/
structure Us (w V : World) (B ib : Nat) (v : Value) (ps : List (List UInt8)) (tk : List UInt8) (i : Nat) : Prop where
  bel : Below B w V
  hB : B ≤ V.heap.size
  it : V.heap[ib]? = some (.stringIter ⟨tk.toArray⟩ i)
  iB : B ≤ ib
  own : V.ownsRow B 9 1 v ps.length (ps.map sv)
  ne : v.ownBlock ≠ some ib
theorem Us.next {w V : World} {B ib : Nat} {v : Value} {ps : List (List UInt8)} {tk : List UInt8} {i : Nat} (h : Us w V B ib v ps tk i) (k : Nat) : Us w (V.iterAt ib ⟨tk.toArray⟩ k) B ib v ps tk k :=
  ⟨Lib.below_iterAt h.bel h.iB _ _, by rw [Lib.iterAt_size]; exact h.hB, Lib.iterAt_heap _ _ _ _ _ h.it, h.iB, h.own.kept (grown_iterAt _ _ _ _) (.inr h.ne), h.ne⟩
theorem Us.push {w V : World} {B ib : Nat} {v : Value} {ps : List (List UInt8)} {tk : List UInt8} {i : Nat} (h : Us w V B ib v ps tk i) {o : Obj} {v' : Value} {w1 : World} (x : List UInt8) (hown : w1.ownsRow B 9 1 v' (ps.length + 1) (ps.map sv ++ [.string ⟨x.toArray⟩])) (hg : (V.alloc o).grownBy w1 v.ownBlock) (hat : v'.ownBlock = v.ownBlock ∨ v'.ownBlock = some (V.alloc o).heap.size) : Us w w1 B ib v' (ps ++ [x]) tk i := by
  have hlt := iter_lt h.it
  have hs := hg.size
  simp at hs
  refine ⟨(h.bel.alloc h.hB _).grown hg (by have := h.hB; simp; omega) (fun k hk => (h.own.lt k hk).1), by have := h.hB; omega, ?_, h.iB, ?_, ?_⟩
  · rw [hg.block ib (by simp; omega) (fun e => h.ne e.symm), Below.heap_alloc _ _ _ hlt]; exact h.it
  · rw [List.map_append, List.length_append]; exact hown
  · rcases hat with e | e
    · rw [e]; exact h.ne
    · rw [e]; intro e2; have := Option.some.inj e2; simp at this; omega
set_option maxRecDepth 100000 in
set_option maxHeartbeats 4000000 in
theorem gUsage (spec : List UInt8) (w : World) (hs : spec.length ≤ 2 ^ 47) : Calls Try.prog 22 #[.string ⟨spec.toArray⟩] w fun e W => e = .returned (.tuple #[.string ⟨(useT (useR spec)).toArray⟩, .int .i64 (useC (useR spec))]) ∧ Below w.heap.size w W := by
  obtain ⟨i0, hi, hz0, hz1, hz2⟩ := infoS
  have HRd : Hid (∀ W, Calls Try.prog 26 #[.string ⟨spec.toArray⟩] W fun e w' => e = .returned (.tuple #[rdV (Ga.plus spec) (Ga.bare spec), .bool (Ga.specB (Ga.bare spec))]) ∧ Below W.heap.size W w') := fun W => gRead spec W hs
  cases hsp : Ga.specB (Ga.bare spec) with
  | false =>
    rw [hsp, rdV_no hsp] at HRd
    have HX : Hid (useR spec = none) := by show _ = _; rw [useR, hsp]; rfl
    generalize useR spec = R at *
    clear hsp
    go_enter Try.func22, Try.ntmps22
    go_wp2_with fail
    refine (HRd.out _).mono ?_
    rintro e w1 ⟨rfl, hB1⟩
    have HB : Hid (Below w.heap.size w w1) := hB1
    clear hB1
    go_wp2
    go_ret2
    exact ⟨by rw [HX.out]; rfl, HB.out.alloc HB.out.size _⟩
  | true =>
    rw [hsp, rdV_ok hsp] at HRd
    have HX : Hid (useR spec = some (usg (Ga.alP (Ga.bare spec) (Ga.bare spec).length) (Ga.tkP (Ga.bare spec) (Ga.bare spec).length))) := by show _ = _; rw [useR, if_pos hsp]
    have hla := bytes_le _ (al_nodup hsp (Ga.bare spec).length)
    have hlt := bytes_le _ (tk_nodup hsp (Ga.bare spec).length)
    have hlow0 := low_of _ hsp
    have hlow : ∀ x ∈ Ga.tkP (Ga.bare spec) (Ga.bare spec).length, x.toNat < 128 := fun x hx => hlow0 x (by
      unfold Ga.knd
      split
      · simp
      · rename_i hna; simp)
    clear hlow0
    generalize Ga.alP (Ga.bare spec) (Ga.bare spec).length = al at *
    generalize Ga.tkP (Ga.bare spec) (Ga.bare spec).length = tk at *
    generalize Ga.plus spec = st at *
    generalize useR spec = R at *
    have HLO : Hid (∀ x ∈ tk, x.toNat < 128) := hlow
    have HUL : Hid ((usg al tk).length ≤ 3000) := usg_len al tk hla hlt
    clear hsp hlow
    go_enter Try.func22, Try.ntmps22
    go_wp2_with fail
    refine (HRd.out _).mono ?_
    rintro e w1 ⟨rfl, hB1⟩
    have hsz : w.heap.size ≤ w1.heap.size := hB1.size
    have HB : Hid (Below w.heap.size w w1) := hB1
    clear hB1
    by_cases ha : al = []
    · subst ha
      have HS0 : Hid (Us w ((w1.alloc (.cells #[.bool st, .string ⟨#[]⟩, .string ⟨tk.toArray⟩] 53)).iter ⟨tk.toArray⟩ 0) w.heap.size (w1.heap.size + 1) (.slice none 0 0) (parts0 [] ++ (tk.take 0).map pc) tk 0) := by
        refine ⟨(HB.out.alloc hsz _).alloc (by simp; omega) _, by simp [World.iter]; omega, ?_, by omega, World.ownsRow_nil _ _ _ _, by simp [Value.ownBlock]⟩
        have := World.iter_heap (w1.alloc (.cells #[.bool st, .string ⟨#[]⟩, .string ⟨tk.toArray⟩] 53)) ⟨tk.toArray⟩ 0
        simpa using this
      go_wp2_with fail
      go_loopw [6] (fun v V => ∃ i : Nat, i ≤ tk.length ∧ Hid (Us w V w.heap.size (w1.heap.size + 1) v (parts0 [] ++ (tk.take i).map pc) tk i)) (fun _ V => tk.length - itPos V (w1.heap.size + 1))
      case atStart => exact ⟨0, Nat.zero_le _, HS0⟩
      case round =>
        obtain ⟨i, hil, HU⟩ := hrel
        have HM : Hid (itPos wr (w1.heap.size + 1) = i) := itPos_eq HU.out.it
        by_cases hlt2 : i < tk.length
        · have hcl : tk[i].toNat < 128 := HLO.out _ (List.getElem_mem hlt2)
          have hnx : ∀ ty, (Instr.next (.pointer (some ⟨w1.heap.size + 1, 0, none⟩)) true ty).run Try.prog wr = .ok (.tuple #[.bool true, .int .i64 i, .int .i32 tk[i].toNat]) (wr.iterAt (w1.heap.size + 1) ⟨tk.toArray⟩ (i + 1)) := fun ty => Lib.run_next_ascii_at wr _ _ i ty HU.out.it (by rw [str_size]; exact hlt2) hcl
          have HU1 : Hid (Us w (wr.iterAt (w1.heap.size + 1) ⟨tk.toArray⟩ (i + 1)) w.heap.size (w1.heap.size + 1) u6 (parts0 [] ++ (tk.take i).map pc) tk (i + 1)) := HU.out.next _
          generalize wr.iterAt (w1.heap.size + 1) ⟨tk.toArray⟩ (i + 1) = W1 at *
          have hen : Utf8.encode (tk[i].toNat : Int) = ⟨#[tk[i]]⟩ := enc_low _ hcl
          have HTS : Hid ((tk.take (i + 1)).map pc = (tk.take i).map pc ++ [pc tk[i]]) := by show _ = _; rw [take_get tk i hlt2, List.map_append]; rfl
          have HPL : Hid ((parts0 [] ++ (tk.take i).map pc).length ≤ 257) := by show _ ≤ _; unfold parts0; split <;> simp <;> omega
          have hbs : w.heap.size ≤ W1.heap.size := HU1.out.hB
          clear HU
          go_wp2_with (at_builtin; refine wpList_append_own_at _ rfl _ _ 22 rfl w.heap.size 9 i0 (.string ⟨#[]⟩) 1 16 Try.underlying22 hi hz0 hz1 hz2 rfl (by decide) _ _ _ rfl (HU1.out.own.alloc _) ⟨W1.heap.size, 0, none⟩ 1 1 [.string ⟨(pc tk[i]).toArray⟩] rfl rfl (cell_one_new _ _ _) (one_cell (pc tk[i])) (by have h := HPL.out; unfold maxLen; omega) (by have h := HPL.out; omega) (by simp; omega) ?_; intro v5 w5 hown hg _ hat; have HU5 : Hid (Us w w5 w.heap.size (w1.heap.size + 1) v5 (parts0 [] ++ (tk.take i).map pc ++ [pc tk[i]]) tk (i + 1)) := HU1.out.push (pc tk[i]) hown hg hat; clear hown hg hat)
          have h5 := HU5.out
          rw [List.append_assoc, ← HTS.out] at h5
          exact ⟨⟨i + 1, by omega, h5⟩, by rw [HM.out, itPos_eq h5.it]; omega⟩
        · have hnx : ∀ ty, (Instr.next (.pointer (some ⟨w1.heap.size + 1, 0, none⟩)) true ty).run Try.prog wr = .ok (.tuple #[.bool false]) wr := fun ty => Lib.run_next_end_at wr _ _ i ty HU.out.it (by rw [str_size]; exact hlt2)
          obtain ⟨hn0, pa, pcp, hv, hc0, _, hS0, _⟩ := own_strs HU.out.own
          rw [List.take_of_length_le (by omega)] at hv hc0 hS0
          have HS0 : Hid (Strs wr pa (parts0 [] ++ tk.map pc)) := hS0
          have HPL : Hid ((parts0 [] ++ tk.map pc).length ≤ 2 ^ 40) := by show _ ≤ _; unfold parts0; split <;> simp <;> omega
          have HJ : Hid (Calls Try.prog 34 #[.slice pa (parts0 [] ++ tk.map pc).length pcp, .string ⟨#[32]⟩] wr fun e w' => e = .returned (.string ⟨(usg [] tk).toArray⟩) ∧ Below wr.heap.size wr w') := by
            have := sJoin (parts0 [] ++ tk.map pc) pa pcp wr HS0.out HPL.out hc0 (by rw [join_parts]; exact Nat.le_trans HUL.out (by decide))
            rw [join_parts] at this
            exact this
          have HBV : Hid (Below w.heap.size w wr) := HU.out.bel
          subst hv
          clear hn0 hc0 hS0
          generalize (parts0 [] ++ tk.map pc).length = pn at *
          go_wp2_with (go_at_call 34; refine HJ.out.mono ?_; rintro e w7 ⟨rfl, hB7⟩; have HB7 : Hid (Below w.heap.size w w7) := HBV.out.trans (hB7.mono HBV.out.size); clear hB7)
          go_ret2
          exact ⟨by rw [HX.out]; rfl, HB7.out⟩
    · have ha' : (al == []) = false := by simpa using ha
      have ha2 : al.isEmpty = false := by simpa using ha
      have HPA : Hid (parts0 al = [[91, 45] ++ al ++ [93]]) := by show _ = _; rw [parts0, if_neg ha]
      clear ha
      have HO0 : Hid ((w1.alloc (.cells #[.bool st, .string ⟨al.toArray⟩, .string ⟨tk.toArray⟩] 53)).ownsRow w.heap.size 9 1 (.slice none 0 0) 0 []) := World.ownsRow_nil _ _ _ _
      have HC2 : Hid (∀ V, Below (w1.heap.size + 1) (w1.alloc (.cells #[.bool st, .string ⟨al.toArray⟩, .string ⟨tk.toArray⟩] 53)) V → V.cell? ⟨w1.heap.size, 2, none⟩ = some (.string ⟨tk.toArray⟩) ∧ Below w.heap.size w V) := fun V hV => ⟨(hV.cell (p := ⟨w1.heap.size, 2, none⟩) (by simp)).trans (World.cell?_alloc_at _ _ _ _ rfl), (HB.out.alloc hsz _).trans (hV.mono (by omega))⟩
      go_wp2_with (at_builtin; go_must (refine wpList_append_own_at _ rfl _ _ 22 rfl w.heap.size 9 i0 (.string ⟨#[]⟩) 1 16 Try.underlying22 hi hz0 hz1 hz2 rfl (by decide) _ _ _ rfl (HO0.out.alloc _) ⟨w1.heap.size + 1, 0, none⟩ 1 1 [.string ⟨([91, 45] ++ al ++ [93]).toArray⟩] rfl rfl (cell_new1 _ _ _ _ (by simp)) (one_cell ([91, 45] ++ al ++ [93])) (by unfold maxLen; omega) (by omega) (by simp; omega) ?_); intro v3 w3 hown hg _ hat; have hz3 := hg.size; simp only [World.size_alloc] at hz3; have hB3 : Below (w1.heap.size + 1) (w1.alloc (.cells #[.bool st, .string ⟨al.toArray⟩, .string ⟨tk.toArray⟩] 53)) w3 := ((Below.refl _ _).alloc (by simp) _).grown hg (by simp <;> omega) (fun k hk => by change Value.ownBlock (.slice none 0 0) = some k at hk; cases hk); have c2' := (HC2.out _ hB3).1; have HB3 : Hid (Below w.heap.size w w3) := (HC2.out _ hB3).2; have HO3 : Hid (w3.ownsRow w.heap.size 9 1 v3 1 [.string ⟨([91, 45] ++ al ++ [93]).toArray⟩]) := hown; clear hown hg hat hB3)
      have hw3l : w1.heap.size < w3.heap.size := by omega
      have HS0 : Hid (Us w (w3.iter ⟨tk.toArray⟩ 0) w.heap.size w3.heap.size v3 (parts0 al ++ (tk.take 0).map pc) tk 0) := by
        refine ⟨HB3.out.alloc (by omega) _, by rw [World.iter, World.size_alloc]; omega, World.iter_heap _ _ _, by omega, ?_, fun e => by have := (HO3.out.lt _ e).2; omega⟩
        rw [HPA.out]
        exact HO3.out.alloc _
      go_wp2_with fail
      go_loopw [6] (fun v V => ∃ i : Nat, i ≤ tk.length ∧ Hid (Us w V w.heap.size (w3.heap.size) v (parts0 al ++ (tk.take i).map pc) tk i)) (fun _ V => tk.length - itPos V (w3.heap.size))
      case atStart => exact ⟨0, Nat.zero_le _, HS0⟩
      case round =>
        obtain ⟨i, hil, HU⟩ := hrel
        have HM : Hid (itPos wr (w3.heap.size) = i) := itPos_eq HU.out.it
        by_cases hlt2 : i < tk.length
        · have hcl : tk[i].toNat < 128 := HLO.out _ (List.getElem_mem hlt2)
          have hnx : ∀ ty, (Instr.next (.pointer (some ⟨w3.heap.size, 0, none⟩)) true ty).run Try.prog wr = .ok (.tuple #[.bool true, .int .i64 i, .int .i32 tk[i].toNat]) (wr.iterAt (w3.heap.size) ⟨tk.toArray⟩ (i + 1)) := fun ty => Lib.run_next_ascii_at wr _ _ i ty HU.out.it (by rw [str_size]; exact hlt2) hcl
          have HU1 : Hid (Us w (wr.iterAt (w3.heap.size) ⟨tk.toArray⟩ (i + 1)) w.heap.size (w3.heap.size) u6 (parts0 al ++ (tk.take i).map pc) tk (i + 1)) := HU.out.next _
          generalize wr.iterAt (w3.heap.size) ⟨tk.toArray⟩ (i + 1) = W1 at *
          have hen : Utf8.encode (tk[i].toNat : Int) = ⟨#[tk[i]]⟩ := enc_low _ hcl
          have HTS : Hid ((tk.take (i + 1)).map pc = (tk.take i).map pc ++ [pc tk[i]]) := by show _ = _; rw [take_get tk i hlt2, List.map_append]; rfl
          have HPL : Hid ((parts0 al ++ (tk.take i).map pc).length ≤ 257) := by show _ ≤ _; unfold parts0; split <;> simp <;> omega
          have hbs : w.heap.size ≤ W1.heap.size := HU1.out.hB
          clear HU
          go_wp2_with (at_builtin; refine wpList_append_own_at _ rfl _ _ 22 rfl w.heap.size 9 i0 (.string ⟨#[]⟩) 1 16 Try.underlying22 hi hz0 hz1 hz2 rfl (by decide) _ _ _ rfl (HU1.out.own.alloc _) ⟨W1.heap.size, 0, none⟩ 1 1 [.string ⟨(pc tk[i]).toArray⟩] rfl rfl (cell_one_new _ _ _) (one_cell (pc tk[i])) (by have h := HPL.out; unfold maxLen; omega) (by have h := HPL.out; omega) (by simp; omega) ?_; intro v5 w5 hown hg _ hat; have HU5 : Hid (Us w w5 w.heap.size (w3.heap.size) v5 (parts0 al ++ (tk.take i).map pc ++ [pc tk[i]]) tk (i + 1)) := HU1.out.push (pc tk[i]) hown hg hat; clear hown hg hat)
          have h5 := HU5.out
          rw [List.append_assoc, ← HTS.out] at h5
          exact ⟨⟨i + 1, by omega, h5⟩, by rw [HM.out, itPos_eq h5.it]; omega⟩
        · have hnx : ∀ ty, (Instr.next (.pointer (some ⟨w3.heap.size, 0, none⟩)) true ty).run Try.prog wr = .ok (.tuple #[.bool false]) wr := fun ty => Lib.run_next_end_at wr _ _ i ty HU.out.it (by rw [str_size]; exact hlt2)
          obtain ⟨hn0, pa, pcp, hv, hc0, _, hS0, _⟩ := own_strs HU.out.own
          rw [List.take_of_length_le (by omega)] at hv hc0 hS0
          have HS0 : Hid (Strs wr pa (parts0 al ++ tk.map pc)) := hS0
          have HPL : Hid ((parts0 al ++ tk.map pc).length ≤ 2 ^ 40) := by show _ ≤ _; unfold parts0; split <;> simp <;> omega
          have HJ : Hid (Calls Try.prog 34 #[.slice pa (parts0 al ++ tk.map pc).length pcp, .string ⟨#[32]⟩] wr fun e w' => e = .returned (.string ⟨(usg al tk).toArray⟩) ∧ Below wr.heap.size wr w') := by
            have := sJoin (parts0 al ++ tk.map pc) pa pcp wr HS0.out HPL.out hc0 (by rw [join_parts]; exact Nat.le_trans HUL.out (by decide))
            rw [join_parts] at this
            exact this
          have HBV : Hid (Below w.heap.size w wr) := HU.out.bel
          subst hv
          clear hn0 hc0 hS0
          generalize (parts0 al ++ tk.map pc).length = pn at *
          go_wp2_with (go_at_call 34; refine HJ.out.mono ?_; rintro e w7 ⟨rfl, hB7⟩; have HB7 : Hid (Below w.heap.size w w7) := HBV.out.trans (hB7.mono HBV.out.size); clear hB7)
          go_ret2
          exact ⟨by rw [HX.out]; rfl, HB7.out⟩
end Go.Proofs.Ytgbkgfmljcfhoaa
