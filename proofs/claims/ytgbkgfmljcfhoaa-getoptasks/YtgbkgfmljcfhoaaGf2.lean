/- The iterator over options backwards. Conditions: the options' cells are as said; a length that fits. -/
import Derived.Test.YtgbkgfmljcfhoaaGf1
import Derived.Test.YtgbkgfmljcfhoaaDq
namespace Go.Proofs.Ytgbkgfmljcfhoaa
open Go.RowKit Go.Shelf
theorem cell_cells9 {W : World} {a : Addr} {v : Value} (h : W.cell? a = some v) : ∃ o, W.heap[a.block]? = some o ∧ o.isCells = true := by
  unfold World.cell? at h
  split at h
  · rename_i e; exact ⟨_, e, rfl⟩
  · exact absurd h (by simp)
theorem KC.cell9 {own : Nat → Prop} {W W' : World} (h : KC own W W') {a : Addr} {v : Value} (hc : W.cell? a = some v) (hn : ¬ own a.block) : W'.cell? a = some v := by
  obtain ⟨o, ho, hi⟩ := cell_cells9 hc
  rw [World.cell?_of_block (w := W) (a := a) ((h.2 _ o ho hi hn).trans ho.symm)]; exact hc
theorem Opts.keep {W W' : World} {a : Option Addr} {xs : List Ga.Opt} (h : Opts W a xs) (k : KC (fun _ => False) W W') : Opts W' a xs := by
  intro j x hx
  obtain ⟨bk, o, rfl, hlt, h1, h2⟩ := h j x hx
  exact ⟨bk, o, rfl, Nat.lt_of_lt_of_le hlt k.1, k.cell9 h1 (fun h => h), k.cell9 h2 (fun h => h)⟩
/-- What the iterator hands over at place k. -/
def encO (opts : List Ga.Opt) (k : Nat) : Array Value := #[.int .i64 k, .agg #[.string ⟨((opts[k]?.getD ([], [])).1).toArray⟩, .string ⟨((opts[k]?.getD ([], [])).2).toArray⟩]]
/-- What the iterator reads. -/
structure BkAt (W : World) (Bn : Nat) (a : Option Addr) (c : Nat) (opts : List Ga.Opt) : Prop where
  bn : W.cell? ⟨Bn, 0, none⟩ = some (.slice a opts.length c)
  os : Opts W a opts
theorem BkAt.keep {W W' : World} {Bn : Nat} {a : Option Addr} {c : Nat} {opts : List Ga.Opt} (h : BkAt W Bn a c opts) (k : KC (fun _ => False) W W') : BkAt W' Bn a c opts := ⟨k.cell9 h.bn (fun h => h), h.os.keep k⟩
/-- The j places from the last one down. -/
def dn (n j : Nat) : List Nat := (List.range j).map (fun i => n - 1 - i)
theorem dn_succ (n j : Nat) : dn n (j + 1) = dn n j ++ [n - 1 - j] := by simp [dn, List.range_succ]
theorem dn_pre {n i j : Nat} (h : i ≤ j) : dn n i <+: dn n j := by
  obtain ⟨d, rfl⟩ : ∃ d, j = i + d := ⟨j - i, by omega⟩
  unfold dn
  rw [List.range_add, List.map_append]
  exact List.prefix_append _ _
theorem dn_next {n j : Nat} (h : j < n) : dn n (n - (j + 1)) ++ [j] = dn n (n - j) := by
  rw [show n - j = n - (j + 1) + 1 by omega, dn_succ, show n - 1 - (n - (j + 1)) = j by omega]
set_option maxRecDepth 100000 in
set_option maxHeartbeats 1000000 in
theorem backward9 (a : Option Addr) (n c : Nat) (w : World) : Calls Try.prog 33 #[.slice a n c] w fun e w' => e = .returned (.func (.func 43) #[] #[.pointer (some ⟨w.heap.size, 0, none⟩)]) ∧ w' = w.alloc (.cells #[.slice a n c] 23) := by
  have hmf : ∀ (fn : Fn) (first cap : Array Value) (w : World), (Instr.makeFunc fn first cap).run Try.prog w = .ok (.func fn first cap) w := fun _ _ _ _ => rfl
  go_enter Try.func33, Try.ntmps33
  go_wp2
  go_ret
  exact ⟨rfl, rfl⟩
set_option maxRecDepth 100000 in
set_option maxHeartbeats 1000000 in
theorem back9 (opts : List Ga.Opt) (Bn : Nat) (a : Option Addr) (c : Nat) (w : World) (hl : opts.length < 2 ^ 63) (hS0 : BkAt w Bn a c opts) :
    SeqA Try.prog 43 #[.pointer (some ⟨Bn, 0, none⟩)] (encO opts) (fun _ => False) (dn opts.length opts.length) w := fun l J Jx W hW hJ _ hY h0 => by
  have hS : BkAt W Bn a c opts := hS0.keep (KC.of_below hW)
  refine callsIn_of_wp Try.func43 rfl trivial ?_ rfl
  simp only [Try.ntmps43, List.size_toArray, List.length_cons, List.length_nil, Nat.reduceAdd, Nat.reduceSub, Array.replicate_succ, Array.replicate_zero, List.push_toArray, List.append_toArray, List.nil_append, List.cons_append]
  have hb := hS.bn
  have HS : Hid (BkAt W Bn a c opts) := hS
  have HJ0 : Hid (J [] W) := h0
  have HY := (show Hid (∀ pre x W1, J pre W1 → pre ++ [x] <+: dn opts.length opts.length → YieldAt Fence.wide 9 Try.prog l (encO opts x) W1 fun e W' => (e = .returned (.bool true) ∧ J (pre ++ [x]) W' ∧ KC (fun _ => False) W1 W' ∧ KeepsFrom W.heap.size W1 W') ∨ (e = .returned (.bool false) ∧ Jx (pre ++ [x]) W' ∧ KeepsFrom W.heap.size W1 W')) from hY)
  clear hS h0 hY hJ hS0 hW
  gi_wp2
  gi_loopw [3] (fun x wx => ∃ k : Nat, k ≤ opts.length ∧ x = .int .i64 ((k : Int) - 1) ∧ Hid (BkAt wx Bn a c opts) ∧ Hid (J (dn opts.length (opts.length - k)) wx)) (fun x _ => (intOf x + 1).toNat)
  case atStart => exact ⟨opts.length, Nat.le_refl _, by go_num, HS, by show J _ _; rw [Nat.sub_self]; exact HJ0.out⟩
  case round =>
    obtain ⟨k, hk, rfl, HSr, HJr⟩ := hrel
    cases k with
    | zero =>
      gi_wp2
      go_end0
      exact ⟨⟨_, rfl⟩, .inl (by have := HJr.out; rwa [Nat.sub_zero] at this)⟩
    | succ j =>
      have hlt : j < opts.length := by omega
      obtain ⟨bk, o, ha, hbk, hc1, hc2⟩ := HSr.out.os j opts[j] (List.getElem?_eq_getElem hlt)
      have hb' := HSr.out.bn
      have hj : (((j + 1 : Nat) : Int) - 1) = (j : Int) := by omega
      rw [hj] at *
      have hD := dn_next hlt
      obtain ⟨fn, tmps, assign, body, hy, hR⟩ := HY.out (dn opts.length (opts.length - (j + 1))) j wr HJr.out (by rw [hD]; exact dn_pre (by omega))
      have HD : Hid (dn opts.length (opts.length - (j + 1)) ++ [j] = dn opts.length (opts.length - j)) := hD
      unfold encO at hy
      rw [List.getElem?_eq_getElem hlt, Option.getD_some] at hy
      clear hD
      subst ha
      generalize opts[j] = p at *
      obtain ⟨p1, p2⟩ := p
      dsimp only at hc1 hc2 hy
      gi_wp2
      refine (roundIn_wide hR).mono ?_
      rintro e W3 (⟨rfl, hJ3, hk3, -⟩ | ⟨rfl, hJx3, -⟩)
      · have HS3 : Hid (BkAt W3 Bn (some ⟨bk, o, none⟩) c opts) := HSr.out.keep hk3
        have HJ3 : Hid (J (dn opts.length (opts.length - j)) W3) := by show J _ _; rw [← HD.out]; exact hJ3
        clear hJ3 hk3
        gi_wp2
        exact ⟨⟨j, by omega, by go_num, HS3, HJ3⟩, by first | (simp [intOf]; omega) | simp [intOf]⟩
      · gi_wp2
        refine bodyPost_ret (results_none rfl _ _ _) rfl ?_
        refine ⟨⟨_, rfl⟩, .inr ⟨_, ?_, hJx3⟩⟩
        rw [HD.out]
        exact dn_pre (by omega)
end Go.Proofs.Ytgbkgfmljcfhoaa
