/- Dates: the plain answer's Date, where the text's form is wrong, or the second now lies in no year. No condition. -/
import Derived.Test.YtgkjpfebjhhdkaaDoorNe7
import Derived.Test.YtgkjpfebjhhdkaaDoorNe2
import Derived.Test.YtgkjpfebjhhdkaaDoorNe6
namespace Go.Proofs.YtgkjpfebjhhdkaaDoor
open Go.RowKit
attribute [local go_sem] ext_eq app_eq get_eq
theorem core_bad {A q : List UInt8} {now : Int} (h : Na.pl 10 A = false ∨ (A.length ≠ 8 ∧ A.length ≠ 10 ∧ A.length ≠ 12)) : Core A q now (0, 22) := by
  unfold Core
  split
  · rename_i hp
    rcases h with h | ⟨h8, h10, h12⟩
    · rw [hp] at h; cases h
    · exact ⟨none, by unfold Yr; rw [if_neg h8, if_neg h10, if_neg h12], rfl⟩
  · rfl
set_option maxRecDepth 100000 in
set_option maxHeartbeats 4000000 in
theorem rDateB0 (l : List UInt8) (now : Int) (w : World) (hl : l.length ≤ 2 ^ 47) (hdot : ¬ (3 ≤ l.length ∧ l[l.length - 3]? = some 46)) (hbad : Na.pl 10 l = false ∨ (l.length ≠ 8 ∧ l.length ≠ 10 ∧ l.length ≠ 12)) :
    Calls Tryd.prog 27 #[.string ⟨l.toArray⟩, .int .i64 now] w fun e w' => (∃ v, DtR l now v ∧ e = .returned (.tuple #[.int .i64 v.1, .int .i64 v.2])) ∧ Below w.heap.size w w' := by
  have HE : Hid (DtR l now (0, 22)) := dtr_plain hdot (core_bad hbad)
  have HG := hidA (fun W => rDigits 10 (by decide) l W hl)
  have HB : Hid (∀ n, Below w.heap.size w (w.drewN n)) := fun n => bl_drew w n
  by_cases h3 : 3 ≤ l.length
  · obtain ⟨k, hk⟩ : ∃ k, l.length = k + 3 := ⟨l.length - 3, by omega⟩
    have hkl : k < l.length := by omega
    have hne : l[k] ≠ 46 := fun e => hdot ⟨h3, by rw [hk, Nat.add_sub_cancel, List.getElem?_eq_getElem hkl, e]⟩
    have hne' := byte_no l[k] 46 46 rfl hne
    have hw : IntKind.i64.wrap ((l.length : Int) - 3) = k := by rw [IntKind.wrap_i64]; omega
    have h3' : (3 : Int) ≤ l.length := by omega
    have hki : (k : Int) < l.length := by omega
    clear hne hdot hk h3
    cases hp : Na.pl 10 l with
    | false =>
      rw [hp] at HG
      clear hbad hp
      go_enter Tryd.func27, Tryd.ntmps27
      go_wp2_with (first | (go_at_call 37; refine (HG.out _).mono ?_; rintro e w1 ⟨rfl, h1⟩; rw [h1]; clear h1 w1) | go_quiet (first | (go_at_call 37; exact Calls.quiet_of_same (HG.out _)) | fail))
      go_ret2
      exact ⟨⟨(0, 22), HE.out, rfl⟩, by first | exact HB.out 0 | exact HB.out 1 | exact HB.out 2 | exact HB.out _⟩
    | true =>
      rw [hp] at HG
      obtain ⟨n8, n10, n12⟩ : l.length ≠ 8 ∧ l.length ≠ 10 ∧ l.length ≠ 12 := hbad.resolve_left (by rw [hp]; decide)
      have g8 : ((l.length : Int) == 8) = false := by simp; omega
      have g10 : ((l.length : Int) == 10) = false := by simp; omega
      have g12 : ((l.length : Int) == 12) = false := by simp; omega
      have k8 : ((l.length : Int) != 8) = true := by rw [bne, g8]; rfl
      have k10 : ((l.length : Int) != 10) = true := by rw [bne, g10]; rfl
      have k12 : ((l.length : Int) != 12) = true := by rw [bne, g12]; rfl
      clear hbad hp
      go_enter Tryd.func27, Tryd.ntmps27
      go_wp2_with (first | (go_at_call 37; refine (HG.out _).mono ?_; rintro e w1 ⟨rfl, h1⟩; rw [h1]; clear h1 w1) | go_quiet (first | (go_at_call 37; exact Calls.quiet_of_same (HG.out _)) | fail))
      go_ret2
      exact ⟨⟨(0, 22), HE.out, rfl⟩, by first | exact HB.out 0 | exact HB.out 1 | exact HB.out 2 | exact HB.out _⟩
  · have h3' : ¬ (3 : Int) ≤ l.length := by omega
    clear hdot
    cases hp : Na.pl 10 l with
    | false =>
      rw [hp] at HG
      clear hbad hp
      go_enter Tryd.func27, Tryd.ntmps27
      go_wp2_with (first | (go_at_call 37; refine (HG.out _).mono ?_; rintro e w1 ⟨rfl, h1⟩; rw [h1]; clear h1 w1) | go_quiet (first | (go_at_call 37; exact Calls.quiet_of_same (HG.out _)) | fail))
      go_ret2
      exact ⟨⟨(0, 22), HE.out, rfl⟩, by first | exact HB.out 0 | exact HB.out 1 | exact HB.out 2 | exact HB.out _⟩
    | true =>
      rw [hp] at HG
      obtain ⟨n8, n10, n12⟩ : l.length ≠ 8 ∧ l.length ≠ 10 ∧ l.length ≠ 12 := hbad.resolve_left (by rw [hp]; decide)
      have g8 : ((l.length : Int) == 8) = false := by simp; omega
      have g10 : ((l.length : Int) == 10) = false := by simp; omega
      have g12 : ((l.length : Int) == 12) = false := by simp; omega
      have k8 : ((l.length : Int) != 8) = true := by rw [bne, g8]; rfl
      have k10 : ((l.length : Int) != 10) = true := by rw [bne, g10]; rfl
      have k12 : ((l.length : Int) != 12) = true := by rw [bne, g12]; rfl
      clear hbad hp
      go_enter Tryd.func27, Tryd.ntmps27
      go_wp2_with (first | (go_at_call 37; refine (HG.out _).mono ?_; rintro e w1 ⟨rfl, h1⟩; rw [h1]; clear h1 w1) | go_quiet (first | (go_at_call 37; exact Calls.quiet_of_same (HG.out _)) | fail))
      go_ret2
      exact ⟨⟨(0, 22), HE.out, rfl⟩, by first | exact HB.out 0 | exact HB.out 1 | exact HB.out 2 | exact HB.out _⟩
end Go.Proofs.YtgkjpfebjhhdkaaDoor
namespace Go.Proofs.YtgkjpfebjhhdkaaDoor
open Go.RowKit
attribute [local go_sem] ext_eq app_eq get_eq
set_option maxRecDepth 100000 in
set_option maxHeartbeats 4000000 in
theorem rDateD0 (A : List UInt8) (a b : UInt8) (now : Int) (w : World) (hl : A.length ≤ 2 ^ 47) (hbad : Na.pl 10 [a, b] = false ∨ (Na.pl 10 A = false ∨ (A.length ≠ 8 ∧ A.length ≠ 10 ∧ A.length ≠ 12))) :
    Calls Tryd.prog 27 #[.string ⟨(A ++ 46 :: [a, b]).toArray⟩, .int .i64 now] w fun e w' => (∃ v, DtR (A ++ 46 :: [a, b]) now v ∧ e = .returned (.tuple #[.int .i64 v.1, .int .i64 v.2])) ∧ Below w.heap.size w w' := by
  have HE : Hid (DtR (A ++ 46 :: [a, b]) now (0, 22)) := dtr_dot rfl (by
    split
    · rename_i hp; exact core_bad (hbad.resolve_left (by rw [hp]; decide))
    · rfl)
  have HG := hidA (fun W => rDigits 10 (by decide) A W (by omega))
  have HQ := hidA (fun W => rDigits 10 (by decide) [a, b] W (by simp))
  have HB : Hid (∀ n, Below w.heap.size w (w.drewN n)) := fun n => bl_drew w n
  have hlen : (A ++ 46 :: [a, b]).length = A.length + 3 := by simp
  have hget : (A ++ 46 :: [a, b])[A.length]? = some 46 := by simp
  have hdrop : (A ++ 46 :: [a, b]).drop (A.length + 1) = [a, b] := by
    rw [show A ++ 46 :: [a, b] = (A ++ [46]) ++ [a, b] by simp, List.drop_left' (by simp)]
  have htake : (A ++ 46 :: [a, b]).take A.length = A := List.take_left' rfl
  generalize A ++ 46 :: [a, b] = l at *
  obtain ⟨k, hk⟩ : ∃ k, A.length = k := ⟨_, rfl⟩
  obtain ⟨k1, hk1⟩ : ∃ k1, k + 1 = k1 := ⟨_, rfl⟩
  have hkl : k < l.length := by omega
  have hg : ((l[k].toNat : Int) == 46) = true := byte_yes _ 46 46 rfl (by rw [hk, List.getElem?_eq_getElem hkl] at hget; exact Option.some.inj hget)
  rw [hk] at hdrop htake
  rw [hk1] at hdrop
  have hw3 : IntKind.i64.wrap ((l.length : Int) - 3) = k := by rw [IntKind.wrap_i64]; omega
  have hw2 : IntKind.i64.wrap ((l.length : Int) - 2) = k1 := by rw [IntKind.wrap_i64]; omega
  have h3' : (3 : Int) ≤ l.length := by omega
  have i1 : (k : Int) < l.length := by omega
  have i2 : (k : Int) ≤ l.length := by omega
  have i3 : (k1 : Int) ≤ l.length := by omega
  have i4 : k1 ≤ l.length := by omega
  have i5 : k ≤ l.length := by omega
  have hAl : (A.length : Int) = k := by omega
  cases hq : Na.pl 10 [a, b] with
  | false =>
    rw [hq] at HQ
    clear hbad hget hlen hk hk1 hq hAl
    go_enter Tryd.func27, Tryd.ntmps27
    go_wp2_with (first | (go_at_call 37; refine (HQ.out _).mono ?_; rintro e w1 ⟨rfl, h1⟩; rw [h1]; clear h1 w1) | go_quiet (fail))
    go_ret2
    exact ⟨⟨(0, 22), HE.out, rfl⟩, by first | exact HB.out 0 | exact HB.out 1 | exact HB.out 2 | exact HB.out _⟩
  | true =>
    rw [hq] at HQ
    have hbad2 := hbad.resolve_left (by rw [hq]; decide)
    have da : Na.dig 10 a = true ∧ Na.dig 10 b = true := by have := pl_all hq; simpa using this
    have HVS := hidA (fun W => rVal2 a b da.1 da.2 W)
    generalize Na.tw [a, b] = sc at *
    clear hbad hget hlen hk1 hq da
    cases hp : Na.pl 10 A with
    | false =>
      rw [hp] at HG
      clear hbad2 hp hk hAl
      go_enter Tryd.func27, Tryd.ntmps27
      go_wp2_with (first | (go_at_call 37; with_reducible refine (HQ.out _).mono ?_; rintro e w1 ⟨rfl, h1⟩; rw [h1]; clear h1 w1) | (go_at_call 38; with_reducible refine (HVS.out _).mono ?_; rintro e w1 ⟨rfl, h1⟩; rw [h1]; clear h1 w1) | (go_at_call 37; with_reducible refine (HG.out _).mono ?_; rintro e w1 ⟨rfl, h1⟩; rw [h1]; clear h1 w1) | go_quiet (fail))
      go_ret2
      exact ⟨⟨(0, 22), HE.out, rfl⟩, by first | exact HB.out 0 | exact HB.out 1 | exact HB.out 2 | exact HB.out _⟩
    | true =>
      rw [hp] at HG
      obtain ⟨n8, n10, n12⟩ : A.length ≠ 8 ∧ A.length ≠ 10 ∧ A.length ≠ 12 := hbad2.resolve_left (by rw [hp]; decide)
      have g8 : ((A.length : Int) == 8) = false := by simp; omega
      have g10 : ((A.length : Int) == 10) = false := by simp; omega
      have g12 : ((A.length : Int) == 12) = false := by simp; omega
      have k8 : ((A.length : Int) != 8) = true := by rw [bne, g8]; rfl
      have k10 : ((A.length : Int) != 10) = true := by rw [bne, g10]; rfl
      have k12 : ((A.length : Int) != 12) = true := by rw [bne, g12]; rfl
      clear hbad2 hp hk hAl
      go_enter Tryd.func27, Tryd.ntmps27
      go_wp2_with (first | (go_at_call 37; with_reducible refine (HQ.out _).mono ?_; rintro e w1 ⟨rfl, h1⟩; rw [h1]; clear h1 w1) | (go_at_call 38; with_reducible refine (HVS.out _).mono ?_; rintro e w1 ⟨rfl, h1⟩; rw [h1]; clear h1 w1) | (go_at_call 37; with_reducible refine (HG.out _).mono ?_; rintro e w1 ⟨rfl, h1⟩; rw [h1]; clear h1 w1) | go_quiet (fail))
      go_ret2
      exact ⟨⟨(0, 22), HE.out, rfl⟩, by first | exact HB.out 0 | exact HB.out 1 | exact HB.out 2 | exact HB.out _⟩
end Go.Proofs.YtgkjpfebjhhdkaaDoor
namespace Go.Proofs.YtgkjpfebjhhdkaaDoor
open Go.RowKit
attribute [local go_sem] ext_eq app_eq get_eq
set_option maxRecDepth 100000 in
set_option maxHeartbeats 16000000 in
theorem rDateB8n (c0 c1 c2 c3 c4 c5 c6 c7 : UInt8) (now : Int) (hd : [c0, c1, c2, c3, c4, c5, c6, c7].all (Na.dig 10) = true) (n0 : -9223372036854775808 ≤ now) (n1 : now ≤ 9223372036854775807) (hn : now < -62167219200 ∨ 253402300800 ≤ now) (w : World) :
    Calls Tryd.prog 27 #[.string ⟨#[c0, c1, c2, c3, c4, c5, c6, c7]⟩, .int .i64 now] w fun e w' => (∃ v, DtR [c0, c1, c2, c3, c4, c5, c6, c7] now v ∧ e = .returned (.tuple #[.int .i64 v.1, .int .i64 v.2])) ∧ Below w.heap.size w w' := by
  have HG := hidA (fun W => rDigits 10 (by decide) [c0, c1, c2, c3, c4, c5, c6, c7] W (by simp))
  have hpl : Na.pl 10 [c0, c1, c2, c3, c4, c5, c6, c7] = true := by unfold Na.pl; rw [hd]; rfl
  rw [hpl] at HG
  have HR : Hid (∀ v : Int × Int, v = (0, 22) → DtR [c0, c1, c2, c3, c4, c5, c6, c7] now v) := fun v hv => by
    refine dtr_plain ?_ (by unfold Core; rw [if_pos hpl]; exact ⟨none, by show Yn now none; unfold Yn; rw [if_pos hn], hv⟩)
    rintro ⟨-, h⟩
    have h2 : c5 = 46 := by simpa using h
    have := List.all_eq_true.1 hd c5 (by simp)
    rw [h2] at this
    exact absurd this (by decide)
  simp only [List.all_cons, List.all_nil, Bool.and_true, Bool.and_eq_true] at hd
  obtain ⟨d0, d1, d2, d3, d4, d5, d6, d7⟩ := hd
  have n9 : c5 ≠ 46 := fun e => by rw [e] at d5; exact absurd d5 (by decide)
  have n9' := byte_no c5 46 46 rfl n9
  have HV1 := hidA (fun W => rVal2 c0 c1 d0 d1 W)
  have rg1 := Na.tw_rng (l := [c0, c1]) (by simp [d0, d1])
  have HV2 := hidA (fun W => rVal2 c2 c3 d2 d3 W)
  have rg2 := Na.tw_rng (l := [c2, c3]) (by simp [d2, d3])
  have HV3 := hidA (fun W => rVal2 c4 c5 d4 d5 W)
  have rg3 := Na.tw_rng (l := [c4, c5]) (by simp [d4, d5])
  have HV4 := hidA (fun W => rVal2 c6 c7 d6 d7 W)
  have rg4 := Na.tw_rng (l := [c6, c7]) (by simp [d6, d7])
  generalize Na.tw [c0, c1] = m at *
  generalize Na.tw [c2, c3] = d at *
  generalize Na.tw [c4, c5] = h at *
  generalize Na.tw [c6, c7] = mi at *
  clear hpl n9
  clear d0 d1 d2 d3 d4 d5 d6 d7
  have HM2 : Hid (Calls Tryd.prog 56 #[.int .i64 now] w fun e w' => e = .returned (.tuple #[.agg #[.int .i64 0, .int .i64 0, .int .i64 0, .int .i64 0, .int .i64 0, .int .i64 0], .bool false]) ∧ Below w.heap.size w w') := (rCivil now n0 n1 w).mono fun e w' hx => by
    refine ⟨?_, hx.2⟩
    have ho := hx.1
    unfold OutM at ho
    rw [if_pos hn] at ho
    exact ho
  clear n0 n1 hn
  go_enter Tryd.func27, Tryd.ntmps27
  go_wp2_with (first | (go_at_call 37; with_reducible refine (HG.out _).mono ?_; rintro e w1 ⟨rfl, h1⟩; rw [h1]; clear h1 w1) | go_quiet (fail))
  go_at_call 56
  refine HM2.out.mono ?_
  rintro e w1 ⟨rfl, b1⟩
  have HBA := hidA (fun o => b1.alloc b1.size o)
  have HB1 := hidA b1
  clear b1 HM2
  go_wp2
  go_ret2
  exact ⟨⟨(0, 22), HR.out _ rfl, rfl⟩, by first | exact HBA.out _ | exact bl2 (HBA.out _) (bl_drew _ 1) | exact HB1.out⟩
end Go.Proofs.YtgkjpfebjhhdkaaDoor
namespace Go.Proofs.YtgkjpfebjhhdkaaDoor
open Go.RowKit
attribute [local go_sem] ext_eq app_eq get_eq
set_option maxRecDepth 100000 in
set_option maxHeartbeats 16000000 in
theorem rDateD8n (c0 c1 c2 c3 c4 c5 c6 c7 a b : UInt8) (now : Int) (hd : [c0, c1, c2, c3, c4, c5, c6, c7].all (Na.dig 10) = true) (da : Na.dig 10 a = true) (db : Na.dig 10 b = true) (n0 : -9223372036854775808 ≤ now) (n1 : now ≤ 9223372036854775807) (hn : now < -62167219200 ∨ 253402300800 ≤ now) (w : World) :
    Calls Tryd.prog 27 #[.string ⟨#[c0, c1, c2, c3, c4, c5, c6, c7, 46, a, b]⟩, .int .i64 now] w fun e w' => (∃ v, DtR [c0, c1, c2, c3, c4, c5, c6, c7, 46, a, b] now v ∧ e = .returned (.tuple #[.int .i64 v.1, .int .i64 v.2])) ∧ Below w.heap.size w w' := by
  have HG := hidA (fun W => rDigits 10 (by decide) [c0, c1, c2, c3, c4, c5, c6, c7] W (by simp))
  have hpl : Na.pl 10 [c0, c1, c2, c3, c4, c5, c6, c7] = true := by unfold Na.pl; rw [hd]; rfl
  rw [hpl] at HG
  have HQ := hidA (fun W => rDigits 10 (by decide) [a, b] W (by simp))
  have hpq : Na.pl 10 [a, b] = true := by unfold Na.pl; simp [da, db]
  rw [hpq] at HQ
  have HVS := hidA (fun W => rVal2 a b da db W)
  have HR : Hid (∀ v : Int × Int, v = (0, 22) → DtR [c0, c1, c2, c3, c4, c5, c6, c7, 46, a, b] now v) := fun v hv => by
    have h := dtr_dot (A := [c0, c1, c2, c3, c4, c5, c6, c7]) (q := [a, b]) (now := now) (v := v) rfl (by rw [if_pos hpq]; exact (by unfold Core; rw [if_pos hpl]; exact ⟨none, by show Yn now none; unfold Yn; rw [if_pos hn], hv⟩))
    exact h
  simp only [List.all_cons, List.all_nil, Bool.and_true, Bool.and_eq_true] at hd
  obtain ⟨d0, d1, d2, d3, d4, d5, d6, d7⟩ := hd
  have HV1 := hidA (fun W => rVal2 c0 c1 d0 d1 W)
  have rg1 := Na.tw_rng (l := [c0, c1]) (by simp [d0, d1])
  have HV2 := hidA (fun W => rVal2 c2 c3 d2 d3 W)
  have rg2 := Na.tw_rng (l := [c2, c3]) (by simp [d2, d3])
  have HV3 := hidA (fun W => rVal2 c4 c5 d4 d5 W)
  have rg3 := Na.tw_rng (l := [c4, c5]) (by simp [d4, d5])
  have HV4 := hidA (fun W => rVal2 c6 c7 d6 d7 W)
  have rg4 := Na.tw_rng (l := [c6, c7]) (by simp [d6, d7])
  have rg5 := Na.tw_rng (l := [a, b]) (by simp [da, db])
  generalize Na.tw [c0, c1] = m at *
  generalize Na.tw [c2, c3] = d at *
  generalize Na.tw [c4, c5] = h at *
  generalize Na.tw [c6, c7] = mi at *
  generalize Na.tw [a, b] = sc at *
  clear hpl hpq
  clear d0 d1 d2 d3 d4 d5 d6 d7
  have HM2 : Hid (Calls Tryd.prog 56 #[.int .i64 now] w fun e w' => e = .returned (.tuple #[.agg #[.int .i64 0, .int .i64 0, .int .i64 0, .int .i64 0, .int .i64 0, .int .i64 0], .bool false]) ∧ Below w.heap.size w w') := (rCivil now n0 n1 w).mono fun e w' hx => by
    refine ⟨?_, hx.2⟩
    have ho := hx.1
    unfold OutM at ho
    rw [if_pos hn] at ho
    exact ho
  clear n0 n1 hn
  go_enter Tryd.func27, Tryd.ntmps27
  go_wp2_with (first | (go_at_call 37; with_reducible refine (HG.out _).mono ?_; rintro e w1 ⟨rfl, h1⟩; rw [h1]; clear h1 w1) | (go_at_call 37; with_reducible refine (HQ.out _).mono ?_; rintro e w1 ⟨rfl, h1⟩; rw [h1]; clear h1 w1) | (go_at_call 38; with_reducible refine (HVS.out _).mono ?_; rintro e w2 ⟨rfl, h2⟩; rw [h2]; clear h2 w2) | go_quiet (fail))
  go_at_call 56
  refine HM2.out.mono ?_
  rintro e w1 ⟨rfl, b1⟩
  have HBA := hidA (fun o => b1.alloc b1.size o)
  have HB1 := hidA b1
  clear b1 HM2
  go_wp2
  go_ret2
  exact ⟨⟨(0, 22), HR.out _ rfl, rfl⟩, by first | exact HBA.out _ | exact bl2 (HBA.out _) (bl_drew _ 1) | exact HB1.out⟩
end Go.Proofs.YtgkjpfebjhhdkaaDoor
