/- The walks of the program's significant, smaller, counts, ends. Conditions: lengths that fit. -/
import Derived.Test.YtgkjpfebjhhdkaaDoorNa4
namespace Go.Proofs.YtgkjpfebjhhdkaaDoor
open Go.RowKit
attribute [local go_sem] ext_eq app_eq get_eq
namespace Na
def sig (l : List UInt8) : List UInt8 := l.dropWhile (fun c => decide (c = 48))
def counts (l : List UInt8) : Bool := pl 10 l && !(sig l).isEmpty
def elo (l : List UInt8) : List UInt8 := if has 45 l then (if (ahead 45 l).isEmpty then [49] else ahead 45 l) else l
def ehi (l : List UInt8) : List UInt8 := if has 45 l then behind 45 l else l
/-- Is the number of one's digits below that of another's? -/
def lss (A B : List UInt8) : Bool := if A.length = B.length then Op.bytesLess A B else decide (A.length < B.length)
def sml (a b : List UInt8) : Bool := lss (sig a) (sig b)
def isItem (l : List UInt8) : Bool := !decide (l = [45]) && counts (elo l) && ((ehi l).isEmpty || (counts (ehi l) && !sml (ehi l) (elo l)))
theorem sig_len (l : List UInt8) : (sig l).length ≤ l.length := (List.dropWhile_sublist _).length_le
end Na
theorem sig_at {l : List UInt8} {pos : Nat} (hp : pos < l.length) (h : ∀ c ∈ l.take pos, c = 48) (he : l[pos] ≠ 48) : Na.sig l = l.drop pos := by
  have hl : l = l.take pos ++ l[pos] :: l.drop (pos + 1) := by rw [← List.drop_eq_getElem_cons hp, List.take_append_drop]
  unfold Na.sig
  conv => lhs; rw [hl]
  rw [List.dropWhile_append_of_pos (by intro c hc; simpa using h c hc), List.dropWhile_cons_of_neg (by simpa using he), List.drop_eq_getElem_cons hp]
theorem sig_no {l : List UInt8} (h : ∀ c ∈ l.take l.length, c = 48) : Na.sig l = [] := by
  rw [List.take_length] at h
  unfold Na.sig
  rw [← List.append_nil l, List.dropWhile_append_of_pos (by intro c hc; simpa using h c hc)]
  rfl
set_option maxRecDepth 100000 in
set_option maxHeartbeats 1000000 in
theorem nSignificant (l : List UInt8) (hd : l.all (Na.dig 10) = true) (w : World) : Calls Tryd.prog 92 #[.string ⟨l.toArray⟩] w fun e w' => e = .returned (.string ⟨(Na.sig l).toArray⟩) ∧ Below w.heap.size w w' := by
  have HB0 : Hid (∀ p, Below w.heap.size w (w.iter ⟨l.toArray⟩ p)) := fun p => below_iter w _ p
  have htl : List.take l.length l = l := List.take_length
  generalize hbk : w.heap.size = bk at *
  go_enter Tryd.func92, Tryd.ntmps92
  go_wp2_with fail
  go_loopw [3] (fun _ w' => ∃ (pos : Nat), w' = w.iter ⟨l.toArray⟩ pos ∧ pos ≤ l.length ∧ Hid (∀ c ∈ l.take pos, c = 48)) (fun _ w' => l.length - w'.iterPos bk)
  case atStart => exact ⟨0, rfl, Nat.zero_le _, fun c hc => by simp at hc⟩
  case round =>
    obtain ⟨pos, rfl, hle, HN⟩ := hrel
    by_cases hp : pos < l.length
    · obtain ⟨hd1, hd2⟩ := Na.dig_iff.1 (List.all_eq_true.1 hd _ (List.getElem_mem hp))
      have hc : l[pos].toNat < 128 := by omega
      have hnx : ∀ ty, (Instr.next (.pointer (some ⟨bk, 0, none⟩)) true ty).run Tryd.prog (w.iter ⟨l.toArray⟩ pos) = .ok (.tuple #[.bool true, .int .i64 pos, .int .i32 l[pos].toNat]) (w.iter ⟨l.toArray⟩ (pos + 1)) := fun ty => nit_low w bk hbk l pos hp hc ty
      by_cases h1 : l[pos] = 48
      · have h1' := byte_yes l[pos] 48 48 rfl h1
        have h1'' : (((l[pos].toNat : Int) != 48)) = false := by simp [bne, h1']
        have HE : Hid (∀ c ∈ l.take (pos + 1), c = 48) := by
          intro c hc
          rw [List.take_succ_eq_append_getElem hp, List.mem_append] at hc
          rcases hc with hc | hc
          · exact HN.out c hc
          · simp at hc; rw [hc, h1]
        clear HN h1
        go_wp2_with fail
        exact ⟨⟨pos + 1, rfl, hp, HE⟩, by rw [nit_pos w bk hbk, nit_pos w bk hbk]; omega⟩
      · have h1' := byte_no l[pos] 48 48 rfl h1
        have h1'' : (((l[pos].toNat : Int) != 48)) = true := by simp [bne, h1']
        have HE := hidA (sig_at hp HN.out h1)
        clear HN h1
        go_wp2_with fail
        go_ret
        exact ⟨by rw [HE.out]; rfl, HB0.out _⟩
    · have hnx : ∀ ty, (Instr.next (.pointer (some ⟨bk, 0, none⟩)) true ty).run Tryd.prog (w.iter ⟨l.toArray⟩ pos) = _ := fun ty => nit_fin w bk hbk l pos hp ty
      obtain rfl : pos = l.length := by omega
      have HE := hidA (sig_no HN.out)
      clear HN
      go_wp2_with fail
      go_ret
      exact ⟨by rw [HE.out]; rfl, HB0.out _⟩
set_option maxHeartbeats 1000000 in
theorem nCounts (l : List UInt8) (w : World) : Calls Tryd.prog 78 #[.string ⟨l.toArray⟩] w fun e w' => e = .returned (.bool (Na.counts l)) ∧ Below w.heap.size w w' := by
  have HP := hidA (nPlain 10 (by decide) l w)
  have HE : Hid (Na.counts l = (Na.pl 10 l && !(Na.sig l).isEmpty)) := rfl
  cases hp : Na.pl 10 l with
  | false =>
    rw [hp] at HP HE
    clear hp
    go_enter Tryd.func78, Tryd.ntmps78
    go_wp2_with (go_at_call 51; refine HP.out.mono ?_; rintro e w1 ⟨rfl, b1⟩)
    go_ret
    exact ⟨by rw [HE.out]; rfl, b1⟩
  | true =>
    have HS := hidA (fun w => nSignificant l (by unfold Na.pl at hp; rw [Bool.and_eq_true] at hp; exact hp.1) w)
    rw [hp] at HP HE
    clear hp
    generalize Na.sig l = S at *
    go_enter Tryd.func78, Tryd.ntmps78
    go_wp2_with (first | (go_at_call 51; refine HP.out.mono ?_; rintro e w1 ⟨rfl, b1⟩) | (go_at_call 92; refine (HS.out _).mono ?_; rintro e w2 ⟨rfl, b2⟩))
    go_ret
    exact ⟨by rw [HE.out]; rfl, bl2 b1 b2⟩
set_option maxHeartbeats 1000000 in
theorem nEnds (l : List UInt8) (w : World) (hl : l.length ≤ 2 ^ 47) : Calls Tryd.prog 45 #[.string ⟨l.toArray⟩] w fun e w' => e = .returned (.tuple #[.string ⟨(Na.elo l).toArray⟩, .string ⟨(Na.ehi l).toArray⟩]) ∧ Below w.heap.size w w' := by
  have HC := hidA (nCut 45 (by decide) l w hl)
  have HE1 : Hid (Na.elo l = if Na.has 45 l then (if (Na.ahead 45 l).isEmpty then [49] else Na.ahead 45 l) else l) := rfl
  have HE2 : Hid (Na.ehi l = if Na.has 45 l then Na.behind 45 l else l) := rfl
  generalize Na.ahead 45 l = A at *
  generalize Na.behind 45 l = B at *
  cases hh : Na.has 45 l with
  | false =>
    rw [hh] at HC HE1 HE2
    rw [if_neg (by simp)] at HE1 HE2
    clear hh
    go_enter Tryd.func45, Tryd.ntmps45
    go_wp2_with (go_at_call 34; refine HC.out.mono ?_; rintro e w1 ⟨rfl, b1⟩)
    go_ret2
    exact ⟨by rw [HE1.out, HE2.out]; rfl, b1⟩
  | true =>
    rw [hh] at HC HE1 HE2
    rw [if_pos rfl] at HE1 HE2
    clear hh
    cases he : A.isEmpty with
    | false =>
      rw [he, if_neg (by simp)] at HE1
      go_enter Tryd.func45, Tryd.ntmps45
      go_wp2_with (go_at_call 34; refine HC.out.mono ?_; rintro e w1 ⟨rfl, b1⟩)
      go_ret2
      exact ⟨by rw [HE1.out, HE2.out]; rfl, b1⟩
    | true =>
      rw [he, if_pos rfl] at HE1
      go_enter Tryd.func45, Tryd.ntmps45
      go_wp2_with (go_at_call 34; refine HC.out.mono ?_; rintro e w1 ⟨rfl, b1⟩)
      go_ret2
      exact ⟨by rw [HE1.out, HE2.out]; rfl, b1⟩
set_option maxHeartbeats 1000000 in
theorem nSmaller (a b : List UInt8) (ha : a.all (Na.dig 10) = true) (hb : b.all (Na.dig 10) = true) (w : World) : Calls Tryd.prog 79 #[.string ⟨a.toArray⟩, .string ⟨b.toArray⟩] w fun e w' => e = .returned (.bool (Na.sml a b)) ∧ Below w.heap.size w w' := by
  have HA := hidA (fun w => nSignificant a ha w)
  have HB := hidA (fun w => nSignificant b hb w)
  have HE : Hid (Na.sml a b = if (Na.sig a).length = (Na.sig b).length then Op.bytesLess (Na.sig a) (Na.sig b) else decide ((Na.sig a).length < (Na.sig b).length)) := rfl
  generalize Na.sig a = A at *
  generalize Na.sig b = B at *
  by_cases hl : A.length = B.length
  · have hl' : ((A.length : Int) != (B.length : Int)) = false := by simp [hl]
    rw [if_pos hl] at HE
    clear hl
    go_enter Tryd.func79, Tryd.ntmps79
    go_wp2_with (go_at_call 92; first | (with_reducible refine (HA.out _).mono ?_; rintro e w1 ⟨rfl, b1⟩) | (with_reducible refine (HB.out _).mono ?_; rintro e w2 ⟨rfl, b2⟩))
    go_ret
    exact ⟨by rw [HE.out]; rfl, bl2 b1 b2⟩
  · have hl' : ((A.length : Int) != (B.length : Int)) = true := by simp; omega
    rw [if_neg hl] at HE
    clear hl
    go_enter Tryd.func79, Tryd.ntmps79
    go_wp2_with (go_at_call 92; first | (with_reducible refine (HA.out _).mono ?_; rintro e w1 ⟨rfl, b1⟩) | (with_reducible refine (HB.out _).mono ?_; rintro e w2 ⟨rfl, b2⟩))
    go_ret
    exact ⟨by rw [HE.out]; rfl, bl2 b1 b2⟩
theorem counts_all {l : List UInt8} (h : Na.counts l = true) : l.all (Na.dig 10) = true := by
  unfold Na.counts Na.pl at h
  simp only [Bool.and_eq_true] at h
  exact h.1.1
set_option maxHeartbeats 1000000 in
theorem nIsItem (l : List UInt8) (w : World) (hl : l.length ≤ 2 ^ 47) : Calls Tryd.prog 67 #[.string ⟨l.toArray⟩] w fun e w' => e = .returned (.bool (Na.isItem l)) ∧ Below w.heap.size w w' := by
  have HE0 : Hid (Na.isItem l = (!decide (l = [45]) && Na.counts (Na.elo l) && ((Na.ehi l).isEmpty || (Na.counts (Na.ehi l) && !Na.sml (Na.ehi l) (Na.elo l))))) := rfl
  have HN := hidA (nEnds l w hl)
  by_cases h45 : l = [45]
  · subst h45
    go_enter Tryd.func67, Tryd.ntmps67
    go_wp2
    go_ret
    exact ⟨rfl, Below.refl _ _⟩
  rw [decide_eq_false h45] at HE0
  have h45' : (l == [45]) = false := by simpa using h45
  have HC1 := hidA (fun w => nCounts (Na.elo l) w)
  have HC2 := hidA (fun w => nCounts (Na.ehi l) w)
  have HSm := hidA (fun h1 h2 w => nSmaller (Na.ehi l) (Na.elo l) (counts_all h1) (counts_all h2) w)
  generalize Na.elo l = A at *
  generalize Na.ehi l = B at *
  clear h45
  cases hc1 : Na.counts A with
  | false =>
    rw [hc1] at HE0 HC1
    clear hc1
    go_enter Tryd.func67, Tryd.ntmps67
    go_wp2_with (first | (go_at_call 45; refine HN.out.mono ?_; rintro e w1 ⟨rfl, b1⟩) | (go_at_call 78; refine (HC1.out _).mono ?_; rintro e w2 ⟨rfl, b2⟩))
    go_ret
    exact ⟨by rw [HE0.out]; rfl, bl2 b1 b2⟩
  | true =>
    rw [hc1] at HE0 HC1
    cases he : B.isEmpty with
    | true =>
      rw [he] at HE0
      clear hc1
      go_enter Tryd.func67, Tryd.ntmps67
      go_wp2_with (first | (go_at_call 45; refine HN.out.mono ?_; rintro e w1 ⟨rfl, b1⟩) | (go_at_call 78; refine (HC1.out _).mono ?_; rintro e w2 ⟨rfl, b2⟩))
      go_ret
      exact ⟨by rw [HE0.out]; rfl, bl2 b1 b2⟩
    | false =>
      rw [he] at HE0
      cases hc2 : Na.counts B with
      | false =>
        rw [hc2] at HE0 HC2
        clear hc1 hc2 HSm
        go_enter Tryd.func67, Tryd.ntmps67
        go_wp2_with (first | (go_at_call 45; refine HN.out.mono ?_; rintro e w1 ⟨rfl, b1⟩) | (go_at_call 78; first | (with_reducible refine (HC1.out _).mono ?_; rintro e w2 ⟨rfl, b2⟩) | (with_reducible refine (HC2.out _).mono ?_; rintro e w3 ⟨rfl, b3⟩)))
        go_ret
        exact ⟨by rw [HE0.out]; rfl, bl2 (bl2 b1 b2) b3⟩
      | true =>
        have HS2 := hidA (HSm.out hc2 hc1)
        rw [hc2] at HE0 HC2
        clear hc1 hc2 HSm
        generalize Na.sml B A = m at *
        go_enter Tryd.func67, Tryd.ntmps67
        go_wp2_with (first | (go_at_call 45; refine HN.out.mono ?_; rintro e w1 ⟨rfl, b1⟩) | (go_at_call 78; first | (with_reducible refine (HC1.out _).mono ?_; rintro e w2 ⟨rfl, b2⟩) | (with_reducible refine (HC2.out _).mono ?_; rintro e w3 ⟨rfl, b3⟩)) | (go_at_call 79; refine (HS2.out _).mono ?_; rintro e w4 ⟨rfl, b4⟩))
        go_ret
        exact ⟨by rw [HE0.out]; rfl, bl2 (bl2 (bl2 b1 b2) b3) b4⟩
end Go.Proofs.YtgkjpfebjhhdkaaDoor
