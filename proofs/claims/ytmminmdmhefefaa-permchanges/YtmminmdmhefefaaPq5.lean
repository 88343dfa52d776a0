/- The plain answer's Change, and that it is the program's. Condition: a length that fits. -/
import Derived.Test.YtmminmdmhefefaaPq4
namespace Go.Proofs.Ytmminmdmhefefaa
open Go.RowKit
namespace Pm
theorem dig_take (old umask : Int) (c : UInt8) (h : dig c = true) : takeB (r0 old umask) c.toNat = none := by
  have hr : 48 ≤ (c.toNat : Int) ∧ (c.toNat : Int) ≤ 55 := by simpa [dig] using h
  have hO : isO c = false := by
    cases ho : isO c with
    | false => rfl
    | true =>
      have := (op_c c).2 ho
      omega
  have hU : isU c = false := by
    cases hu : isU c with
    | false => rfl
    | true =>
      simp [isU] at hu
      rcases hu with rfl | rfl | rfl | rfl <;> simp at hr
  rw [take_zero (r0 old umask) c rfl hO, hU]
  rfl
def refO (l : List UInt8) (old umask : Int) : Option Int :=
  match octO l with
  | some n => some n
  | none => refRun old (bits .andNot .i64 4095 umask) (bits .and .i64 old 4095) [] l
theorem ref_chg (l : List UInt8) (old umask : Int) : refO l old umask = chgO l old umask := by
  have hs : (runB (r0 old umask) l).map (·.now) = refRun old (bits .andNot .i64 4095 umask) (bits .and .i64 old 4095) [] l := sim_all old (bits .andNot .i64 4095 umask) l (bits .and .i64 old 4095) [] (by simp)
  cases l with
  | nil => rfl
  | cons c cs =>
    unfold refO chgO
    have ho : octO (c :: cs) = numB (c :: cs) := by unfold octO; rw [if_neg (by simp)]
    rw [ho]
    change _ = if dig c = true then numB (c :: cs) else Option.map (fun x => x.now) (runB (r0 old umask) (c :: cs))
    cases hd : dig c with
    | true =>
      rw [if_pos rfl]
      cases hn : numB (c :: cs) with
      | some n => rfl
      | none =>
        show refRun _ _ _ _ _ = none
        rw [← hs]
        unfold runB
        rw [dig_take old umask c hd]
        rfl
    | false =>
      have hn : numB (c :: cs) = none := by
        unfold numB
        split
        · rfl
        · unfold numF; rw [hd]; rfl
      rw [hn, if_neg Bool.false_ne_true]
      exact hs.symm
theorem chg_some {l : List UInt8} {old umask n : Int} (h : refO l old umask = some n) : chgM l old umask = bits .or .i64 (bits .and .i64 old 61440) n ∧ chgE l old umask = 0 := by
  rw [ref_chg] at h
  exact ⟨by unfold chgM; rw [h], by unfold chgE; rw [h]⟩
theorem chg_none {l : List UInt8} {old umask : Int} (h : refO l old umask = none) : chgM l old umask = 0 ∧ chgE l old umask = 22 := by
  rw [ref_chg] at h
  exact ⟨by unfold chgM; rw [h], by unfold chgE; rw [h]⟩
end Pm
theorem ext_eq5 (l : List UInt8) (a b : Nat) : (⟨l.toArray⟩ : ByteArray).extract a b = ⟨((l.take b).drop a).toArray⟩ := by
  apply ByteArray.ext
  simp [ByteArray.data_extract, List.drop_take]
theorem app_eq5 (l m : List UInt8) : (⟨l.toArray⟩ : ByteArray) ++ ⟨m.toArray⟩ = ⟨(l ++ m).toArray⟩ := by
  apply ByteArray.ext
  simp
theorem one_at (l : List UInt8) (i : Nat) (h : i < l.length) : (l.take (i + 1)).drop i = [l[i]] := by
  have h1 : i + 1 - i = 1 := by omega
  rw [List.drop_take, h1, List.drop_eq_getElem_cons h]
  rfl
theorem ret_ii {a b c d : Int} (h : b = a) (k : d = c) : Ending.returned (.tuple #[.int .i64 a, .int .i64 c]) = .returned (.tuple #[.int .i64 b, .int .i64 d]) := by rw [h, k]
attribute [local go_sem] get_eqc ext_eq5 app_eq5
set_option maxRecDepth 100000 in
set_option maxHeartbeats 4000000 in
theorem rChange (l : List UInt8) (old umask : Int) (w : World) (hl : l.length ≤ 2 ^ 59) : Calls Try.prog 15 #[.string ⟨l.toArray⟩, .int .i64 old, .int .i64 umask] w fun e w' => e = .returned (.tuple #[.int .i64 (Pm.chgM l old umask), .int .i64 (Pm.chgE l old umask)]) ∧ w' = w := by
  go_enter Try.func15, Try.ntmps15
  cases hoc : Pm.octO l with
  | some n =>
    have HK : Hid (Pm.chgM l old umask = bits .or .i64 (bits .and .i64 old 61440) n ∧ Pm.chgE l old umask = 0) := Pm.chg_some (by unfold Pm.refO; rw [hoc])
    have hn := (Pm.oct_yes l n hoc).1
    have hk := (Pm.oct_yes l n hoc).2
    clear hoc
    go_wp2_with fail
    refine (rOctalB l _).mono ?_
    rintro e w1 ⟨rfl, hw1⟩
    rw [hw1, hn, hk]; clear hw1 w1 hn hk
    go_wp2_with fail
    go_ret2
    exact ⟨ret_ii HK.out.1 HK.out.2, rfl⟩
  | none =>
    have HR : Hid (Pm.refRun old (bits .andNot .i64 4095 umask) (bits .and .i64 old 4095) [] l = Pm.refO l old umask) := by show _ = _; unfold Pm.refO; rw [hoc]
    have hn := (Pm.oct_no l hoc).1
    have hk := (Pm.oct_no l hoc).2
    clear hoc
    go_wp2_with fail
    refine (rOctalB l _).mono ?_
    rintro e w1 ⟨rfl, hw1⟩
    rw [hw1, hn, hk]; clear hw1 w1 hn hk
    go_wp2_with fail
    go_loopg [11, 12, 13] (l.length + 1) (fun k a p t wr => w = wr ∧ ∃ (i : Nat) (nw : Int) (part : List UInt8), i ≤ l.length + 1 ∧ k = l.length + 1 - i ∧ part.length ≤ i ∧ t = .int .i64 i ∧ a = .int .i64 nw ∧ p = .string ⟨part.toArray⟩ ∧ Hid ((i ≤ l.length ∧ Pm.refRun old (bits .andNot .i64 4095 umask) nw part (l.drop i) = Pm.refO l old umask) ∨ (i = l.length + 1 ∧ some nw = Pm.refO l old umask)))
    case atStart => exact ⟨rfl, 0, _, [], by omega, rfl, by simp, rfl, rfl, rfl, .inl ⟨by omega, HR⟩⟩
    case round =>
      clear HR
      obtain ⟨rfl, i, nw, part, hi, rfl, hpl, rfl, rfl, rfl, HR⟩ := hrel
      rcases HR.out with ⟨hle, hrun⟩ | ⟨hi1, hend⟩
      · by_cases hlt : i < l.length
        · have hdr : l.drop i = l[i] :: l.drop (i + 1) := List.drop_eq_getElem_cons hlt
          by_cases hc : l[i] = 44
          · have hcz : ((l[i].toNat : Int) != 44) = false := by rw [hc]; rfl
            cases hcl : Pm.clB old (bits .andNot .i64 4095 umask) nw part with
            | none =>
              have HK : Hid (Pm.chgM l old umask = 0 ∧ Pm.chgE l old umask = 22) := Pm.chg_none (by rw [← hrun, hdr, hc]; unfold Pm.refRun; rw [if_pos rfl, hcl]; rfl)
              have hn := (Pm.cl_no hcl).1
              have hk := (Pm.cl_no hcl).2
              clear hdr hrun hcl HR hc
              go_wp2_with fail
              refine (rClause part old nw umask _ (by omega)).mono ?_
              rintro e w1 ⟨rfl, hw1⟩
              rw [hw1, hn, hk]; clear hw1 w1 hn hk
              go_wp2_with fail
              go_ret2
              exact ⟨ret_ii HK.out.1 HK.out.2, rfl⟩
            | some m =>
              have HR2 : Hid (Pm.refRun old (bits .andNot .i64 4095 umask) m [] (l.drop (i + 1)) = Pm.refO l old umask) := by
                show _ = _
                rw [← hrun, hdr, hc]
                conv => rhs; unfold Pm.refRun
                rw [if_pos rfl, hcl]
                rfl
              have hn := (Pm.cl_yes hcl).1
              have hk := (Pm.cl_yes hcl).2
              clear hdr hrun hcl HR hc
              go_wp2_with fail
              refine (rClause part old nw umask _ (by omega)).mono ?_
              rintro e w1 ⟨rfl, hw1⟩
              rw [hw1, hn, hk]; clear hw1 w1 hn hk
              go_wp2_with fail
              go_roundg (l.length + 1 - (i + 1))
              case measure => omega
              case rel => exact ⟨rfl, i + 1, _, [], by omega, rfl, by simp, by go_num, rfl, rfl, .inl ⟨by omega, HR2⟩⟩
          · have hcz : ((l[i].toNat : Int) != 44) = true := by
              have := Pm.nat_c l[i] 44 (by decide)
              simp at this
              simp [this, hc]
            have HR2 : Hid (Pm.refRun old (bits .andNot .i64 4095 umask) nw (part ++ [l[i]]) (l.drop (i + 1)) = Pm.refO l old umask) := by
              show _ = _
              rw [← hrun, hdr]
              conv => rhs; unfold Pm.refRun
              rw [if_neg hc]
            have HA : Hid (⟨(part ++ (l.take (i + 1)).drop i).toArray⟩ = (⟨(part ++ [l[i]]).toArray⟩ : ByteArray)) := by show _ = _; rw [one_at l i hlt]
            clear hdr hrun HR hc
            go_wp2_with fail
            go_roundg (l.length + 1 - (i + 1))
            case measure => omega
            case rel => exact ⟨rfl, i + 1, _, part ++ [l[i]], by omega, rfl, by simp; omega, by go_num, rfl, by first | exact congrArg Value.string HA.out | (rw [← HA.out]), .inl ⟨by omega, HR2⟩⟩
        · have hii : i = l.length := by omega
          have hdr : l.drop i = [] := List.drop_eq_nil_of_le (by omega)
          rw [hdr] at hrun
          have hrun2 : Pm.clB old (bits .andNot .i64 4095 umask) nw part = Pm.refO l old umask := by rw [← hrun]; rfl
          cases hcl : Pm.clB old (bits .andNot .i64 4095 umask) nw part with
          | none =>
            have HK : Hid (Pm.chgM l old umask = 0 ∧ Pm.chgE l old umask = 22) := Pm.chg_none (by rw [← hrun2, hcl])
            have hn := (Pm.cl_no hcl).1
            have hk := (Pm.cl_no hcl).2
            clear hdr hrun hrun2 hcl HR
            go_wp2_with fail
            refine (rClause part old nw umask _ (by omega)).mono ?_
            rintro e w1 ⟨rfl, hw1⟩
            rw [hw1, hn, hk]; clear hw1 w1 hn hk
            go_wp2_with fail
            go_ret2
            exact ⟨ret_ii HK.out.1 HK.out.2, rfl⟩
          | some m =>
            have HR2 : Hid (some m = Pm.refO l old umask) := by show _ = _; rw [← hrun2, hcl]
            have hn := (Pm.cl_yes hcl).1
            have hk := (Pm.cl_yes hcl).2
            clear hdr hrun hrun2 hcl HR
            go_wp2_with fail
            refine (rClause part old nw umask _ (by omega)).mono ?_
            rintro e w1 ⟨rfl, hw1⟩
            rw [hw1, hn, hk]; clear hw1 w1 hn hk
            go_wp2_with fail
            go_roundg (l.length + 1 - (i + 1))
            case measure => omega
            case rel => exact ⟨rfl, i + 1, _, [], by omega, rfl, by simp, by go_num, rfl, rfl, .inr ⟨by omega, HR2⟩⟩
      · have HK : Hid (Pm.chgM l old umask = bits .or .i64 (bits .and .i64 old 61440) nw ∧ Pm.chgE l old umask = 0) := Pm.chg_some hend.symm
        clear hend HR
        have hgt : ¬ ((i : Int) ≤ (l.length : Int)) := by omega
        go_wp2_with fail
        go_ret2
        exact ⟨ret_ii HK.out.1 HK.out.2, rfl⟩
end Go.Proofs.Ytmminmdmhefefaa
