/- The walk of the plain answer's class; names of classes in brackets. Conditions: a text that fits. -/
import Derived.Test.YtncnmeidciailaaDoorLv1
import Derived.Test.YtncnmeidciailaaDoorLp3
namespace Go.Proofs.YtncnmeidciailaaDoor
open Go.RowKit
attribute [local go_sem] ext_eq app_eq get_eq
theorem neq_lit {x y : UInt8} (h : x ≠ y) (k : Int) (hk : (y.toNat : Int) = k) : ((x.toNat : Int) != k) = true := by
  have : ¬ (x.toNat : Int) = (y.toNat : Int) := fun e => h (UInt8.toNat_inj.1 (by omega))
  rw [← hk]; simpa using this
namespace Gl
theorem upTo_cons (c : UInt8) (r : List UInt8) : upTo (c :: r) = if (decide (c = 58) && r.head? == some 93) = true then some [] else (upTo r).map (c :: ·) := rfl
theorem upTo_at (l : List UInt8) (i : Nat) (h : i < l.length) : upTo (l.drop i) = if l[i] = 58 ∧ l[i + 1]? = some 93 then some [] else (upTo (l.drop (i + 1))).map (l[i] :: ·) := by
  rw [List.drop_eq_getElem_cons h, upTo_cons]
  have e : (l.drop (i + 1)).head? = l[i + 1]? := by rw [List.head?_drop]
  rw [e]
  by_cases hc : l[i] = 58 ∧ l[i + 1]? = some 93
  · rw [if_pos hc, if_pos (by rw [hc.2]; simp [hc.1])]
  · rw [if_neg hc, if_neg (by simpa using hc)]
theorem upTo_end (l : List UInt8) (i : Nat) (h : ¬ i + 1 < l.length) : upTo (l.drop i) = none := by
  by_cases hi : i < l.length
  · rw [upTo_at l i hi, if_neg (by rw [List.getElem?_eq_none (by omega)]; simp), List.drop_eq_nil_of_le (by omega)]; rfl
  · rw [List.drop_eq_nil_of_le (by omega)]; rfl
/-- What class tells of a text. -/
def clsR (l : List UInt8) : List UInt8 × Nat := match cls l with
  | some n => (n, n.length + 4)
  | none => ([], 0)
theorem upTo_pre : ∀ (n r : List UInt8), (58 : UInt8) ∉ n → ((n ++ [58, 93]).isPrefixOf r = true ↔ upTo r = some n)
  | [], r, _ => by
    match r with
    | [] => exact ⟨fun h => (by cases h), fun h => (by cases h)⟩
    | [c] =>
      rw [upTo_cons]
      refine ⟨fun h => ?_, fun h => ?_⟩
      · have : ((58 : UInt8) == c && false) = true := h
        rw [Bool.and_false] at this; cases this
      · rw [if_neg (by simp)] at h; cases h
    | c :: d :: t =>
      rw [upTo_cons, List.head?_cons]
      show ((58 : UInt8) == c && ((93 : UInt8) == d && true)) = true ↔ _
      by_cases hc : c = 58 ∧ d = 93
      · rw [if_pos (by simp [hc.1, hc.2])]
        exact ⟨fun _ => rfl, fun _ => by rw [hc.1, hc.2]; rfl⟩
      · rw [if_neg (by simpa using hc)]
        refine ⟨fun h => ?_, fun h => ?_⟩
        · simp only [Bool.and_eq_true, beq_iff_eq, and_true] at h
          exact absurd ⟨h.1.symm, h.2.symm⟩ hc
        · obtain ⟨q, _, hq⟩ := Option.map_eq_some_iff.1 h
          cases hq
  | x :: n, r, h => by
    rw [List.mem_cons, not_or] at h
    match r with
    | [] => exact ⟨fun h => (by cases h), fun h => (by cases h)⟩
    | c :: t =>
      have ih := upTo_pre n t h.2
      rw [upTo_cons]
      show ((x == c) && (n ++ [58, 93]).isPrefixOf t) = true ↔ _
      by_cases hc : c = 58 ∧ t.head? = some 93
      · rw [if_pos (by rw [hc.2]; simp [hc.1])]
        constructor
        · intro hh
          simp only [Bool.and_eq_true, beq_iff_eq] at hh
          exact absurd (hc.1.symm.trans hh.1.symm) h.1
        · intro hh; cases hh
      · rw [if_neg (by simpa using hc)]
        constructor
        · intro hh
          simp only [Bool.and_eq_true, beq_iff_eq] at hh
          rw [ih.1 hh.2, hh.1]; rfl
        · intro hh
          obtain ⟨q, hq1, hq2⟩ := Option.map_eq_some_iff.1 hh
          injection hq2 with e1 e2
          subst e2
          rw [ih.2 hq1, e1]; simp
theorem names_no : ∀ n ∈ names, (58 : UInt8) ∉ n := by decide
/-- A class in a bracket, as the plain answer finds it. -/
theorem classAt_cls (l : List UInt8) : classAt l = match cls l with
    | some n => if n ∈ names then some n else none
    | none => none := by
  unfold classAt cls
  by_cases h : l.take 2 = [91, 58]
  · rw [if_pos h, if_pos h]
    cases hu : upTo (l.drop 2) with
    | none =>
      refine List.find?_eq_none.2 (fun n hn hp => ?_)
      rw [(upTo_pre n _ (names_no n hn)).1 hp] at hu; cases hu
    | some m =>
      show names.find? _ = if m ∈ names then some m else none
      by_cases hm : m ∈ names
      · rw [if_pos hm]
        have hp := (upTo_pre m (l.drop 2) (names_no m hm)).2 hu
        cases hf : names.find? (fun n => (n ++ [58, 93]).isPrefixOf (l.drop 2)) with
        | none => exact absurd hp (by have := List.find?_eq_none.1 hf m hm; simpa using this)
        | some k =>
          have hk := List.mem_of_find?_eq_some hf
          have hp2 := List.find?_some hf
          rw [(upTo_pre k _ (names_no k hk)).1 hp2] at hu
          rw [Option.some.inj hu]
      · rw [if_neg hm]
        refine List.find?_eq_none.2 (fun n hn hp => ?_)
        rw [(upTo_pre n _ (names_no n hn)).1 hp] at hu
        exact hm (Option.some.inj hu ▸ hn)
  · rw [if_neg h, if_neg h]
theorem take_two (l : List UInt8) : l.take 2 = [91, 58] ↔ ∃ h : 1 < l.length, l[0] = 91 ∧ l[1] = 58 := by
  match l with
  | [] => simp
  | [c] => simp
  | c :: d :: r => simp
end Gl
set_option maxRecDepth 100000 in
set_option maxHeartbeats 2000000 in
theorem rClass (l : List UInt8) (hl : l.length ≤ 2 ^ 62) (w : World) : Calls Tryd.prog 45 #[.string ⟨l.toArray⟩] w fun e w' => e = .returned (.tuple #[.string ⟨(Gl.clsR l).1.toArray⟩, .int .i64 ((Gl.clsR l).2 : Nat)]) ∧ w' = w := by
  have hs : (⟨l.toArray⟩ : ByteArray).size = l.length := str_size l
  by_cases h2 : l.take 2 = [91, 58]
  · obtain ⟨hl2, e0, e1⟩ := (Gl.take_two l).1 h2
    have hn0 : ((l[0].toNat : Int) != 91) = false := by rw [e0]; rfl
    have hn1 : ((l[1].toNat : Int) != 58) = false := by rw [e1]; rfl
    have HC : Hid (Gl.cls l = Gl.upTo (l.drop 2)) := by show _ = _; unfold Gl.cls; rw [if_pos h2]
    have hlt2 : ¬ l.length < 2 := by omega
    have hlt2' : decide (l.length < 2) = false := decide_eq_false hlt2
    clear h2 e0 e1
    go_enter Tryd.func45, Tryd.ntmps45
    go_wp2
    go_loop [4] (fun s4 => ∃ (i : Nat), s4 = .int .i64 i ∧ 2 ≤ i ∧ i ≤ l.length + 1 ∧ Hid (Gl.cls l = (Gl.upTo (l.drop i)).map ((l.take i).drop 2 ++ ·))) (fun s4 => l.length + 1 - (intOf s4).toNat)
    case atStart => exact ⟨2, rfl, Nat.le_refl _, by omega, by show _ = _; rw [HC.out, List.drop_take]; simp⟩
    case round =>
      obtain ⟨i, rfl, hi2, hi, HI⟩ := hrel
      obtain ⟨m, HM⟩ : ∃ m, Hid (m = i + 1) := ⟨_, rfl⟩
      have hw1 : IntKind.i64.wrap ((i : Int) + 1) = (m : Int) := by have := HM.out; rw [IntKind.wrap_i64]; omega
      have hw2 : IntKind.i64.wrap ((i : Int) + 2) = ((i + 2 : Nat) : Int) := by rw [IntKind.wrap_i64]; omega
      by_cases hlt : i + 1 < l.length
      · have hml : m < l.length := by have := HM.out; omega
        have hil : i < l.length := by omega
        have HE := hidA (Gl.upTo_at l i hil)
        have h93 : Hid (l[i + 1]? = some l[m]) := by
          show _ = _
          have := HM.out
          rw [← this, List.getElem?_eq_getElem hml]
        by_cases c1 : l[i] = 58
        · have hc1 := byte_yes _ 58 58 rfl c1
          by_cases c2 : l[m] = 93
          · have hc2 := byte_yes _ 93 93 rfl c2
            have HR : Hid (Gl.clsR l = ((l.take i).drop 2, i + 2)) := by
              show _ = _
              unfold Gl.clsR
              rw [HI.out, HE.out, if_pos ⟨c1, by rw [h93.out, c2]⟩]
              show ((l.take i).drop 2 ++ [], ((l.take i).drop 2 ++ []).length + 4) = _
              rw [List.append_nil, List.length_drop, List.length_take, Nat.min_eq_left (by omega), show i - 2 + 4 = i + 2 by omega]
            clear c1 c2 HE h93 HI HC
            go_wp2
            go_ret2
            exact ⟨by rw [HR.out]; simp, rfl⟩
          · have hc2 := byte_no _ 93 93 rfl c2
            have HI2 : Hid (Gl.cls l = (Gl.upTo (l.drop m)).map ((l.take m).drop 2 ++ ·)) := by
              show _ = _
              rw [HI.out, HE.out, if_neg (by rw [h93.out]; rintro ⟨_, h⟩; exact c2 (Option.some.inj h)), ← HM.out, Option.map_map]
              congr 1
              funext q
              show (l.take i).drop 2 ++ (l[i] :: q) = (l.take m).drop 2 ++ q
              rw [HM.out, List.take_succ_eq_append_getElem hil, List.drop_append_of_le_length (by rw [List.length_take]; omega)]; simp
            have hm2 : 2 ≤ m := by have := HM.out; omega
            have hm3 : m ≤ l.length + 1 := by omega
            have hm4 : l.length + 1 - m < l.length + 1 - i := by have := HM.out; omega
            clear c1 c2 HE h93 HI HC HM
            go_wp2
            exact ⟨⟨m, by first | rfl | go_num, hm2, hm3, HI2⟩, by simp [intOf]; omega⟩
        · have hc1 := byte_no _ 58 58 rfl c1
          have HI2 : Hid (Gl.cls l = (Gl.upTo (l.drop m)).map ((l.take m).drop 2 ++ ·)) := by
            show _ = _
            rw [HI.out, HE.out, if_neg (by rintro ⟨h, _⟩; exact c1 h), ← HM.out, Option.map_map]
            congr 1
            funext q
            show (l.take i).drop 2 ++ (l[i] :: q) = (l.take m).drop 2 ++ q
            rw [HM.out, List.take_succ_eq_append_getElem hil, List.drop_append_of_le_length (by rw [List.length_take]; omega)]; simp
          have hm2 : 2 ≤ m := by have := HM.out; omega
          have hm3 : m ≤ l.length + 1 := by omega
          have hm4 : l.length + 1 - m < l.length + 1 - i := by have := HM.out; omega
          clear c1 HE h93 HI HC HM
          go_wp2
          exact ⟨⟨m, by first | rfl | go_num, hm2, hm3, HI2⟩, by simp [intOf]; omega⟩
      · have hml : ¬ m < l.length := by have := HM.out; omega
        have HR : Hid (Gl.clsR l = ([], 0)) := by
          show _ = _
          unfold Gl.clsR
          rw [HI.out, Gl.upTo_end l i hlt]; rfl
        clear HI HC HM hlt
        go_wp2
        go_ret2
        exact ⟨by rw [HR.out]; rfl, rfl⟩
  · have HR : Hid (Gl.clsR l = ([], 0)) := by
      show _ = _
      unfold Gl.clsR Gl.cls
      rw [if_neg h2]
    rw [HR.out]
    rw [Gl.take_two] at h2
    by_cases hl2 : l.length < 2
    · have hlt2' : decide (l.length < 2) = true := decide_eq_true hl2
      have hlt3' : decide ((l.length : Int) < 2) = true := decide_eq_true (by omega)
      clear h2
      go_enter Tryd.func45, Tryd.ntmps45
      go_wp2
      go_ret2
      exact ⟨rfl, rfl⟩
    · have hlt2' : decide (l.length < 2) = false := decide_eq_false hl2
      have hlt3' : decide ((l.length : Int) < 2) = false := decide_eq_false (by omega)
      have hl1 : 1 < l.length := by omega
      by_cases e0 : l[0] = 91
      · have hn0 : ((l[0].toNat : Int) != 91) = false := by rw [e0]; rfl
        have e1 : l[1] ≠ 58 := fun h => h2 ⟨hl1, e0, h⟩
        have hn1 : ((l[1].toNat : Int) != 58) = true := neq_lit e1 58 rfl
        clear e0 e1 h2
        go_enter Tryd.func45, Tryd.ntmps45
        go_wp2
        go_ret2
        exact ⟨rfl, rfl⟩
      · have hn0 : ((l[0].toNat : Int) != 91) = true := neq_lit e0 91 rfl
        clear e0 h2
        go_enter Tryd.func45, Tryd.ntmps45
        go_wp2
        go_ret2
        exact ⟨rfl, rfl⟩
end Go.Proofs.YtncnmeidciailaaDoor
