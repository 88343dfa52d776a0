/- The walks of the program's guarded and takes. Conditions: a place that is there; a piece that lies in memory. -/
import Derived.Test.YtncnmeidciailaaDoorLa1
namespace Go.Proofs.YtncnmeidciailaaDoor
open Go.RowKit
attribute [local go_sem] ext_eq app_eq get_eq
namespace Gl
theorem guard_slash {f : Fl} {s : List UInt8} {i : Nat} (hi : i < s.length) (h : s[i] = 47) : guard f s i = f.path := by
  unfold guard; rw [List.getElem?_eq_getElem hi, if_pos (by rw [h])]
theorem guard_dot {f : Fl} {s : List UInt8} {i : Nat} (hi : i < s.length) (h : s[i] = 46) : guard f s i = (f.period && (decide (i = 0) || f.path && decide (s[i - 1]? = some 47))) := by
  unfold guard; rw [List.getElem?_eq_getElem hi, if_neg (by rw [h]; decide), if_pos (by rw [h])]
theorem guard_else {f : Fl} {s : List UInt8} {i : Nat} (hi : i < s.length) (h : s[i] ≠ 47) (h2 : s[i] ≠ 46) : guard f s i = false := by
  unfold guard; rw [List.getElem?_eq_getElem hi, if_neg (by simpa using h), if_neg (by simpa using h2)]
end Gl
set_option maxHeartbeats 1000000 in
theorem gGuarded (v : Value) (fl : Int) (s : List UInt8) (i : Nat) (hi : i < s.length) (hl : s.length ≤ 2 ^ 47) (w : World) : Calls Tryd.prog 58 #[.agg #[v, .int .i64 fl], .string ⟨s.toArray⟩, .int .i64 i] w fun e w' => e = .returned (.bool (Gl.guard (Gl.flOf fl) s i)) ∧ Below w.heap.size w w' := by
  have HB := hidA (fun o => (Below.refl w.heap.size w).alloc (Nat.le_refl _) o)
  have hs : (⟨s.toArray⟩ : ByteArray).size = s.length := str_size s
  by_cases h1 : s[i] = 47
  · have HE := hidA (Gl.guard_slash (f := Gl.flOf fl) hi h1)
    have h1' := byte_yes _ 47 47 rfl h1
    clear h1
    go_enter Tryd.func58, Tryd.ntmps58
    go_wp2
    go_ret
    exact ⟨by rw [HE.out]; rfl, HB.out _⟩
  have h1' := byte_no _ 47 47 rfl h1
  by_cases h2 : s[i] = 46
  · have HE := hidA (Gl.guard_dot (f := Gl.flOf fl) hi h2)
    have h2' := byte_yes _ 46 46 rfl h2
    clear h1 h2
    cases hp : (bits .and .i64 fl 2 != 0) with
    | false =>
      have hp' : bits .and .i64 fl 2 = 0 := by simpa using hp
      have HF : Hid (Gl.guard (Gl.flOf fl) s i = false) := by show _ = _; rw [HE.out]; show (((bits .and .i64 fl 2 != 0)) && _) = _; rw [hp]; rfl
      clear HE
      go_enter Tryd.func58, Tryd.ntmps58
      go_wp2
      go_ret
      exact ⟨by rw [HF.out]; rfl, HB.out _⟩
    | true =>
      have hp' : ¬ bits .and .i64 fl 2 = 0 := by simpa using hp
      by_cases h0 : i = 0
      · have HF : Hid (Gl.guard (Gl.flOf fl) s i = true) := by show _ = _; rw [HE.out]; show (((bits .and .i64 fl 2 != 0)) && _) = _; rw [hp, decide_eq_true h0]; rfl
        clear HE
        subst h0
        go_enter Tryd.func58, Tryd.ntmps58
        go_wp2
        go_ret
        exact ⟨by rw [HF.out]; rfl, HB.out _⟩
      · have h0' : ((i : Int) == 0) = false := by simp; omega
        have hw1 : IntKind.i64.wrap ((i : Int) - 1) = ((i - 1 : Nat) : Int) := by rw [IntKind.wrap_i64]; omega
        have hi1 : i - 1 < s.length := by omega
        cases hq : (bits .and .i64 fl 1 != 0) with
        | false =>
          have hq' : bits .and .i64 fl 1 = 0 := by simpa using hq
          have HF : Hid (Gl.guard (Gl.flOf fl) s i = false) := by show _ = _; rw [HE.out]; show ((bits .and .i64 fl 2 != 0) && (_ || (bits .and .i64 fl 1 != 0) && _)) = _; rw [hq, decide_eq_false h0]; simp
          clear HE h0
          go_enter Tryd.func58, Tryd.ntmps58
          go_wp2
          go_ret
          exact ⟨by rw [HF.out]; rfl, HB.out _⟩
        | true =>
          have hq' : ¬ bits .and .i64 fl 1 = 0 := by simpa using hq
          have HF : Hid (Gl.guard (Gl.flOf fl) s i = decide (s[i - 1] = 47)) := by show _ = _; rw [HE.out]; show ((bits .and .i64 fl 2 != 0) && (_ || (bits .and .i64 fl 1 != 0) && _)) = _; rw [hp, hq, decide_eq_false h0, List.getElem?_eq_getElem hi1]; simp
          have h3 := byte_eq s[i - 1] 47
          have h3' : (((s[i - 1]).toNat : Int) == 47) = decide (s[i - 1] = 47) := h3
          clear HE h0 h3
          obtain ⟨j, hj⟩ : ∃ j, i - 1 = j := ⟨_, rfl⟩
          simp only [hj] at *
          clear hj
          go_enter Tryd.func58, Tryd.ntmps58
          go_wp2
          go_ret
          exact ⟨by rw [HF.out]; rfl, HB.out _⟩
  · have HE := hidA (Gl.guard_else (f := Gl.flOf fl) hi h1 h2)
    have h2' := byte_no _ 46 46 rfl h2
    clear h1 h2
    go_enter Tryd.func58, Tryd.ntmps58
    go_wp2
    go_ret
    exact ⟨by rw [HE.out]; rfl, HB.out _⟩
namespace Gl
def Pc.kd : Pc → Int
  | .star => 0
  | .any => 1
  | .this _ => 2
  | .some _ => 3
def Pc.by_ : Pc → Int
  | .this c => c.toNat
  | _ => 0
end Gl
/-- A piece's set in memory. -/
def PcRep (W : World) : Gl.Pc → Option Addr → Prop
  | .some g, p => ∃ b, p = some ⟨b, 0, none⟩ ∧ b < W.heap.size ∧ ∀ k : UInt8, W.cell? ⟨b, k.toNat, none⟩ = some (.bool (g k))
  | _, p => p = none
theorem PcRep.grow {W W' : World} {x : Gl.Pc} {p : Option Addr} (h : PcRep W x p) (hB : Below W.heap.size W W') : PcRep W' x p := by
  cases x with
  | some g =>
    obtain ⟨b, rfl, hb, hc⟩ := h
    exact ⟨b, rfl, by have := hB.size; omega, fun k => (hB.cell (p := ⟨b, k.toNat, none⟩) hb).trans (hc k)⟩
  | _ => exact h
set_option maxRecDepth 100000 in
set_option maxHeartbeats 2000000 in
theorem gTakes (v : Value) (fl : Int) (x : Gl.Pc) (p : Option Addr) (s : List UInt8) (i : Nat) (hi : i < s.length) (hl : s.length ≤ 2 ^ 47) (w : World) (hp : PcRep w x p) : Calls Tryd.prog 57 #[.agg #[v, .int .i64 fl], .agg #[.int .i64 x.kd, .int .u8 x.by_, .pointer p], .string ⟨s.toArray⟩, .int .i64 i] w fun e w' => e = .returned (.bool (Gl.takes (Gl.flOf fl) s x i)) ∧ Below w.heap.size w w' := by
  have hs : (⟨s.toArray⟩ : ByteArray).size = s.length := str_size s
  have HG := hidA (fun W => gGuarded v fl s i hi hl W)
  have HF := hidA (fun W => gFolded s[i] fl W)
  cases x with
  | this c =>
    have HE : Hid (Gl.takes (Gl.flOf fl) s (.this c) i = (((Gl.fold (Gl.flOf fl) s[i]).toNat : Int) == (c.toNat : Int))) := by
      show (s[i]?.map _ == some c) = _
      rw [List.getElem?_eq_getElem hi, byte_eq, Bool.eq_iff_iff]; simp
    generalize Gl.fold (Gl.flOf fl) s[i] = d at *
    dsimp only [Gl.Pc.kd, Gl.Pc.by_]
    clear HG
    go_enter Tryd.func57, Tryd.ntmps57
    go_wp2_with (go_quiet ((go_at_call 75; exact Calls.quiet_of_same (HF.out _))))
    go_ret
    exact ⟨by rw [HE.out]; rfl, ((Below.refl _ _).alloc (Nat.le_refl _) _).alloc (by simp) _ |>.trans ((bl_drew _ _).mono (by simp; omega))⟩
  | some g =>
    obtain ⟨b, rfl, hb, hcs⟩ := hp
    have hc := hcs s[i]
    have hlt : s[i].toNat < 256 := s[i].toNat_lt
    have hnb : b ≠ w.heap.size := by omega
    clear hcs HF
    cases hg : g s[i] with
    | false =>
      have HE : Hid (Gl.takes (Gl.flOf fl) s (.some g) i = false) := by
        show ((s[i]?.map _ == _) && _) = _
        rw [List.getElem?_eq_getElem hi]; simp [hg]
      rw [hg] at hc
      clear hg HG
      dsimp only [Gl.Pc.kd, Gl.Pc.by_]
      go_enter Tryd.func57, Tryd.ntmps57
      go_wp2_with (go_quiet (fail))
      go_ret
      exact ⟨by rw [HE.out]; rfl, ((Below.refl _ _).alloc (Nat.le_refl _) _).alloc (by simp) _ |>.trans ((bl_drew _ _).mono (by simp; omega))⟩
    | true =>
      have HE : Hid (Gl.takes (Gl.flOf fl) s (.some g) i = !Gl.guard (Gl.flOf fl) s i) := by
        show ((s[i]?.map _ == _) && _) = _
        rw [List.getElem?_eq_getElem hi]; simp [hg]
      rw [hg] at hc
      clear hg
      dsimp only [Gl.Pc.kd, Gl.Pc.by_]
      generalize Gl.guard (Gl.flOf fl) s i = gg at *
      go_enter Tryd.func57, Tryd.ntmps57
      go_wp2_with (go_region_with ((go_at_call 58; refine (HG.out _).mono ?_; rintro e w1 ⟨rfl, b1⟩)))
      all_goals
        go_ret
        exact ⟨by rw [HE.out]; rfl, ((Below.refl _ _).alloc (Nat.le_refl _) _).alloc (by simp) _ |>.trans (Below.mono (bl2 (bl_drew _ 1) b1) (by simp; omega))⟩
  | any =>
    obtain rfl : p = none := hp
    have HE : Hid (Gl.takes (Gl.flOf fl) s .any i = !Gl.guard (Gl.flOf fl) s i) := by
      show (s[i]?.isSome && _) = _
      rw [List.getElem?_eq_getElem hi]; simp
    dsimp only [Gl.Pc.kd, Gl.Pc.by_]
    generalize Gl.guard (Gl.flOf fl) s i = gg at *
    clear HF
    go_enter Tryd.func57, Tryd.ntmps57
    go_wp2_with (go_at_call 58; refine (HG.out _).mono ?_; rintro e w1 ⟨rfl, b1⟩)
    go_ret
    exact ⟨by rw [HE.out]; rfl, ((Below.refl _ _).alloc (Nat.le_refl _) _).alloc (by simp) _ |>.trans (b1.mono (by simp; omega))⟩
  | star =>
    obtain rfl : p = none := hp
    have HE : Hid (Gl.takes (Gl.flOf fl) s .star i = !Gl.guard (Gl.flOf fl) s i) := by
      show (s[i]?.isSome && _) = _
      rw [List.getElem?_eq_getElem hi]; simp
    dsimp only [Gl.Pc.kd, Gl.Pc.by_]
    generalize Gl.guard (Gl.flOf fl) s i = gg at *
    clear HF
    go_enter Tryd.func57, Tryd.ntmps57
    go_wp2_with (go_at_call 58; refine (HG.out _).mono ?_; rintro e w1 ⟨rfl, b1⟩)
    go_ret
    exact ⟨by rw [HE.out]; rfl, ((Below.refl _ _).alloc (Nat.le_refl _) _).alloc (by simp) _ |>.trans (b1.mono (by simp; omega))⟩
end Go.Proofs.YtncnmeidciailaaDoor
