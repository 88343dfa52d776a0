/- PermBack's function answers true. No condition. -/
import Derived.Test.YtmminmdmhefefaaPmh
namespace Go.Proofs.Ytmminmdmhefefaa
open Go.RowKit
attribute [local go_sem] get_eq
theorem wText (w W : World) (m : Int) (h : Hid (Below w.heap.size w W)) : Calls Try.prog 9 #[.int .i64 m] W fun e w' => e = .returned (.string ⟨(Pm.txt m).toArray⟩) ∧ Hid (Below w.heap.size w w') :=
  (pText m W).mono fun _ _ ⟨he, hB⟩ => ⟨he, h.out.trans (hB.mono h.out.size)⟩
theorem wParse (w W : World) (l : List UInt8) (hl : l.length ≤ 2 ^ 60) (h : Hid (Below w.heap.size w W)) : Calls Try.prog 7 #[.string ⟨l.toArray⟩] W fun e w' => e = .returned (.tuple #[.int .i64 (Pm.parR l), .int .i64 (Pm.parE l)]) ∧ Hid (Below w.heap.size w w') :=
  (pParse l W hl).mono fun _ _ ⟨he, hB⟩ => ⟨he, h.out.trans (hB.mono h.out.size)⟩
theorem wOctal (w W : World) (m : Int) (h : Hid (Below w.heap.size w W)) : Calls Try.prog 11 #[.int .i64 m] W fun e w' => e = .returned (.string ⟨(Pm.oct m).toArray⟩) ∧ Hid (Below w.heap.size w w') :=
  (pOctal m W).mono fun _ _ ⟨he, hB⟩ => ⟨he, h.out.trans (hB.mono h.out.size)⟩
theorem wChange (w W : World) (l : List UInt8) (old umask M : Int) (hl : l.length ≤ 2 ^ 60) (hE : Pm.chgE l old umask = 0) (hM : Pm.chgM l old umask = M) (h : Hid (Below w.heap.size w W)) :
    Calls Try.prog 14 #[.string ⟨l.toArray⟩, .int .i64 old, .int .i64 umask] W fun e w' => e = .returned (.tuple #[.int .i64 M, .int .i64 0]) ∧ Hid (Below w.heap.size w w') :=
  (pChange l old umask W hl).mono fun _ _ ⟨he, hB⟩ => ⟨by rw [he, hE, hM], h.out.trans (hB.mono h.out.size)⟩
theorem wLives (w W : World) (h : Hid (Below w.heap.size w W)) : Calls Try.prog 13 #[] W fun e w' => e = .returned (.bool true) ∧ Hid (Below w.heap.size w w') :=
  (lives_walk W).mono fun _ _ ⟨he, hB⟩ => ⟨he, h.out.trans (hB.mono h.out.size)⟩
namespace Pm
def rwM (x : Int) : Int := chgM [97, 43, 114, 119] x 0
theorem rwM_any (x umask : Int) : chgM [97, 43, 114, 119] x umask = rwM x := by rw [rwM, chgM, chgM, chg_rw, chg_rw]
def xM (x umask : Int) : Int := chgM [97, 43, 120, 44, 97, 45, 114, 119, 120, 115, 116] x umask
theorem E_rw (x u : Int) : chgE [97, 43, 114, 119] x u = 0 := by rw [chgE, chg_rw]
theorem E_x (x u : Int) : chgE [97, 43, 120, 44, 97, 45, 114, 119, 120, 115, 116] x u = 0 := by rw [chgE, chg_x]
theorem octM (x umask : Int) : chgM (oct x) 32768 umask = bits .or .i64 32768 (bits .and .i64 x 4095) := by
  rw [chgM, chg_oct]
  show bits .or .i64 (bits .and .i64 32768 61440) _ = _
  rw [show bits .and .i64 32768 61440 = 32768 by kernel_rfl]
theorem txt10 (x : Int) : (txt x).length = 10 := rfl
end Pm
theorem wRw (w W : World) (x u : Int) (h : Hid (Below w.heap.size w W)) : Calls Try.prog 14 #[.string ⟨#[97, 43, 114, 119]⟩, .int .i64 x, .int .i64 u] W fun e w' => e = .returned (.tuple #[.int .i64 (Pm.rwM x), .int .i64 0]) ∧ Hid (Below w.heap.size w w') :=
  wChange w W [97, 43, 114, 119] x u _ (by decide) (Pm.E_rw x u) (Pm.rwM_any x u) h
theorem wX (w W : World) (x u : Int) (h : Hid (Below w.heap.size w W)) : Calls Try.prog 14 #[.string ⟨#[97, 43, 120, 44, 97, 45, 114, 119, 120, 115, 116]⟩, .int .i64 x, .int .i64 u] W fun e w' => e = .returned (.tuple #[.int .i64 (Pm.xM x u), .int .i64 0]) ∧ Hid (Below w.heap.size w w') :=
  wChange w W [97, 43, 120, 44, 97, 45, 114, 119, 120, 115, 116] x u _ (by decide) (Pm.E_x x u) rfl h
set_option maxRecDepth 100000 in
set_option maxHeartbeats 1000000 in
theorem back_walk (m umask : Int) (w : World) : Calls Try.prog 6 #[.int .i64 m, .int .i64 umask] w fun e w' => e = .returned (.bool true) ∧ Below w.heap.size w w' := by
  have HP : Hid (¬ Pm.kindB (bits .and .i64 m 65535) = 63 → Pm.parR (Pm.txt (bits .and .i64 m 65535)) = bits .and .i64 m 65535 ∧ Pm.parE (Pm.txt (bits .and .i64 m 65535)) = 0) := Pm.par_back m
  have hx0 : ((((Pm.txt (bits .and .i64 m 65535))[0]'(by rw [Pm.txt10]; decide)).toNat : Nat) : Int) = Pm.kindB (bits .and .i64 m 65535) := Pm.b8k _
  have H0 : Hid (((((Pm.txt (bits .and .i64 m 65535))[0]'(by rw [Pm.txt10]; decide)).toNat : Nat) : Int) = Pm.kindB (bits .and .i64 m 65535)) := hx0
  clear hx0
  generalize hX : bits .and .i64 m 65535 = x at *
  have hlen : (Pm.txt x).length = 10 := Pm.txt10 x
  have HL : Hid (Below w.heap.size w w) := Below.refl _ _
  have r1 : (bits .and .i64 (Pm.rwM x) 438 == 438) = true := by rw [Pm.rwM, Pm.rw_all]; rfl
  have r2 : (bits .and .i64 (Pm.xM x umask) 4095 == 0) = true := by rw [Pm.xM, Pm.x_none]; rfl
  have E3 : Hid (Pm.chgE (Pm.oct x) 32768 umask = 0) := by show _ = _; rw [Pm.chgE, Pm.chg_oct]
  have E4 : Hid ((Pm.oct x).length = 4) := rfl
  by_cases hk : Pm.kindB x = 63
  · have h63 : (((Pm.txt x)[0].toNat : Int) != 63) = false := by rw [H0.out, hk]; rfl
    clear HP H0 hk
    go_enter Try.func6, Try.ntmps6
    go_wp2_with (first | (go_at_call 9; refine (wText w _ x (by assumption)).mono ?_; rintro e w' ⟨rfl, HN⟩) | (go_at_call 7; refine (wParse w _ (Pm.txt x) (by rw [hlen]; decide) (by assumption)).mono ?_; rintro e w' ⟨rfl, HN⟩) | (go_at_call 11; refine (wOctal w _ x (by assumption)).mono ?_; rintro e w' ⟨rfl, HN⟩))
    refine (wChange w _ (Pm.oct x) 32768 umask _ (by rw [E4.out]; decide) E3.out (Pm.octM x umask) (by assumption)).mono ?_
    rintro e w' ⟨rfl, HN1⟩
    go_wp2_with fail
    refine (wRw w _ x umask (by assumption)).mono ?_
    rintro e w2 ⟨rfl, HN2⟩
    go_wp2_with fail
    refine (wRw w _ x 0 (by assumption)).mono ?_
    rintro e w3 ⟨rfl, HN3⟩
    go_wp2_with fail
    refine (wX w _ x umask (by assumption)).mono ?_
    rintro e w4 ⟨rfl, HN4⟩
    go_wp2_with fail
    refine (wLives w _ (by assumption)).mono ?_
    rintro e w5 ⟨rfl, HN5⟩
    go_wp2
    go_ret
    exact ⟨rfl, HN5⟩
  · have h63 : (((Pm.txt x)[0].toNat : Int) != 63) = true := by rw [H0.out]; simpa using hk
    obtain ⟨hp1, hp2⟩ := HP.out hk
    clear HP H0 hk
    go_enter Try.func6, Try.ntmps6
    go_wp2_with (first | (go_at_call 9; refine (wText w _ x (by assumption)).mono ?_; rintro e w' ⟨rfl, HN⟩) | (go_at_call 7; refine (wParse w _ (Pm.txt x) (by rw [hlen]; decide) (by assumption)).mono ?_; rintro e w' ⟨rfl, HN⟩) | (go_at_call 11; refine (wOctal w _ x (by assumption)).mono ?_; rintro e w' ⟨rfl, HN⟩))
    refine (wChange w _ (Pm.oct x) 32768 umask _ (by rw [E4.out]; decide) E3.out (Pm.octM x umask) (by assumption)).mono ?_
    rintro e w' ⟨rfl, HN1⟩
    go_wp2_with fail
    refine (wRw w _ x umask (by assumption)).mono ?_
    rintro e w2 ⟨rfl, HN2⟩
    go_wp2_with fail
    refine (wRw w _ x 0 (by assumption)).mono ?_
    rintro e w3 ⟨rfl, HN3⟩
    go_wp2_with fail
    refine (wX w _ x umask (by assumption)).mono ?_
    rintro e w4 ⟨rfl, HN4⟩
    go_wp2_with fail
    refine (wLives w _ (by assumption)).mono ?_
    rintro e w5 ⟨rfl, HN5⟩
    go_wp2
    go_ret
    exact ⟨rfl, HN5⟩
end Go.Proofs.Ytmminmdmhefefaa
