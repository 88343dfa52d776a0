/- The walk of the program's inClass. Condition: a name of a class. -/
import Derived.Test.YtncnmeidciailaaDoorLp1
namespace Go.Proofs.YtncnmeidciailaaDoor
open Go.RowKit
attribute [local go_sem] ext_eq app_eq get_eq
theorem inCAlnum (c : UInt8) : Gl.inC Gl.nAlnum c = (Gl.let_ c || Gl.dg c) := rfl
theorem inCAlpha (c : UInt8) : Gl.inC Gl.nAlpha c = Gl.let_ c := rfl
theorem inCBlank (c : UInt8) : Gl.inC Gl.nBlank c = (decide (c = 32) || decide (c = 9)) := rfl
theorem inCCntrl (c : UInt8) : Gl.inC Gl.nCntrl c = (decide (c.toNat < 32) || decide (c = 127)) := rfl
theorem inCDigit (c : UInt8) : Gl.inC Gl.nDigit c = Gl.dg c := rfl
theorem inCGraph (c : UInt8) : Gl.inC Gl.nGraph c = Gl.gr c := rfl
theorem inCLower (c : UInt8) : Gl.inC Gl.nLower c = Gl.lo c := rfl
theorem inCPrint (c : UInt8) : Gl.inC Gl.nPrint c = (decide (c = 32) || Gl.gr c) := rfl
theorem inCPunct (c : UInt8) : Gl.inC Gl.nPunct c = (Gl.gr c && !Gl.let_ c && !Gl.dg c) := rfl
theorem inCSpace (c : UInt8) : Gl.inC Gl.nSpace c = (decide (c = 32) || decide (9 ≤ c.toNat) && decide (c.toNat ≤ 13)) := rfl
theorem inCUpper (c : UInt8) : Gl.inC Gl.nUpper c = Gl.up c := rfl
theorem inCXdigit (c : UInt8) : Gl.inC Gl.nXdigit c = (Gl.dg c || decide (97 ≤ c.toNat) && decide (c.toNat ≤ 102) || decide (65 ≤ c.toNat) && decide (c.toNat ≤ 70)) := rfl
set_option maxRecDepth 100000 in
set_option maxHeartbeats 2000000 in
theorem gInAlnum (c : UInt8) (w : World) : Calls Tryd.prog 70 #[.string ⟨#[97, 108, 110, 117, 109]⟩, .int .u8 c.toNat] w fun e w' => e = .returned (.bool (Gl.inC Gl.nAlnum c)) ∧ w' = w := by
  have HE := hidA (inCAlnum c)
  have HLt := hidA (fun W => gIsLetter c W)
  have HDg := hidA (fun W => gIsDigit c W)
  have HGr := hidA (fun W => gIsGraph c W)
  have HLo := hidA (fun W => gIsLower c W)
  have HUp := hidA (fun W => gIsUpper c W)
  rcases hb1 : Gl.let_ c with _ | _
  all_goals
    simp only [hb1] at HLt HDg HGr
    have D1 := hidA hb1
    clear hb1
    go_enter Tryd.func70, Tryd.ntmps70
    go_wp2_with (first | (go_at_call 87; refine (HLt.out _).mono ?_; rintro e w1 ⟨rfl, hw'⟩; rw [hw']; clear hw' w1) | (go_at_call 84; refine (HDg.out _).mono ?_; rintro e w1 ⟨rfl, hw'⟩; rw [hw']; clear hw' w1) | (go_at_call 88; refine (HGr.out _).mono ?_; rintro e w1 ⟨rfl, hw'⟩; rw [hw']; clear hw' w1) | (go_at_call 89; refine (HLo.out _).mono ?_; rintro e w1 ⟨rfl, hw'⟩; rw [hw']; clear hw' w1) | (go_at_call 90; refine (HUp.out _).mono ?_; rintro e w1 ⟨rfl, hw'⟩; rw [hw']; clear hw' w1))
    go_ret
    exact ⟨ret_bool (by rw [HE.out, D1.out]; try (first | rfl | (simp; done) | (simp; omega))), rfl⟩
set_option maxRecDepth 100000 in
set_option maxHeartbeats 2000000 in
theorem gInAlpha (c : UInt8) (w : World) : Calls Tryd.prog 70 #[.string ⟨#[97, 108, 112, 104, 97]⟩, .int .u8 c.toNat] w fun e w' => e = .returned (.bool (Gl.inC Gl.nAlpha c)) ∧ w' = w := by
  have HE := hidA (inCAlpha c)
  have HLt := hidA (fun W => gIsLetter c W)
  have HDg := hidA (fun W => gIsDigit c W)
  have HGr := hidA (fun W => gIsGraph c W)
  have HLo := hidA (fun W => gIsLower c W)
  have HUp := hidA (fun W => gIsUpper c W)
  go_enter Tryd.func70, Tryd.ntmps70
  go_wp2_with (first | (go_at_call 87; refine (HLt.out _).mono ?_; rintro e w1 ⟨rfl, hw'⟩; rw [hw']; clear hw' w1) | (go_at_call 84; refine (HDg.out _).mono ?_; rintro e w1 ⟨rfl, hw'⟩; rw [hw']; clear hw' w1) | (go_at_call 88; refine (HGr.out _).mono ?_; rintro e w1 ⟨rfl, hw'⟩; rw [hw']; clear hw' w1) | (go_at_call 89; refine (HLo.out _).mono ?_; rintro e w1 ⟨rfl, hw'⟩; rw [hw']; clear hw' w1) | (go_at_call 90; refine (HUp.out _).mono ?_; rintro e w1 ⟨rfl, hw'⟩; rw [hw']; clear hw' w1))
  go_ret
  exact ⟨ret_bool (by rw [HE.out]; try (first | rfl | (simp; done) | (simp; omega))), rfl⟩
set_option maxRecDepth 100000 in
set_option maxHeartbeats 2000000 in
theorem gInBlank (c : UInt8) (w : World) : Calls Tryd.prog 70 #[.string ⟨#[98, 108, 97, 110, 107]⟩, .int .u8 c.toNat] w fun e w' => e = .returned (.bool (Gl.inC Gl.nBlank c)) ∧ w' = w := by
  have HE := hidA (inCBlank c)
  have HLt := hidA (fun W => gIsLetter c W)
  have HDg := hidA (fun W => gIsDigit c W)
  have HGr := hidA (fun W => gIsGraph c W)
  have HLo := hidA (fun W => gIsLower c W)
  have HUp := hidA (fun W => gIsUpper c W)
  by_cases e1 : c = 32
  all_goals
    by_cases e2 : c = 9
    all_goals
      (first | (have f1 := byte_yes _ 32 32 rfl e1; have D1 : Hid (decide (c = 32) = true) := decide_eq_true e1; have n1 : c.toNat = 32 := by rw [e1]; rfl) | (have f1 := byte_no _ 32 32 rfl e1; have D1 : Hid (decide (c = 32) = false) := decide_eq_false e1; have n1 : c.toNat ≠ 32 := fun h => e1 (UInt8.toNat_inj.1 h)))
      (first | (have f2 := byte_yes _ 9 9 rfl e2; have D2 : Hid (decide (c = 9) = true) := decide_eq_true e2; have n2 : c.toNat = 9 := by rw [e2]; rfl) | (have f2 := byte_no _ 9 9 rfl e2; have D2 : Hid (decide (c = 9) = false) := decide_eq_false e2; have n2 : c.toNat ≠ 9 := fun h => e2 (UInt8.toNat_inj.1 h)))
      first
      | (exfalso; omega)
      | (clear e1 n1 e2 n2
         go_enter Tryd.func70, Tryd.ntmps70
         go_wp2_with (first | (go_at_call 87; refine (HLt.out _).mono ?_; rintro e w1 ⟨rfl, hw'⟩; rw [hw']; clear hw' w1) | (go_at_call 84; refine (HDg.out _).mono ?_; rintro e w1 ⟨rfl, hw'⟩; rw [hw']; clear hw' w1) | (go_at_call 88; refine (HGr.out _).mono ?_; rintro e w1 ⟨rfl, hw'⟩; rw [hw']; clear hw' w1) | (go_at_call 89; refine (HLo.out _).mono ?_; rintro e w1 ⟨rfl, hw'⟩; rw [hw']; clear hw' w1) | (go_at_call 90; refine (HUp.out _).mono ?_; rintro e w1 ⟨rfl, hw'⟩; rw [hw']; clear hw' w1))
         go_ret
         exact ⟨ret_bool (by rw [HE.out, D1.out, D2.out]; try (first | rfl | (simp; done) | (simp; omega))), rfl⟩)
set_option maxRecDepth 100000 in
set_option maxHeartbeats 2000000 in
theorem gInCntrl (c : UInt8) (w : World) : Calls Tryd.prog 70 #[.string ⟨#[99, 110, 116, 114, 108]⟩, .int .u8 c.toNat] w fun e w' => e = .returned (.bool (Gl.inC Gl.nCntrl c)) ∧ w' = w := by
  have HE := hidA (inCCntrl c)
  have HLt := hidA (fun W => gIsLetter c W)
  have HDg := hidA (fun W => gIsDigit c W)
  have HGr := hidA (fun W => gIsGraph c W)
  have HLo := hidA (fun W => gIsLower c W)
  have HUp := hidA (fun W => gIsUpper c W)
  by_cases p1 : c.toNat < 32
  all_goals
    by_cases e2 : c = 127
    all_goals
      (first | (have D1 : Hid (decide (c.toNat < 32) = true) := decide_eq_true p1) | (have D1 : Hid (decide (c.toNat < 32) = false) := decide_eq_false p1))
      (first | (have f2 := byte_yes _ 127 127 rfl e2; have D2 : Hid (decide (c = 127) = true) := decide_eq_true e2; have n2 : c.toNat = 127 := by rw [e2]; rfl) | (have f2 := byte_no _ 127 127 rfl e2; have D2 : Hid (decide (c = 127) = false) := decide_eq_false e2; have n2 : c.toNat ≠ 127 := fun h => e2 (UInt8.toNat_inj.1 h)))
      first
      | (exfalso; omega)
      | (clear e2 n2
         go_enter Tryd.func70, Tryd.ntmps70
         go_wp2_with (first | (go_at_call 87; refine (HLt.out _).mono ?_; rintro e w1 ⟨rfl, hw'⟩; rw [hw']; clear hw' w1) | (go_at_call 84; refine (HDg.out _).mono ?_; rintro e w1 ⟨rfl, hw'⟩; rw [hw']; clear hw' w1) | (go_at_call 88; refine (HGr.out _).mono ?_; rintro e w1 ⟨rfl, hw'⟩; rw [hw']; clear hw' w1) | (go_at_call 89; refine (HLo.out _).mono ?_; rintro e w1 ⟨rfl, hw'⟩; rw [hw']; clear hw' w1) | (go_at_call 90; refine (HUp.out _).mono ?_; rintro e w1 ⟨rfl, hw'⟩; rw [hw']; clear hw' w1))
         go_ret
         exact ⟨ret_bool (by rw [HE.out, D1.out, D2.out]; try (first | rfl | (simp; done) | (simp; omega))), rfl⟩)
set_option maxRecDepth 100000 in
set_option maxHeartbeats 2000000 in
theorem gInDigit (c : UInt8) (w : World) : Calls Tryd.prog 70 #[.string ⟨#[100, 105, 103, 105, 116]⟩, .int .u8 c.toNat] w fun e w' => e = .returned (.bool (Gl.inC Gl.nDigit c)) ∧ w' = w := by
  have HE := hidA (inCDigit c)
  have HLt := hidA (fun W => gIsLetter c W)
  have HDg := hidA (fun W => gIsDigit c W)
  have HGr := hidA (fun W => gIsGraph c W)
  have HLo := hidA (fun W => gIsLower c W)
  have HUp := hidA (fun W => gIsUpper c W)
  go_enter Tryd.func70, Tryd.ntmps70
  go_wp2_with (first | (go_at_call 87; refine (HLt.out _).mono ?_; rintro e w1 ⟨rfl, hw'⟩; rw [hw']; clear hw' w1) | (go_at_call 84; refine (HDg.out _).mono ?_; rintro e w1 ⟨rfl, hw'⟩; rw [hw']; clear hw' w1) | (go_at_call 88; refine (HGr.out _).mono ?_; rintro e w1 ⟨rfl, hw'⟩; rw [hw']; clear hw' w1) | (go_at_call 89; refine (HLo.out _).mono ?_; rintro e w1 ⟨rfl, hw'⟩; rw [hw']; clear hw' w1) | (go_at_call 90; refine (HUp.out _).mono ?_; rintro e w1 ⟨rfl, hw'⟩; rw [hw']; clear hw' w1))
  go_ret
  exact ⟨ret_bool (by rw [HE.out]; try (first | rfl | (simp; done) | (simp; omega))), rfl⟩
set_option maxRecDepth 100000 in
set_option maxHeartbeats 2000000 in
theorem gInGraph (c : UInt8) (w : World) : Calls Tryd.prog 70 #[.string ⟨#[103, 114, 97, 112, 104]⟩, .int .u8 c.toNat] w fun e w' => e = .returned (.bool (Gl.inC Gl.nGraph c)) ∧ w' = w := by
  have HE := hidA (inCGraph c)
  have HLt := hidA (fun W => gIsLetter c W)
  have HDg := hidA (fun W => gIsDigit c W)
  have HGr := hidA (fun W => gIsGraph c W)
  have HLo := hidA (fun W => gIsLower c W)
  have HUp := hidA (fun W => gIsUpper c W)
  go_enter Tryd.func70, Tryd.ntmps70
  go_wp2_with (first | (go_at_call 87; refine (HLt.out _).mono ?_; rintro e w1 ⟨rfl, hw'⟩; rw [hw']; clear hw' w1) | (go_at_call 84; refine (HDg.out _).mono ?_; rintro e w1 ⟨rfl, hw'⟩; rw [hw']; clear hw' w1) | (go_at_call 88; refine (HGr.out _).mono ?_; rintro e w1 ⟨rfl, hw'⟩; rw [hw']; clear hw' w1) | (go_at_call 89; refine (HLo.out _).mono ?_; rintro e w1 ⟨rfl, hw'⟩; rw [hw']; clear hw' w1) | (go_at_call 90; refine (HUp.out _).mono ?_; rintro e w1 ⟨rfl, hw'⟩; rw [hw']; clear hw' w1))
  go_ret
  exact ⟨ret_bool (by rw [HE.out]; try (first | rfl | (simp; done) | (simp; omega))), rfl⟩
set_option maxRecDepth 100000 in
set_option maxHeartbeats 2000000 in
theorem gInLower (c : UInt8) (w : World) : Calls Tryd.prog 70 #[.string ⟨#[108, 111, 119, 101, 114]⟩, .int .u8 c.toNat] w fun e w' => e = .returned (.bool (Gl.inC Gl.nLower c)) ∧ w' = w := by
  have HE := hidA (inCLower c)
  have HLt := hidA (fun W => gIsLetter c W)
  have HDg := hidA (fun W => gIsDigit c W)
  have HGr := hidA (fun W => gIsGraph c W)
  have HLo := hidA (fun W => gIsLower c W)
  have HUp := hidA (fun W => gIsUpper c W)
  go_enter Tryd.func70, Tryd.ntmps70
  go_wp2_with (first | (go_at_call 87; refine (HLt.out _).mono ?_; rintro e w1 ⟨rfl, hw'⟩; rw [hw']; clear hw' w1) | (go_at_call 84; refine (HDg.out _).mono ?_; rintro e w1 ⟨rfl, hw'⟩; rw [hw']; clear hw' w1) | (go_at_call 88; refine (HGr.out _).mono ?_; rintro e w1 ⟨rfl, hw'⟩; rw [hw']; clear hw' w1) | (go_at_call 89; refine (HLo.out _).mono ?_; rintro e w1 ⟨rfl, hw'⟩; rw [hw']; clear hw' w1) | (go_at_call 90; refine (HUp.out _).mono ?_; rintro e w1 ⟨rfl, hw'⟩; rw [hw']; clear hw' w1))
  go_ret
  exact ⟨ret_bool (by rw [HE.out]; try (first | rfl | (simp; done) | (simp; omega))), rfl⟩
set_option maxRecDepth 100000 in
set_option maxHeartbeats 2000000 in
theorem gInPrint (c : UInt8) (w : World) : Calls Tryd.prog 70 #[.string ⟨#[112, 114, 105, 110, 116]⟩, .int .u8 c.toNat] w fun e w' => e = .returned (.bool (Gl.inC Gl.nPrint c)) ∧ w' = w := by
  have HE := hidA (inCPrint c)
  have HLt := hidA (fun W => gIsLetter c W)
  have HDg := hidA (fun W => gIsDigit c W)
  have HGr := hidA (fun W => gIsGraph c W)
  have HLo := hidA (fun W => gIsLower c W)
  have HUp := hidA (fun W => gIsUpper c W)
  by_cases e1 : c = 32
  all_goals
    (first | (have f1 := byte_yes _ 32 32 rfl e1; have D1 : Hid (decide (c = 32) = true) := decide_eq_true e1; have n1 : c.toNat = 32 := by rw [e1]; rfl) | (have f1 := byte_no _ 32 32 rfl e1; have D1 : Hid (decide (c = 32) = false) := decide_eq_false e1; have n1 : c.toNat ≠ 32 := fun h => e1 (UInt8.toNat_inj.1 h)))
    first
    | (exfalso; omega)
    | (clear e1 n1
       go_enter Tryd.func70, Tryd.ntmps70
       go_wp2_with (first | (go_at_call 87; refine (HLt.out _).mono ?_; rintro e w1 ⟨rfl, hw'⟩; rw [hw']; clear hw' w1) | (go_at_call 84; refine (HDg.out _).mono ?_; rintro e w1 ⟨rfl, hw'⟩; rw [hw']; clear hw' w1) | (go_at_call 88; refine (HGr.out _).mono ?_; rintro e w1 ⟨rfl, hw'⟩; rw [hw']; clear hw' w1) | (go_at_call 89; refine (HLo.out _).mono ?_; rintro e w1 ⟨rfl, hw'⟩; rw [hw']; clear hw' w1) | (go_at_call 90; refine (HUp.out _).mono ?_; rintro e w1 ⟨rfl, hw'⟩; rw [hw']; clear hw' w1))
       go_ret
       exact ⟨ret_bool (by rw [HE.out, D1.out]; try (first | rfl | (simp; done) | (simp; omega))), rfl⟩)
set_option maxRecDepth 100000 in
set_option maxHeartbeats 2000000 in
theorem gInPunct (c : UInt8) (w : World) : Calls Tryd.prog 70 #[.string ⟨#[112, 117, 110, 99, 116]⟩, .int .u8 c.toNat] w fun e w' => e = .returned (.bool (Gl.inC Gl.nPunct c)) ∧ w' = w := by
  have HE := hidA (inCPunct c)
  have HLt := hidA (fun W => gIsLetter c W)
  have HDg := hidA (fun W => gIsDigit c W)
  have HGr := hidA (fun W => gIsGraph c W)
  have HLo := hidA (fun W => gIsLower c W)
  have HUp := hidA (fun W => gIsUpper c W)
  rcases hb1 : Gl.gr c with _ | _
  all_goals
    rcases hb2 : Gl.let_ c with _ | _
    all_goals
      simp only [hb1] at HLt HDg HGr
      have D1 := hidA hb1
      simp only [hb2] at HLt HDg HGr
      have D2 := hidA hb2
      clear hb1 hb2
      go_enter Tryd.func70, Tryd.ntmps70
      go_wp2_with (first | (go_at_call 87; refine (HLt.out _).mono ?_; rintro e w1 ⟨rfl, hw'⟩; rw [hw']; clear hw' w1) | (go_at_call 84; refine (HDg.out _).mono ?_; rintro e w1 ⟨rfl, hw'⟩; rw [hw']; clear hw' w1) | (go_at_call 88; refine (HGr.out _).mono ?_; rintro e w1 ⟨rfl, hw'⟩; rw [hw']; clear hw' w1) | (go_at_call 89; refine (HLo.out _).mono ?_; rintro e w1 ⟨rfl, hw'⟩; rw [hw']; clear hw' w1) | (go_at_call 90; refine (HUp.out _).mono ?_; rintro e w1 ⟨rfl, hw'⟩; rw [hw']; clear hw' w1))
      go_ret
      exact ⟨ret_bool (by rw [HE.out, D1.out, D2.out]; try (first | rfl | (simp; done) | (simp; omega))), rfl⟩
set_option maxRecDepth 100000 in
set_option maxHeartbeats 2000000 in
theorem gInSpace (c : UInt8) (w : World) : Calls Tryd.prog 70 #[.string ⟨#[115, 112, 97, 99, 101]⟩, .int .u8 c.toNat] w fun e w' => e = .returned (.bool (Gl.inC Gl.nSpace c)) ∧ w' = w := by
  have HE := hidA (inCSpace c)
  have HLt := hidA (fun W => gIsLetter c W)
  have HDg := hidA (fun W => gIsDigit c W)
  have HGr := hidA (fun W => gIsGraph c W)
  have HLo := hidA (fun W => gIsLower c W)
  have HUp := hidA (fun W => gIsUpper c W)
  by_cases e1 : c = 32
  all_goals
    by_cases p2 : 9 ≤ c.toNat
    all_goals
      by_cases p3 : c.toNat ≤ 13
      all_goals
        (first | (have f1 := byte_yes _ 32 32 rfl e1; have D1 : Hid (decide (c = 32) = true) := decide_eq_true e1; have n1 : c.toNat = 32 := by rw [e1]; rfl) | (have f1 := byte_no _ 32 32 rfl e1; have D1 : Hid (decide (c = 32) = false) := decide_eq_false e1; have n1 : c.toNat ≠ 32 := fun h => e1 (UInt8.toNat_inj.1 h)))
        (first | (have D2 : Hid (decide (9 ≤ c.toNat) = true) := decide_eq_true p2) | (have D2 : Hid (decide (9 ≤ c.toNat) = false) := decide_eq_false p2))
        (first | (have D3 : Hid (decide (c.toNat ≤ 13) = true) := decide_eq_true p3) | (have D3 : Hid (decide (c.toNat ≤ 13) = false) := decide_eq_false p3))
        first
        | (exfalso; omega)
        | (clear e1 n1
           go_enter Tryd.func70, Tryd.ntmps70
           go_wp2_with (first | (go_at_call 87; refine (HLt.out _).mono ?_; rintro e w1 ⟨rfl, hw'⟩; rw [hw']; clear hw' w1) | (go_at_call 84; refine (HDg.out _).mono ?_; rintro e w1 ⟨rfl, hw'⟩; rw [hw']; clear hw' w1) | (go_at_call 88; refine (HGr.out _).mono ?_; rintro e w1 ⟨rfl, hw'⟩; rw [hw']; clear hw' w1) | (go_at_call 89; refine (HLo.out _).mono ?_; rintro e w1 ⟨rfl, hw'⟩; rw [hw']; clear hw' w1) | (go_at_call 90; refine (HUp.out _).mono ?_; rintro e w1 ⟨rfl, hw'⟩; rw [hw']; clear hw' w1))
           go_ret
           exact ⟨ret_bool (by rw [HE.out, D1.out, D2.out, D3.out]; try (first | rfl | (simp; done) | (simp; omega))), rfl⟩)
set_option maxRecDepth 100000 in
set_option maxHeartbeats 2000000 in
theorem gInUpper (c : UInt8) (w : World) : Calls Tryd.prog 70 #[.string ⟨#[117, 112, 112, 101, 114]⟩, .int .u8 c.toNat] w fun e w' => e = .returned (.bool (Gl.inC Gl.nUpper c)) ∧ w' = w := by
  have HE := hidA (inCUpper c)
  have HLt := hidA (fun W => gIsLetter c W)
  have HDg := hidA (fun W => gIsDigit c W)
  have HGr := hidA (fun W => gIsGraph c W)
  have HLo := hidA (fun W => gIsLower c W)
  have HUp := hidA (fun W => gIsUpper c W)
  go_enter Tryd.func70, Tryd.ntmps70
  go_wp2_with (first | (go_at_call 87; refine (HLt.out _).mono ?_; rintro e w1 ⟨rfl, hw'⟩; rw [hw']; clear hw' w1) | (go_at_call 84; refine (HDg.out _).mono ?_; rintro e w1 ⟨rfl, hw'⟩; rw [hw']; clear hw' w1) | (go_at_call 88; refine (HGr.out _).mono ?_; rintro e w1 ⟨rfl, hw'⟩; rw [hw']; clear hw' w1) | (go_at_call 89; refine (HLo.out _).mono ?_; rintro e w1 ⟨rfl, hw'⟩; rw [hw']; clear hw' w1) | (go_at_call 90; refine (HUp.out _).mono ?_; rintro e w1 ⟨rfl, hw'⟩; rw [hw']; clear hw' w1))
  go_ret
  exact ⟨ret_bool (by rw [HE.out]; try (first | rfl | (simp; done) | (simp; omega))), rfl⟩
set_option maxRecDepth 100000 in
set_option maxHeartbeats 2000000 in
theorem gInXdigit (c : UInt8) (w : World) : Calls Tryd.prog 70 #[.string ⟨#[120, 100, 105, 103, 105, 116]⟩, .int .u8 c.toNat] w fun e w' => e = .returned (.bool (Gl.inC Gl.nXdigit c)) ∧ w' = w := by
  have HE := hidA (inCXdigit c)
  have HLt := hidA (fun W => gIsLetter c W)
  have HDg := hidA (fun W => gIsDigit c W)
  have HGr := hidA (fun W => gIsGraph c W)
  have HLo := hidA (fun W => gIsLower c W)
  have HUp := hidA (fun W => gIsUpper c W)
  rcases hb1 : Gl.dg c with _ | _
  all_goals
    by_cases p2 : 97 ≤ c.toNat
    all_goals
      by_cases p3 : c.toNat ≤ 102
      all_goals
        by_cases p4 : 65 ≤ c.toNat
        all_goals
          by_cases p5 : c.toNat ≤ 70
          all_goals
            simp only [hb1] at HLt HDg HGr
            have D1 := hidA hb1
            (first | (have D2 : Hid (decide (97 ≤ c.toNat) = true) := decide_eq_true p2) | (have D2 : Hid (decide (97 ≤ c.toNat) = false) := decide_eq_false p2))
            (first | (have D3 : Hid (decide (c.toNat ≤ 102) = true) := decide_eq_true p3) | (have D3 : Hid (decide (c.toNat ≤ 102) = false) := decide_eq_false p3))
            (first | (have D4 : Hid (decide (65 ≤ c.toNat) = true) := decide_eq_true p4) | (have D4 : Hid (decide (65 ≤ c.toNat) = false) := decide_eq_false p4))
            (first | (have D5 : Hid (decide (c.toNat ≤ 70) = true) := decide_eq_true p5) | (have D5 : Hid (decide (c.toNat ≤ 70) = false) := decide_eq_false p5))
            first
            | (exfalso; omega)
            | (clear hb1
               go_enter Tryd.func70, Tryd.ntmps70
               go_wp2_with (first | (go_at_call 87; refine (HLt.out _).mono ?_; rintro e w1 ⟨rfl, hw'⟩; rw [hw']; clear hw' w1) | (go_at_call 84; refine (HDg.out _).mono ?_; rintro e w1 ⟨rfl, hw'⟩; rw [hw']; clear hw' w1) | (go_at_call 88; refine (HGr.out _).mono ?_; rintro e w1 ⟨rfl, hw'⟩; rw [hw']; clear hw' w1) | (go_at_call 89; refine (HLo.out _).mono ?_; rintro e w1 ⟨rfl, hw'⟩; rw [hw']; clear hw' w1) | (go_at_call 90; refine (HUp.out _).mono ?_; rintro e w1 ⟨rfl, hw'⟩; rw [hw']; clear hw' w1))
               go_ret
               exact ⟨ret_bool (by rw [HE.out, D1.out, D2.out, D3.out, D4.out, D5.out]; try (first | rfl | (simp; done) | (simp; omega))), rfl⟩)
end Go.Proofs.YtncnmeidciailaaDoor
