/- The walk of the plain answer's In. No condition. -/
import Derived.Test.YtncnmeidciailaaDoorLv2a
namespace Go.Proofs.YtncnmeidciailaaDoor
open Go.RowKit
attribute [local go_sem] ext_eq app_eq get_eq
set_option maxRecDepth 100000 in
set_option maxHeartbeats 4000000 in
theorem rInPunct (c : UInt8) (w : World) : Calls Tryd.prog 52 #[.string ⟨#[112, 117, 110, 99, 116]⟩, .int .u8 c.toNat] w fun e w' => e = .returned (.tuple #[.bool (Gl.inC Gl.nPunct c), .bool true]) ∧ w' = w := by
  have h8 := c.toNat_lt
  rcases (by omega : (0 ≤ c.toNat ∧ c.toNat ≤ 32) ∨ (33 ≤ c.toNat ∧ c.toNat ≤ 47) ∨ (48 ≤ c.toNat ∧ c.toNat ≤ 57) ∨ (58 ≤ c.toNat ∧ c.toNat ≤ 64) ∨ (65 ≤ c.toNat ∧ c.toNat ≤ 90) ∨ (91 ≤ c.toNat ∧ c.toNat ≤ 96) ∨ (97 ≤ c.toNat ∧ c.toNat ≤ 122) ∨ (123 ≤ c.toNat ∧ c.toNat ≤ 126) ∨ (127 ≤ c.toNat ∧ c.toNat ≤ 255)) with ⟨p, q⟩ | ⟨p, q⟩ | ⟨p, q⟩ | ⟨p, q⟩ | ⟨p, q⟩ | ⟨p, q⟩ | ⟨p, q⟩ | ⟨p, q⟩ | ⟨p, q⟩
  · have HLo : Hid (∀ W, Calls Tryd.prog 71 #[.int .u8 c.toNat] W fun e w' => e = .returned (.bool false) ∧ w' = W) := fun W => (iv_of Gl.lo 0 32 false (by decide +kernel) c p q) ▸ rLower c W
    have HUp : Hid (∀ W, Calls Tryd.prog 72 #[.int .u8 c.toNat] W fun e w' => e = .returned (.bool false) ∧ w' = W) := fun W => (iv_of Gl.up 0 32 false (by decide +kernel) c p q) ▸ rUpper c W
    have HDg : Hid (∀ W, Calls Tryd.prog 69 #[.int .u8 c.toNat] W fun e w' => e = .returned (.bool false) ∧ w' = W) := fun W => (iv_of Gl.dg 0 32 false (by decide +kernel) c p q) ▸ rDigit c W
    have HE := hidA (iv_of (Gl.inC Gl.nPunct) 0 32 false (by decide +kernel) c p q)
    have d0 : decide ((c.toNat : Int) ≤ 126) = true := decide_eq_true (by omega)
    have e0 : decide (c.toNat ≤ 126) = true := decide_eq_true (by omega)
    go_enter Tryd.func52, Tryd.ntmps52
    go_wp2_with (first | (go_at_call 71; refine (HLo.out _).mono ?_; rintro e w1 ⟨rfl, hw'⟩; rw [hw']; clear hw' w1) | (go_at_call 72; refine (HUp.out _).mono ?_; rintro e w1 ⟨rfl, hw'⟩; rw [hw']; clear hw' w1) | (go_at_call 69; refine (HDg.out _).mono ?_; rintro e w1 ⟨rfl, hw'⟩; rw [hw']; clear hw' w1))
    go_ret2
    exact ⟨by rw [HE.out]; rfl, rfl⟩
  · have HLo : Hid (∀ W, Calls Tryd.prog 71 #[.int .u8 c.toNat] W fun e w' => e = .returned (.bool false) ∧ w' = W) := fun W => (iv_of Gl.lo 33 47 false (by decide +kernel) c p q) ▸ rLower c W
    have HUp : Hid (∀ W, Calls Tryd.prog 72 #[.int .u8 c.toNat] W fun e w' => e = .returned (.bool false) ∧ w' = W) := fun W => (iv_of Gl.up 33 47 false (by decide +kernel) c p q) ▸ rUpper c W
    have HDg : Hid (∀ W, Calls Tryd.prog 69 #[.int .u8 c.toNat] W fun e w' => e = .returned (.bool false) ∧ w' = W) := fun W => (iv_of Gl.dg 33 47 false (by decide +kernel) c p q) ▸ rDigit c W
    have HE := hidA (iv_of (Gl.inC Gl.nPunct) 33 47 true (by decide +kernel) c p q)
    have d0 : decide ((c.toNat : Int) ≤ 126) = true := decide_eq_true (by omega)
    have e0 : decide (c.toNat ≤ 126) = true := decide_eq_true (by omega)
    go_enter Tryd.func52, Tryd.ntmps52
    go_wp2_with (first | (go_at_call 71; refine (HLo.out _).mono ?_; rintro e w1 ⟨rfl, hw'⟩; rw [hw']; clear hw' w1) | (go_at_call 72; refine (HUp.out _).mono ?_; rintro e w1 ⟨rfl, hw'⟩; rw [hw']; clear hw' w1) | (go_at_call 69; refine (HDg.out _).mono ?_; rintro e w1 ⟨rfl, hw'⟩; rw [hw']; clear hw' w1))
    go_ret2
    exact ⟨by rw [HE.out]; rfl, rfl⟩
  · have HLo : Hid (∀ W, Calls Tryd.prog 71 #[.int .u8 c.toNat] W fun e w' => e = .returned (.bool false) ∧ w' = W) := fun W => (iv_of Gl.lo 48 57 false (by decide +kernel) c p q) ▸ rLower c W
    have HUp : Hid (∀ W, Calls Tryd.prog 72 #[.int .u8 c.toNat] W fun e w' => e = .returned (.bool false) ∧ w' = W) := fun W => (iv_of Gl.up 48 57 false (by decide +kernel) c p q) ▸ rUpper c W
    have HDg : Hid (∀ W, Calls Tryd.prog 69 #[.int .u8 c.toNat] W fun e w' => e = .returned (.bool true) ∧ w' = W) := fun W => (iv_of Gl.dg 48 57 true (by decide +kernel) c p q) ▸ rDigit c W
    have HE := hidA (iv_of (Gl.inC Gl.nPunct) 48 57 false (by decide +kernel) c p q)
    have d0 : decide ((c.toNat : Int) ≤ 126) = true := decide_eq_true (by omega)
    have e0 : decide (c.toNat ≤ 126) = true := decide_eq_true (by omega)
    go_enter Tryd.func52, Tryd.ntmps52
    go_wp2_with (first | (go_at_call 71; refine (HLo.out _).mono ?_; rintro e w1 ⟨rfl, hw'⟩; rw [hw']; clear hw' w1) | (go_at_call 72; refine (HUp.out _).mono ?_; rintro e w1 ⟨rfl, hw'⟩; rw [hw']; clear hw' w1) | (go_at_call 69; refine (HDg.out _).mono ?_; rintro e w1 ⟨rfl, hw'⟩; rw [hw']; clear hw' w1))
    go_ret2
    exact ⟨by rw [HE.out]; rfl, rfl⟩
  · have HLo : Hid (∀ W, Calls Tryd.prog 71 #[.int .u8 c.toNat] W fun e w' => e = .returned (.bool false) ∧ w' = W) := fun W => (iv_of Gl.lo 58 64 false (by decide +kernel) c p q) ▸ rLower c W
    have HUp : Hid (∀ W, Calls Tryd.prog 72 #[.int .u8 c.toNat] W fun e w' => e = .returned (.bool false) ∧ w' = W) := fun W => (iv_of Gl.up 58 64 false (by decide +kernel) c p q) ▸ rUpper c W
    have HDg : Hid (∀ W, Calls Tryd.prog 69 #[.int .u8 c.toNat] W fun e w' => e = .returned (.bool false) ∧ w' = W) := fun W => (iv_of Gl.dg 58 64 false (by decide +kernel) c p q) ▸ rDigit c W
    have HE := hidA (iv_of (Gl.inC Gl.nPunct) 58 64 true (by decide +kernel) c p q)
    have d0 : decide ((c.toNat : Int) ≤ 126) = true := decide_eq_true (by omega)
    have e0 : decide (c.toNat ≤ 126) = true := decide_eq_true (by omega)
    go_enter Tryd.func52, Tryd.ntmps52
    go_wp2_with (first | (go_at_call 71; refine (HLo.out _).mono ?_; rintro e w1 ⟨rfl, hw'⟩; rw [hw']; clear hw' w1) | (go_at_call 72; refine (HUp.out _).mono ?_; rintro e w1 ⟨rfl, hw'⟩; rw [hw']; clear hw' w1) | (go_at_call 69; refine (HDg.out _).mono ?_; rintro e w1 ⟨rfl, hw'⟩; rw [hw']; clear hw' w1))
    go_ret2
    exact ⟨by rw [HE.out]; rfl, rfl⟩
  · have HLo : Hid (∀ W, Calls Tryd.prog 71 #[.int .u8 c.toNat] W fun e w' => e = .returned (.bool false) ∧ w' = W) := fun W => (iv_of Gl.lo 65 90 false (by decide +kernel) c p q) ▸ rLower c W
    have HUp : Hid (∀ W, Calls Tryd.prog 72 #[.int .u8 c.toNat] W fun e w' => e = .returned (.bool true) ∧ w' = W) := fun W => (iv_of Gl.up 65 90 true (by decide +kernel) c p q) ▸ rUpper c W
    have HDg : Hid (∀ W, Calls Tryd.prog 69 #[.int .u8 c.toNat] W fun e w' => e = .returned (.bool false) ∧ w' = W) := fun W => (iv_of Gl.dg 65 90 false (by decide +kernel) c p q) ▸ rDigit c W
    have HE := hidA (iv_of (Gl.inC Gl.nPunct) 65 90 false (by decide +kernel) c p q)
    have d0 : decide ((c.toNat : Int) ≤ 126) = true := decide_eq_true (by omega)
    have e0 : decide (c.toNat ≤ 126) = true := decide_eq_true (by omega)
    go_enter Tryd.func52, Tryd.ntmps52
    go_wp2_with (first | (go_at_call 71; refine (HLo.out _).mono ?_; rintro e w1 ⟨rfl, hw'⟩; rw [hw']; clear hw' w1) | (go_at_call 72; refine (HUp.out _).mono ?_; rintro e w1 ⟨rfl, hw'⟩; rw [hw']; clear hw' w1) | (go_at_call 69; refine (HDg.out _).mono ?_; rintro e w1 ⟨rfl, hw'⟩; rw [hw']; clear hw' w1))
    go_ret2
    exact ⟨by rw [HE.out]; rfl, rfl⟩
  · have HLo : Hid (∀ W, Calls Tryd.prog 71 #[.int .u8 c.toNat] W fun e w' => e = .returned (.bool false) ∧ w' = W) := fun W => (iv_of Gl.lo 91 96 false (by decide +kernel) c p q) ▸ rLower c W
    have HUp : Hid (∀ W, Calls Tryd.prog 72 #[.int .u8 c.toNat] W fun e w' => e = .returned (.bool false) ∧ w' = W) := fun W => (iv_of Gl.up 91 96 false (by decide +kernel) c p q) ▸ rUpper c W
    have HDg : Hid (∀ W, Calls Tryd.prog 69 #[.int .u8 c.toNat] W fun e w' => e = .returned (.bool false) ∧ w' = W) := fun W => (iv_of Gl.dg 91 96 false (by decide +kernel) c p q) ▸ rDigit c W
    have HE := hidA (iv_of (Gl.inC Gl.nPunct) 91 96 true (by decide +kernel) c p q)
    have d0 : decide ((c.toNat : Int) ≤ 126) = true := decide_eq_true (by omega)
    have e0 : decide (c.toNat ≤ 126) = true := decide_eq_true (by omega)
    go_enter Tryd.func52, Tryd.ntmps52
    go_wp2_with (first | (go_at_call 71; refine (HLo.out _).mono ?_; rintro e w1 ⟨rfl, hw'⟩; rw [hw']; clear hw' w1) | (go_at_call 72; refine (HUp.out _).mono ?_; rintro e w1 ⟨rfl, hw'⟩; rw [hw']; clear hw' w1) | (go_at_call 69; refine (HDg.out _).mono ?_; rintro e w1 ⟨rfl, hw'⟩; rw [hw']; clear hw' w1))
    go_ret2
    exact ⟨by rw [HE.out]; rfl, rfl⟩
  · have HLo : Hid (∀ W, Calls Tryd.prog 71 #[.int .u8 c.toNat] W fun e w' => e = .returned (.bool true) ∧ w' = W) := fun W => (iv_of Gl.lo 97 122 true (by decide +kernel) c p q) ▸ rLower c W
    have HUp : Hid (∀ W, Calls Tryd.prog 72 #[.int .u8 c.toNat] W fun e w' => e = .returned (.bool false) ∧ w' = W) := fun W => (iv_of Gl.up 97 122 false (by decide +kernel) c p q) ▸ rUpper c W
    have HDg : Hid (∀ W, Calls Tryd.prog 69 #[.int .u8 c.toNat] W fun e w' => e = .returned (.bool false) ∧ w' = W) := fun W => (iv_of Gl.dg 97 122 false (by decide +kernel) c p q) ▸ rDigit c W
    have HE := hidA (iv_of (Gl.inC Gl.nPunct) 97 122 false (by decide +kernel) c p q)
    have d0 : decide ((c.toNat : Int) ≤ 126) = true := decide_eq_true (by omega)
    have e0 : decide (c.toNat ≤ 126) = true := decide_eq_true (by omega)
    go_enter Tryd.func52, Tryd.ntmps52
    go_wp2_with (first | (go_at_call 71; refine (HLo.out _).mono ?_; rintro e w1 ⟨rfl, hw'⟩; rw [hw']; clear hw' w1) | (go_at_call 72; refine (HUp.out _).mono ?_; rintro e w1 ⟨rfl, hw'⟩; rw [hw']; clear hw' w1) | (go_at_call 69; refine (HDg.out _).mono ?_; rintro e w1 ⟨rfl, hw'⟩; rw [hw']; clear hw' w1))
    go_ret2
    exact ⟨by rw [HE.out]; rfl, rfl⟩
  · have HLo : Hid (∀ W, Calls Tryd.prog 71 #[.int .u8 c.toNat] W fun e w' => e = .returned (.bool false) ∧ w' = W) := fun W => (iv_of Gl.lo 123 126 false (by decide +kernel) c p q) ▸ rLower c W
    have HUp : Hid (∀ W, Calls Tryd.prog 72 #[.int .u8 c.toNat] W fun e w' => e = .returned (.bool false) ∧ w' = W) := fun W => (iv_of Gl.up 123 126 false (by decide +kernel) c p q) ▸ rUpper c W
    have HDg : Hid (∀ W, Calls Tryd.prog 69 #[.int .u8 c.toNat] W fun e w' => e = .returned (.bool false) ∧ w' = W) := fun W => (iv_of Gl.dg 123 126 false (by decide +kernel) c p q) ▸ rDigit c W
    have HE := hidA (iv_of (Gl.inC Gl.nPunct) 123 126 true (by decide +kernel) c p q)
    have d0 : decide ((c.toNat : Int) ≤ 126) = true := decide_eq_true (by omega)
    have e0 : decide (c.toNat ≤ 126) = true := decide_eq_true (by omega)
    go_enter Tryd.func52, Tryd.ntmps52
    go_wp2_with (first | (go_at_call 71; refine (HLo.out _).mono ?_; rintro e w1 ⟨rfl, hw'⟩; rw [hw']; clear hw' w1) | (go_at_call 72; refine (HUp.out _).mono ?_; rintro e w1 ⟨rfl, hw'⟩; rw [hw']; clear hw' w1) | (go_at_call 69; refine (HDg.out _).mono ?_; rintro e w1 ⟨rfl, hw'⟩; rw [hw']; clear hw' w1))
    go_ret2
    exact ⟨by rw [HE.out]; rfl, rfl⟩
  · have HLo : Hid (∀ W, Calls Tryd.prog 71 #[.int .u8 c.toNat] W fun e w' => e = .returned (.bool false) ∧ w' = W) := fun W => (iv_of Gl.lo 127 255 false (by decide +kernel) c p q) ▸ rLower c W
    have HUp : Hid (∀ W, Calls Tryd.prog 72 #[.int .u8 c.toNat] W fun e w' => e = .returned (.bool false) ∧ w' = W) := fun W => (iv_of Gl.up 127 255 false (by decide +kernel) c p q) ▸ rUpper c W
    have HDg : Hid (∀ W, Calls Tryd.prog 69 #[.int .u8 c.toNat] W fun e w' => e = .returned (.bool false) ∧ w' = W) := fun W => (iv_of Gl.dg 127 255 false (by decide +kernel) c p q) ▸ rDigit c W
    have HE := hidA (iv_of (Gl.inC Gl.nPunct) 127 255 false (by decide +kernel) c p q)
    have d0 : decide ((c.toNat : Int) ≤ 126) = false := decide_eq_false (by omega)
    have e0 : decide (c.toNat ≤ 126) = false := decide_eq_false (by omega)
    go_enter Tryd.func52, Tryd.ntmps52
    go_wp2_with (first | (go_at_call 71; refine (HLo.out _).mono ?_; rintro e w1 ⟨rfl, hw'⟩; rw [hw']; clear hw' w1) | (go_at_call 72; refine (HUp.out _).mono ?_; rintro e w1 ⟨rfl, hw'⟩; rw [hw']; clear hw' w1) | (go_at_call 69; refine (HDg.out _).mono ?_; rintro e w1 ⟨rfl, hw'⟩; rw [hw']; clear hw' w1))
    go_ret2
    exact ⟨by rw [HE.out]; rfl, rfl⟩
set_option maxRecDepth 100000 in
set_option maxHeartbeats 4000000 in
theorem rInSpace (c : UInt8) (w : World) : Calls Tryd.prog 52 #[.string ⟨#[115, 112, 97, 99, 101]⟩, .int .u8 c.toNat] w fun e w' => e = .returned (.tuple #[.bool (Gl.inC Gl.nSpace c), .bool true]) ∧ w' = w := by
  have h8 := c.toNat_lt
  rcases (by omega : (0 ≤ c.toNat ∧ c.toNat ≤ 8) ∨ (9 ≤ c.toNat ∧ c.toNat ≤ 13) ∨ (14 ≤ c.toNat ∧ c.toNat ≤ 31) ∨ (32 ≤ c.toNat ∧ c.toNat ≤ 32) ∨ (33 ≤ c.toNat ∧ c.toNat ≤ 47) ∨ (48 ≤ c.toNat ∧ c.toNat ≤ 57) ∨ (58 ≤ c.toNat ∧ c.toNat ≤ 64) ∨ (65 ≤ c.toNat ∧ c.toNat ≤ 90) ∨ (91 ≤ c.toNat ∧ c.toNat ≤ 96) ∨ (97 ≤ c.toNat ∧ c.toNat ≤ 122) ∨ (123 ≤ c.toNat ∧ c.toNat ≤ 126) ∨ (127 ≤ c.toNat ∧ c.toNat ≤ 255)) with ⟨p, q⟩ | ⟨p, q⟩ | ⟨p, q⟩ | ⟨p, q⟩ | ⟨p, q⟩ | ⟨p, q⟩ | ⟨p, q⟩ | ⟨p, q⟩ | ⟨p, q⟩ | ⟨p, q⟩ | ⟨p, q⟩ | ⟨p, q⟩
  · have HLo : Hid (∀ W, Calls Tryd.prog 71 #[.int .u8 c.toNat] W fun e w' => e = .returned (.bool false) ∧ w' = W) := fun W => (iv_of Gl.lo 0 8 false (by decide +kernel) c p q) ▸ rLower c W
    have HUp : Hid (∀ W, Calls Tryd.prog 72 #[.int .u8 c.toNat] W fun e w' => e = .returned (.bool false) ∧ w' = W) := fun W => (iv_of Gl.up 0 8 false (by decide +kernel) c p q) ▸ rUpper c W
    have HDg : Hid (∀ W, Calls Tryd.prog 69 #[.int .u8 c.toNat] W fun e w' => e = .returned (.bool false) ∧ w' = W) := fun W => (iv_of Gl.dg 0 8 false (by decide +kernel) c p q) ▸ rDigit c W
    have HE := hidA (iv_of (Gl.inC Gl.nSpace) 0 8 false (by decide +kernel) c p q)
    have d0 : decide ((c.toNat : Int) ≤ 126) = true := decide_eq_true (by omega)
    have e0 : decide (c.toNat ≤ 126) = true := decide_eq_true (by omega)
    have d1 : decide ((9 : Int) ≤ (c.toNat : Int)) = false := decide_eq_false (by omega)
    have e1 : decide (9 ≤ c.toNat) = false := decide_eq_false (by omega)
    have d2 : decide ((c.toNat : Int) ≤ 13) = true := decide_eq_true (by omega)
    have e2 : decide (c.toNat ≤ 13) = true := decide_eq_true (by omega)
    have k32 : ((c.toNat : Int) == 32) = false := beq_eq_false_iff_ne.2 (by omega)
    go_enter Tryd.func52, Tryd.ntmps52
    go_wp2_with (first | (go_at_call 71; refine (HLo.out _).mono ?_; rintro e w1 ⟨rfl, hw'⟩; rw [hw']; clear hw' w1) | (go_at_call 72; refine (HUp.out _).mono ?_; rintro e w1 ⟨rfl, hw'⟩; rw [hw']; clear hw' w1) | (go_at_call 69; refine (HDg.out _).mono ?_; rintro e w1 ⟨rfl, hw'⟩; rw [hw']; clear hw' w1))
    go_ret2
    exact ⟨by rw [HE.out]; rfl, rfl⟩
  · have HLo : Hid (∀ W, Calls Tryd.prog 71 #[.int .u8 c.toNat] W fun e w' => e = .returned (.bool false) ∧ w' = W) := fun W => (iv_of Gl.lo 9 13 false (by decide +kernel) c p q) ▸ rLower c W
    have HUp : Hid (∀ W, Calls Tryd.prog 72 #[.int .u8 c.toNat] W fun e w' => e = .returned (.bool false) ∧ w' = W) := fun W => (iv_of Gl.up 9 13 false (by decide +kernel) c p q) ▸ rUpper c W
    have HDg : Hid (∀ W, Calls Tryd.prog 69 #[.int .u8 c.toNat] W fun e w' => e = .returned (.bool false) ∧ w' = W) := fun W => (iv_of Gl.dg 9 13 false (by decide +kernel) c p q) ▸ rDigit c W
    have HE := hidA (iv_of (Gl.inC Gl.nSpace) 9 13 true (by decide +kernel) c p q)
    have d0 : decide ((c.toNat : Int) ≤ 126) = true := decide_eq_true (by omega)
    have e0 : decide (c.toNat ≤ 126) = true := decide_eq_true (by omega)
    have d1 : decide ((9 : Int) ≤ (c.toNat : Int)) = true := decide_eq_true (by omega)
    have e1 : decide (9 ≤ c.toNat) = true := decide_eq_true (by omega)
    have d2 : decide ((c.toNat : Int) ≤ 13) = true := decide_eq_true (by omega)
    have e2 : decide (c.toNat ≤ 13) = true := decide_eq_true (by omega)
    have k32 : ((c.toNat : Int) == 32) = false := beq_eq_false_iff_ne.2 (by omega)
    go_enter Tryd.func52, Tryd.ntmps52
    go_wp2_with (first | (go_at_call 71; refine (HLo.out _).mono ?_; rintro e w1 ⟨rfl, hw'⟩; rw [hw']; clear hw' w1) | (go_at_call 72; refine (HUp.out _).mono ?_; rintro e w1 ⟨rfl, hw'⟩; rw [hw']; clear hw' w1) | (go_at_call 69; refine (HDg.out _).mono ?_; rintro e w1 ⟨rfl, hw'⟩; rw [hw']; clear hw' w1))
    go_ret2
    exact ⟨by rw [HE.out]; rfl, rfl⟩
  · have HLo : Hid (∀ W, Calls Tryd.prog 71 #[.int .u8 c.toNat] W fun e w' => e = .returned (.bool false) ∧ w' = W) := fun W => (iv_of Gl.lo 14 31 false (by decide +kernel) c p q) ▸ rLower c W
    have HUp : Hid (∀ W, Calls Tryd.prog 72 #[.int .u8 c.toNat] W fun e w' => e = .returned (.bool false) ∧ w' = W) := fun W => (iv_of Gl.up 14 31 false (by decide +kernel) c p q) ▸ rUpper c W
    have HDg : Hid (∀ W, Calls Tryd.prog 69 #[.int .u8 c.toNat] W fun e w' => e = .returned (.bool false) ∧ w' = W) := fun W => (iv_of Gl.dg 14 31 false (by decide +kernel) c p q) ▸ rDigit c W
    have HE := hidA (iv_of (Gl.inC Gl.nSpace) 14 31 false (by decide +kernel) c p q)
    have d0 : decide ((c.toNat : Int) ≤ 126) = true := decide_eq_true (by omega)
    have e0 : decide (c.toNat ≤ 126) = true := decide_eq_true (by omega)
    have d1 : decide ((9 : Int) ≤ (c.toNat : Int)) = true := decide_eq_true (by omega)
    have e1 : decide (9 ≤ c.toNat) = true := decide_eq_true (by omega)
    have d2 : decide ((c.toNat : Int) ≤ 13) = false := decide_eq_false (by omega)
    have e2 : decide (c.toNat ≤ 13) = false := decide_eq_false (by omega)
    have k32 : ((c.toNat : Int) == 32) = false := beq_eq_false_iff_ne.2 (by omega)
    go_enter Tryd.func52, Tryd.ntmps52
    go_wp2_with (first | (go_at_call 71; refine (HLo.out _).mono ?_; rintro e w1 ⟨rfl, hw'⟩; rw [hw']; clear hw' w1) | (go_at_call 72; refine (HUp.out _).mono ?_; rintro e w1 ⟨rfl, hw'⟩; rw [hw']; clear hw' w1) | (go_at_call 69; refine (HDg.out _).mono ?_; rintro e w1 ⟨rfl, hw'⟩; rw [hw']; clear hw' w1))
    go_ret2
    exact ⟨by rw [HE.out]; rfl, rfl⟩
  · have HLo : Hid (∀ W, Calls Tryd.prog 71 #[.int .u8 c.toNat] W fun e w' => e = .returned (.bool false) ∧ w' = W) := fun W => (iv_of Gl.lo 32 32 false (by decide +kernel) c p q) ▸ rLower c W
    have HUp : Hid (∀ W, Calls Tryd.prog 72 #[.int .u8 c.toNat] W fun e w' => e = .returned (.bool false) ∧ w' = W) := fun W => (iv_of Gl.up 32 32 false (by decide +kernel) c p q) ▸ rUpper c W
    have HDg : Hid (∀ W, Calls Tryd.prog 69 #[.int .u8 c.toNat] W fun e w' => e = .returned (.bool false) ∧ w' = W) := fun W => (iv_of Gl.dg 32 32 false (by decide +kernel) c p q) ▸ rDigit c W
    have HE := hidA (iv_of (Gl.inC Gl.nSpace) 32 32 true (by decide +kernel) c p q)
    have d0 : decide ((c.toNat : Int) ≤ 126) = true := decide_eq_true (by omega)
    have e0 : decide (c.toNat ≤ 126) = true := decide_eq_true (by omega)
    have d1 : decide ((9 : Int) ≤ (c.toNat : Int)) = true := decide_eq_true (by omega)
    have e1 : decide (9 ≤ c.toNat) = true := decide_eq_true (by omega)
    have d2 : decide ((c.toNat : Int) ≤ 13) = false := decide_eq_false (by omega)
    have e2 : decide (c.toNat ≤ 13) = false := decide_eq_false (by omega)
    have k32 : ((c.toNat : Int) == 32) = true := beq_iff_eq.2 (by omega)
    go_enter Tryd.func52, Tryd.ntmps52
    go_wp2_with (first | (go_at_call 71; refine (HLo.out _).mono ?_; rintro e w1 ⟨rfl, hw'⟩; rw [hw']; clear hw' w1) | (go_at_call 72; refine (HUp.out _).mono ?_; rintro e w1 ⟨rfl, hw'⟩; rw [hw']; clear hw' w1) | (go_at_call 69; refine (HDg.out _).mono ?_; rintro e w1 ⟨rfl, hw'⟩; rw [hw']; clear hw' w1))
    go_ret2
    exact ⟨by rw [HE.out]; rfl, rfl⟩
  · have HLo : Hid (∀ W, Calls Tryd.prog 71 #[.int .u8 c.toNat] W fun e w' => e = .returned (.bool false) ∧ w' = W) := fun W => (iv_of Gl.lo 33 47 false (by decide +kernel) c p q) ▸ rLower c W
    have HUp : Hid (∀ W, Calls Tryd.prog 72 #[.int .u8 c.toNat] W fun e w' => e = .returned (.bool false) ∧ w' = W) := fun W => (iv_of Gl.up 33 47 false (by decide +kernel) c p q) ▸ rUpper c W
    have HDg : Hid (∀ W, Calls Tryd.prog 69 #[.int .u8 c.toNat] W fun e w' => e = .returned (.bool false) ∧ w' = W) := fun W => (iv_of Gl.dg 33 47 false (by decide +kernel) c p q) ▸ rDigit c W
    have HE := hidA (iv_of (Gl.inC Gl.nSpace) 33 47 false (by decide +kernel) c p q)
    have d0 : decide ((c.toNat : Int) ≤ 126) = true := decide_eq_true (by omega)
    have e0 : decide (c.toNat ≤ 126) = true := decide_eq_true (by omega)
    have d1 : decide ((9 : Int) ≤ (c.toNat : Int)) = true := decide_eq_true (by omega)
    have e1 : decide (9 ≤ c.toNat) = true := decide_eq_true (by omega)
    have d2 : decide ((c.toNat : Int) ≤ 13) = false := decide_eq_false (by omega)
    have e2 : decide (c.toNat ≤ 13) = false := decide_eq_false (by omega)
    have k32 : ((c.toNat : Int) == 32) = false := beq_eq_false_iff_ne.2 (by omega)
    go_enter Tryd.func52, Tryd.ntmps52
    go_wp2_with (first | (go_at_call 71; refine (HLo.out _).mono ?_; rintro e w1 ⟨rfl, hw'⟩; rw [hw']; clear hw' w1) | (go_at_call 72; refine (HUp.out _).mono ?_; rintro e w1 ⟨rfl, hw'⟩; rw [hw']; clear hw' w1) | (go_at_call 69; refine (HDg.out _).mono ?_; rintro e w1 ⟨rfl, hw'⟩; rw [hw']; clear hw' w1))
    go_ret2
    exact ⟨by rw [HE.out]; rfl, rfl⟩
  · have HLo : Hid (∀ W, Calls Tryd.prog 71 #[.int .u8 c.toNat] W fun e w' => e = .returned (.bool false) ∧ w' = W) := fun W => (iv_of Gl.lo 48 57 false (by decide +kernel) c p q) ▸ rLower c W
    have HUp : Hid (∀ W, Calls Tryd.prog 72 #[.int .u8 c.toNat] W fun e w' => e = .returned (.bool false) ∧ w' = W) := fun W => (iv_of Gl.up 48 57 false (by decide +kernel) c p q) ▸ rUpper c W
    have HDg : Hid (∀ W, Calls Tryd.prog 69 #[.int .u8 c.toNat] W fun e w' => e = .returned (.bool true) ∧ w' = W) := fun W => (iv_of Gl.dg 48 57 true (by decide +kernel) c p q) ▸ rDigit c W
    have HE := hidA (iv_of (Gl.inC Gl.nSpace) 48 57 false (by decide +kernel) c p q)
    have d0 : decide ((c.toNat : Int) ≤ 126) = true := decide_eq_true (by omega)
    have e0 : decide (c.toNat ≤ 126) = true := decide_eq_true (by omega)
    have d1 : decide ((9 : Int) ≤ (c.toNat : Int)) = true := decide_eq_true (by omega)
    have e1 : decide (9 ≤ c.toNat) = true := decide_eq_true (by omega)
    have d2 : decide ((c.toNat : Int) ≤ 13) = false := decide_eq_false (by omega)
    have e2 : decide (c.toNat ≤ 13) = false := decide_eq_false (by omega)
    have k32 : ((c.toNat : Int) == 32) = false := beq_eq_false_iff_ne.2 (by omega)
    go_enter Tryd.func52, Tryd.ntmps52
    go_wp2_with (first | (go_at_call 71; refine (HLo.out _).mono ?_; rintro e w1 ⟨rfl, hw'⟩; rw [hw']; clear hw' w1) | (go_at_call 72; refine (HUp.out _).mono ?_; rintro e w1 ⟨rfl, hw'⟩; rw [hw']; clear hw' w1) | (go_at_call 69; refine (HDg.out _).mono ?_; rintro e w1 ⟨rfl, hw'⟩; rw [hw']; clear hw' w1))
    go_ret2
    exact ⟨by rw [HE.out]; rfl, rfl⟩
  · have HLo : Hid (∀ W, Calls Tryd.prog 71 #[.int .u8 c.toNat] W fun e w' => e = .returned (.bool false) ∧ w' = W) := fun W => (iv_of Gl.lo 58 64 false (by decide +kernel) c p q) ▸ rLower c W
    have HUp : Hid (∀ W, Calls Tryd.prog 72 #[.int .u8 c.toNat] W fun e w' => e = .returned (.bool false) ∧ w' = W) := fun W => (iv_of Gl.up 58 64 false (by decide +kernel) c p q) ▸ rUpper c W
    have HDg : Hid (∀ W, Calls Tryd.prog 69 #[.int .u8 c.toNat] W fun e w' => e = .returned (.bool false) ∧ w' = W) := fun W => (iv_of Gl.dg 58 64 false (by decide +kernel) c p q) ▸ rDigit c W
    have HE := hidA (iv_of (Gl.inC Gl.nSpace) 58 64 false (by decide +kernel) c p q)
    have d0 : decide ((c.toNat : Int) ≤ 126) = true := decide_eq_true (by omega)
    have e0 : decide (c.toNat ≤ 126) = true := decide_eq_true (by omega)
    have d1 : decide ((9 : Int) ≤ (c.toNat : Int)) = true := decide_eq_true (by omega)
    have e1 : decide (9 ≤ c.toNat) = true := decide_eq_true (by omega)
    have d2 : decide ((c.toNat : Int) ≤ 13) = false := decide_eq_false (by omega)
    have e2 : decide (c.toNat ≤ 13) = false := decide_eq_false (by omega)
    have k32 : ((c.toNat : Int) == 32) = false := beq_eq_false_iff_ne.2 (by omega)
    go_enter Tryd.func52, Tryd.ntmps52
    go_wp2_with (first | (go_at_call 71; refine (HLo.out _).mono ?_; rintro e w1 ⟨rfl, hw'⟩; rw [hw']; clear hw' w1) | (go_at_call 72; refine (HUp.out _).mono ?_; rintro e w1 ⟨rfl, hw'⟩; rw [hw']; clear hw' w1) | (go_at_call 69; refine (HDg.out _).mono ?_; rintro e w1 ⟨rfl, hw'⟩; rw [hw']; clear hw' w1))
    go_ret2
    exact ⟨by rw [HE.out]; rfl, rfl⟩
  · have HLo : Hid (∀ W, Calls Tryd.prog 71 #[.int .u8 c.toNat] W fun e w' => e = .returned (.bool false) ∧ w' = W) := fun W => (iv_of Gl.lo 65 90 false (by decide +kernel) c p q) ▸ rLower c W
    have HUp : Hid (∀ W, Calls Tryd.prog 72 #[.int .u8 c.toNat] W fun e w' => e = .returned (.bool true) ∧ w' = W) := fun W => (iv_of Gl.up 65 90 true (by decide +kernel) c p q) ▸ rUpper c W
    have HDg : Hid (∀ W, Calls Tryd.prog 69 #[.int .u8 c.toNat] W fun e w' => e = .returned (.bool false) ∧ w' = W) := fun W => (iv_of Gl.dg 65 90 false (by decide +kernel) c p q) ▸ rDigit c W
    have HE := hidA (iv_of (Gl.inC Gl.nSpace) 65 90 false (by decide +kernel) c p q)
    have d0 : decide ((c.toNat : Int) ≤ 126) = true := decide_eq_true (by omega)
    have e0 : decide (c.toNat ≤ 126) = true := decide_eq_true (by omega)
    have d1 : decide ((9 : Int) ≤ (c.toNat : Int)) = true := decide_eq_true (by omega)
    have e1 : decide (9 ≤ c.toNat) = true := decide_eq_true (by omega)
    have d2 : decide ((c.toNat : Int) ≤ 13) = false := decide_eq_false (by omega)
    have e2 : decide (c.toNat ≤ 13) = false := decide_eq_false (by omega)
    have k32 : ((c.toNat : Int) == 32) = false := beq_eq_false_iff_ne.2 (by omega)
    go_enter Tryd.func52, Tryd.ntmps52
    go_wp2_with (first | (go_at_call 71; refine (HLo.out _).mono ?_; rintro e w1 ⟨rfl, hw'⟩; rw [hw']; clear hw' w1) | (go_at_call 72; refine (HUp.out _).mono ?_; rintro e w1 ⟨rfl, hw'⟩; rw [hw']; clear hw' w1) | (go_at_call 69; refine (HDg.out _).mono ?_; rintro e w1 ⟨rfl, hw'⟩; rw [hw']; clear hw' w1))
    go_ret2
    exact ⟨by rw [HE.out]; rfl, rfl⟩
  · have HLo : Hid (∀ W, Calls Tryd.prog 71 #[.int .u8 c.toNat] W fun e w' => e = .returned (.bool false) ∧ w' = W) := fun W => (iv_of Gl.lo 91 96 false (by decide +kernel) c p q) ▸ rLower c W
    have HUp : Hid (∀ W, Calls Tryd.prog 72 #[.int .u8 c.toNat] W fun e w' => e = .returned (.bool false) ∧ w' = W) := fun W => (iv_of Gl.up 91 96 false (by decide +kernel) c p q) ▸ rUpper c W
    have HDg : Hid (∀ W, Calls Tryd.prog 69 #[.int .u8 c.toNat] W fun e w' => e = .returned (.bool false) ∧ w' = W) := fun W => (iv_of Gl.dg 91 96 false (by decide +kernel) c p q) ▸ rDigit c W
    have HE := hidA (iv_of (Gl.inC Gl.nSpace) 91 96 false (by decide +kernel) c p q)
    have d0 : decide ((c.toNat : Int) ≤ 126) = true := decide_eq_true (by omega)
    have e0 : decide (c.toNat ≤ 126) = true := decide_eq_true (by omega)
    have d1 : decide ((9 : Int) ≤ (c.toNat : Int)) = true := decide_eq_true (by omega)
    have e1 : decide (9 ≤ c.toNat) = true := decide_eq_true (by omega)
    have d2 : decide ((c.toNat : Int) ≤ 13) = false := decide_eq_false (by omega)
    have e2 : decide (c.toNat ≤ 13) = false := decide_eq_false (by omega)
    have k32 : ((c.toNat : Int) == 32) = false := beq_eq_false_iff_ne.2 (by omega)
    go_enter Tryd.func52, Tryd.ntmps52
    go_wp2_with (first | (go_at_call 71; refine (HLo.out _).mono ?_; rintro e w1 ⟨rfl, hw'⟩; rw [hw']; clear hw' w1) | (go_at_call 72; refine (HUp.out _).mono ?_; rintro e w1 ⟨rfl, hw'⟩; rw [hw']; clear hw' w1) | (go_at_call 69; refine (HDg.out _).mono ?_; rintro e w1 ⟨rfl, hw'⟩; rw [hw']; clear hw' w1))
    go_ret2
    exact ⟨by rw [HE.out]; rfl, rfl⟩
  · have HLo : Hid (∀ W, Calls Tryd.prog 71 #[.int .u8 c.toNat] W fun e w' => e = .returned (.bool true) ∧ w' = W) := fun W => (iv_of Gl.lo 97 122 true (by decide +kernel) c p q) ▸ rLower c W
    have HUp : Hid (∀ W, Calls Tryd.prog 72 #[.int .u8 c.toNat] W fun e w' => e = .returned (.bool false) ∧ w' = W) := fun W => (iv_of Gl.up 97 122 false (by decide +kernel) c p q) ▸ rUpper c W
    have HDg : Hid (∀ W, Calls Tryd.prog 69 #[.int .u8 c.toNat] W fun e w' => e = .returned (.bool false) ∧ w' = W) := fun W => (iv_of Gl.dg 97 122 false (by decide +kernel) c p q) ▸ rDigit c W
    have HE := hidA (iv_of (Gl.inC Gl.nSpace) 97 122 false (by decide +kernel) c p q)
    have d0 : decide ((c.toNat : Int) ≤ 126) = true := decide_eq_true (by omega)
    have e0 : decide (c.toNat ≤ 126) = true := decide_eq_true (by omega)
    have d1 : decide ((9 : Int) ≤ (c.toNat : Int)) = true := decide_eq_true (by omega)
    have e1 : decide (9 ≤ c.toNat) = true := decide_eq_true (by omega)
    have d2 : decide ((c.toNat : Int) ≤ 13) = false := decide_eq_false (by omega)
    have e2 : decide (c.toNat ≤ 13) = false := decide_eq_false (by omega)
    have k32 : ((c.toNat : Int) == 32) = false := beq_eq_false_iff_ne.2 (by omega)
    go_enter Tryd.func52, Tryd.ntmps52
    go_wp2_with (first | (go_at_call 71; refine (HLo.out _).mono ?_; rintro e w1 ⟨rfl, hw'⟩; rw [hw']; clear hw' w1) | (go_at_call 72; refine (HUp.out _).mono ?_; rintro e w1 ⟨rfl, hw'⟩; rw [hw']; clear hw' w1) | (go_at_call 69; refine (HDg.out _).mono ?_; rintro e w1 ⟨rfl, hw'⟩; rw [hw']; clear hw' w1))
    go_ret2
    exact ⟨by rw [HE.out]; rfl, rfl⟩
  · have HLo : Hid (∀ W, Calls Tryd.prog 71 #[.int .u8 c.toNat] W fun e w' => e = .returned (.bool false) ∧ w' = W) := fun W => (iv_of Gl.lo 123 126 false (by decide +kernel) c p q) ▸ rLower c W
    have HUp : Hid (∀ W, Calls Tryd.prog 72 #[.int .u8 c.toNat] W fun e w' => e = .returned (.bool false) ∧ w' = W) := fun W => (iv_of Gl.up 123 126 false (by decide +kernel) c p q) ▸ rUpper c W
    have HDg : Hid (∀ W, Calls Tryd.prog 69 #[.int .u8 c.toNat] W fun e w' => e = .returned (.bool false) ∧ w' = W) := fun W => (iv_of Gl.dg 123 126 false (by decide +kernel) c p q) ▸ rDigit c W
    have HE := hidA (iv_of (Gl.inC Gl.nSpace) 123 126 false (by decide +kernel) c p q)
    have d0 : decide ((c.toNat : Int) ≤ 126) = true := decide_eq_true (by omega)
    have e0 : decide (c.toNat ≤ 126) = true := decide_eq_true (by omega)
    have d1 : decide ((9 : Int) ≤ (c.toNat : Int)) = true := decide_eq_true (by omega)
    have e1 : decide (9 ≤ c.toNat) = true := decide_eq_true (by omega)
    have d2 : decide ((c.toNat : Int) ≤ 13) = false := decide_eq_false (by omega)
    have e2 : decide (c.toNat ≤ 13) = false := decide_eq_false (by omega)
    have k32 : ((c.toNat : Int) == 32) = false := beq_eq_false_iff_ne.2 (by omega)
    go_enter Tryd.func52, Tryd.ntmps52
    go_wp2_with (first | (go_at_call 71; refine (HLo.out _).mono ?_; rintro e w1 ⟨rfl, hw'⟩; rw [hw']; clear hw' w1) | (go_at_call 72; refine (HUp.out _).mono ?_; rintro e w1 ⟨rfl, hw'⟩; rw [hw']; clear hw' w1) | (go_at_call 69; refine (HDg.out _).mono ?_; rintro e w1 ⟨rfl, hw'⟩; rw [hw']; clear hw' w1))
    go_ret2
    exact ⟨by rw [HE.out]; rfl, rfl⟩
  · have HLo : Hid (∀ W, Calls Tryd.prog 71 #[.int .u8 c.toNat] W fun e w' => e = .returned (.bool false) ∧ w' = W) := fun W => (iv_of Gl.lo 127 255 false (by decide +kernel) c p q) ▸ rLower c W
    have HUp : Hid (∀ W, Calls Tryd.prog 72 #[.int .u8 c.toNat] W fun e w' => e = .returned (.bool false) ∧ w' = W) := fun W => (iv_of Gl.up 127 255 false (by decide +kernel) c p q) ▸ rUpper c W
    have HDg : Hid (∀ W, Calls Tryd.prog 69 #[.int .u8 c.toNat] W fun e w' => e = .returned (.bool false) ∧ w' = W) := fun W => (iv_of Gl.dg 127 255 false (by decide +kernel) c p q) ▸ rDigit c W
    have HE := hidA (iv_of (Gl.inC Gl.nSpace) 127 255 false (by decide +kernel) c p q)
    have d0 : decide ((c.toNat : Int) ≤ 126) = false := decide_eq_false (by omega)
    have e0 : decide (c.toNat ≤ 126) = false := decide_eq_false (by omega)
    have d1 : decide ((9 : Int) ≤ (c.toNat : Int)) = true := decide_eq_true (by omega)
    have e1 : decide (9 ≤ c.toNat) = true := decide_eq_true (by omega)
    have d2 : decide ((c.toNat : Int) ≤ 13) = false := decide_eq_false (by omega)
    have e2 : decide (c.toNat ≤ 13) = false := decide_eq_false (by omega)
    have k32 : ((c.toNat : Int) == 32) = false := beq_eq_false_iff_ne.2 (by omega)
    go_enter Tryd.func52, Tryd.ntmps52
    go_wp2_with (first | (go_at_call 71; refine (HLo.out _).mono ?_; rintro e w1 ⟨rfl, hw'⟩; rw [hw']; clear hw' w1) | (go_at_call 72; refine (HUp.out _).mono ?_; rintro e w1 ⟨rfl, hw'⟩; rw [hw']; clear hw' w1) | (go_at_call 69; refine (HDg.out _).mono ?_; rintro e w1 ⟨rfl, hw'⟩; rw [hw']; clear hw' w1))
    go_ret2
    exact ⟨by rw [HE.out]; rfl, rfl⟩
set_option maxRecDepth 100000 in
set_option maxHeartbeats 4000000 in
theorem rInUpper (c : UInt8) (w : World) : Calls Tryd.prog 52 #[.string ⟨#[117, 112, 112, 101, 114]⟩, .int .u8 c.toNat] w fun e w' => e = .returned (.tuple #[.bool (Gl.inC Gl.nUpper c), .bool true]) ∧ w' = w := by
  have h8 := c.toNat_lt
  rcases (by omega : (0 ≤ c.toNat ∧ c.toNat ≤ 32) ∨ (33 ≤ c.toNat ∧ c.toNat ≤ 47) ∨ (48 ≤ c.toNat ∧ c.toNat ≤ 57) ∨ (58 ≤ c.toNat ∧ c.toNat ≤ 64) ∨ (65 ≤ c.toNat ∧ c.toNat ≤ 90) ∨ (91 ≤ c.toNat ∧ c.toNat ≤ 96) ∨ (97 ≤ c.toNat ∧ c.toNat ≤ 122) ∨ (123 ≤ c.toNat ∧ c.toNat ≤ 126) ∨ (127 ≤ c.toNat ∧ c.toNat ≤ 255)) with ⟨p, q⟩ | ⟨p, q⟩ | ⟨p, q⟩ | ⟨p, q⟩ | ⟨p, q⟩ | ⟨p, q⟩ | ⟨p, q⟩ | ⟨p, q⟩ | ⟨p, q⟩
  · have HLo : Hid (∀ W, Calls Tryd.prog 71 #[.int .u8 c.toNat] W fun e w' => e = .returned (.bool false) ∧ w' = W) := fun W => (iv_of Gl.lo 0 32 false (by decide +kernel) c p q) ▸ rLower c W
    have HUp : Hid (∀ W, Calls Tryd.prog 72 #[.int .u8 c.toNat] W fun e w' => e = .returned (.bool false) ∧ w' = W) := fun W => (iv_of Gl.up 0 32 false (by decide +kernel) c p q) ▸ rUpper c W
    have HDg : Hid (∀ W, Calls Tryd.prog 69 #[.int .u8 c.toNat] W fun e w' => e = .returned (.bool false) ∧ w' = W) := fun W => (iv_of Gl.dg 0 32 false (by decide +kernel) c p q) ▸ rDigit c W
    have HE := hidA (iv_of (Gl.inC Gl.nUpper) 0 32 false (by decide +kernel) c p q)
    have d0 : decide ((c.toNat : Int) ≤ 126) = true := decide_eq_true (by omega)
    have e0 : decide (c.toNat ≤ 126) = true := decide_eq_true (by omega)
    go_enter Tryd.func52, Tryd.ntmps52
    go_wp2_with (first | (go_at_call 71; refine (HLo.out _).mono ?_; rintro e w1 ⟨rfl, hw'⟩; rw [hw']; clear hw' w1) | (go_at_call 72; refine (HUp.out _).mono ?_; rintro e w1 ⟨rfl, hw'⟩; rw [hw']; clear hw' w1) | (go_at_call 69; refine (HDg.out _).mono ?_; rintro e w1 ⟨rfl, hw'⟩; rw [hw']; clear hw' w1))
    go_ret2
    exact ⟨by rw [HE.out]; rfl, rfl⟩
  · have HLo : Hid (∀ W, Calls Tryd.prog 71 #[.int .u8 c.toNat] W fun e w' => e = .returned (.bool false) ∧ w' = W) := fun W => (iv_of Gl.lo 33 47 false (by decide +kernel) c p q) ▸ rLower c W
    have HUp : Hid (∀ W, Calls Tryd.prog 72 #[.int .u8 c.toNat] W fun e w' => e = .returned (.bool false) ∧ w' = W) := fun W => (iv_of Gl.up 33 47 false (by decide +kernel) c p q) ▸ rUpper c W
    have HDg : Hid (∀ W, Calls Tryd.prog 69 #[.int .u8 c.toNat] W fun e w' => e = .returned (.bool false) ∧ w' = W) := fun W => (iv_of Gl.dg 33 47 false (by decide +kernel) c p q) ▸ rDigit c W
    have HE := hidA (iv_of (Gl.inC Gl.nUpper) 33 47 false (by decide +kernel) c p q)
    have d0 : decide ((c.toNat : Int) ≤ 126) = true := decide_eq_true (by omega)
    have e0 : decide (c.toNat ≤ 126) = true := decide_eq_true (by omega)
    go_enter Tryd.func52, Tryd.ntmps52
    go_wp2_with (first | (go_at_call 71; refine (HLo.out _).mono ?_; rintro e w1 ⟨rfl, hw'⟩; rw [hw']; clear hw' w1) | (go_at_call 72; refine (HUp.out _).mono ?_; rintro e w1 ⟨rfl, hw'⟩; rw [hw']; clear hw' w1) | (go_at_call 69; refine (HDg.out _).mono ?_; rintro e w1 ⟨rfl, hw'⟩; rw [hw']; clear hw' w1))
    go_ret2
    exact ⟨by rw [HE.out]; rfl, rfl⟩
  · have HLo : Hid (∀ W, Calls Tryd.prog 71 #[.int .u8 c.toNat] W fun e w' => e = .returned (.bool false) ∧ w' = W) := fun W => (iv_of Gl.lo 48 57 false (by decide +kernel) c p q) ▸ rLower c W
    have HUp : Hid (∀ W, Calls Tryd.prog 72 #[.int .u8 c.toNat] W fun e w' => e = .returned (.bool false) ∧ w' = W) := fun W => (iv_of Gl.up 48 57 false (by decide +kernel) c p q) ▸ rUpper c W
    have HDg : Hid (∀ W, Calls Tryd.prog 69 #[.int .u8 c.toNat] W fun e w' => e = .returned (.bool true) ∧ w' = W) := fun W => (iv_of Gl.dg 48 57 true (by decide +kernel) c p q) ▸ rDigit c W
    have HE := hidA (iv_of (Gl.inC Gl.nUpper) 48 57 false (by decide +kernel) c p q)
    have d0 : decide ((c.toNat : Int) ≤ 126) = true := decide_eq_true (by omega)
    have e0 : decide (c.toNat ≤ 126) = true := decide_eq_true (by omega)
    go_enter Tryd.func52, Tryd.ntmps52
    go_wp2_with (first | (go_at_call 71; refine (HLo.out _).mono ?_; rintro e w1 ⟨rfl, hw'⟩; rw [hw']; clear hw' w1) | (go_at_call 72; refine (HUp.out _).mono ?_; rintro e w1 ⟨rfl, hw'⟩; rw [hw']; clear hw' w1) | (go_at_call 69; refine (HDg.out _).mono ?_; rintro e w1 ⟨rfl, hw'⟩; rw [hw']; clear hw' w1))
    go_ret2
    exact ⟨by rw [HE.out]; rfl, rfl⟩
  · have HLo : Hid (∀ W, Calls Tryd.prog 71 #[.int .u8 c.toNat] W fun e w' => e = .returned (.bool false) ∧ w' = W) := fun W => (iv_of Gl.lo 58 64 false (by decide +kernel) c p q) ▸ rLower c W
    have HUp : Hid (∀ W, Calls Tryd.prog 72 #[.int .u8 c.toNat] W fun e w' => e = .returned (.bool false) ∧ w' = W) := fun W => (iv_of Gl.up 58 64 false (by decide +kernel) c p q) ▸ rUpper c W
    have HDg : Hid (∀ W, Calls Tryd.prog 69 #[.int .u8 c.toNat] W fun e w' => e = .returned (.bool false) ∧ w' = W) := fun W => (iv_of Gl.dg 58 64 false (by decide +kernel) c p q) ▸ rDigit c W
    have HE := hidA (iv_of (Gl.inC Gl.nUpper) 58 64 false (by decide +kernel) c p q)
    have d0 : decide ((c.toNat : Int) ≤ 126) = true := decide_eq_true (by omega)
    have e0 : decide (c.toNat ≤ 126) = true := decide_eq_true (by omega)
    go_enter Tryd.func52, Tryd.ntmps52
    go_wp2_with (first | (go_at_call 71; refine (HLo.out _).mono ?_; rintro e w1 ⟨rfl, hw'⟩; rw [hw']; clear hw' w1) | (go_at_call 72; refine (HUp.out _).mono ?_; rintro e w1 ⟨rfl, hw'⟩; rw [hw']; clear hw' w1) | (go_at_call 69; refine (HDg.out _).mono ?_; rintro e w1 ⟨rfl, hw'⟩; rw [hw']; clear hw' w1))
    go_ret2
    exact ⟨by rw [HE.out]; rfl, rfl⟩
  · have HLo : Hid (∀ W, Calls Tryd.prog 71 #[.int .u8 c.toNat] W fun e w' => e = .returned (.bool false) ∧ w' = W) := fun W => (iv_of Gl.lo 65 90 false (by decide +kernel) c p q) ▸ rLower c W
    have HUp : Hid (∀ W, Calls Tryd.prog 72 #[.int .u8 c.toNat] W fun e w' => e = .returned (.bool true) ∧ w' = W) := fun W => (iv_of Gl.up 65 90 true (by decide +kernel) c p q) ▸ rUpper c W
    have HDg : Hid (∀ W, Calls Tryd.prog 69 #[.int .u8 c.toNat] W fun e w' => e = .returned (.bool false) ∧ w' = W) := fun W => (iv_of Gl.dg 65 90 false (by decide +kernel) c p q) ▸ rDigit c W
    have HE := hidA (iv_of (Gl.inC Gl.nUpper) 65 90 true (by decide +kernel) c p q)
    have d0 : decide ((c.toNat : Int) ≤ 126) = true := decide_eq_true (by omega)
    have e0 : decide (c.toNat ≤ 126) = true := decide_eq_true (by omega)
    go_enter Tryd.func52, Tryd.ntmps52
    go_wp2_with (first | (go_at_call 71; refine (HLo.out _).mono ?_; rintro e w1 ⟨rfl, hw'⟩; rw [hw']; clear hw' w1) | (go_at_call 72; refine (HUp.out _).mono ?_; rintro e w1 ⟨rfl, hw'⟩; rw [hw']; clear hw' w1) | (go_at_call 69; refine (HDg.out _).mono ?_; rintro e w1 ⟨rfl, hw'⟩; rw [hw']; clear hw' w1))
    go_ret2
    exact ⟨by rw [HE.out]; rfl, rfl⟩
  · have HLo : Hid (∀ W, Calls Tryd.prog 71 #[.int .u8 c.toNat] W fun e w' => e = .returned (.bool false) ∧ w' = W) := fun W => (iv_of Gl.lo 91 96 false (by decide +kernel) c p q) ▸ rLower c W
    have HUp : Hid (∀ W, Calls Tryd.prog 72 #[.int .u8 c.toNat] W fun e w' => e = .returned (.bool false) ∧ w' = W) := fun W => (iv_of Gl.up 91 96 false (by decide +kernel) c p q) ▸ rUpper c W
    have HDg : Hid (∀ W, Calls Tryd.prog 69 #[.int .u8 c.toNat] W fun e w' => e = .returned (.bool false) ∧ w' = W) := fun W => (iv_of Gl.dg 91 96 false (by decide +kernel) c p q) ▸ rDigit c W
    have HE := hidA (iv_of (Gl.inC Gl.nUpper) 91 96 false (by decide +kernel) c p q)
    have d0 : decide ((c.toNat : Int) ≤ 126) = true := decide_eq_true (by omega)
    have e0 : decide (c.toNat ≤ 126) = true := decide_eq_true (by omega)
    go_enter Tryd.func52, Tryd.ntmps52
    go_wp2_with (first | (go_at_call 71; refine (HLo.out _).mono ?_; rintro e w1 ⟨rfl, hw'⟩; rw [hw']; clear hw' w1) | (go_at_call 72; refine (HUp.out _).mono ?_; rintro e w1 ⟨rfl, hw'⟩; rw [hw']; clear hw' w1) | (go_at_call 69; refine (HDg.out _).mono ?_; rintro e w1 ⟨rfl, hw'⟩; rw [hw']; clear hw' w1))
    go_ret2
    exact ⟨by rw [HE.out]; rfl, rfl⟩
  · have HLo : Hid (∀ W, Calls Tryd.prog 71 #[.int .u8 c.toNat] W fun e w' => e = .returned (.bool true) ∧ w' = W) := fun W => (iv_of Gl.lo 97 122 true (by decide +kernel) c p q) ▸ rLower c W
    have HUp : Hid (∀ W, Calls Tryd.prog 72 #[.int .u8 c.toNat] W fun e w' => e = .returned (.bool false) ∧ w' = W) := fun W => (iv_of Gl.up 97 122 false (by decide +kernel) c p q) ▸ rUpper c W
    have HDg : Hid (∀ W, Calls Tryd.prog 69 #[.int .u8 c.toNat] W fun e w' => e = .returned (.bool false) ∧ w' = W) := fun W => (iv_of Gl.dg 97 122 false (by decide +kernel) c p q) ▸ rDigit c W
    have HE := hidA (iv_of (Gl.inC Gl.nUpper) 97 122 false (by decide +kernel) c p q)
    have d0 : decide ((c.toNat : Int) ≤ 126) = true := decide_eq_true (by omega)
    have e0 : decide (c.toNat ≤ 126) = true := decide_eq_true (by omega)
    go_enter Tryd.func52, Tryd.ntmps52
    go_wp2_with (first | (go_at_call 71; refine (HLo.out _).mono ?_; rintro e w1 ⟨rfl, hw'⟩; rw [hw']; clear hw' w1) | (go_at_call 72; refine (HUp.out _).mono ?_; rintro e w1 ⟨rfl, hw'⟩; rw [hw']; clear hw' w1) | (go_at_call 69; refine (HDg.out _).mono ?_; rintro e w1 ⟨rfl, hw'⟩; rw [hw']; clear hw' w1))
    go_ret2
    exact ⟨by rw [HE.out]; rfl, rfl⟩
  · have HLo : Hid (∀ W, Calls Tryd.prog 71 #[.int .u8 c.toNat] W fun e w' => e = .returned (.bool false) ∧ w' = W) := fun W => (iv_of Gl.lo 123 126 false (by decide +kernel) c p q) ▸ rLower c W
    have HUp : Hid (∀ W, Calls Tryd.prog 72 #[.int .u8 c.toNat] W fun e w' => e = .returned (.bool false) ∧ w' = W) := fun W => (iv_of Gl.up 123 126 false (by decide +kernel) c p q) ▸ rUpper c W
    have HDg : Hid (∀ W, Calls Tryd.prog 69 #[.int .u8 c.toNat] W fun e w' => e = .returned (.bool false) ∧ w' = W) := fun W => (iv_of Gl.dg 123 126 false (by decide +kernel) c p q) ▸ rDigit c W
    have HE := hidA (iv_of (Gl.inC Gl.nUpper) 123 126 false (by decide +kernel) c p q)
    have d0 : decide ((c.toNat : Int) ≤ 126) = true := decide_eq_true (by omega)
    have e0 : decide (c.toNat ≤ 126) = true := decide_eq_true (by omega)
    go_enter Tryd.func52, Tryd.ntmps52
    go_wp2_with (first | (go_at_call 71; refine (HLo.out _).mono ?_; rintro e w1 ⟨rfl, hw'⟩; rw [hw']; clear hw' w1) | (go_at_call 72; refine (HUp.out _).mono ?_; rintro e w1 ⟨rfl, hw'⟩; rw [hw']; clear hw' w1) | (go_at_call 69; refine (HDg.out _).mono ?_; rintro e w1 ⟨rfl, hw'⟩; rw [hw']; clear hw' w1))
    go_ret2
    exact ⟨by rw [HE.out]; rfl, rfl⟩
  · have HLo : Hid (∀ W, Calls Tryd.prog 71 #[.int .u8 c.toNat] W fun e w' => e = .returned (.bool false) ∧ w' = W) := fun W => (iv_of Gl.lo 127 255 false (by decide +kernel) c p q) ▸ rLower c W
    have HUp : Hid (∀ W, Calls Tryd.prog 72 #[.int .u8 c.toNat] W fun e w' => e = .returned (.bool false) ∧ w' = W) := fun W => (iv_of Gl.up 127 255 false (by decide +kernel) c p q) ▸ rUpper c W
    have HDg : Hid (∀ W, Calls Tryd.prog 69 #[.int .u8 c.toNat] W fun e w' => e = .returned (.bool false) ∧ w' = W) := fun W => (iv_of Gl.dg 127 255 false (by decide +kernel) c p q) ▸ rDigit c W
    have HE := hidA (iv_of (Gl.inC Gl.nUpper) 127 255 false (by decide +kernel) c p q)
    have d0 : decide ((c.toNat : Int) ≤ 126) = false := decide_eq_false (by omega)
    have e0 : decide (c.toNat ≤ 126) = false := decide_eq_false (by omega)
    go_enter Tryd.func52, Tryd.ntmps52
    go_wp2_with (first | (go_at_call 71; refine (HLo.out _).mono ?_; rintro e w1 ⟨rfl, hw'⟩; rw [hw']; clear hw' w1) | (go_at_call 72; refine (HUp.out _).mono ?_; rintro e w1 ⟨rfl, hw'⟩; rw [hw']; clear hw' w1) | (go_at_call 69; refine (HDg.out _).mono ?_; rintro e w1 ⟨rfl, hw'⟩; rw [hw']; clear hw' w1))
    go_ret2
    exact ⟨by rw [HE.out]; rfl, rfl⟩
set_option maxRecDepth 100000 in
set_option maxHeartbeats 4000000 in
theorem rInXdigit (c : UInt8) (w : World) : Calls Tryd.prog 52 #[.string ⟨#[120, 100, 105, 103, 105, 116]⟩, .int .u8 c.toNat] w fun e w' => e = .returned (.tuple #[.bool (Gl.inC Gl.nXdigit c), .bool true]) ∧ w' = w := by
  have h8 := c.toNat_lt
  rcases (by omega : (0 ≤ c.toNat ∧ c.toNat ≤ 32) ∨ (33 ≤ c.toNat ∧ c.toNat ≤ 47) ∨ (48 ≤ c.toNat ∧ c.toNat ≤ 57) ∨ (58 ≤ c.toNat ∧ c.toNat ≤ 64) ∨ (65 ≤ c.toNat ∧ c.toNat ≤ 70) ∨ (71 ≤ c.toNat ∧ c.toNat ≤ 90) ∨ (91 ≤ c.toNat ∧ c.toNat ≤ 96) ∨ (97 ≤ c.toNat ∧ c.toNat ≤ 102) ∨ (103 ≤ c.toNat ∧ c.toNat ≤ 122) ∨ (123 ≤ c.toNat ∧ c.toNat ≤ 126) ∨ (127 ≤ c.toNat ∧ c.toNat ≤ 255)) with ⟨p, q⟩ | ⟨p, q⟩ | ⟨p, q⟩ | ⟨p, q⟩ | ⟨p, q⟩ | ⟨p, q⟩ | ⟨p, q⟩ | ⟨p, q⟩ | ⟨p, q⟩ | ⟨p, q⟩ | ⟨p, q⟩
  · have HLo : Hid (∀ W, Calls Tryd.prog 71 #[.int .u8 c.toNat] W fun e w' => e = .returned (.bool false) ∧ w' = W) := fun W => (iv_of Gl.lo 0 32 false (by decide +kernel) c p q) ▸ rLower c W
    have HUp : Hid (∀ W, Calls Tryd.prog 72 #[.int .u8 c.toNat] W fun e w' => e = .returned (.bool false) ∧ w' = W) := fun W => (iv_of Gl.up 0 32 false (by decide +kernel) c p q) ▸ rUpper c W
    have HDg : Hid (∀ W, Calls Tryd.prog 69 #[.int .u8 c.toNat] W fun e w' => e = .returned (.bool false) ∧ w' = W) := fun W => (iv_of Gl.dg 0 32 false (by decide +kernel) c p q) ▸ rDigit c W
    have HE := hidA (iv_of (Gl.inC Gl.nXdigit) 0 32 false (by decide +kernel) c p q)
    have d0 : decide ((c.toNat : Int) ≤ 126) = true := decide_eq_true (by omega)
    have e0 : decide (c.toNat ≤ 126) = true := decide_eq_true (by omega)
    have d1 : decide ((97 : Int) ≤ (c.toNat : Int)) = false := decide_eq_false (by omega)
    have e1 : decide (97 ≤ c.toNat) = false := decide_eq_false (by omega)
    have d2 : decide ((c.toNat : Int) ≤ 102) = true := decide_eq_true (by omega)
    have e2 : decide (c.toNat ≤ 102) = true := decide_eq_true (by omega)
    have d3 : decide ((65 : Int) ≤ (c.toNat : Int)) = false := decide_eq_false (by omega)
    have e3 : decide (65 ≤ c.toNat) = false := decide_eq_false (by omega)
    have d4 : decide ((c.toNat : Int) ≤ 70) = true := decide_eq_true (by omega)
    have e4 : decide (c.toNat ≤ 70) = true := decide_eq_true (by omega)
    go_enter Tryd.func52, Tryd.ntmps52
    go_wp2_with (first | (go_at_call 71; refine (HLo.out _).mono ?_; rintro e w1 ⟨rfl, hw'⟩; rw [hw']; clear hw' w1) | (go_at_call 72; refine (HUp.out _).mono ?_; rintro e w1 ⟨rfl, hw'⟩; rw [hw']; clear hw' w1) | (go_at_call 69; refine (HDg.out _).mono ?_; rintro e w1 ⟨rfl, hw'⟩; rw [hw']; clear hw' w1))
    go_ret2
    exact ⟨by rw [HE.out]; rfl, rfl⟩
  · have HLo : Hid (∀ W, Calls Tryd.prog 71 #[.int .u8 c.toNat] W fun e w' => e = .returned (.bool false) ∧ w' = W) := fun W => (iv_of Gl.lo 33 47 false (by decide +kernel) c p q) ▸ rLower c W
    have HUp : Hid (∀ W, Calls Tryd.prog 72 #[.int .u8 c.toNat] W fun e w' => e = .returned (.bool false) ∧ w' = W) := fun W => (iv_of Gl.up 33 47 false (by decide +kernel) c p q) ▸ rUpper c W
    have HDg : Hid (∀ W, Calls Tryd.prog 69 #[.int .u8 c.toNat] W fun e w' => e = .returned (.bool false) ∧ w' = W) := fun W => (iv_of Gl.dg 33 47 false (by decide +kernel) c p q) ▸ rDigit c W
    have HE := hidA (iv_of (Gl.inC Gl.nXdigit) 33 47 false (by decide +kernel) c p q)
    have d0 : decide ((c.toNat : Int) ≤ 126) = true := decide_eq_true (by omega)
    have e0 : decide (c.toNat ≤ 126) = true := decide_eq_true (by omega)
    have d1 : decide ((97 : Int) ≤ (c.toNat : Int)) = false := decide_eq_false (by omega)
    have e1 : decide (97 ≤ c.toNat) = false := decide_eq_false (by omega)
    have d2 : decide ((c.toNat : Int) ≤ 102) = true := decide_eq_true (by omega)
    have e2 : decide (c.toNat ≤ 102) = true := decide_eq_true (by omega)
    have d3 : decide ((65 : Int) ≤ (c.toNat : Int)) = false := decide_eq_false (by omega)
    have e3 : decide (65 ≤ c.toNat) = false := decide_eq_false (by omega)
    have d4 : decide ((c.toNat : Int) ≤ 70) = true := decide_eq_true (by omega)
    have e4 : decide (c.toNat ≤ 70) = true := decide_eq_true (by omega)
    go_enter Tryd.func52, Tryd.ntmps52
    go_wp2_with (first | (go_at_call 71; refine (HLo.out _).mono ?_; rintro e w1 ⟨rfl, hw'⟩; rw [hw']; clear hw' w1) | (go_at_call 72; refine (HUp.out _).mono ?_; rintro e w1 ⟨rfl, hw'⟩; rw [hw']; clear hw' w1) | (go_at_call 69; refine (HDg.out _).mono ?_; rintro e w1 ⟨rfl, hw'⟩; rw [hw']; clear hw' w1))
    go_ret2
    exact ⟨by rw [HE.out]; rfl, rfl⟩
  · have HLo : Hid (∀ W, Calls Tryd.prog 71 #[.int .u8 c.toNat] W fun e w' => e = .returned (.bool false) ∧ w' = W) := fun W => (iv_of Gl.lo 48 57 false (by decide +kernel) c p q) ▸ rLower c W
    have HUp : Hid (∀ W, Calls Tryd.prog 72 #[.int .u8 c.toNat] W fun e w' => e = .returned (.bool false) ∧ w' = W) := fun W => (iv_of Gl.up 48 57 false (by decide +kernel) c p q) ▸ rUpper c W
    have HDg : Hid (∀ W, Calls Tryd.prog 69 #[.int .u8 c.toNat] W fun e w' => e = .returned (.bool true) ∧ w' = W) := fun W => (iv_of Gl.dg 48 57 true (by decide +kernel) c p q) ▸ rDigit c W
    have HE := hidA (iv_of (Gl.inC Gl.nXdigit) 48 57 true (by decide +kernel) c p q)
    have d0 : decide ((c.toNat : Int) ≤ 126) = true := decide_eq_true (by omega)
    have e0 : decide (c.toNat ≤ 126) = true := decide_eq_true (by omega)
    have d1 : decide ((97 : Int) ≤ (c.toNat : Int)) = false := decide_eq_false (by omega)
    have e1 : decide (97 ≤ c.toNat) = false := decide_eq_false (by omega)
    have d2 : decide ((c.toNat : Int) ≤ 102) = true := decide_eq_true (by omega)
    have e2 : decide (c.toNat ≤ 102) = true := decide_eq_true (by omega)
    have d3 : decide ((65 : Int) ≤ (c.toNat : Int)) = false := decide_eq_false (by omega)
    have e3 : decide (65 ≤ c.toNat) = false := decide_eq_false (by omega)
    have d4 : decide ((c.toNat : Int) ≤ 70) = true := decide_eq_true (by omega)
    have e4 : decide (c.toNat ≤ 70) = true := decide_eq_true (by omega)
    go_enter Tryd.func52, Tryd.ntmps52
    go_wp2_with (first | (go_at_call 71; refine (HLo.out _).mono ?_; rintro e w1 ⟨rfl, hw'⟩; rw [hw']; clear hw' w1) | (go_at_call 72; refine (HUp.out _).mono ?_; rintro e w1 ⟨rfl, hw'⟩; rw [hw']; clear hw' w1) | (go_at_call 69; refine (HDg.out _).mono ?_; rintro e w1 ⟨rfl, hw'⟩; rw [hw']; clear hw' w1))
    go_ret2
    exact ⟨by rw [HE.out]; rfl, rfl⟩
  · have HLo : Hid (∀ W, Calls Tryd.prog 71 #[.int .u8 c.toNat] W fun e w' => e = .returned (.bool false) ∧ w' = W) := fun W => (iv_of Gl.lo 58 64 false (by decide +kernel) c p q) ▸ rLower c W
    have HUp : Hid (∀ W, Calls Tryd.prog 72 #[.int .u8 c.toNat] W fun e w' => e = .returned (.bool false) ∧ w' = W) := fun W => (iv_of Gl.up 58 64 false (by decide +kernel) c p q) ▸ rUpper c W
    have HDg : Hid (∀ W, Calls Tryd.prog 69 #[.int .u8 c.toNat] W fun e w' => e = .returned (.bool false) ∧ w' = W) := fun W => (iv_of Gl.dg 58 64 false (by decide +kernel) c p q) ▸ rDigit c W
    have HE := hidA (iv_of (Gl.inC Gl.nXdigit) 58 64 false (by decide +kernel) c p q)
    have d0 : decide ((c.toNat : Int) ≤ 126) = true := decide_eq_true (by omega)
    have e0 : decide (c.toNat ≤ 126) = true := decide_eq_true (by omega)
    have d1 : decide ((97 : Int) ≤ (c.toNat : Int)) = false := decide_eq_false (by omega)
    have e1 : decide (97 ≤ c.toNat) = false := decide_eq_false (by omega)
    have d2 : decide ((c.toNat : Int) ≤ 102) = true := decide_eq_true (by omega)
    have e2 : decide (c.toNat ≤ 102) = true := decide_eq_true (by omega)
    have d3 : decide ((65 : Int) ≤ (c.toNat : Int)) = false := decide_eq_false (by omega)
    have e3 : decide (65 ≤ c.toNat) = false := decide_eq_false (by omega)
    have d4 : decide ((c.toNat : Int) ≤ 70) = true := decide_eq_true (by omega)
    have e4 : decide (c.toNat ≤ 70) = true := decide_eq_true (by omega)
    go_enter Tryd.func52, Tryd.ntmps52
    go_wp2_with (first | (go_at_call 71; refine (HLo.out _).mono ?_; rintro e w1 ⟨rfl, hw'⟩; rw [hw']; clear hw' w1) | (go_at_call 72; refine (HUp.out _).mono ?_; rintro e w1 ⟨rfl, hw'⟩; rw [hw']; clear hw' w1) | (go_at_call 69; refine (HDg.out _).mono ?_; rintro e w1 ⟨rfl, hw'⟩; rw [hw']; clear hw' w1))
    go_ret2
    exact ⟨by rw [HE.out]; rfl, rfl⟩
  · have HLo : Hid (∀ W, Calls Tryd.prog 71 #[.int .u8 c.toNat] W fun e w' => e = .returned (.bool false) ∧ w' = W) := fun W => (iv_of Gl.lo 65 70 false (by decide +kernel) c p q) ▸ rLower c W
    have HUp : Hid (∀ W, Calls Tryd.prog 72 #[.int .u8 c.toNat] W fun e w' => e = .returned (.bool true) ∧ w' = W) := fun W => (iv_of Gl.up 65 70 true (by decide +kernel) c p q) ▸ rUpper c W
    have HDg : Hid (∀ W, Calls Tryd.prog 69 #[.int .u8 c.toNat] W fun e w' => e = .returned (.bool false) ∧ w' = W) := fun W => (iv_of Gl.dg 65 70 false (by decide +kernel) c p q) ▸ rDigit c W
    have HE := hidA (iv_of (Gl.inC Gl.nXdigit) 65 70 true (by decide +kernel) c p q)
    have d0 : decide ((c.toNat : Int) ≤ 126) = true := decide_eq_true (by omega)
    have e0 : decide (c.toNat ≤ 126) = true := decide_eq_true (by omega)
    have d1 : decide ((97 : Int) ≤ (c.toNat : Int)) = false := decide_eq_false (by omega)
    have e1 : decide (97 ≤ c.toNat) = false := decide_eq_false (by omega)
    have d2 : decide ((c.toNat : Int) ≤ 102) = true := decide_eq_true (by omega)
    have e2 : decide (c.toNat ≤ 102) = true := decide_eq_true (by omega)
    have d3 : decide ((65 : Int) ≤ (c.toNat : Int)) = true := decide_eq_true (by omega)
    have e3 : decide (65 ≤ c.toNat) = true := decide_eq_true (by omega)
    have d4 : decide ((c.toNat : Int) ≤ 70) = true := decide_eq_true (by omega)
    have e4 : decide (c.toNat ≤ 70) = true := decide_eq_true (by omega)
    go_enter Tryd.func52, Tryd.ntmps52
    go_wp2_with (first | (go_at_call 71; refine (HLo.out _).mono ?_; rintro e w1 ⟨rfl, hw'⟩; rw [hw']; clear hw' w1) | (go_at_call 72; refine (HUp.out _).mono ?_; rintro e w1 ⟨rfl, hw'⟩; rw [hw']; clear hw' w1) | (go_at_call 69; refine (HDg.out _).mono ?_; rintro e w1 ⟨rfl, hw'⟩; rw [hw']; clear hw' w1))
    go_ret2
    exact ⟨by rw [HE.out]; rfl, rfl⟩
  · have HLo : Hid (∀ W, Calls Tryd.prog 71 #[.int .u8 c.toNat] W fun e w' => e = .returned (.bool false) ∧ w' = W) := fun W => (iv_of Gl.lo 71 90 false (by decide +kernel) c p q) ▸ rLower c W
    have HUp : Hid (∀ W, Calls Tryd.prog 72 #[.int .u8 c.toNat] W fun e w' => e = .returned (.bool true) ∧ w' = W) := fun W => (iv_of Gl.up 71 90 true (by decide +kernel) c p q) ▸ rUpper c W
    have HDg : Hid (∀ W, Calls Tryd.prog 69 #[.int .u8 c.toNat] W fun e w' => e = .returned (.bool false) ∧ w' = W) := fun W => (iv_of Gl.dg 71 90 false (by decide +kernel) c p q) ▸ rDigit c W
    have HE := hidA (iv_of (Gl.inC Gl.nXdigit) 71 90 false (by decide +kernel) c p q)
    have d0 : decide ((c.toNat : Int) ≤ 126) = true := decide_eq_true (by omega)
    have e0 : decide (c.toNat ≤ 126) = true := decide_eq_true (by omega)
    have d1 : decide ((97 : Int) ≤ (c.toNat : Int)) = false := decide_eq_false (by omega)
    have e1 : decide (97 ≤ c.toNat) = false := decide_eq_false (by omega)
    have d2 : decide ((c.toNat : Int) ≤ 102) = true := decide_eq_true (by omega)
    have e2 : decide (c.toNat ≤ 102) = true := decide_eq_true (by omega)
    have d3 : decide ((65 : Int) ≤ (c.toNat : Int)) = true := decide_eq_true (by omega)
    have e3 : decide (65 ≤ c.toNat) = true := decide_eq_true (by omega)
    have d4 : decide ((c.toNat : Int) ≤ 70) = false := decide_eq_false (by omega)
    have e4 : decide (c.toNat ≤ 70) = false := decide_eq_false (by omega)
    go_enter Tryd.func52, Tryd.ntmps52
    go_wp2_with (first | (go_at_call 71; refine (HLo.out _).mono ?_; rintro e w1 ⟨rfl, hw'⟩; rw [hw']; clear hw' w1) | (go_at_call 72; refine (HUp.out _).mono ?_; rintro e w1 ⟨rfl, hw'⟩; rw [hw']; clear hw' w1) | (go_at_call 69; refine (HDg.out _).mono ?_; rintro e w1 ⟨rfl, hw'⟩; rw [hw']; clear hw' w1))
    go_ret2
    exact ⟨by rw [HE.out]; rfl, rfl⟩
  · have HLo : Hid (∀ W, Calls Tryd.prog 71 #[.int .u8 c.toNat] W fun e w' => e = .returned (.bool false) ∧ w' = W) := fun W => (iv_of Gl.lo 91 96 false (by decide +kernel) c p q) ▸ rLower c W
    have HUp : Hid (∀ W, Calls Tryd.prog 72 #[.int .u8 c.toNat] W fun e w' => e = .returned (.bool false) ∧ w' = W) := fun W => (iv_of Gl.up 91 96 false (by decide +kernel) c p q) ▸ rUpper c W
    have HDg : Hid (∀ W, Calls Tryd.prog 69 #[.int .u8 c.toNat] W fun e w' => e = .returned (.bool false) ∧ w' = W) := fun W => (iv_of Gl.dg 91 96 false (by decide +kernel) c p q) ▸ rDigit c W
    have HE := hidA (iv_of (Gl.inC Gl.nXdigit) 91 96 false (by decide +kernel) c p q)
    have d0 : decide ((c.toNat : Int) ≤ 126) = true := decide_eq_true (by omega)
    have e0 : decide (c.toNat ≤ 126) = true := decide_eq_true (by omega)
    have d1 : decide ((97 : Int) ≤ (c.toNat : Int)) = false := decide_eq_false (by omega)
    have e1 : decide (97 ≤ c.toNat) = false := decide_eq_false (by omega)
    have d2 : decide ((c.toNat : Int) ≤ 102) = true := decide_eq_true (by omega)
    have e2 : decide (c.toNat ≤ 102) = true := decide_eq_true (by omega)
    have d3 : decide ((65 : Int) ≤ (c.toNat : Int)) = true := decide_eq_true (by omega)
    have e3 : decide (65 ≤ c.toNat) = true := decide_eq_true (by omega)
    have d4 : decide ((c.toNat : Int) ≤ 70) = false := decide_eq_false (by omega)
    have e4 : decide (c.toNat ≤ 70) = false := decide_eq_false (by omega)
    go_enter Tryd.func52, Tryd.ntmps52
    go_wp2_with (first | (go_at_call 71; refine (HLo.out _).mono ?_; rintro e w1 ⟨rfl, hw'⟩; rw [hw']; clear hw' w1) | (go_at_call 72; refine (HUp.out _).mono ?_; rintro e w1 ⟨rfl, hw'⟩; rw [hw']; clear hw' w1) | (go_at_call 69; refine (HDg.out _).mono ?_; rintro e w1 ⟨rfl, hw'⟩; rw [hw']; clear hw' w1))
    go_ret2
    exact ⟨by rw [HE.out]; rfl, rfl⟩
  · have HLo : Hid (∀ W, Calls Tryd.prog 71 #[.int .u8 c.toNat] W fun e w' => e = .returned (.bool true) ∧ w' = W) := fun W => (iv_of Gl.lo 97 102 true (by decide +kernel) c p q) ▸ rLower c W
    have HUp : Hid (∀ W, Calls Tryd.prog 72 #[.int .u8 c.toNat] W fun e w' => e = .returned (.bool false) ∧ w' = W) := fun W => (iv_of Gl.up 97 102 false (by decide +kernel) c p q) ▸ rUpper c W
    have HDg : Hid (∀ W, Calls Tryd.prog 69 #[.int .u8 c.toNat] W fun e w' => e = .returned (.bool false) ∧ w' = W) := fun W => (iv_of Gl.dg 97 102 false (by decide +kernel) c p q) ▸ rDigit c W
    have HE := hidA (iv_of (Gl.inC Gl.nXdigit) 97 102 true (by decide +kernel) c p q)
    have d0 : decide ((c.toNat : Int) ≤ 126) = true := decide_eq_true (by omega)
    have e0 : decide (c.toNat ≤ 126) = true := decide_eq_true (by omega)
    have d1 : decide ((97 : Int) ≤ (c.toNat : Int)) = true := decide_eq_true (by omega)
    have e1 : decide (97 ≤ c.toNat) = true := decide_eq_true (by omega)
    have d2 : decide ((c.toNat : Int) ≤ 102) = true := decide_eq_true (by omega)
    have e2 : decide (c.toNat ≤ 102) = true := decide_eq_true (by omega)
    have d3 : decide ((65 : Int) ≤ (c.toNat : Int)) = true := decide_eq_true (by omega)
    have e3 : decide (65 ≤ c.toNat) = true := decide_eq_true (by omega)
    have d4 : decide ((c.toNat : Int) ≤ 70) = false := decide_eq_false (by omega)
    have e4 : decide (c.toNat ≤ 70) = false := decide_eq_false (by omega)
    go_enter Tryd.func52, Tryd.ntmps52
    go_wp2_with (first | (go_at_call 71; refine (HLo.out _).mono ?_; rintro e w1 ⟨rfl, hw'⟩; rw [hw']; clear hw' w1) | (go_at_call 72; refine (HUp.out _).mono ?_; rintro e w1 ⟨rfl, hw'⟩; rw [hw']; clear hw' w1) | (go_at_call 69; refine (HDg.out _).mono ?_; rintro e w1 ⟨rfl, hw'⟩; rw [hw']; clear hw' w1))
    go_ret2
    exact ⟨by rw [HE.out]; rfl, rfl⟩
  · have HLo : Hid (∀ W, Calls Tryd.prog 71 #[.int .u8 c.toNat] W fun e w' => e = .returned (.bool true) ∧ w' = W) := fun W => (iv_of Gl.lo 103 122 true (by decide +kernel) c p q) ▸ rLower c W
    have HUp : Hid (∀ W, Calls Tryd.prog 72 #[.int .u8 c.toNat] W fun e w' => e = .returned (.bool false) ∧ w' = W) := fun W => (iv_of Gl.up 103 122 false (by decide +kernel) c p q) ▸ rUpper c W
    have HDg : Hid (∀ W, Calls Tryd.prog 69 #[.int .u8 c.toNat] W fun e w' => e = .returned (.bool false) ∧ w' = W) := fun W => (iv_of Gl.dg 103 122 false (by decide +kernel) c p q) ▸ rDigit c W
    have HE := hidA (iv_of (Gl.inC Gl.nXdigit) 103 122 false (by decide +kernel) c p q)
    have d0 : decide ((c.toNat : Int) ≤ 126) = true := decide_eq_true (by omega)
    have e0 : decide (c.toNat ≤ 126) = true := decide_eq_true (by omega)
    have d1 : decide ((97 : Int) ≤ (c.toNat : Int)) = true := decide_eq_true (by omega)
    have e1 : decide (97 ≤ c.toNat) = true := decide_eq_true (by omega)
    have d2 : decide ((c.toNat : Int) ≤ 102) = false := decide_eq_false (by omega)
    have e2 : decide (c.toNat ≤ 102) = false := decide_eq_false (by omega)
    have d3 : decide ((65 : Int) ≤ (c.toNat : Int)) = true := decide_eq_true (by omega)
    have e3 : decide (65 ≤ c.toNat) = true := decide_eq_true (by omega)
    have d4 : decide ((c.toNat : Int) ≤ 70) = false := decide_eq_false (by omega)
    have e4 : decide (c.toNat ≤ 70) = false := decide_eq_false (by omega)
    go_enter Tryd.func52, Tryd.ntmps52
    go_wp2_with (first | (go_at_call 71; refine (HLo.out _).mono ?_; rintro e w1 ⟨rfl, hw'⟩; rw [hw']; clear hw' w1) | (go_at_call 72; refine (HUp.out _).mono ?_; rintro e w1 ⟨rfl, hw'⟩; rw [hw']; clear hw' w1) | (go_at_call 69; refine (HDg.out _).mono ?_; rintro e w1 ⟨rfl, hw'⟩; rw [hw']; clear hw' w1))
    go_ret2
    exact ⟨by rw [HE.out]; rfl, rfl⟩
  · have HLo : Hid (∀ W, Calls Tryd.prog 71 #[.int .u8 c.toNat] W fun e w' => e = .returned (.bool false) ∧ w' = W) := fun W => (iv_of Gl.lo 123 126 false (by decide +kernel) c p q) ▸ rLower c W
    have HUp : Hid (∀ W, Calls Tryd.prog 72 #[.int .u8 c.toNat] W fun e w' => e = .returned (.bool false) ∧ w' = W) := fun W => (iv_of Gl.up 123 126 false (by decide +kernel) c p q) ▸ rUpper c W
    have HDg : Hid (∀ W, Calls Tryd.prog 69 #[.int .u8 c.toNat] W fun e w' => e = .returned (.bool false) ∧ w' = W) := fun W => (iv_of Gl.dg 123 126 false (by decide +kernel) c p q) ▸ rDigit c W
    have HE := hidA (iv_of (Gl.inC Gl.nXdigit) 123 126 false (by decide +kernel) c p q)
    have d0 : decide ((c.toNat : Int) ≤ 126) = true := decide_eq_true (by omega)
    have e0 : decide (c.toNat ≤ 126) = true := decide_eq_true (by omega)
    have d1 : decide ((97 : Int) ≤ (c.toNat : Int)) = true := decide_eq_true (by omega)
    have e1 : decide (97 ≤ c.toNat) = true := decide_eq_true (by omega)
    have d2 : decide ((c.toNat : Int) ≤ 102) = false := decide_eq_false (by omega)
    have e2 : decide (c.toNat ≤ 102) = false := decide_eq_false (by omega)
    have d3 : decide ((65 : Int) ≤ (c.toNat : Int)) = true := decide_eq_true (by omega)
    have e3 : decide (65 ≤ c.toNat) = true := decide_eq_true (by omega)
    have d4 : decide ((c.toNat : Int) ≤ 70) = false := decide_eq_false (by omega)
    have e4 : decide (c.toNat ≤ 70) = false := decide_eq_false (by omega)
    go_enter Tryd.func52, Tryd.ntmps52
    go_wp2_with (first | (go_at_call 71; refine (HLo.out _).mono ?_; rintro e w1 ⟨rfl, hw'⟩; rw [hw']; clear hw' w1) | (go_at_call 72; refine (HUp.out _).mono ?_; rintro e w1 ⟨rfl, hw'⟩; rw [hw']; clear hw' w1) | (go_at_call 69; refine (HDg.out _).mono ?_; rintro e w1 ⟨rfl, hw'⟩; rw [hw']; clear hw' w1))
    go_ret2
    exact ⟨by rw [HE.out]; rfl, rfl⟩
  · have HLo : Hid (∀ W, Calls Tryd.prog 71 #[.int .u8 c.toNat] W fun e w' => e = .returned (.bool false) ∧ w' = W) := fun W => (iv_of Gl.lo 127 255 false (by decide +kernel) c p q) ▸ rLower c W
    have HUp : Hid (∀ W, Calls Tryd.prog 72 #[.int .u8 c.toNat] W fun e w' => e = .returned (.bool false) ∧ w' = W) := fun W => (iv_of Gl.up 127 255 false (by decide +kernel) c p q) ▸ rUpper c W
    have HDg : Hid (∀ W, Calls Tryd.prog 69 #[.int .u8 c.toNat] W fun e w' => e = .returned (.bool false) ∧ w' = W) := fun W => (iv_of Gl.dg 127 255 false (by decide +kernel) c p q) ▸ rDigit c W
    have HE := hidA (iv_of (Gl.inC Gl.nXdigit) 127 255 false (by decide +kernel) c p q)
    have d0 : decide ((c.toNat : Int) ≤ 126) = false := decide_eq_false (by omega)
    have e0 : decide (c.toNat ≤ 126) = false := decide_eq_false (by omega)
    have d1 : decide ((97 : Int) ≤ (c.toNat : Int)) = true := decide_eq_true (by omega)
    have e1 : decide (97 ≤ c.toNat) = true := decide_eq_true (by omega)
    have d2 : decide ((c.toNat : Int) ≤ 102) = false := decide_eq_false (by omega)
    have e2 : decide (c.toNat ≤ 102) = false := decide_eq_false (by omega)
    have d3 : decide ((65 : Int) ≤ (c.toNat : Int)) = true := decide_eq_true (by omega)
    have e3 : decide (65 ≤ c.toNat) = true := decide_eq_true (by omega)
    have d4 : decide ((c.toNat : Int) ≤ 70) = false := decide_eq_false (by omega)
    have e4 : decide (c.toNat ≤ 70) = false := decide_eq_false (by omega)
    go_enter Tryd.func52, Tryd.ntmps52
    go_wp2_with (first | (go_at_call 71; refine (HLo.out _).mono ?_; rintro e w1 ⟨rfl, hw'⟩; rw [hw']; clear hw' w1) | (go_at_call 72; refine (HUp.out _).mono ?_; rintro e w1 ⟨rfl, hw'⟩; rw [hw']; clear hw' w1) | (go_at_call 69; refine (HDg.out _).mono ?_; rintro e w1 ⟨rfl, hw'⟩; rw [hw']; clear hw' w1))
    go_ret2
    exact ⟨by rw [HE.out]; rfl, rfl⟩
set_option maxRecDepth 100000 in
set_option maxHeartbeats 4000000 in
theorem rInNo (c : UInt8) (l : List UInt8) (hAlnum : (l == [97, 108, 110, 117, 109]) = false) (hAlpha : (l == [97, 108, 112, 104, 97]) = false) (hBlank : (l == [98, 108, 97, 110, 107]) = false) (hCntrl : (l == [99, 110, 116, 114, 108]) = false) (hDigit : (l == [100, 105, 103, 105, 116]) = false) (hGraph : (l == [103, 114, 97, 112, 104]) = false) (hLower : (l == [108, 111, 119, 101, 114]) = false) (hPrint : (l == [112, 114, 105, 110, 116]) = false) (hPunct : (l == [112, 117, 110, 99, 116]) = false) (hSpace : (l == [115, 112, 97, 99, 101]) = false) (hUpper : (l == [117, 112, 112, 101, 114]) = false) (hXdigit : (l == [120, 100, 105, 103, 105, 116]) = false) (w : World) : Calls Tryd.prog 52 #[.string ⟨l.toArray⟩, .int .u8 c.toNat] w fun e w' => e = .returned (.tuple #[.bool false, .bool false]) ∧ w' = w := by
  have h8 := c.toNat_lt
  rcases (by omega : (0 ≤ c.toNat ∧ c.toNat ≤ 32) ∨ (33 ≤ c.toNat ∧ c.toNat ≤ 47) ∨ (48 ≤ c.toNat ∧ c.toNat ≤ 57) ∨ (58 ≤ c.toNat ∧ c.toNat ≤ 64) ∨ (65 ≤ c.toNat ∧ c.toNat ≤ 90) ∨ (91 ≤ c.toNat ∧ c.toNat ≤ 96) ∨ (97 ≤ c.toNat ∧ c.toNat ≤ 122) ∨ (123 ≤ c.toNat ∧ c.toNat ≤ 126) ∨ (127 ≤ c.toNat ∧ c.toNat ≤ 255)) with ⟨p, q⟩ | ⟨p, q⟩ | ⟨p, q⟩ | ⟨p, q⟩ | ⟨p, q⟩ | ⟨p, q⟩ | ⟨p, q⟩ | ⟨p, q⟩ | ⟨p, q⟩
  · have HLo : Hid (∀ W, Calls Tryd.prog 71 #[.int .u8 c.toNat] W fun e w' => e = .returned (.bool false) ∧ w' = W) := fun W => (iv_of Gl.lo 0 32 false (by decide +kernel) c p q) ▸ rLower c W
    have HUp : Hid (∀ W, Calls Tryd.prog 72 #[.int .u8 c.toNat] W fun e w' => e = .returned (.bool false) ∧ w' = W) := fun W => (iv_of Gl.up 0 32 false (by decide +kernel) c p q) ▸ rUpper c W
    have HDg : Hid (∀ W, Calls Tryd.prog 69 #[.int .u8 c.toNat] W fun e w' => e = .returned (.bool false) ∧ w' = W) := fun W => (iv_of Gl.dg 0 32 false (by decide +kernel) c p q) ▸ rDigit c W
    have d0 : decide ((c.toNat : Int) ≤ 126) = true := decide_eq_true (by omega)
    have e0 : decide (c.toNat ≤ 126) = true := decide_eq_true (by omega)
    go_enter Tryd.func52, Tryd.ntmps52
    go_wp2_with (first | (go_at_call 71; refine (HLo.out _).mono ?_; rintro e w1 ⟨rfl, hw'⟩; rw [hw']; clear hw' w1) | (go_at_call 72; refine (HUp.out _).mono ?_; rintro e w1 ⟨rfl, hw'⟩; rw [hw']; clear hw' w1) | (go_at_call 69; refine (HDg.out _).mono ?_; rintro e w1 ⟨rfl, hw'⟩; rw [hw']; clear hw' w1))
    go_ret2
    exact ⟨rfl, rfl⟩
  · have HLo : Hid (∀ W, Calls Tryd.prog 71 #[.int .u8 c.toNat] W fun e w' => e = .returned (.bool false) ∧ w' = W) := fun W => (iv_of Gl.lo 33 47 false (by decide +kernel) c p q) ▸ rLower c W
    have HUp : Hid (∀ W, Calls Tryd.prog 72 #[.int .u8 c.toNat] W fun e w' => e = .returned (.bool false) ∧ w' = W) := fun W => (iv_of Gl.up 33 47 false (by decide +kernel) c p q) ▸ rUpper c W
    have HDg : Hid (∀ W, Calls Tryd.prog 69 #[.int .u8 c.toNat] W fun e w' => e = .returned (.bool false) ∧ w' = W) := fun W => (iv_of Gl.dg 33 47 false (by decide +kernel) c p q) ▸ rDigit c W
    have d0 : decide ((c.toNat : Int) ≤ 126) = true := decide_eq_true (by omega)
    have e0 : decide (c.toNat ≤ 126) = true := decide_eq_true (by omega)
    go_enter Tryd.func52, Tryd.ntmps52
    go_wp2_with (first | (go_at_call 71; refine (HLo.out _).mono ?_; rintro e w1 ⟨rfl, hw'⟩; rw [hw']; clear hw' w1) | (go_at_call 72; refine (HUp.out _).mono ?_; rintro e w1 ⟨rfl, hw'⟩; rw [hw']; clear hw' w1) | (go_at_call 69; refine (HDg.out _).mono ?_; rintro e w1 ⟨rfl, hw'⟩; rw [hw']; clear hw' w1))
    go_ret2
    exact ⟨rfl, rfl⟩
  · have HLo : Hid (∀ W, Calls Tryd.prog 71 #[.int .u8 c.toNat] W fun e w' => e = .returned (.bool false) ∧ w' = W) := fun W => (iv_of Gl.lo 48 57 false (by decide +kernel) c p q) ▸ rLower c W
    have HUp : Hid (∀ W, Calls Tryd.prog 72 #[.int .u8 c.toNat] W fun e w' => e = .returned (.bool false) ∧ w' = W) := fun W => (iv_of Gl.up 48 57 false (by decide +kernel) c p q) ▸ rUpper c W
    have HDg : Hid (∀ W, Calls Tryd.prog 69 #[.int .u8 c.toNat] W fun e w' => e = .returned (.bool true) ∧ w' = W) := fun W => (iv_of Gl.dg 48 57 true (by decide +kernel) c p q) ▸ rDigit c W
    have d0 : decide ((c.toNat : Int) ≤ 126) = true := decide_eq_true (by omega)
    have e0 : decide (c.toNat ≤ 126) = true := decide_eq_true (by omega)
    go_enter Tryd.func52, Tryd.ntmps52
    go_wp2_with (first | (go_at_call 71; refine (HLo.out _).mono ?_; rintro e w1 ⟨rfl, hw'⟩; rw [hw']; clear hw' w1) | (go_at_call 72; refine (HUp.out _).mono ?_; rintro e w1 ⟨rfl, hw'⟩; rw [hw']; clear hw' w1) | (go_at_call 69; refine (HDg.out _).mono ?_; rintro e w1 ⟨rfl, hw'⟩; rw [hw']; clear hw' w1))
    go_ret2
    exact ⟨rfl, rfl⟩
  · have HLo : Hid (∀ W, Calls Tryd.prog 71 #[.int .u8 c.toNat] W fun e w' => e = .returned (.bool false) ∧ w' = W) := fun W => (iv_of Gl.lo 58 64 false (by decide +kernel) c p q) ▸ rLower c W
    have HUp : Hid (∀ W, Calls Tryd.prog 72 #[.int .u8 c.toNat] W fun e w' => e = .returned (.bool false) ∧ w' = W) := fun W => (iv_of Gl.up 58 64 false (by decide +kernel) c p q) ▸ rUpper c W
    have HDg : Hid (∀ W, Calls Tryd.prog 69 #[.int .u8 c.toNat] W fun e w' => e = .returned (.bool false) ∧ w' = W) := fun W => (iv_of Gl.dg 58 64 false (by decide +kernel) c p q) ▸ rDigit c W
    have d0 : decide ((c.toNat : Int) ≤ 126) = true := decide_eq_true (by omega)
    have e0 : decide (c.toNat ≤ 126) = true := decide_eq_true (by omega)
    go_enter Tryd.func52, Tryd.ntmps52
    go_wp2_with (first | (go_at_call 71; refine (HLo.out _).mono ?_; rintro e w1 ⟨rfl, hw'⟩; rw [hw']; clear hw' w1) | (go_at_call 72; refine (HUp.out _).mono ?_; rintro e w1 ⟨rfl, hw'⟩; rw [hw']; clear hw' w1) | (go_at_call 69; refine (HDg.out _).mono ?_; rintro e w1 ⟨rfl, hw'⟩; rw [hw']; clear hw' w1))
    go_ret2
    exact ⟨rfl, rfl⟩
  · have HLo : Hid (∀ W, Calls Tryd.prog 71 #[.int .u8 c.toNat] W fun e w' => e = .returned (.bool false) ∧ w' = W) := fun W => (iv_of Gl.lo 65 90 false (by decide +kernel) c p q) ▸ rLower c W
    have HUp : Hid (∀ W, Calls Tryd.prog 72 #[.int .u8 c.toNat] W fun e w' => e = .returned (.bool true) ∧ w' = W) := fun W => (iv_of Gl.up 65 90 true (by decide +kernel) c p q) ▸ rUpper c W
    have HDg : Hid (∀ W, Calls Tryd.prog 69 #[.int .u8 c.toNat] W fun e w' => e = .returned (.bool false) ∧ w' = W) := fun W => (iv_of Gl.dg 65 90 false (by decide +kernel) c p q) ▸ rDigit c W
    have d0 : decide ((c.toNat : Int) ≤ 126) = true := decide_eq_true (by omega)
    have e0 : decide (c.toNat ≤ 126) = true := decide_eq_true (by omega)
    go_enter Tryd.func52, Tryd.ntmps52
    go_wp2_with (first | (go_at_call 71; refine (HLo.out _).mono ?_; rintro e w1 ⟨rfl, hw'⟩; rw [hw']; clear hw' w1) | (go_at_call 72; refine (HUp.out _).mono ?_; rintro e w1 ⟨rfl, hw'⟩; rw [hw']; clear hw' w1) | (go_at_call 69; refine (HDg.out _).mono ?_; rintro e w1 ⟨rfl, hw'⟩; rw [hw']; clear hw' w1))
    go_ret2
    exact ⟨rfl, rfl⟩
  · have HLo : Hid (∀ W, Calls Tryd.prog 71 #[.int .u8 c.toNat] W fun e w' => e = .returned (.bool false) ∧ w' = W) := fun W => (iv_of Gl.lo 91 96 false (by decide +kernel) c p q) ▸ rLower c W
    have HUp : Hid (∀ W, Calls Tryd.prog 72 #[.int .u8 c.toNat] W fun e w' => e = .returned (.bool false) ∧ w' = W) := fun W => (iv_of Gl.up 91 96 false (by decide +kernel) c p q) ▸ rUpper c W
    have HDg : Hid (∀ W, Calls Tryd.prog 69 #[.int .u8 c.toNat] W fun e w' => e = .returned (.bool false) ∧ w' = W) := fun W => (iv_of Gl.dg 91 96 false (by decide +kernel) c p q) ▸ rDigit c W
    have d0 : decide ((c.toNat : Int) ≤ 126) = true := decide_eq_true (by omega)
    have e0 : decide (c.toNat ≤ 126) = true := decide_eq_true (by omega)
    go_enter Tryd.func52, Tryd.ntmps52
    go_wp2_with (first | (go_at_call 71; refine (HLo.out _).mono ?_; rintro e w1 ⟨rfl, hw'⟩; rw [hw']; clear hw' w1) | (go_at_call 72; refine (HUp.out _).mono ?_; rintro e w1 ⟨rfl, hw'⟩; rw [hw']; clear hw' w1) | (go_at_call 69; refine (HDg.out _).mono ?_; rintro e w1 ⟨rfl, hw'⟩; rw [hw']; clear hw' w1))
    go_ret2
    exact ⟨rfl, rfl⟩
  · have HLo : Hid (∀ W, Calls Tryd.prog 71 #[.int .u8 c.toNat] W fun e w' => e = .returned (.bool true) ∧ w' = W) := fun W => (iv_of Gl.lo 97 122 true (by decide +kernel) c p q) ▸ rLower c W
    have HUp : Hid (∀ W, Calls Tryd.prog 72 #[.int .u8 c.toNat] W fun e w' => e = .returned (.bool false) ∧ w' = W) := fun W => (iv_of Gl.up 97 122 false (by decide +kernel) c p q) ▸ rUpper c W
    have HDg : Hid (∀ W, Calls Tryd.prog 69 #[.int .u8 c.toNat] W fun e w' => e = .returned (.bool false) ∧ w' = W) := fun W => (iv_of Gl.dg 97 122 false (by decide +kernel) c p q) ▸ rDigit c W
    have d0 : decide ((c.toNat : Int) ≤ 126) = true := decide_eq_true (by omega)
    have e0 : decide (c.toNat ≤ 126) = true := decide_eq_true (by omega)
    go_enter Tryd.func52, Tryd.ntmps52
    go_wp2_with (first | (go_at_call 71; refine (HLo.out _).mono ?_; rintro e w1 ⟨rfl, hw'⟩; rw [hw']; clear hw' w1) | (go_at_call 72; refine (HUp.out _).mono ?_; rintro e w1 ⟨rfl, hw'⟩; rw [hw']; clear hw' w1) | (go_at_call 69; refine (HDg.out _).mono ?_; rintro e w1 ⟨rfl, hw'⟩; rw [hw']; clear hw' w1))
    go_ret2
    exact ⟨rfl, rfl⟩
  · have HLo : Hid (∀ W, Calls Tryd.prog 71 #[.int .u8 c.toNat] W fun e w' => e = .returned (.bool false) ∧ w' = W) := fun W => (iv_of Gl.lo 123 126 false (by decide +kernel) c p q) ▸ rLower c W
    have HUp : Hid (∀ W, Calls Tryd.prog 72 #[.int .u8 c.toNat] W fun e w' => e = .returned (.bool false) ∧ w' = W) := fun W => (iv_of Gl.up 123 126 false (by decide +kernel) c p q) ▸ rUpper c W
    have HDg : Hid (∀ W, Calls Tryd.prog 69 #[.int .u8 c.toNat] W fun e w' => e = .returned (.bool false) ∧ w' = W) := fun W => (iv_of Gl.dg 123 126 false (by decide +kernel) c p q) ▸ rDigit c W
    have d0 : decide ((c.toNat : Int) ≤ 126) = true := decide_eq_true (by omega)
    have e0 : decide (c.toNat ≤ 126) = true := decide_eq_true (by omega)
    go_enter Tryd.func52, Tryd.ntmps52
    go_wp2_with (first | (go_at_call 71; refine (HLo.out _).mono ?_; rintro e w1 ⟨rfl, hw'⟩; rw [hw']; clear hw' w1) | (go_at_call 72; refine (HUp.out _).mono ?_; rintro e w1 ⟨rfl, hw'⟩; rw [hw']; clear hw' w1) | (go_at_call 69; refine (HDg.out _).mono ?_; rintro e w1 ⟨rfl, hw'⟩; rw [hw']; clear hw' w1))
    go_ret2
    exact ⟨rfl, rfl⟩
  · have HLo : Hid (∀ W, Calls Tryd.prog 71 #[.int .u8 c.toNat] W fun e w' => e = .returned (.bool false) ∧ w' = W) := fun W => (iv_of Gl.lo 127 255 false (by decide +kernel) c p q) ▸ rLower c W
    have HUp : Hid (∀ W, Calls Tryd.prog 72 #[.int .u8 c.toNat] W fun e w' => e = .returned (.bool false) ∧ w' = W) := fun W => (iv_of Gl.up 127 255 false (by decide +kernel) c p q) ▸ rUpper c W
    have HDg : Hid (∀ W, Calls Tryd.prog 69 #[.int .u8 c.toNat] W fun e w' => e = .returned (.bool false) ∧ w' = W) := fun W => (iv_of Gl.dg 127 255 false (by decide +kernel) c p q) ▸ rDigit c W
    have d0 : decide ((c.toNat : Int) ≤ 126) = false := decide_eq_false (by omega)
    have e0 : decide (c.toNat ≤ 126) = false := decide_eq_false (by omega)
    go_enter Tryd.func52, Tryd.ntmps52
    go_wp2_with (first | (go_at_call 71; refine (HLo.out _).mono ?_; rintro e w1 ⟨rfl, hw'⟩; rw [hw']; clear hw' w1) | (go_at_call 72; refine (HUp.out _).mono ?_; rintro e w1 ⟨rfl, hw'⟩; rw [hw']; clear hw' w1) | (go_at_call 69; refine (HDg.out _).mono ?_; rintro e w1 ⟨rfl, hw'⟩; rw [hw']; clear hw' w1))
    go_ret2
    exact ⟨rfl, rfl⟩
end Go.Proofs.YtncnmeidciailaaDoor
