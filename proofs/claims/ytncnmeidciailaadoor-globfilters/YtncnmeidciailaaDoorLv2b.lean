/- The walk of the plain answer's In. No condition. -/
import Derived.Test.YtncnmeidciailaaDoorLv2a
namespace Go.Proofs.YtncnmeidciailaaDoor
open Go.RowKit
attribute [local go_sem] ext_eq app_eq get_eq
set_option maxRecDepth 100000 in
set_option maxHeartbeats 4000000 in
theorem rInDigit (c : UInt8) (w : World) : Calls Tryd.prog 52 #[.string ⟨#[100, 105, 103, 105, 116]⟩, .int .u8 c.toNat] w fun e w' => e = .returned (.tuple #[.bool (Gl.inC Gl.nDigit c), .bool true]) ∧ w' = w := by
  have h8 := c.toNat_lt
  rcases (by omega : (0 ≤ c.toNat ∧ c.toNat ≤ 32) ∨ (33 ≤ c.toNat ∧ c.toNat ≤ 47) ∨ (48 ≤ c.toNat ∧ c.toNat ≤ 57) ∨ (58 ≤ c.toNat ∧ c.toNat ≤ 64) ∨ (65 ≤ c.toNat ∧ c.toNat ≤ 90) ∨ (91 ≤ c.toNat ∧ c.toNat ≤ 96) ∨ (97 ≤ c.toNat ∧ c.toNat ≤ 122) ∨ (123 ≤ c.toNat ∧ c.toNat ≤ 126) ∨ (127 ≤ c.toNat ∧ c.toNat ≤ 255)) with ⟨p, q⟩ | ⟨p, q⟩ | ⟨p, q⟩ | ⟨p, q⟩ | ⟨p, q⟩ | ⟨p, q⟩ | ⟨p, q⟩ | ⟨p, q⟩ | ⟨p, q⟩
  · have HLo : Hid (∀ W, Calls Tryd.prog 71 #[.int .u8 c.toNat] W fun e w' => e = .returned (.bool false) ∧ w' = W) := fun W => (iv_of Gl.lo 0 32 false (by decide +kernel) c p q) ▸ rLower c W
    have HUp : Hid (∀ W, Calls Tryd.prog 72 #[.int .u8 c.toNat] W fun e w' => e = .returned (.bool false) ∧ w' = W) := fun W => (iv_of Gl.up 0 32 false (by decide +kernel) c p q) ▸ rUpper c W
    have HDg : Hid (∀ W, Calls Tryd.prog 69 #[.int .u8 c.toNat] W fun e w' => e = .returned (.bool false) ∧ w' = W) := fun W => (iv_of Gl.dg 0 32 false (by decide +kernel) c p q) ▸ rDigit c W
    have HE := hidA (iv_of (Gl.inC Gl.nDigit) 0 32 false (by decide +kernel) c p q)
    have d0 : decide ((c.toNat : Int) ≤ 126) = true := decide_eq_true (by omega)
    have e0 : decide (c.toNat ≤ 126) = true := decide_eq_true (by omega)
    go_enter Tryd.func52, Tryd.ntmps52
    go_wp2_with (first | (go_at_call 71; refine (HLo.out _).mono ?_; rintro e w1 ⟨rfl, hw'⟩; rw [hw']; clear hw' w1) | (go_at_call 72; refine (HUp.out _).mono ?_; rintro e w1 ⟨rfl, hw'⟩; rw [hw']; clear hw' w1) | (go_at_call 69; refine (HDg.out _).mono ?_; rintro e w1 ⟨rfl, hw'⟩; rw [hw']; clear hw' w1))
    go_ret2
    exact ⟨by rw [HE.out]; rfl, rfl⟩
  · have HLo : Hid (∀ W, Calls Tryd.prog 71 #[.int .u8 c.toNat] W fun e w' => e = .returned (.bool false) ∧ w' = W) := fun W => (iv_of Gl.lo 33 47 false (by decide +kernel) c p q) ▸ rLower c W
    have HUp : Hid (∀ W, Calls Tryd.prog 72 #[.int .u8 c.toNat] W fun e w' => e = .returned (.bool false) ∧ w' = W) := fun W => (iv_of Gl.up 33 47 false (by decide +kernel) c p q) ▸ rUpper c W
    have HDg : Hid (∀ W, Calls Tryd.prog 69 #[.int .u8 c.toNat] W fun e w' => e = .returned (.bool false) ∧ w' = W) := fun W => (iv_of Gl.dg 33 47 false (by decide +kernel) c p q) ▸ rDigit c W
    have HE := hidA (iv_of (Gl.inC Gl.nDigit) 33 47 false (by decide +kernel) c p q)
    have d0 : decide ((c.toNat : Int) ≤ 126) = true := decide_eq_true (by omega)
    have e0 : decide (c.toNat ≤ 126) = true := decide_eq_true (by omega)
    go_enter Tryd.func52, Tryd.ntmps52
    go_wp2_with (first | (go_at_call 71; refine (HLo.out _).mono ?_; rintro e w1 ⟨rfl, hw'⟩; rw [hw']; clear hw' w1) | (go_at_call 72; refine (HUp.out _).mono ?_; rintro e w1 ⟨rfl, hw'⟩; rw [hw']; clear hw' w1) | (go_at_call 69; refine (HDg.out _).mono ?_; rintro e w1 ⟨rfl, hw'⟩; rw [hw']; clear hw' w1))
    go_ret2
    exact ⟨by rw [HE.out]; rfl, rfl⟩
  · have HLo : Hid (∀ W, Calls Tryd.prog 71 #[.int .u8 c.toNat] W fun e w' => e = .returned (.bool false) ∧ w' = W) := fun W => (iv_of Gl.lo 48 57 false (by decide +kernel) c p q) ▸ rLower c W
    have HUp : Hid (∀ W, Calls Tryd.prog 72 #[.int .u8 c.toNat] W fun e w' => e = .returned (.bool false) ∧ w' = W) := fun W => (iv_of Gl.up 48 57 false (by decide +kernel) c p q) ▸ rUpper c W
    have HDg : Hid (∀ W, Calls Tryd.prog 69 #[.int .u8 c.toNat] W fun e w' => e = .returned (.bool true) ∧ w' = W) := fun W => (iv_of Gl.dg 48 57 true (by decide +kernel) c p q) ▸ rDigit c W
    have HE := hidA (iv_of (Gl.inC Gl.nDigit) 48 57 true (by decide +kernel) c p q)
    have d0 : decide ((c.toNat : Int) ≤ 126) = true := decide_eq_true (by omega)
    have e0 : decide (c.toNat ≤ 126) = true := decide_eq_true (by omega)
    go_enter Tryd.func52, Tryd.ntmps52
    go_wp2_with (first | (go_at_call 71; refine (HLo.out _).mono ?_; rintro e w1 ⟨rfl, hw'⟩; rw [hw']; clear hw' w1) | (go_at_call 72; refine (HUp.out _).mono ?_; rintro e w1 ⟨rfl, hw'⟩; rw [hw']; clear hw' w1) | (go_at_call 69; refine (HDg.out _).mono ?_; rintro e w1 ⟨rfl, hw'⟩; rw [hw']; clear hw' w1))
    go_ret2
    exact ⟨by rw [HE.out]; rfl, rfl⟩
  · have HLo : Hid (∀ W, Calls Tryd.prog 71 #[.int .u8 c.toNat] W fun e w' => e = .returned (.bool false) ∧ w' = W) := fun W => (iv_of Gl.lo 58 64 false (by decide +kernel) c p q) ▸ rLower c W
    have HUp : Hid (∀ W, Calls Tryd.prog 72 #[.int .u8 c.toNat] W fun e w' => e = .returned (.bool false) ∧ w' = W) := fun W => (iv_of Gl.up 58 64 false (by decide +kernel) c p q) ▸ rUpper c W
    have HDg : Hid (∀ W, Calls Tryd.prog 69 #[.int .u8 c.toNat] W fun e w' => e = .returned (.bool false) ∧ w' = W) := fun W => (iv_of Gl.dg 58 64 false (by decide +kernel) c p q) ▸ rDigit c W
    have HE := hidA (iv_of (Gl.inC Gl.nDigit) 58 64 false (by decide +kernel) c p q)
    have d0 : decide ((c.toNat : Int) ≤ 126) = true := decide_eq_true (by omega)
    have e0 : decide (c.toNat ≤ 126) = true := decide_eq_true (by omega)
    go_enter Tryd.func52, Tryd.ntmps52
    go_wp2_with (first | (go_at_call 71; refine (HLo.out _).mono ?_; rintro e w1 ⟨rfl, hw'⟩; rw [hw']; clear hw' w1) | (go_at_call 72; refine (HUp.out _).mono ?_; rintro e w1 ⟨rfl, hw'⟩; rw [hw']; clear hw' w1) | (go_at_call 69; refine (HDg.out _).mono ?_; rintro e w1 ⟨rfl, hw'⟩; rw [hw']; clear hw' w1))
    go_ret2
    exact ⟨by rw [HE.out]; rfl, rfl⟩
  · have HLo : Hid (∀ W, Calls Tryd.prog 71 #[.int .u8 c.toNat] W fun e w' => e = .returned (.bool false) ∧ w' = W) := fun W => (iv_of Gl.lo 65 90 false (by decide +kernel) c p q) ▸ rLower c W
    have HUp : Hid (∀ W, Calls Tryd.prog 72 #[.int .u8 c.toNat] W fun e w' => e = .returned (.bool true) ∧ w' = W) := fun W => (iv_of Gl.up 65 90 true (by decide +kernel) c p q) ▸ rUpper c W
    have HDg : Hid (∀ W, Calls Tryd.prog 69 #[.int .u8 c.toNat] W fun e w' => e = .returned (.bool false) ∧ w' = W) := fun W => (iv_of Gl.dg 65 90 false (by decide +kernel) c p q) ▸ rDigit c W
    have HE := hidA (iv_of (Gl.inC Gl.nDigit) 65 90 false (by decide +kernel) c p q)
    have d0 : decide ((c.toNat : Int) ≤ 126) = true := decide_eq_true (by omega)
    have e0 : decide (c.toNat ≤ 126) = true := decide_eq_true (by omega)
    go_enter Tryd.func52, Tryd.ntmps52
    go_wp2_with (first | (go_at_call 71; refine (HLo.out _).mono ?_; rintro e w1 ⟨rfl, hw'⟩; rw [hw']; clear hw' w1) | (go_at_call 72; refine (HUp.out _).mono ?_; rintro e w1 ⟨rfl, hw'⟩; rw [hw']; clear hw' w1) | (go_at_call 69; refine (HDg.out _).mono ?_; rintro e w1 ⟨rfl, hw'⟩; rw [hw']; clear hw' w1))
    go_ret2
    exact ⟨by rw [HE.out]; rfl, rfl⟩
  · have HLo : Hid (∀ W, Calls Tryd.prog 71 #[.int .u8 c.toNat] W fun e w' => e = .returned (.bool false) ∧ w' = W) := fun W => (iv_of Gl.lo 91 96 false (by decide +kernel) c p q) ▸ rLower c W
    have HUp : Hid (∀ W, Calls Tryd.prog 72 #[.int .u8 c.toNat] W fun e w' => e = .returned (.bool false) ∧ w' = W) := fun W => (iv_of Gl.up 91 96 false (by decide +kernel) c p q) ▸ rUpper c W
    have HDg : Hid (∀ W, Calls Tryd.prog 69 #[.int .u8 c.toNat] W fun e w' => e = .returned (.bool false) ∧ w' = W) := fun W => (iv_of Gl.dg 91 96 false (by decide +kernel) c p q) ▸ rDigit c W
    have HE := hidA (iv_of (Gl.inC Gl.nDigit) 91 96 false (by decide +kernel) c p q)
    have d0 : decide ((c.toNat : Int) ≤ 126) = true := decide_eq_true (by omega)
    have e0 : decide (c.toNat ≤ 126) = true := decide_eq_true (by omega)
    go_enter Tryd.func52, Tryd.ntmps52
    go_wp2_with (first | (go_at_call 71; refine (HLo.out _).mono ?_; rintro e w1 ⟨rfl, hw'⟩; rw [hw']; clear hw' w1) | (go_at_call 72; refine (HUp.out _).mono ?_; rintro e w1 ⟨rfl, hw'⟩; rw [hw']; clear hw' w1) | (go_at_call 69; refine (HDg.out _).mono ?_; rintro e w1 ⟨rfl, hw'⟩; rw [hw']; clear hw' w1))
    go_ret2
    exact ⟨by rw [HE.out]; rfl, rfl⟩
  · have HLo : Hid (∀ W, Calls Tryd.prog 71 #[.int .u8 c.toNat] W fun e w' => e = .returned (.bool true) ∧ w' = W) := fun W => (iv_of Gl.lo 97 122 true (by decide +kernel) c p q) ▸ rLower c W
    have HUp : Hid (∀ W, Calls Tryd.prog 72 #[.int .u8 c.toNat] W fun e w' => e = .returned (.bool false) ∧ w' = W) := fun W => (iv_of Gl.up 97 122 false (by decide +kernel) c p q) ▸ rUpper c W
    have HDg : Hid (∀ W, Calls Tryd.prog 69 #[.int .u8 c.toNat] W fun e w' => e = .returned (.bool false) ∧ w' = W) := fun W => (iv_of Gl.dg 97 122 false (by decide +kernel) c p q) ▸ rDigit c W
    have HE := hidA (iv_of (Gl.inC Gl.nDigit) 97 122 false (by decide +kernel) c p q)
    have d0 : decide ((c.toNat : Int) ≤ 126) = true := decide_eq_true (by omega)
    have e0 : decide (c.toNat ≤ 126) = true := decide_eq_true (by omega)
    go_enter Tryd.func52, Tryd.ntmps52
    go_wp2_with (first | (go_at_call 71; refine (HLo.out _).mono ?_; rintro e w1 ⟨rfl, hw'⟩; rw [hw']; clear hw' w1) | (go_at_call 72; refine (HUp.out _).mono ?_; rintro e w1 ⟨rfl, hw'⟩; rw [hw']; clear hw' w1) | (go_at_call 69; refine (HDg.out _).mono ?_; rintro e w1 ⟨rfl, hw'⟩; rw [hw']; clear hw' w1))
    go_ret2
    exact ⟨by rw [HE.out]; rfl, rfl⟩
  · have HLo : Hid (∀ W, Calls Tryd.prog 71 #[.int .u8 c.toNat] W fun e w' => e = .returned (.bool false) ∧ w' = W) := fun W => (iv_of Gl.lo 123 126 false (by decide +kernel) c p q) ▸ rLower c W
    have HUp : Hid (∀ W, Calls Tryd.prog 72 #[.int .u8 c.toNat] W fun e w' => e = .returned (.bool false) ∧ w' = W) := fun W => (iv_of Gl.up 123 126 false (by decide +kernel) c p q) ▸ rUpper c W
    have HDg : Hid (∀ W, Calls Tryd.prog 69 #[.int .u8 c.toNat] W fun e w' => e = .returned (.bool false) ∧ w' = W) := fun W => (iv_of Gl.dg 123 126 false (by decide +kernel) c p q) ▸ rDigit c W
    have HE := hidA (iv_of (Gl.inC Gl.nDigit) 123 126 false (by decide +kernel) c p q)
    have d0 : decide ((c.toNat : Int) ≤ 126) = true := decide_eq_true (by omega)
    have e0 : decide (c.toNat ≤ 126) = true := decide_eq_true (by omega)
    go_enter Tryd.func52, Tryd.ntmps52
    go_wp2_with (first | (go_at_call 71; refine (HLo.out _).mono ?_; rintro e w1 ⟨rfl, hw'⟩; rw [hw']; clear hw' w1) | (go_at_call 72; refine (HUp.out _).mono ?_; rintro e w1 ⟨rfl, hw'⟩; rw [hw']; clear hw' w1) | (go_at_call 69; refine (HDg.out _).mono ?_; rintro e w1 ⟨rfl, hw'⟩; rw [hw']; clear hw' w1))
    go_ret2
    exact ⟨by rw [HE.out]; rfl, rfl⟩
  · have HLo : Hid (∀ W, Calls Tryd.prog 71 #[.int .u8 c.toNat] W fun e w' => e = .returned (.bool false) ∧ w' = W) := fun W => (iv_of Gl.lo 127 255 false (by decide +kernel) c p q) ▸ rLower c W
    have HUp : Hid (∀ W, Calls Tryd.prog 72 #[.int .u8 c.toNat] W fun e w' => e = .returned (.bool false) ∧ w' = W) := fun W => (iv_of Gl.up 127 255 false (by decide +kernel) c p q) ▸ rUpper c W
    have HDg : Hid (∀ W, Calls Tryd.prog 69 #[.int .u8 c.toNat] W fun e w' => e = .returned (.bool false) ∧ w' = W) := fun W => (iv_of Gl.dg 127 255 false (by decide +kernel) c p q) ▸ rDigit c W
    have HE := hidA (iv_of (Gl.inC Gl.nDigit) 127 255 false (by decide +kernel) c p q)
    have d0 : decide ((c.toNat : Int) ≤ 126) = false := decide_eq_false (by omega)
    have e0 : decide (c.toNat ≤ 126) = false := decide_eq_false (by omega)
    go_enter Tryd.func52, Tryd.ntmps52
    go_wp2_with (first | (go_at_call 71; refine (HLo.out _).mono ?_; rintro e w1 ⟨rfl, hw'⟩; rw [hw']; clear hw' w1) | (go_at_call 72; refine (HUp.out _).mono ?_; rintro e w1 ⟨rfl, hw'⟩; rw [hw']; clear hw' w1) | (go_at_call 69; refine (HDg.out _).mono ?_; rintro e w1 ⟨rfl, hw'⟩; rw [hw']; clear hw' w1))
    go_ret2
    exact ⟨by rw [HE.out]; rfl, rfl⟩
set_option maxRecDepth 100000 in
set_option maxHeartbeats 4000000 in
theorem rInGraph (c : UInt8) (w : World) : Calls Tryd.prog 52 #[.string ⟨#[103, 114, 97, 112, 104]⟩, .int .u8 c.toNat] w fun e w' => e = .returned (.tuple #[.bool (Gl.inC Gl.nGraph c), .bool true]) ∧ w' = w := by
  have h8 := c.toNat_lt
  rcases (by omega : (0 ≤ c.toNat ∧ c.toNat ≤ 32) ∨ (33 ≤ c.toNat ∧ c.toNat ≤ 47) ∨ (48 ≤ c.toNat ∧ c.toNat ≤ 57) ∨ (58 ≤ c.toNat ∧ c.toNat ≤ 64) ∨ (65 ≤ c.toNat ∧ c.toNat ≤ 90) ∨ (91 ≤ c.toNat ∧ c.toNat ≤ 96) ∨ (97 ≤ c.toNat ∧ c.toNat ≤ 122) ∨ (123 ≤ c.toNat ∧ c.toNat ≤ 126) ∨ (127 ≤ c.toNat ∧ c.toNat ≤ 255)) with ⟨p, q⟩ | ⟨p, q⟩ | ⟨p, q⟩ | ⟨p, q⟩ | ⟨p, q⟩ | ⟨p, q⟩ | ⟨p, q⟩ | ⟨p, q⟩ | ⟨p, q⟩
  · have HLo : Hid (∀ W, Calls Tryd.prog 71 #[.int .u8 c.toNat] W fun e w' => e = .returned (.bool false) ∧ w' = W) := fun W => (iv_of Gl.lo 0 32 false (by decide +kernel) c p q) ▸ rLower c W
    have HUp : Hid (∀ W, Calls Tryd.prog 72 #[.int .u8 c.toNat] W fun e w' => e = .returned (.bool false) ∧ w' = W) := fun W => (iv_of Gl.up 0 32 false (by decide +kernel) c p q) ▸ rUpper c W
    have HDg : Hid (∀ W, Calls Tryd.prog 69 #[.int .u8 c.toNat] W fun e w' => e = .returned (.bool false) ∧ w' = W) := fun W => (iv_of Gl.dg 0 32 false (by decide +kernel) c p q) ▸ rDigit c W
    have HE := hidA (iv_of (Gl.inC Gl.nGraph) 0 32 false (by decide +kernel) c p q)
    have d0 : decide ((c.toNat : Int) ≤ 126) = true := decide_eq_true (by omega)
    have e0 : decide (c.toNat ≤ 126) = true := decide_eq_true (by omega)
    go_enter Tryd.func52, Tryd.ntmps52
    go_wp2_with (first | (go_at_call 71; refine (HLo.out _).mono ?_; rintro e w1 ⟨rfl, hw'⟩; rw [hw']; clear hw' w1) | (go_at_call 72; refine (HUp.out _).mono ?_; rintro e w1 ⟨rfl, hw'⟩; rw [hw']; clear hw' w1) | (go_at_call 69; refine (HDg.out _).mono ?_; rintro e w1 ⟨rfl, hw'⟩; rw [hw']; clear hw' w1))
    go_ret2
    exact ⟨by rw [HE.out]; rfl, rfl⟩
  · have HLo : Hid (∀ W, Calls Tryd.prog 71 #[.int .u8 c.toNat] W fun e w' => e = .returned (.bool false) ∧ w' = W) := fun W => (iv_of Gl.lo 33 47 false (by decide +kernel) c p q) ▸ rLower c W
    have HUp : Hid (∀ W, Calls Tryd.prog 72 #[.int .u8 c.toNat] W fun e w' => e = .returned (.bool false) ∧ w' = W) := fun W => (iv_of Gl.up 33 47 false (by decide +kernel) c p q) ▸ rUpper c W
    have HDg : Hid (∀ W, Calls Tryd.prog 69 #[.int .u8 c.toNat] W fun e w' => e = .returned (.bool false) ∧ w' = W) := fun W => (iv_of Gl.dg 33 47 false (by decide +kernel) c p q) ▸ rDigit c W
    have HE := hidA (iv_of (Gl.inC Gl.nGraph) 33 47 true (by decide +kernel) c p q)
    have d0 : decide ((c.toNat : Int) ≤ 126) = true := decide_eq_true (by omega)
    have e0 : decide (c.toNat ≤ 126) = true := decide_eq_true (by omega)
    go_enter Tryd.func52, Tryd.ntmps52
    go_wp2_with (first | (go_at_call 71; refine (HLo.out _).mono ?_; rintro e w1 ⟨rfl, hw'⟩; rw [hw']; clear hw' w1) | (go_at_call 72; refine (HUp.out _).mono ?_; rintro e w1 ⟨rfl, hw'⟩; rw [hw']; clear hw' w1) | (go_at_call 69; refine (HDg.out _).mono ?_; rintro e w1 ⟨rfl, hw'⟩; rw [hw']; clear hw' w1))
    go_ret2
    exact ⟨by rw [HE.out]; rfl, rfl⟩
  · have HLo : Hid (∀ W, Calls Tryd.prog 71 #[.int .u8 c.toNat] W fun e w' => e = .returned (.bool false) ∧ w' = W) := fun W => (iv_of Gl.lo 48 57 false (by decide +kernel) c p q) ▸ rLower c W
    have HUp : Hid (∀ W, Calls Tryd.prog 72 #[.int .u8 c.toNat] W fun e w' => e = .returned (.bool false) ∧ w' = W) := fun W => (iv_of Gl.up 48 57 false (by decide +kernel) c p q) ▸ rUpper c W
    have HDg : Hid (∀ W, Calls Tryd.prog 69 #[.int .u8 c.toNat] W fun e w' => e = .returned (.bool true) ∧ w' = W) := fun W => (iv_of Gl.dg 48 57 true (by decide +kernel) c p q) ▸ rDigit c W
    have HE := hidA (iv_of (Gl.inC Gl.nGraph) 48 57 true (by decide +kernel) c p q)
    have d0 : decide ((c.toNat : Int) ≤ 126) = true := decide_eq_true (by omega)
    have e0 : decide (c.toNat ≤ 126) = true := decide_eq_true (by omega)
    go_enter Tryd.func52, Tryd.ntmps52
    go_wp2_with (first | (go_at_call 71; refine (HLo.out _).mono ?_; rintro e w1 ⟨rfl, hw'⟩; rw [hw']; clear hw' w1) | (go_at_call 72; refine (HUp.out _).mono ?_; rintro e w1 ⟨rfl, hw'⟩; rw [hw']; clear hw' w1) | (go_at_call 69; refine (HDg.out _).mono ?_; rintro e w1 ⟨rfl, hw'⟩; rw [hw']; clear hw' w1))
    go_ret2
    exact ⟨by rw [HE.out]; rfl, rfl⟩
  · have HLo : Hid (∀ W, Calls Tryd.prog 71 #[.int .u8 c.toNat] W fun e w' => e = .returned (.bool false) ∧ w' = W) := fun W => (iv_of Gl.lo 58 64 false (by decide +kernel) c p q) ▸ rLower c W
    have HUp : Hid (∀ W, Calls Tryd.prog 72 #[.int .u8 c.toNat] W fun e w' => e = .returned (.bool false) ∧ w' = W) := fun W => (iv_of Gl.up 58 64 false (by decide +kernel) c p q) ▸ rUpper c W
    have HDg : Hid (∀ W, Calls Tryd.prog 69 #[.int .u8 c.toNat] W fun e w' => e = .returned (.bool false) ∧ w' = W) := fun W => (iv_of Gl.dg 58 64 false (by decide +kernel) c p q) ▸ rDigit c W
    have HE := hidA (iv_of (Gl.inC Gl.nGraph) 58 64 true (by decide +kernel) c p q)
    have d0 : decide ((c.toNat : Int) ≤ 126) = true := decide_eq_true (by omega)
    have e0 : decide (c.toNat ≤ 126) = true := decide_eq_true (by omega)
    go_enter Tryd.func52, Tryd.ntmps52
    go_wp2_with (first | (go_at_call 71; refine (HLo.out _).mono ?_; rintro e w1 ⟨rfl, hw'⟩; rw [hw']; clear hw' w1) | (go_at_call 72; refine (HUp.out _).mono ?_; rintro e w1 ⟨rfl, hw'⟩; rw [hw']; clear hw' w1) | (go_at_call 69; refine (HDg.out _).mono ?_; rintro e w1 ⟨rfl, hw'⟩; rw [hw']; clear hw' w1))
    go_ret2
    exact ⟨by rw [HE.out]; rfl, rfl⟩
  · have HLo : Hid (∀ W, Calls Tryd.prog 71 #[.int .u8 c.toNat] W fun e w' => e = .returned (.bool false) ∧ w' = W) := fun W => (iv_of Gl.lo 65 90 false (by decide +kernel) c p q) ▸ rLower c W
    have HUp : Hid (∀ W, Calls Tryd.prog 72 #[.int .u8 c.toNat] W fun e w' => e = .returned (.bool true) ∧ w' = W) := fun W => (iv_of Gl.up 65 90 true (by decide +kernel) c p q) ▸ rUpper c W
    have HDg : Hid (∀ W, Calls Tryd.prog 69 #[.int .u8 c.toNat] W fun e w' => e = .returned (.bool false) ∧ w' = W) := fun W => (iv_of Gl.dg 65 90 false (by decide +kernel) c p q) ▸ rDigit c W
    have HE := hidA (iv_of (Gl.inC Gl.nGraph) 65 90 true (by decide +kernel) c p q)
    have d0 : decide ((c.toNat : Int) ≤ 126) = true := decide_eq_true (by omega)
    have e0 : decide (c.toNat ≤ 126) = true := decide_eq_true (by omega)
    go_enter Tryd.func52, Tryd.ntmps52
    go_wp2_with (first | (go_at_call 71; refine (HLo.out _).mono ?_; rintro e w1 ⟨rfl, hw'⟩; rw [hw']; clear hw' w1) | (go_at_call 72; refine (HUp.out _).mono ?_; rintro e w1 ⟨rfl, hw'⟩; rw [hw']; clear hw' w1) | (go_at_call 69; refine (HDg.out _).mono ?_; rintro e w1 ⟨rfl, hw'⟩; rw [hw']; clear hw' w1))
    go_ret2
    exact ⟨by rw [HE.out]; rfl, rfl⟩
  · have HLo : Hid (∀ W, Calls Tryd.prog 71 #[.int .u8 c.toNat] W fun e w' => e = .returned (.bool false) ∧ w' = W) := fun W => (iv_of Gl.lo 91 96 false (by decide +kernel) c p q) ▸ rLower c W
    have HUp : Hid (∀ W, Calls Tryd.prog 72 #[.int .u8 c.toNat] W fun e w' => e = .returned (.bool false) ∧ w' = W) := fun W => (iv_of Gl.up 91 96 false (by decide +kernel) c p q) ▸ rUpper c W
    have HDg : Hid (∀ W, Calls Tryd.prog 69 #[.int .u8 c.toNat] W fun e w' => e = .returned (.bool false) ∧ w' = W) := fun W => (iv_of Gl.dg 91 96 false (by decide +kernel) c p q) ▸ rDigit c W
    have HE := hidA (iv_of (Gl.inC Gl.nGraph) 91 96 true (by decide +kernel) c p q)
    have d0 : decide ((c.toNat : Int) ≤ 126) = true := decide_eq_true (by omega)
    have e0 : decide (c.toNat ≤ 126) = true := decide_eq_true (by omega)
    go_enter Tryd.func52, Tryd.ntmps52
    go_wp2_with (first | (go_at_call 71; refine (HLo.out _).mono ?_; rintro e w1 ⟨rfl, hw'⟩; rw [hw']; clear hw' w1) | (go_at_call 72; refine (HUp.out _).mono ?_; rintro e w1 ⟨rfl, hw'⟩; rw [hw']; clear hw' w1) | (go_at_call 69; refine (HDg.out _).mono ?_; rintro e w1 ⟨rfl, hw'⟩; rw [hw']; clear hw' w1))
    go_ret2
    exact ⟨by rw [HE.out]; rfl, rfl⟩
  · have HLo : Hid (∀ W, Calls Tryd.prog 71 #[.int .u8 c.toNat] W fun e w' => e = .returned (.bool true) ∧ w' = W) := fun W => (iv_of Gl.lo 97 122 true (by decide +kernel) c p q) ▸ rLower c W
    have HUp : Hid (∀ W, Calls Tryd.prog 72 #[.int .u8 c.toNat] W fun e w' => e = .returned (.bool false) ∧ w' = W) := fun W => (iv_of Gl.up 97 122 false (by decide +kernel) c p q) ▸ rUpper c W
    have HDg : Hid (∀ W, Calls Tryd.prog 69 #[.int .u8 c.toNat] W fun e w' => e = .returned (.bool false) ∧ w' = W) := fun W => (iv_of Gl.dg 97 122 false (by decide +kernel) c p q) ▸ rDigit c W
    have HE := hidA (iv_of (Gl.inC Gl.nGraph) 97 122 true (by decide +kernel) c p q)
    have d0 : decide ((c.toNat : Int) ≤ 126) = true := decide_eq_true (by omega)
    have e0 : decide (c.toNat ≤ 126) = true := decide_eq_true (by omega)
    go_enter Tryd.func52, Tryd.ntmps52
    go_wp2_with (first | (go_at_call 71; refine (HLo.out _).mono ?_; rintro e w1 ⟨rfl, hw'⟩; rw [hw']; clear hw' w1) | (go_at_call 72; refine (HUp.out _).mono ?_; rintro e w1 ⟨rfl, hw'⟩; rw [hw']; clear hw' w1) | (go_at_call 69; refine (HDg.out _).mono ?_; rintro e w1 ⟨rfl, hw'⟩; rw [hw']; clear hw' w1))
    go_ret2
    exact ⟨by rw [HE.out]; rfl, rfl⟩
  · have HLo : Hid (∀ W, Calls Tryd.prog 71 #[.int .u8 c.toNat] W fun e w' => e = .returned (.bool false) ∧ w' = W) := fun W => (iv_of Gl.lo 123 126 false (by decide +kernel) c p q) ▸ rLower c W
    have HUp : Hid (∀ W, Calls Tryd.prog 72 #[.int .u8 c.toNat] W fun e w' => e = .returned (.bool false) ∧ w' = W) := fun W => (iv_of Gl.up 123 126 false (by decide +kernel) c p q) ▸ rUpper c W
    have HDg : Hid (∀ W, Calls Tryd.prog 69 #[.int .u8 c.toNat] W fun e w' => e = .returned (.bool false) ∧ w' = W) := fun W => (iv_of Gl.dg 123 126 false (by decide +kernel) c p q) ▸ rDigit c W
    have HE := hidA (iv_of (Gl.inC Gl.nGraph) 123 126 true (by decide +kernel) c p q)
    have d0 : decide ((c.toNat : Int) ≤ 126) = true := decide_eq_true (by omega)
    have e0 : decide (c.toNat ≤ 126) = true := decide_eq_true (by omega)
    go_enter Tryd.func52, Tryd.ntmps52
    go_wp2_with (first | (go_at_call 71; refine (HLo.out _).mono ?_; rintro e w1 ⟨rfl, hw'⟩; rw [hw']; clear hw' w1) | (go_at_call 72; refine (HUp.out _).mono ?_; rintro e w1 ⟨rfl, hw'⟩; rw [hw']; clear hw' w1) | (go_at_call 69; refine (HDg.out _).mono ?_; rintro e w1 ⟨rfl, hw'⟩; rw [hw']; clear hw' w1))
    go_ret2
    exact ⟨by rw [HE.out]; rfl, rfl⟩
  · have HLo : Hid (∀ W, Calls Tryd.prog 71 #[.int .u8 c.toNat] W fun e w' => e = .returned (.bool false) ∧ w' = W) := fun W => (iv_of Gl.lo 127 255 false (by decide +kernel) c p q) ▸ rLower c W
    have HUp : Hid (∀ W, Calls Tryd.prog 72 #[.int .u8 c.toNat] W fun e w' => e = .returned (.bool false) ∧ w' = W) := fun W => (iv_of Gl.up 127 255 false (by decide +kernel) c p q) ▸ rUpper c W
    have HDg : Hid (∀ W, Calls Tryd.prog 69 #[.int .u8 c.toNat] W fun e w' => e = .returned (.bool false) ∧ w' = W) := fun W => (iv_of Gl.dg 127 255 false (by decide +kernel) c p q) ▸ rDigit c W
    have HE := hidA (iv_of (Gl.inC Gl.nGraph) 127 255 false (by decide +kernel) c p q)
    have d0 : decide ((c.toNat : Int) ≤ 126) = false := decide_eq_false (by omega)
    have e0 : decide (c.toNat ≤ 126) = false := decide_eq_false (by omega)
    go_enter Tryd.func52, Tryd.ntmps52
    go_wp2_with (first | (go_at_call 71; refine (HLo.out _).mono ?_; rintro e w1 ⟨rfl, hw'⟩; rw [hw']; clear hw' w1) | (go_at_call 72; refine (HUp.out _).mono ?_; rintro e w1 ⟨rfl, hw'⟩; rw [hw']; clear hw' w1) | (go_at_call 69; refine (HDg.out _).mono ?_; rintro e w1 ⟨rfl, hw'⟩; rw [hw']; clear hw' w1))
    go_ret2
    exact ⟨by rw [HE.out]; rfl, rfl⟩
set_option maxRecDepth 100000 in
set_option maxHeartbeats 4000000 in
theorem rInLower (c : UInt8) (w : World) : Calls Tryd.prog 52 #[.string ⟨#[108, 111, 119, 101, 114]⟩, .int .u8 c.toNat] w fun e w' => e = .returned (.tuple #[.bool (Gl.inC Gl.nLower c), .bool true]) ∧ w' = w := by
  have h8 := c.toNat_lt
  rcases (by omega : (0 ≤ c.toNat ∧ c.toNat ≤ 32) ∨ (33 ≤ c.toNat ∧ c.toNat ≤ 47) ∨ (48 ≤ c.toNat ∧ c.toNat ≤ 57) ∨ (58 ≤ c.toNat ∧ c.toNat ≤ 64) ∨ (65 ≤ c.toNat ∧ c.toNat ≤ 90) ∨ (91 ≤ c.toNat ∧ c.toNat ≤ 96) ∨ (97 ≤ c.toNat ∧ c.toNat ≤ 122) ∨ (123 ≤ c.toNat ∧ c.toNat ≤ 126) ∨ (127 ≤ c.toNat ∧ c.toNat ≤ 255)) with ⟨p, q⟩ | ⟨p, q⟩ | ⟨p, q⟩ | ⟨p, q⟩ | ⟨p, q⟩ | ⟨p, q⟩ | ⟨p, q⟩ | ⟨p, q⟩ | ⟨p, q⟩
  · have HLo : Hid (∀ W, Calls Tryd.prog 71 #[.int .u8 c.toNat] W fun e w' => e = .returned (.bool false) ∧ w' = W) := fun W => (iv_of Gl.lo 0 32 false (by decide +kernel) c p q) ▸ rLower c W
    have HUp : Hid (∀ W, Calls Tryd.prog 72 #[.int .u8 c.toNat] W fun e w' => e = .returned (.bool false) ∧ w' = W) := fun W => (iv_of Gl.up 0 32 false (by decide +kernel) c p q) ▸ rUpper c W
    have HDg : Hid (∀ W, Calls Tryd.prog 69 #[.int .u8 c.toNat] W fun e w' => e = .returned (.bool false) ∧ w' = W) := fun W => (iv_of Gl.dg 0 32 false (by decide +kernel) c p q) ▸ rDigit c W
    have HE := hidA (iv_of (Gl.inC Gl.nLower) 0 32 false (by decide +kernel) c p q)
    have d0 : decide ((c.toNat : Int) ≤ 126) = true := decide_eq_true (by omega)
    have e0 : decide (c.toNat ≤ 126) = true := decide_eq_true (by omega)
    go_enter Tryd.func52, Tryd.ntmps52
    go_wp2_with (first | (go_at_call 71; refine (HLo.out _).mono ?_; rintro e w1 ⟨rfl, hw'⟩; rw [hw']; clear hw' w1) | (go_at_call 72; refine (HUp.out _).mono ?_; rintro e w1 ⟨rfl, hw'⟩; rw [hw']; clear hw' w1) | (go_at_call 69; refine (HDg.out _).mono ?_; rintro e w1 ⟨rfl, hw'⟩; rw [hw']; clear hw' w1))
    go_ret2
    exact ⟨by rw [HE.out]; rfl, rfl⟩
  · have HLo : Hid (∀ W, Calls Tryd.prog 71 #[.int .u8 c.toNat] W fun e w' => e = .returned (.bool false) ∧ w' = W) := fun W => (iv_of Gl.lo 33 47 false (by decide +kernel) c p q) ▸ rLower c W
    have HUp : Hid (∀ W, Calls Tryd.prog 72 #[.int .u8 c.toNat] W fun e w' => e = .returned (.bool false) ∧ w' = W) := fun W => (iv_of Gl.up 33 47 false (by decide +kernel) c p q) ▸ rUpper c W
    have HDg : Hid (∀ W, Calls Tryd.prog 69 #[.int .u8 c.toNat] W fun e w' => e = .returned (.bool false) ∧ w' = W) := fun W => (iv_of Gl.dg 33 47 false (by decide +kernel) c p q) ▸ rDigit c W
    have HE := hidA (iv_of (Gl.inC Gl.nLower) 33 47 false (by decide +kernel) c p q)
    have d0 : decide ((c.toNat : Int) ≤ 126) = true := decide_eq_true (by omega)
    have e0 : decide (c.toNat ≤ 126) = true := decide_eq_true (by omega)
    go_enter Tryd.func52, Tryd.ntmps52
    go_wp2_with (first | (go_at_call 71; refine (HLo.out _).mono ?_; rintro e w1 ⟨rfl, hw'⟩; rw [hw']; clear hw' w1) | (go_at_call 72; refine (HUp.out _).mono ?_; rintro e w1 ⟨rfl, hw'⟩; rw [hw']; clear hw' w1) | (go_at_call 69; refine (HDg.out _).mono ?_; rintro e w1 ⟨rfl, hw'⟩; rw [hw']; clear hw' w1))
    go_ret2
    exact ⟨by rw [HE.out]; rfl, rfl⟩
  · have HLo : Hid (∀ W, Calls Tryd.prog 71 #[.int .u8 c.toNat] W fun e w' => e = .returned (.bool false) ∧ w' = W) := fun W => (iv_of Gl.lo 48 57 false (by decide +kernel) c p q) ▸ rLower c W
    have HUp : Hid (∀ W, Calls Tryd.prog 72 #[.int .u8 c.toNat] W fun e w' => e = .returned (.bool false) ∧ w' = W) := fun W => (iv_of Gl.up 48 57 false (by decide +kernel) c p q) ▸ rUpper c W
    have HDg : Hid (∀ W, Calls Tryd.prog 69 #[.int .u8 c.toNat] W fun e w' => e = .returned (.bool true) ∧ w' = W) := fun W => (iv_of Gl.dg 48 57 true (by decide +kernel) c p q) ▸ rDigit c W
    have HE := hidA (iv_of (Gl.inC Gl.nLower) 48 57 false (by decide +kernel) c p q)
    have d0 : decide ((c.toNat : Int) ≤ 126) = true := decide_eq_true (by omega)
    have e0 : decide (c.toNat ≤ 126) = true := decide_eq_true (by omega)
    go_enter Tryd.func52, Tryd.ntmps52
    go_wp2_with (first | (go_at_call 71; refine (HLo.out _).mono ?_; rintro e w1 ⟨rfl, hw'⟩; rw [hw']; clear hw' w1) | (go_at_call 72; refine (HUp.out _).mono ?_; rintro e w1 ⟨rfl, hw'⟩; rw [hw']; clear hw' w1) | (go_at_call 69; refine (HDg.out _).mono ?_; rintro e w1 ⟨rfl, hw'⟩; rw [hw']; clear hw' w1))
    go_ret2
    exact ⟨by rw [HE.out]; rfl, rfl⟩
  · have HLo : Hid (∀ W, Calls Tryd.prog 71 #[.int .u8 c.toNat] W fun e w' => e = .returned (.bool false) ∧ w' = W) := fun W => (iv_of Gl.lo 58 64 false (by decide +kernel) c p q) ▸ rLower c W
    have HUp : Hid (∀ W, Calls Tryd.prog 72 #[.int .u8 c.toNat] W fun e w' => e = .returned (.bool false) ∧ w' = W) := fun W => (iv_of Gl.up 58 64 false (by decide +kernel) c p q) ▸ rUpper c W
    have HDg : Hid (∀ W, Calls Tryd.prog 69 #[.int .u8 c.toNat] W fun e w' => e = .returned (.bool false) ∧ w' = W) := fun W => (iv_of Gl.dg 58 64 false (by decide +kernel) c p q) ▸ rDigit c W
    have HE := hidA (iv_of (Gl.inC Gl.nLower) 58 64 false (by decide +kernel) c p q)
    have d0 : decide ((c.toNat : Int) ≤ 126) = true := decide_eq_true (by omega)
    have e0 : decide (c.toNat ≤ 126) = true := decide_eq_true (by omega)
    go_enter Tryd.func52, Tryd.ntmps52
    go_wp2_with (first | (go_at_call 71; refine (HLo.out _).mono ?_; rintro e w1 ⟨rfl, hw'⟩; rw [hw']; clear hw' w1) | (go_at_call 72; refine (HUp.out _).mono ?_; rintro e w1 ⟨rfl, hw'⟩; rw [hw']; clear hw' w1) | (go_at_call 69; refine (HDg.out _).mono ?_; rintro e w1 ⟨rfl, hw'⟩; rw [hw']; clear hw' w1))
    go_ret2
    exact ⟨by rw [HE.out]; rfl, rfl⟩
  · have HLo : Hid (∀ W, Calls Tryd.prog 71 #[.int .u8 c.toNat] W fun e w' => e = .returned (.bool false) ∧ w' = W) := fun W => (iv_of Gl.lo 65 90 false (by decide +kernel) c p q) ▸ rLower c W
    have HUp : Hid (∀ W, Calls Tryd.prog 72 #[.int .u8 c.toNat] W fun e w' => e = .returned (.bool true) ∧ w' = W) := fun W => (iv_of Gl.up 65 90 true (by decide +kernel) c p q) ▸ rUpper c W
    have HDg : Hid (∀ W, Calls Tryd.prog 69 #[.int .u8 c.toNat] W fun e w' => e = .returned (.bool false) ∧ w' = W) := fun W => (iv_of Gl.dg 65 90 false (by decide +kernel) c p q) ▸ rDigit c W
    have HE := hidA (iv_of (Gl.inC Gl.nLower) 65 90 false (by decide +kernel) c p q)
    have d0 : decide ((c.toNat : Int) ≤ 126) = true := decide_eq_true (by omega)
    have e0 : decide (c.toNat ≤ 126) = true := decide_eq_true (by omega)
    go_enter Tryd.func52, Tryd.ntmps52
    go_wp2_with (first | (go_at_call 71; refine (HLo.out _).mono ?_; rintro e w1 ⟨rfl, hw'⟩; rw [hw']; clear hw' w1) | (go_at_call 72; refine (HUp.out _).mono ?_; rintro e w1 ⟨rfl, hw'⟩; rw [hw']; clear hw' w1) | (go_at_call 69; refine (HDg.out _).mono ?_; rintro e w1 ⟨rfl, hw'⟩; rw [hw']; clear hw' w1))
    go_ret2
    exact ⟨by rw [HE.out]; rfl, rfl⟩
  · have HLo : Hid (∀ W, Calls Tryd.prog 71 #[.int .u8 c.toNat] W fun e w' => e = .returned (.bool false) ∧ w' = W) := fun W => (iv_of Gl.lo 91 96 false (by decide +kernel) c p q) ▸ rLower c W
    have HUp : Hid (∀ W, Calls Tryd.prog 72 #[.int .u8 c.toNat] W fun e w' => e = .returned (.bool false) ∧ w' = W) := fun W => (iv_of Gl.up 91 96 false (by decide +kernel) c p q) ▸ rUpper c W
    have HDg : Hid (∀ W, Calls Tryd.prog 69 #[.int .u8 c.toNat] W fun e w' => e = .returned (.bool false) ∧ w' = W) := fun W => (iv_of Gl.dg 91 96 false (by decide +kernel) c p q) ▸ rDigit c W
    have HE := hidA (iv_of (Gl.inC Gl.nLower) 91 96 false (by decide +kernel) c p q)
    have d0 : decide ((c.toNat : Int) ≤ 126) = true := decide_eq_true (by omega)
    have e0 : decide (c.toNat ≤ 126) = true := decide_eq_true (by omega)
    go_enter Tryd.func52, Tryd.ntmps52
    go_wp2_with (first | (go_at_call 71; refine (HLo.out _).mono ?_; rintro e w1 ⟨rfl, hw'⟩; rw [hw']; clear hw' w1) | (go_at_call 72; refine (HUp.out _).mono ?_; rintro e w1 ⟨rfl, hw'⟩; rw [hw']; clear hw' w1) | (go_at_call 69; refine (HDg.out _).mono ?_; rintro e w1 ⟨rfl, hw'⟩; rw [hw']; clear hw' w1))
    go_ret2
    exact ⟨by rw [HE.out]; rfl, rfl⟩
  · have HLo : Hid (∀ W, Calls Tryd.prog 71 #[.int .u8 c.toNat] W fun e w' => e = .returned (.bool true) ∧ w' = W) := fun W => (iv_of Gl.lo 97 122 true (by decide +kernel) c p q) ▸ rLower c W
    have HUp : Hid (∀ W, Calls Tryd.prog 72 #[.int .u8 c.toNat] W fun e w' => e = .returned (.bool false) ∧ w' = W) := fun W => (iv_of Gl.up 97 122 false (by decide +kernel) c p q) ▸ rUpper c W
    have HDg : Hid (∀ W, Calls Tryd.prog 69 #[.int .u8 c.toNat] W fun e w' => e = .returned (.bool false) ∧ w' = W) := fun W => (iv_of Gl.dg 97 122 false (by decide +kernel) c p q) ▸ rDigit c W
    have HE := hidA (iv_of (Gl.inC Gl.nLower) 97 122 true (by decide +kernel) c p q)
    have d0 : decide ((c.toNat : Int) ≤ 126) = true := decide_eq_true (by omega)
    have e0 : decide (c.toNat ≤ 126) = true := decide_eq_true (by omega)
    go_enter Tryd.func52, Tryd.ntmps52
    go_wp2_with (first | (go_at_call 71; refine (HLo.out _).mono ?_; rintro e w1 ⟨rfl, hw'⟩; rw [hw']; clear hw' w1) | (go_at_call 72; refine (HUp.out _).mono ?_; rintro e w1 ⟨rfl, hw'⟩; rw [hw']; clear hw' w1) | (go_at_call 69; refine (HDg.out _).mono ?_; rintro e w1 ⟨rfl, hw'⟩; rw [hw']; clear hw' w1))
    go_ret2
    exact ⟨by rw [HE.out]; rfl, rfl⟩
  · have HLo : Hid (∀ W, Calls Tryd.prog 71 #[.int .u8 c.toNat] W fun e w' => e = .returned (.bool false) ∧ w' = W) := fun W => (iv_of Gl.lo 123 126 false (by decide +kernel) c p q) ▸ rLower c W
    have HUp : Hid (∀ W, Calls Tryd.prog 72 #[.int .u8 c.toNat] W fun e w' => e = .returned (.bool false) ∧ w' = W) := fun W => (iv_of Gl.up 123 126 false (by decide +kernel) c p q) ▸ rUpper c W
    have HDg : Hid (∀ W, Calls Tryd.prog 69 #[.int .u8 c.toNat] W fun e w' => e = .returned (.bool false) ∧ w' = W) := fun W => (iv_of Gl.dg 123 126 false (by decide +kernel) c p q) ▸ rDigit c W
    have HE := hidA (iv_of (Gl.inC Gl.nLower) 123 126 false (by decide +kernel) c p q)
    have d0 : decide ((c.toNat : Int) ≤ 126) = true := decide_eq_true (by omega)
    have e0 : decide (c.toNat ≤ 126) = true := decide_eq_true (by omega)
    go_enter Tryd.func52, Tryd.ntmps52
    go_wp2_with (first | (go_at_call 71; refine (HLo.out _).mono ?_; rintro e w1 ⟨rfl, hw'⟩; rw [hw']; clear hw' w1) | (go_at_call 72; refine (HUp.out _).mono ?_; rintro e w1 ⟨rfl, hw'⟩; rw [hw']; clear hw' w1) | (go_at_call 69; refine (HDg.out _).mono ?_; rintro e w1 ⟨rfl, hw'⟩; rw [hw']; clear hw' w1))
    go_ret2
    exact ⟨by rw [HE.out]; rfl, rfl⟩
  · have HLo : Hid (∀ W, Calls Tryd.prog 71 #[.int .u8 c.toNat] W fun e w' => e = .returned (.bool false) ∧ w' = W) := fun W => (iv_of Gl.lo 127 255 false (by decide +kernel) c p q) ▸ rLower c W
    have HUp : Hid (∀ W, Calls Tryd.prog 72 #[.int .u8 c.toNat] W fun e w' => e = .returned (.bool false) ∧ w' = W) := fun W => (iv_of Gl.up 127 255 false (by decide +kernel) c p q) ▸ rUpper c W
    have HDg : Hid (∀ W, Calls Tryd.prog 69 #[.int .u8 c.toNat] W fun e w' => e = .returned (.bool false) ∧ w' = W) := fun W => (iv_of Gl.dg 127 255 false (by decide +kernel) c p q) ▸ rDigit c W
    have HE := hidA (iv_of (Gl.inC Gl.nLower) 127 255 false (by decide +kernel) c p q)
    have d0 : decide ((c.toNat : Int) ≤ 126) = false := decide_eq_false (by omega)
    have e0 : decide (c.toNat ≤ 126) = false := decide_eq_false (by omega)
    go_enter Tryd.func52, Tryd.ntmps52
    go_wp2_with (first | (go_at_call 71; refine (HLo.out _).mono ?_; rintro e w1 ⟨rfl, hw'⟩; rw [hw']; clear hw' w1) | (go_at_call 72; refine (HUp.out _).mono ?_; rintro e w1 ⟨rfl, hw'⟩; rw [hw']; clear hw' w1) | (go_at_call 69; refine (HDg.out _).mono ?_; rintro e w1 ⟨rfl, hw'⟩; rw [hw']; clear hw' w1))
    go_ret2
    exact ⟨by rw [HE.out]; rfl, rfl⟩
set_option maxRecDepth 100000 in
set_option maxHeartbeats 4000000 in
theorem rInPrint (c : UInt8) (w : World) : Calls Tryd.prog 52 #[.string ⟨#[112, 114, 105, 110, 116]⟩, .int .u8 c.toNat] w fun e w' => e = .returned (.tuple #[.bool (Gl.inC Gl.nPrint c), .bool true]) ∧ w' = w := by
  have h8 := c.toNat_lt
  rcases (by omega : (0 ≤ c.toNat ∧ c.toNat ≤ 31) ∨ (32 ≤ c.toNat ∧ c.toNat ≤ 32) ∨ (33 ≤ c.toNat ∧ c.toNat ≤ 47) ∨ (48 ≤ c.toNat ∧ c.toNat ≤ 57) ∨ (58 ≤ c.toNat ∧ c.toNat ≤ 64) ∨ (65 ≤ c.toNat ∧ c.toNat ≤ 90) ∨ (91 ≤ c.toNat ∧ c.toNat ≤ 96) ∨ (97 ≤ c.toNat ∧ c.toNat ≤ 122) ∨ (123 ≤ c.toNat ∧ c.toNat ≤ 126) ∨ (127 ≤ c.toNat ∧ c.toNat ≤ 255)) with ⟨p, q⟩ | ⟨p, q⟩ | ⟨p, q⟩ | ⟨p, q⟩ | ⟨p, q⟩ | ⟨p, q⟩ | ⟨p, q⟩ | ⟨p, q⟩ | ⟨p, q⟩ | ⟨p, q⟩
  · have HLo : Hid (∀ W, Calls Tryd.prog 71 #[.int .u8 c.toNat] W fun e w' => e = .returned (.bool false) ∧ w' = W) := fun W => (iv_of Gl.lo 0 31 false (by decide +kernel) c p q) ▸ rLower c W
    have HUp : Hid (∀ W, Calls Tryd.prog 72 #[.int .u8 c.toNat] W fun e w' => e = .returned (.bool false) ∧ w' = W) := fun W => (iv_of Gl.up 0 31 false (by decide +kernel) c p q) ▸ rUpper c W
    have HDg : Hid (∀ W, Calls Tryd.prog 69 #[.int .u8 c.toNat] W fun e w' => e = .returned (.bool false) ∧ w' = W) := fun W => (iv_of Gl.dg 0 31 false (by decide +kernel) c p q) ▸ rDigit c W
    have HE := hidA (iv_of (Gl.inC Gl.nPrint) 0 31 false (by decide +kernel) c p q)
    have d0 : decide ((c.toNat : Int) ≤ 126) = true := decide_eq_true (by omega)
    have e0 : decide (c.toNat ≤ 126) = true := decide_eq_true (by omega)
    have k32 : ((c.toNat : Int) == 32) = false := beq_eq_false_iff_ne.2 (by omega)
    go_enter Tryd.func52, Tryd.ntmps52
    go_wp2_with (first | (go_at_call 71; refine (HLo.out _).mono ?_; rintro e w1 ⟨rfl, hw'⟩; rw [hw']; clear hw' w1) | (go_at_call 72; refine (HUp.out _).mono ?_; rintro e w1 ⟨rfl, hw'⟩; rw [hw']; clear hw' w1) | (go_at_call 69; refine (HDg.out _).mono ?_; rintro e w1 ⟨rfl, hw'⟩; rw [hw']; clear hw' w1))
    go_ret2
    exact ⟨by rw [HE.out]; rfl, rfl⟩
  · have HLo : Hid (∀ W, Calls Tryd.prog 71 #[.int .u8 c.toNat] W fun e w' => e = .returned (.bool false) ∧ w' = W) := fun W => (iv_of Gl.lo 32 32 false (by decide +kernel) c p q) ▸ rLower c W
    have HUp : Hid (∀ W, Calls Tryd.prog 72 #[.int .u8 c.toNat] W fun e w' => e = .returned (.bool false) ∧ w' = W) := fun W => (iv_of Gl.up 32 32 false (by decide +kernel) c p q) ▸ rUpper c W
    have HDg : Hid (∀ W, Calls Tryd.prog 69 #[.int .u8 c.toNat] W fun e w' => e = .returned (.bool false) ∧ w' = W) := fun W => (iv_of Gl.dg 32 32 false (by decide +kernel) c p q) ▸ rDigit c W
    have HE := hidA (iv_of (Gl.inC Gl.nPrint) 32 32 true (by decide +kernel) c p q)
    have d0 : decide ((c.toNat : Int) ≤ 126) = true := decide_eq_true (by omega)
    have e0 : decide (c.toNat ≤ 126) = true := decide_eq_true (by omega)
    have k32 : ((c.toNat : Int) == 32) = true := beq_iff_eq.2 (by omega)
    go_enter Tryd.func52, Tryd.ntmps52
    go_wp2_with (first | (go_at_call 71; refine (HLo.out _).mono ?_; rintro e w1 ⟨rfl, hw'⟩; rw [hw']; clear hw' w1) | (go_at_call 72; refine (HUp.out _).mono ?_; rintro e w1 ⟨rfl, hw'⟩; rw [hw']; clear hw' w1) | (go_at_call 69; refine (HDg.out _).mono ?_; rintro e w1 ⟨rfl, hw'⟩; rw [hw']; clear hw' w1))
    go_ret2
    exact ⟨by rw [HE.out]; rfl, rfl⟩
  · have HLo : Hid (∀ W, Calls Tryd.prog 71 #[.int .u8 c.toNat] W fun e w' => e = .returned (.bool false) ∧ w' = W) := fun W => (iv_of Gl.lo 33 47 false (by decide +kernel) c p q) ▸ rLower c W
    have HUp : Hid (∀ W, Calls Tryd.prog 72 #[.int .u8 c.toNat] W fun e w' => e = .returned (.bool false) ∧ w' = W) := fun W => (iv_of Gl.up 33 47 false (by decide +kernel) c p q) ▸ rUpper c W
    have HDg : Hid (∀ W, Calls Tryd.prog 69 #[.int .u8 c.toNat] W fun e w' => e = .returned (.bool false) ∧ w' = W) := fun W => (iv_of Gl.dg 33 47 false (by decide +kernel) c p q) ▸ rDigit c W
    have HE := hidA (iv_of (Gl.inC Gl.nPrint) 33 47 true (by decide +kernel) c p q)
    have d0 : decide ((c.toNat : Int) ≤ 126) = true := decide_eq_true (by omega)
    have e0 : decide (c.toNat ≤ 126) = true := decide_eq_true (by omega)
    have k32 : ((c.toNat : Int) == 32) = false := beq_eq_false_iff_ne.2 (by omega)
    go_enter Tryd.func52, Tryd.ntmps52
    go_wp2_with (first | (go_at_call 71; refine (HLo.out _).mono ?_; rintro e w1 ⟨rfl, hw'⟩; rw [hw']; clear hw' w1) | (go_at_call 72; refine (HUp.out _).mono ?_; rintro e w1 ⟨rfl, hw'⟩; rw [hw']; clear hw' w1) | (go_at_call 69; refine (HDg.out _).mono ?_; rintro e w1 ⟨rfl, hw'⟩; rw [hw']; clear hw' w1))
    go_ret2
    exact ⟨by rw [HE.out]; rfl, rfl⟩
  · have HLo : Hid (∀ W, Calls Tryd.prog 71 #[.int .u8 c.toNat] W fun e w' => e = .returned (.bool false) ∧ w' = W) := fun W => (iv_of Gl.lo 48 57 false (by decide +kernel) c p q) ▸ rLower c W
    have HUp : Hid (∀ W, Calls Tryd.prog 72 #[.int .u8 c.toNat] W fun e w' => e = .returned (.bool false) ∧ w' = W) := fun W => (iv_of Gl.up 48 57 false (by decide +kernel) c p q) ▸ rUpper c W
    have HDg : Hid (∀ W, Calls Tryd.prog 69 #[.int .u8 c.toNat] W fun e w' => e = .returned (.bool true) ∧ w' = W) := fun W => (iv_of Gl.dg 48 57 true (by decide +kernel) c p q) ▸ rDigit c W
    have HE := hidA (iv_of (Gl.inC Gl.nPrint) 48 57 true (by decide +kernel) c p q)
    have d0 : decide ((c.toNat : Int) ≤ 126) = true := decide_eq_true (by omega)
    have e0 : decide (c.toNat ≤ 126) = true := decide_eq_true (by omega)
    have k32 : ((c.toNat : Int) == 32) = false := beq_eq_false_iff_ne.2 (by omega)
    go_enter Tryd.func52, Tryd.ntmps52
    go_wp2_with (first | (go_at_call 71; refine (HLo.out _).mono ?_; rintro e w1 ⟨rfl, hw'⟩; rw [hw']; clear hw' w1) | (go_at_call 72; refine (HUp.out _).mono ?_; rintro e w1 ⟨rfl, hw'⟩; rw [hw']; clear hw' w1) | (go_at_call 69; refine (HDg.out _).mono ?_; rintro e w1 ⟨rfl, hw'⟩; rw [hw']; clear hw' w1))
    go_ret2
    exact ⟨by rw [HE.out]; rfl, rfl⟩
  · have HLo : Hid (∀ W, Calls Tryd.prog 71 #[.int .u8 c.toNat] W fun e w' => e = .returned (.bool false) ∧ w' = W) := fun W => (iv_of Gl.lo 58 64 false (by decide +kernel) c p q) ▸ rLower c W
    have HUp : Hid (∀ W, Calls Tryd.prog 72 #[.int .u8 c.toNat] W fun e w' => e = .returned (.bool false) ∧ w' = W) := fun W => (iv_of Gl.up 58 64 false (by decide +kernel) c p q) ▸ rUpper c W
    have HDg : Hid (∀ W, Calls Tryd.prog 69 #[.int .u8 c.toNat] W fun e w' => e = .returned (.bool false) ∧ w' = W) := fun W => (iv_of Gl.dg 58 64 false (by decide +kernel) c p q) ▸ rDigit c W
    have HE := hidA (iv_of (Gl.inC Gl.nPrint) 58 64 true (by decide +kernel) c p q)
    have d0 : decide ((c.toNat : Int) ≤ 126) = true := decide_eq_true (by omega)
    have e0 : decide (c.toNat ≤ 126) = true := decide_eq_true (by omega)
    have k32 : ((c.toNat : Int) == 32) = false := beq_eq_false_iff_ne.2 (by omega)
    go_enter Tryd.func52, Tryd.ntmps52
    go_wp2_with (first | (go_at_call 71; refine (HLo.out _).mono ?_; rintro e w1 ⟨rfl, hw'⟩; rw [hw']; clear hw' w1) | (go_at_call 72; refine (HUp.out _).mono ?_; rintro e w1 ⟨rfl, hw'⟩; rw [hw']; clear hw' w1) | (go_at_call 69; refine (HDg.out _).mono ?_; rintro e w1 ⟨rfl, hw'⟩; rw [hw']; clear hw' w1))
    go_ret2
    exact ⟨by rw [HE.out]; rfl, rfl⟩
  · have HLo : Hid (∀ W, Calls Tryd.prog 71 #[.int .u8 c.toNat] W fun e w' => e = .returned (.bool false) ∧ w' = W) := fun W => (iv_of Gl.lo 65 90 false (by decide +kernel) c p q) ▸ rLower c W
    have HUp : Hid (∀ W, Calls Tryd.prog 72 #[.int .u8 c.toNat] W fun e w' => e = .returned (.bool true) ∧ w' = W) := fun W => (iv_of Gl.up 65 90 true (by decide +kernel) c p q) ▸ rUpper c W
    have HDg : Hid (∀ W, Calls Tryd.prog 69 #[.int .u8 c.toNat] W fun e w' => e = .returned (.bool false) ∧ w' = W) := fun W => (iv_of Gl.dg 65 90 false (by decide +kernel) c p q) ▸ rDigit c W
    have HE := hidA (iv_of (Gl.inC Gl.nPrint) 65 90 true (by decide +kernel) c p q)
    have d0 : decide ((c.toNat : Int) ≤ 126) = true := decide_eq_true (by omega)
    have e0 : decide (c.toNat ≤ 126) = true := decide_eq_true (by omega)
    have k32 : ((c.toNat : Int) == 32) = false := beq_eq_false_iff_ne.2 (by omega)
    go_enter Tryd.func52, Tryd.ntmps52
    go_wp2_with (first | (go_at_call 71; refine (HLo.out _).mono ?_; rintro e w1 ⟨rfl, hw'⟩; rw [hw']; clear hw' w1) | (go_at_call 72; refine (HUp.out _).mono ?_; rintro e w1 ⟨rfl, hw'⟩; rw [hw']; clear hw' w1) | (go_at_call 69; refine (HDg.out _).mono ?_; rintro e w1 ⟨rfl, hw'⟩; rw [hw']; clear hw' w1))
    go_ret2
    exact ⟨by rw [HE.out]; rfl, rfl⟩
  · have HLo : Hid (∀ W, Calls Tryd.prog 71 #[.int .u8 c.toNat] W fun e w' => e = .returned (.bool false) ∧ w' = W) := fun W => (iv_of Gl.lo 91 96 false (by decide +kernel) c p q) ▸ rLower c W
    have HUp : Hid (∀ W, Calls Tryd.prog 72 #[.int .u8 c.toNat] W fun e w' => e = .returned (.bool false) ∧ w' = W) := fun W => (iv_of Gl.up 91 96 false (by decide +kernel) c p q) ▸ rUpper c W
    have HDg : Hid (∀ W, Calls Tryd.prog 69 #[.int .u8 c.toNat] W fun e w' => e = .returned (.bool false) ∧ w' = W) := fun W => (iv_of Gl.dg 91 96 false (by decide +kernel) c p q) ▸ rDigit c W
    have HE := hidA (iv_of (Gl.inC Gl.nPrint) 91 96 true (by decide +kernel) c p q)
    have d0 : decide ((c.toNat : Int) ≤ 126) = true := decide_eq_true (by omega)
    have e0 : decide (c.toNat ≤ 126) = true := decide_eq_true (by omega)
    have k32 : ((c.toNat : Int) == 32) = false := beq_eq_false_iff_ne.2 (by omega)
    go_enter Tryd.func52, Tryd.ntmps52
    go_wp2_with (first | (go_at_call 71; refine (HLo.out _).mono ?_; rintro e w1 ⟨rfl, hw'⟩; rw [hw']; clear hw' w1) | (go_at_call 72; refine (HUp.out _).mono ?_; rintro e w1 ⟨rfl, hw'⟩; rw [hw']; clear hw' w1) | (go_at_call 69; refine (HDg.out _).mono ?_; rintro e w1 ⟨rfl, hw'⟩; rw [hw']; clear hw' w1))
    go_ret2
    exact ⟨by rw [HE.out]; rfl, rfl⟩
  · have HLo : Hid (∀ W, Calls Tryd.prog 71 #[.int .u8 c.toNat] W fun e w' => e = .returned (.bool true) ∧ w' = W) := fun W => (iv_of Gl.lo 97 122 true (by decide +kernel) c p q) ▸ rLower c W
    have HUp : Hid (∀ W, Calls Tryd.prog 72 #[.int .u8 c.toNat] W fun e w' => e = .returned (.bool false) ∧ w' = W) := fun W => (iv_of Gl.up 97 122 false (by decide +kernel) c p q) ▸ rUpper c W
    have HDg : Hid (∀ W, Calls Tryd.prog 69 #[.int .u8 c.toNat] W fun e w' => e = .returned (.bool false) ∧ w' = W) := fun W => (iv_of Gl.dg 97 122 false (by decide +kernel) c p q) ▸ rDigit c W
    have HE := hidA (iv_of (Gl.inC Gl.nPrint) 97 122 true (by decide +kernel) c p q)
    have d0 : decide ((c.toNat : Int) ≤ 126) = true := decide_eq_true (by omega)
    have e0 : decide (c.toNat ≤ 126) = true := decide_eq_true (by omega)
    have k32 : ((c.toNat : Int) == 32) = false := beq_eq_false_iff_ne.2 (by omega)
    go_enter Tryd.func52, Tryd.ntmps52
    go_wp2_with (first | (go_at_call 71; refine (HLo.out _).mono ?_; rintro e w1 ⟨rfl, hw'⟩; rw [hw']; clear hw' w1) | (go_at_call 72; refine (HUp.out _).mono ?_; rintro e w1 ⟨rfl, hw'⟩; rw [hw']; clear hw' w1) | (go_at_call 69; refine (HDg.out _).mono ?_; rintro e w1 ⟨rfl, hw'⟩; rw [hw']; clear hw' w1))
    go_ret2
    exact ⟨by rw [HE.out]; rfl, rfl⟩
  · have HLo : Hid (∀ W, Calls Tryd.prog 71 #[.int .u8 c.toNat] W fun e w' => e = .returned (.bool false) ∧ w' = W) := fun W => (iv_of Gl.lo 123 126 false (by decide +kernel) c p q) ▸ rLower c W
    have HUp : Hid (∀ W, Calls Tryd.prog 72 #[.int .u8 c.toNat] W fun e w' => e = .returned (.bool false) ∧ w' = W) := fun W => (iv_of Gl.up 123 126 false (by decide +kernel) c p q) ▸ rUpper c W
    have HDg : Hid (∀ W, Calls Tryd.prog 69 #[.int .u8 c.toNat] W fun e w' => e = .returned (.bool false) ∧ w' = W) := fun W => (iv_of Gl.dg 123 126 false (by decide +kernel) c p q) ▸ rDigit c W
    have HE := hidA (iv_of (Gl.inC Gl.nPrint) 123 126 true (by decide +kernel) c p q)
    have d0 : decide ((c.toNat : Int) ≤ 126) = true := decide_eq_true (by omega)
    have e0 : decide (c.toNat ≤ 126) = true := decide_eq_true (by omega)
    have k32 : ((c.toNat : Int) == 32) = false := beq_eq_false_iff_ne.2 (by omega)
    go_enter Tryd.func52, Tryd.ntmps52
    go_wp2_with (first | (go_at_call 71; refine (HLo.out _).mono ?_; rintro e w1 ⟨rfl, hw'⟩; rw [hw']; clear hw' w1) | (go_at_call 72; refine (HUp.out _).mono ?_; rintro e w1 ⟨rfl, hw'⟩; rw [hw']; clear hw' w1) | (go_at_call 69; refine (HDg.out _).mono ?_; rintro e w1 ⟨rfl, hw'⟩; rw [hw']; clear hw' w1))
    go_ret2
    exact ⟨by rw [HE.out]; rfl, rfl⟩
  · have HLo : Hid (∀ W, Calls Tryd.prog 71 #[.int .u8 c.toNat] W fun e w' => e = .returned (.bool false) ∧ w' = W) := fun W => (iv_of Gl.lo 127 255 false (by decide +kernel) c p q) ▸ rLower c W
    have HUp : Hid (∀ W, Calls Tryd.prog 72 #[.int .u8 c.toNat] W fun e w' => e = .returned (.bool false) ∧ w' = W) := fun W => (iv_of Gl.up 127 255 false (by decide +kernel) c p q) ▸ rUpper c W
    have HDg : Hid (∀ W, Calls Tryd.prog 69 #[.int .u8 c.toNat] W fun e w' => e = .returned (.bool false) ∧ w' = W) := fun W => (iv_of Gl.dg 127 255 false (by decide +kernel) c p q) ▸ rDigit c W
    have HE := hidA (iv_of (Gl.inC Gl.nPrint) 127 255 false (by decide +kernel) c p q)
    have d0 : decide ((c.toNat : Int) ≤ 126) = false := decide_eq_false (by omega)
    have e0 : decide (c.toNat ≤ 126) = false := decide_eq_false (by omega)
    have k32 : ((c.toNat : Int) == 32) = false := beq_eq_false_iff_ne.2 (by omega)
    go_enter Tryd.func52, Tryd.ntmps52
    go_wp2_with (first | (go_at_call 71; refine (HLo.out _).mono ?_; rintro e w1 ⟨rfl, hw'⟩; rw [hw']; clear hw' w1) | (go_at_call 72; refine (HUp.out _).mono ?_; rintro e w1 ⟨rfl, hw'⟩; rw [hw']; clear hw' w1) | (go_at_call 69; refine (HDg.out _).mono ?_; rintro e w1 ⟨rfl, hw'⟩; rw [hw']; clear hw' w1))
    go_ret2
    exact ⟨by rw [HE.out]; rfl, rfl⟩
end Go.Proofs.YtncnmeidciailaaDoor
