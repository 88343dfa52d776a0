/- The walk of the plain answer's In. No condition. -/
import Derived.Test.YtncnmeidciailaaDoorLv1
namespace Go.Proofs.YtncnmeidciailaaDoor
open Go.RowKit
attribute [local go_sem] ext_eq app_eq get_eq
/-- A function on bytes that is one value from a byte to another. -/
theorem iv_of (f : UInt8 → Bool) (a b : Nat) (v : Bool) (h : ∀ k : Fin 256, a ≤ k.val → k.val ≤ b → f (UInt8.ofNat k.val) = v) (c : UInt8) (p : a ≤ c.toNat) (q : c.toNat ≤ b) : f c = v := by
  have := h ⟨c.toNat, c.toNat_lt⟩ p q
  simpa using this
set_option maxRecDepth 100000 in
set_option maxHeartbeats 4000000 in
theorem rInAlnum (c : UInt8) (w : World) : Calls Tryd.prog 52 #[.string ⟨#[97, 108, 110, 117, 109]⟩, .int .u8 c.toNat] w fun e w' => e = .returned (.tuple #[.bool (Gl.inC Gl.nAlnum c), .bool true]) ∧ w' = w := by
  have h8 := c.toNat_lt
  rcases (by omega : (0 ≤ c.toNat ∧ c.toNat ≤ 32) ∨ (33 ≤ c.toNat ∧ c.toNat ≤ 47) ∨ (48 ≤ c.toNat ∧ c.toNat ≤ 57) ∨ (58 ≤ c.toNat ∧ c.toNat ≤ 64) ∨ (65 ≤ c.toNat ∧ c.toNat ≤ 90) ∨ (91 ≤ c.toNat ∧ c.toNat ≤ 96) ∨ (97 ≤ c.toNat ∧ c.toNat ≤ 122) ∨ (123 ≤ c.toNat ∧ c.toNat ≤ 126) ∨ (127 ≤ c.toNat ∧ c.toNat ≤ 255)) with ⟨p, q⟩ | ⟨p, q⟩ | ⟨p, q⟩ | ⟨p, q⟩ | ⟨p, q⟩ | ⟨p, q⟩ | ⟨p, q⟩ | ⟨p, q⟩ | ⟨p, q⟩
  · have HLo : Hid (∀ W, Calls Tryd.prog 71 #[.int .u8 c.toNat] W fun e w' => e = .returned (.bool false) ∧ w' = W) := fun W => (iv_of Gl.lo 0 32 false (by decide +kernel) c p q) ▸ rLower c W
    have HUp : Hid (∀ W, Calls Tryd.prog 72 #[.int .u8 c.toNat] W fun e w' => e = .returned (.bool false) ∧ w' = W) := fun W => (iv_of Gl.up 0 32 false (by decide +kernel) c p q) ▸ rUpper c W
    have HDg : Hid (∀ W, Calls Tryd.prog 69 #[.int .u8 c.toNat] W fun e w' => e = .returned (.bool false) ∧ w' = W) := fun W => (iv_of Gl.dg 0 32 false (by decide +kernel) c p q) ▸ rDigit c W
    have HE := hidA (iv_of (Gl.inC Gl.nAlnum) 0 32 false (by decide +kernel) c p q)
    have d0 : decide ((c.toNat : Int) ≤ 126) = true := decide_eq_true (by omega)
    have e0 : decide (c.toNat ≤ 126) = true := decide_eq_true (by omega)
    go_enter Tryd.func52, Tryd.ntmps52
    go_wp2_with (first | (go_at_call 71; refine (HLo.out _).mono ?_; rintro e w1 ⟨rfl, hw'⟩; rw [hw']; clear hw' w1) | (go_at_call 72; refine (HUp.out _).mono ?_; rintro e w1 ⟨rfl, hw'⟩; rw [hw']; clear hw' w1) | (go_at_call 69; refine (HDg.out _).mono ?_; rintro e w1 ⟨rfl, hw'⟩; rw [hw']; clear hw' w1))
    go_ret2
    exact ⟨by rw [HE.out]; rfl, rfl⟩
  · have HLo : Hid (∀ W, Calls Tryd.prog 71 #[.int .u8 c.toNat] W fun e w' => e = .returned (.bool false) ∧ w' = W) := fun W => (iv_of Gl.lo 33 47 false (by decide +kernel) c p q) ▸ rLower c W
    have HUp : Hid (∀ W, Calls Tryd.prog 72 #[.int .u8 c.toNat] W fun e w' => e = .returned (.bool false) ∧ w' = W) := fun W => (iv_of Gl.up 33 47 false (by decide +kernel) c p q) ▸ rUpper c W
    have HDg : Hid (∀ W, Calls Tryd.prog 69 #[.int .u8 c.toNat] W fun e w' => e = .returned (.bool false) ∧ w' = W) := fun W => (iv_of Gl.dg 33 47 false (by decide +kernel) c p q) ▸ rDigit c W
    have HE := hidA (iv_of (Gl.inC Gl.nAlnum) 33 47 false (by decide +kernel) c p q)
    have d0 : decide ((c.toNat : Int) ≤ 126) = true := decide_eq_true (by omega)
    have e0 : decide (c.toNat ≤ 126) = true := decide_eq_true (by omega)
    go_enter Tryd.func52, Tryd.ntmps52
    go_wp2_with (first | (go_at_call 71; refine (HLo.out _).mono ?_; rintro e w1 ⟨rfl, hw'⟩; rw [hw']; clear hw' w1) | (go_at_call 72; refine (HUp.out _).mono ?_; rintro e w1 ⟨rfl, hw'⟩; rw [hw']; clear hw' w1) | (go_at_call 69; refine (HDg.out _).mono ?_; rintro e w1 ⟨rfl, hw'⟩; rw [hw']; clear hw' w1))
    go_ret2
    exact ⟨by rw [HE.out]; rfl, rfl⟩
  · have HLo : Hid (∀ W, Calls Tryd.prog 71 #[.int .u8 c.toNat] W fun e w' => e = .returned (.bool false) ∧ w' = W) := fun W => (iv_of Gl.lo 48 57 false (by decide +kernel) c p q) ▸ rLower c W
    have HUp : Hid (∀ W, Calls Tryd.prog 72 #[.int .u8 c.toNat] W fun e w' => e = .returned (.bool false) ∧ w' = W) := fun W => (iv_of Gl.up 48 57 false (by decide +kernel) c p q) ▸ rUpper c W
    have HDg : Hid (∀ W, Calls Tryd.prog 69 #[.int .u8 c.toNat] W fun e w' => e = .returned (.bool true) ∧ w' = W) := fun W => (iv_of Gl.dg 48 57 true (by decide +kernel) c p q) ▸ rDigit c W
    have HE := hidA (iv_of (Gl.inC Gl.nAlnum) 48 57 true (by decide +kernel) c p q)
    have d0 : decide ((c.toNat : Int) ≤ 126) = true := decide_eq_true (by omega)
    have e0 : decide (c.toNat ≤ 126) = true := decide_eq_true (by omega)
    go_enter Tryd.func52, Tryd.ntmps52
    go_wp2_with (first | (go_at_call 71; refine (HLo.out _).mono ?_; rintro e w1 ⟨rfl, hw'⟩; rw [hw']; clear hw' w1) | (go_at_call 72; refine (HUp.out _).mono ?_; rintro e w1 ⟨rfl, hw'⟩; rw [hw']; clear hw' w1) | (go_at_call 69; refine (HDg.out _).mono ?_; rintro e w1 ⟨rfl, hw'⟩; rw [hw']; clear hw' w1))
    go_ret2
    exact ⟨by rw [HE.out]; rfl, rfl⟩
  · have HLo : Hid (∀ W, Calls Tryd.prog 71 #[.int .u8 c.toNat] W fun e w' => e = .returned (.bool false) ∧ w' = W) := fun W => (iv_of Gl.lo 58 64 false (by decide +kernel) c p q) ▸ rLower c W
    have HUp : Hid (∀ W, Calls Tryd.prog 72 #[.int .u8 c.toNat] W fun e w' => e = .returned (.bool false) ∧ w' = W) := fun W => (iv_of Gl.up 58 64 false (by decide +kernel) c p q) ▸ rUpper c W
    have HDg : Hid (∀ W, Calls Tryd.prog 69 #[.int .u8 c.toNat] W fun e w' => e = .returned (.bool false) ∧ w' = W) := fun W => (iv_of Gl.dg 58 64 false (by decide +kernel) c p q) ▸ rDigit c W
    have HE := hidA (iv_of (Gl.inC Gl.nAlnum) 58 64 false (by decide +kernel) c p q)
    have d0 : decide ((c.toNat : Int) ≤ 126) = true := decide_eq_true (by omega)
    have e0 : decide (c.toNat ≤ 126) = true := decide_eq_true (by omega)
    go_enter Tryd.func52, Tryd.ntmps52
    go_wp2_with (first | (go_at_call 71; refine (HLo.out _).mono ?_; rintro e w1 ⟨rfl, hw'⟩; rw [hw']; clear hw' w1) | (go_at_call 72; refine (HUp.out _).mono ?_; rintro e w1 ⟨rfl, hw'⟩; rw [hw']; clear hw' w1) | (go_at_call 69; refine (HDg.out _).mono ?_; rintro e w1 ⟨rfl, hw'⟩; rw [hw']; clear hw' w1))
    go_ret2
    exact ⟨by rw [HE.out]; rfl, rfl⟩
  · have HLo : Hid (∀ W, Calls Tryd.prog 71 #[.int .u8 c.toNat] W fun e w' => e = .returned (.bool false) ∧ w' = W) := fun W => (iv_of Gl.lo 65 90 false (by decide +kernel) c p q) ▸ rLower c W
    have HUp : Hid (∀ W, Calls Tryd.prog 72 #[.int .u8 c.toNat] W fun e w' => e = .returned (.bool true) ∧ w' = W) := fun W => (iv_of Gl.up 65 90 true (by decide +kernel) c p q) ▸ rUpper c W
    have HDg : Hid (∀ W, Calls Tryd.prog 69 #[.int .u8 c.toNat] W fun e w' => e = .returned (.bool false) ∧ w' = W) := fun W => (iv_of Gl.dg 65 90 false (by decide +kernel) c p q) ▸ rDigit c W
    have HE := hidA (iv_of (Gl.inC Gl.nAlnum) 65 90 true (by decide +kernel) c p q)
    have d0 : decide ((c.toNat : Int) ≤ 126) = true := decide_eq_true (by omega)
    have e0 : decide (c.toNat ≤ 126) = true := decide_eq_true (by omega)
    go_enter Tryd.func52, Tryd.ntmps52
    go_wp2_with (first | (go_at_call 71; refine (HLo.out _).mono ?_; rintro e w1 ⟨rfl, hw'⟩; rw [hw']; clear hw' w1) | (go_at_call 72; refine (HUp.out _).mono ?_; rintro e w1 ⟨rfl, hw'⟩; rw [hw']; clear hw' w1) | (go_at_call 69; refine (HDg.out _).mono ?_; rintro e w1 ⟨rfl, hw'⟩; rw [hw']; clear hw' w1))
    go_ret2
    exact ⟨by rw [HE.out]; rfl, rfl⟩
  · have HLo : Hid (∀ W, Calls Tryd.prog 71 #[.int .u8 c.toNat] W fun e w' => e = .returned (.bool false) ∧ w' = W) := fun W => (iv_of Gl.lo 91 96 false (by decide +kernel) c p q) ▸ rLower c W
    have HUp : Hid (∀ W, Calls Tryd.prog 72 #[.int .u8 c.toNat] W fun e w' => e = .returned (.bool false) ∧ w' = W) := fun W => (iv_of Gl.up 91 96 false (by decide +kernel) c p q) ▸ rUpper c W
    have HDg : Hid (∀ W, Calls Tryd.prog 69 #[.int .u8 c.toNat] W fun e w' => e = .returned (.bool false) ∧ w' = W) := fun W => (iv_of Gl.dg 91 96 false (by decide +kernel) c p q) ▸ rDigit c W
    have HE := hidA (iv_of (Gl.inC Gl.nAlnum) 91 96 false (by decide +kernel) c p q)
    have d0 : decide ((c.toNat : Int) ≤ 126) = true := decide_eq_true (by omega)
    have e0 : decide (c.toNat ≤ 126) = true := decide_eq_true (by omega)
    go_enter Tryd.func52, Tryd.ntmps52
    go_wp2_with (first | (go_at_call 71; refine (HLo.out _).mono ?_; rintro e w1 ⟨rfl, hw'⟩; rw [hw']; clear hw' w1) | (go_at_call 72; refine (HUp.out _).mono ?_; rintro e w1 ⟨rfl, hw'⟩; rw [hw']; clear hw' w1) | (go_at_call 69; refine (HDg.out _).mono ?_; rintro e w1 ⟨rfl, hw'⟩; rw [hw']; clear hw' w1))
    go_ret2
    exact ⟨by rw [HE.out]; rfl, rfl⟩
  · have HLo : Hid (∀ W, Calls Tryd.prog 71 #[.int .u8 c.toNat] W fun e w' => e = .returned (.bool true) ∧ w' = W) := fun W => (iv_of Gl.lo 97 122 true (by decide +kernel) c p q) ▸ rLower c W
    have HUp : Hid (∀ W, Calls Tryd.prog 72 #[.int .u8 c.toNat] W fun e w' => e = .returned (.bool false) ∧ w' = W) := fun W => (iv_of Gl.up 97 122 false (by decide +kernel) c p q) ▸ rUpper c W
    have HDg : Hid (∀ W, Calls Tryd.prog 69 #[.int .u8 c.toNat] W fun e w' => e = .returned (.bool false) ∧ w' = W) := fun W => (iv_of Gl.dg 97 122 false (by decide +kernel) c p q) ▸ rDigit c W
    have HE := hidA (iv_of (Gl.inC Gl.nAlnum) 97 122 true (by decide +kernel) c p q)
    have d0 : decide ((c.toNat : Int) ≤ 126) = true := decide_eq_true (by omega)
    have e0 : decide (c.toNat ≤ 126) = true := decide_eq_true (by omega)
    go_enter Tryd.func52, Tryd.ntmps52
    go_wp2_with (first | (go_at_call 71; refine (HLo.out _).mono ?_; rintro e w1 ⟨rfl, hw'⟩; rw [hw']; clear hw' w1) | (go_at_call 72; refine (HUp.out _).mono ?_; rintro e w1 ⟨rfl, hw'⟩; rw [hw']; clear hw' w1) | (go_at_call 69; refine (HDg.out _).mono ?_; rintro e w1 ⟨rfl, hw'⟩; rw [hw']; clear hw' w1))
    go_ret2
    exact ⟨by rw [HE.out]; rfl, rfl⟩
  · have HLo : Hid (∀ W, Calls Tryd.prog 71 #[.int .u8 c.toNat] W fun e w' => e = .returned (.bool false) ∧ w' = W) := fun W => (iv_of Gl.lo 123 126 false (by decide +kernel) c p q) ▸ rLower c W
    have HUp : Hid (∀ W, Calls Tryd.prog 72 #[.int .u8 c.toNat] W fun e w' => e = .returned (.bool false) ∧ w' = W) := fun W => (iv_of Gl.up 123 126 false (by decide +kernel) c p q) ▸ rUpper c W
    have HDg : Hid (∀ W, Calls Tryd.prog 69 #[.int .u8 c.toNat] W fun e w' => e = .returned (.bool false) ∧ w' = W) := fun W => (iv_of Gl.dg 123 126 false (by decide +kernel) c p q) ▸ rDigit c W
    have HE := hidA (iv_of (Gl.inC Gl.nAlnum) 123 126 false (by decide +kernel) c p q)
    have d0 : decide ((c.toNat : Int) ≤ 126) = true := decide_eq_true (by omega)
    have e0 : decide (c.toNat ≤ 126) = true := decide_eq_true (by omega)
    go_enter Tryd.func52, Tryd.ntmps52
    go_wp2_with (first | (go_at_call 71; refine (HLo.out _).mono ?_; rintro e w1 ⟨rfl, hw'⟩; rw [hw']; clear hw' w1) | (go_at_call 72; refine (HUp.out _).mono ?_; rintro e w1 ⟨rfl, hw'⟩; rw [hw']; clear hw' w1) | (go_at_call 69; refine (HDg.out _).mono ?_; rintro e w1 ⟨rfl, hw'⟩; rw [hw']; clear hw' w1))
    go_ret2
    exact ⟨by rw [HE.out]; rfl, rfl⟩
  · have HLo : Hid (∀ W, Calls Tryd.prog 71 #[.int .u8 c.toNat] W fun e w' => e = .returned (.bool false) ∧ w' = W) := fun W => (iv_of Gl.lo 127 255 false (by decide +kernel) c p q) ▸ rLower c W
    have HUp : Hid (∀ W, Calls Tryd.prog 72 #[.int .u8 c.toNat] W fun e w' => e = .returned (.bool false) ∧ w' = W) := fun W => (iv_of Gl.up 127 255 false (by decide +kernel) c p q) ▸ rUpper c W
    have HDg : Hid (∀ W, Calls Tryd.prog 69 #[.int .u8 c.toNat] W fun e w' => e = .returned (.bool false) ∧ w' = W) := fun W => (iv_of Gl.dg 127 255 false (by decide +kernel) c p q) ▸ rDigit c W
    have HE := hidA (iv_of (Gl.inC Gl.nAlnum) 127 255 false (by decide +kernel) c p q)
    have d0 : decide ((c.toNat : Int) ≤ 126) = false := decide_eq_false (by omega)
    have e0 : decide (c.toNat ≤ 126) = false := decide_eq_false (by omega)
    go_enter Tryd.func52, Tryd.ntmps52
    go_wp2_with (first | (go_at_call 71; refine (HLo.out _).mono ?_; rintro e w1 ⟨rfl, hw'⟩; rw [hw']; clear hw' w1) | (go_at_call 72; refine (HUp.out _).mono ?_; rintro e w1 ⟨rfl, hw'⟩; rw [hw']; clear hw' w1) | (go_at_call 69; refine (HDg.out _).mono ?_; rintro e w1 ⟨rfl, hw'⟩; rw [hw']; clear hw' w1))
    go_ret2
    exact ⟨by rw [HE.out]; rfl, rfl⟩
set_option maxRecDepth 100000 in
set_option maxHeartbeats 4000000 in
theorem rInAlpha (c : UInt8) (w : World) : Calls Tryd.prog 52 #[.string ⟨#[97, 108, 112, 104, 97]⟩, .int .u8 c.toNat] w fun e w' => e = .returned (.tuple #[.bool (Gl.inC Gl.nAlpha c), .bool true]) ∧ w' = w := by
  have h8 := c.toNat_lt
  rcases (by omega : (0 ≤ c.toNat ∧ c.toNat ≤ 32) ∨ (33 ≤ c.toNat ∧ c.toNat ≤ 47) ∨ (48 ≤ c.toNat ∧ c.toNat ≤ 57) ∨ (58 ≤ c.toNat ∧ c.toNat ≤ 64) ∨ (65 ≤ c.toNat ∧ c.toNat ≤ 90) ∨ (91 ≤ c.toNat ∧ c.toNat ≤ 96) ∨ (97 ≤ c.toNat ∧ c.toNat ≤ 122) ∨ (123 ≤ c.toNat ∧ c.toNat ≤ 126) ∨ (127 ≤ c.toNat ∧ c.toNat ≤ 255)) with ⟨p, q⟩ | ⟨p, q⟩ | ⟨p, q⟩ | ⟨p, q⟩ | ⟨p, q⟩ | ⟨p, q⟩ | ⟨p, q⟩ | ⟨p, q⟩ | ⟨p, q⟩
  · have HLo : Hid (∀ W, Calls Tryd.prog 71 #[.int .u8 c.toNat] W fun e w' => e = .returned (.bool false) ∧ w' = W) := fun W => (iv_of Gl.lo 0 32 false (by decide +kernel) c p q) ▸ rLower c W
    have HUp : Hid (∀ W, Calls Tryd.prog 72 #[.int .u8 c.toNat] W fun e w' => e = .returned (.bool false) ∧ w' = W) := fun W => (iv_of Gl.up 0 32 false (by decide +kernel) c p q) ▸ rUpper c W
    have HDg : Hid (∀ W, Calls Tryd.prog 69 #[.int .u8 c.toNat] W fun e w' => e = .returned (.bool false) ∧ w' = W) := fun W => (iv_of Gl.dg 0 32 false (by decide +kernel) c p q) ▸ rDigit c W
    have HE := hidA (iv_of (Gl.inC Gl.nAlpha) 0 32 false (by decide +kernel) c p q)
    have d0 : decide ((c.toNat : Int) ≤ 126) = true := decide_eq_true (by omega)
    have e0 : decide (c.toNat ≤ 126) = true := decide_eq_true (by omega)
    go_enter Tryd.func52, Tryd.ntmps52
    go_wp2_with (first | (go_at_call 71; refine (HLo.out _).mono ?_; rintro e w1 ⟨rfl, hw'⟩; rw [hw']; clear hw' w1) | (go_at_call 72; refine (HUp.out _).mono ?_; rintro e w1 ⟨rfl, hw'⟩; rw [hw']; clear hw' w1) | (go_at_call 69; refine (HDg.out _).mono ?_; rintro e w1 ⟨rfl, hw'⟩; rw [hw']; clear hw' w1))
    go_ret2
    exact ⟨by rw [HE.out]; rfl, rfl⟩
  · have HLo : Hid (∀ W, Calls Tryd.prog 71 #[.int .u8 c.toNat] W fun e w' => e = .returned (.bool false) ∧ w' = W) := fun W => (iv_of Gl.lo 33 47 false (by decide +kernel) c p q) ▸ rLower c W
    have HUp : Hid (∀ W, Calls Tryd.prog 72 #[.int .u8 c.toNat] W fun e w' => e = .returned (.bool false) ∧ w' = W) := fun W => (iv_of Gl.up 33 47 false (by decide +kernel) c p q) ▸ rUpper c W
    have HDg : Hid (∀ W, Calls Tryd.prog 69 #[.int .u8 c.toNat] W fun e w' => e = .returned (.bool false) ∧ w' = W) := fun W => (iv_of Gl.dg 33 47 false (by decide +kernel) c p q) ▸ rDigit c W
    have HE := hidA (iv_of (Gl.inC Gl.nAlpha) 33 47 false (by decide +kernel) c p q)
    have d0 : decide ((c.toNat : Int) ≤ 126) = true := decide_eq_true (by omega)
    have e0 : decide (c.toNat ≤ 126) = true := decide_eq_true (by omega)
    go_enter Tryd.func52, Tryd.ntmps52
    go_wp2_with (first | (go_at_call 71; refine (HLo.out _).mono ?_; rintro e w1 ⟨rfl, hw'⟩; rw [hw']; clear hw' w1) | (go_at_call 72; refine (HUp.out _).mono ?_; rintro e w1 ⟨rfl, hw'⟩; rw [hw']; clear hw' w1) | (go_at_call 69; refine (HDg.out _).mono ?_; rintro e w1 ⟨rfl, hw'⟩; rw [hw']; clear hw' w1))
    go_ret2
    exact ⟨by rw [HE.out]; rfl, rfl⟩
  · have HLo : Hid (∀ W, Calls Tryd.prog 71 #[.int .u8 c.toNat] W fun e w' => e = .returned (.bool false) ∧ w' = W) := fun W => (iv_of Gl.lo 48 57 false (by decide +kernel) c p q) ▸ rLower c W
    have HUp : Hid (∀ W, Calls Tryd.prog 72 #[.int .u8 c.toNat] W fun e w' => e = .returned (.bool false) ∧ w' = W) := fun W => (iv_of Gl.up 48 57 false (by decide +kernel) c p q) ▸ rUpper c W
    have HDg : Hid (∀ W, Calls Tryd.prog 69 #[.int .u8 c.toNat] W fun e w' => e = .returned (.bool true) ∧ w' = W) := fun W => (iv_of Gl.dg 48 57 true (by decide +kernel) c p q) ▸ rDigit c W
    have HE := hidA (iv_of (Gl.inC Gl.nAlpha) 48 57 false (by decide +kernel) c p q)
    have d0 : decide ((c.toNat : Int) ≤ 126) = true := decide_eq_true (by omega)
    have e0 : decide (c.toNat ≤ 126) = true := decide_eq_true (by omega)
    go_enter Tryd.func52, Tryd.ntmps52
    go_wp2_with (first | (go_at_call 71; refine (HLo.out _).mono ?_; rintro e w1 ⟨rfl, hw'⟩; rw [hw']; clear hw' w1) | (go_at_call 72; refine (HUp.out _).mono ?_; rintro e w1 ⟨rfl, hw'⟩; rw [hw']; clear hw' w1) | (go_at_call 69; refine (HDg.out _).mono ?_; rintro e w1 ⟨rfl, hw'⟩; rw [hw']; clear hw' w1))
    go_ret2
    exact ⟨by rw [HE.out]; rfl, rfl⟩
  · have HLo : Hid (∀ W, Calls Tryd.prog 71 #[.int .u8 c.toNat] W fun e w' => e = .returned (.bool false) ∧ w' = W) := fun W => (iv_of Gl.lo 58 64 false (by decide +kernel) c p q) ▸ rLower c W
    have HUp : Hid (∀ W, Calls Tryd.prog 72 #[.int .u8 c.toNat] W fun e w' => e = .returned (.bool false) ∧ w' = W) := fun W => (iv_of Gl.up 58 64 false (by decide +kernel) c p q) ▸ rUpper c W
    have HDg : Hid (∀ W, Calls Tryd.prog 69 #[.int .u8 c.toNat] W fun e w' => e = .returned (.bool false) ∧ w' = W) := fun W => (iv_of Gl.dg 58 64 false (by decide +kernel) c p q) ▸ rDigit c W
    have HE := hidA (iv_of (Gl.inC Gl.nAlpha) 58 64 false (by decide +kernel) c p q)
    have d0 : decide ((c.toNat : Int) ≤ 126) = true := decide_eq_true (by omega)
    have e0 : decide (c.toNat ≤ 126) = true := decide_eq_true (by omega)
    go_enter Tryd.func52, Tryd.ntmps52
    go_wp2_with (first | (go_at_call 71; refine (HLo.out _).mono ?_; rintro e w1 ⟨rfl, hw'⟩; rw [hw']; clear hw' w1) | (go_at_call 72; refine (HUp.out _).mono ?_; rintro e w1 ⟨rfl, hw'⟩; rw [hw']; clear hw' w1) | (go_at_call 69; refine (HDg.out _).mono ?_; rintro e w1 ⟨rfl, hw'⟩; rw [hw']; clear hw' w1))
    go_ret2
    exact ⟨by rw [HE.out]; rfl, rfl⟩
  · have HLo : Hid (∀ W, Calls Tryd.prog 71 #[.int .u8 c.toNat] W fun e w' => e = .returned (.bool false) ∧ w' = W) := fun W => (iv_of Gl.lo 65 90 false (by decide +kernel) c p q) ▸ rLower c W
    have HUp : Hid (∀ W, Calls Tryd.prog 72 #[.int .u8 c.toNat] W fun e w' => e = .returned (.bool true) ∧ w' = W) := fun W => (iv_of Gl.up 65 90 true (by decide +kernel) c p q) ▸ rUpper c W
    have HDg : Hid (∀ W, Calls Tryd.prog 69 #[.int .u8 c.toNat] W fun e w' => e = .returned (.bool false) ∧ w' = W) := fun W => (iv_of Gl.dg 65 90 false (by decide +kernel) c p q) ▸ rDigit c W
    have HE := hidA (iv_of (Gl.inC Gl.nAlpha) 65 90 true (by decide +kernel) c p q)
    have d0 : decide ((c.toNat : Int) ≤ 126) = true := decide_eq_true (by omega)
    have e0 : decide (c.toNat ≤ 126) = true := decide_eq_true (by omega)
    go_enter Tryd.func52, Tryd.ntmps52
    go_wp2_with (first | (go_at_call 71; refine (HLo.out _).mono ?_; rintro e w1 ⟨rfl, hw'⟩; rw [hw']; clear hw' w1) | (go_at_call 72; refine (HUp.out _).mono ?_; rintro e w1 ⟨rfl, hw'⟩; rw [hw']; clear hw' w1) | (go_at_call 69; refine (HDg.out _).mono ?_; rintro e w1 ⟨rfl, hw'⟩; rw [hw']; clear hw' w1))
    go_ret2
    exact ⟨by rw [HE.out]; rfl, rfl⟩
  · have HLo : Hid (∀ W, Calls Tryd.prog 71 #[.int .u8 c.toNat] W fun e w' => e = .returned (.bool false) ∧ w' = W) := fun W => (iv_of Gl.lo 91 96 false (by decide +kernel) c p q) ▸ rLower c W
    have HUp : Hid (∀ W, Calls Tryd.prog 72 #[.int .u8 c.toNat] W fun e w' => e = .returned (.bool false) ∧ w' = W) := fun W => (iv_of Gl.up 91 96 false (by decide +kernel) c p q) ▸ rUpper c W
    have HDg : Hid (∀ W, Calls Tryd.prog 69 #[.int .u8 c.toNat] W fun e w' => e = .returned (.bool false) ∧ w' = W) := fun W => (iv_of Gl.dg 91 96 false (by decide +kernel) c p q) ▸ rDigit c W
    have HE := hidA (iv_of (Gl.inC Gl.nAlpha) 91 96 false (by decide +kernel) c p q)
    have d0 : decide ((c.toNat : Int) ≤ 126) = true := decide_eq_true (by omega)
    have e0 : decide (c.toNat ≤ 126) = true := decide_eq_true (by omega)
    go_enter Tryd.func52, Tryd.ntmps52
    go_wp2_with (first | (go_at_call 71; refine (HLo.out _).mono ?_; rintro e w1 ⟨rfl, hw'⟩; rw [hw']; clear hw' w1) | (go_at_call 72; refine (HUp.out _).mono ?_; rintro e w1 ⟨rfl, hw'⟩; rw [hw']; clear hw' w1) | (go_at_call 69; refine (HDg.out _).mono ?_; rintro e w1 ⟨rfl, hw'⟩; rw [hw']; clear hw' w1))
    go_ret2
    exact ⟨by rw [HE.out]; rfl, rfl⟩
  · have HLo : Hid (∀ W, Calls Tryd.prog 71 #[.int .u8 c.toNat] W fun e w' => e = .returned (.bool true) ∧ w' = W) := fun W => (iv_of Gl.lo 97 122 true (by decide +kernel) c p q) ▸ rLower c W
    have HUp : Hid (∀ W, Calls Tryd.prog 72 #[.int .u8 c.toNat] W fun e w' => e = .returned (.bool false) ∧ w' = W) := fun W => (iv_of Gl.up 97 122 false (by decide +kernel) c p q) ▸ rUpper c W
    have HDg : Hid (∀ W, Calls Tryd.prog 69 #[.int .u8 c.toNat] W fun e w' => e = .returned (.bool false) ∧ w' = W) := fun W => (iv_of Gl.dg 97 122 false (by decide +kernel) c p q) ▸ rDigit c W
    have HE := hidA (iv_of (Gl.inC Gl.nAlpha) 97 122 true (by decide +kernel) c p q)
    have d0 : decide ((c.toNat : Int) ≤ 126) = true := decide_eq_true (by omega)
    have e0 : decide (c.toNat ≤ 126) = true := decide_eq_true (by omega)
    go_enter Tryd.func52, Tryd.ntmps52
    go_wp2_with (first | (go_at_call 71; refine (HLo.out _).mono ?_; rintro e w1 ⟨rfl, hw'⟩; rw [hw']; clear hw' w1) | (go_at_call 72; refine (HUp.out _).mono ?_; rintro e w1 ⟨rfl, hw'⟩; rw [hw']; clear hw' w1) | (go_at_call 69; refine (HDg.out _).mono ?_; rintro e w1 ⟨rfl, hw'⟩; rw [hw']; clear hw' w1))
    go_ret2
    exact ⟨by rw [HE.out]; rfl, rfl⟩
  · have HLo : Hid (∀ W, Calls Tryd.prog 71 #[.int .u8 c.toNat] W fun e w' => e = .returned (.bool false) ∧ w' = W) := fun W => (iv_of Gl.lo 123 126 false (by decide +kernel) c p q) ▸ rLower c W
    have HUp : Hid (∀ W, Calls Tryd.prog 72 #[.int .u8 c.toNat] W fun e w' => e = .returned (.bool false) ∧ w' = W) := fun W => (iv_of Gl.up 123 126 false (by decide +kernel) c p q) ▸ rUpper c W
    have HDg : Hid (∀ W, Calls Tryd.prog 69 #[.int .u8 c.toNat] W fun e w' => e = .returned (.bool false) ∧ w' = W) := fun W => (iv_of Gl.dg 123 126 false (by decide +kernel) c p q) ▸ rDigit c W
    have HE := hidA (iv_of (Gl.inC Gl.nAlpha) 123 126 false (by decide +kernel) c p q)
    have d0 : decide ((c.toNat : Int) ≤ 126) = true := decide_eq_true (by omega)
    have e0 : decide (c.toNat ≤ 126) = true := decide_eq_true (by omega)
    go_enter Tryd.func52, Tryd.ntmps52
    go_wp2_with (first | (go_at_call 71; refine (HLo.out _).mono ?_; rintro e w1 ⟨rfl, hw'⟩; rw [hw']; clear hw' w1) | (go_at_call 72; refine (HUp.out _).mono ?_; rintro e w1 ⟨rfl, hw'⟩; rw [hw']; clear hw' w1) | (go_at_call 69; refine (HDg.out _).mono ?_; rintro e w1 ⟨rfl, hw'⟩; rw [hw']; clear hw' w1))
    go_ret2
    exact ⟨by rw [HE.out]; rfl, rfl⟩
  · have HLo : Hid (∀ W, Calls Tryd.prog 71 #[.int .u8 c.toNat] W fun e w' => e = .returned (.bool false) ∧ w' = W) := fun W => (iv_of Gl.lo 127 255 false (by decide +kernel) c p q) ▸ rLower c W
    have HUp : Hid (∀ W, Calls Tryd.prog 72 #[.int .u8 c.toNat] W fun e w' => e = .returned (.bool false) ∧ w' = W) := fun W => (iv_of Gl.up 127 255 false (by decide +kernel) c p q) ▸ rUpper c W
    have HDg : Hid (∀ W, Calls Tryd.prog 69 #[.int .u8 c.toNat] W fun e w' => e = .returned (.bool false) ∧ w' = W) := fun W => (iv_of Gl.dg 127 255 false (by decide +kernel) c p q) ▸ rDigit c W
    have HE := hidA (iv_of (Gl.inC Gl.nAlpha) 127 255 false (by decide +kernel) c p q)
    have d0 : decide ((c.toNat : Int) ≤ 126) = false := decide_eq_false (by omega)
    have e0 : decide (c.toNat ≤ 126) = false := decide_eq_false (by omega)
    go_enter Tryd.func52, Tryd.ntmps52
    go_wp2_with (first | (go_at_call 71; refine (HLo.out _).mono ?_; rintro e w1 ⟨rfl, hw'⟩; rw [hw']; clear hw' w1) | (go_at_call 72; refine (HUp.out _).mono ?_; rintro e w1 ⟨rfl, hw'⟩; rw [hw']; clear hw' w1) | (go_at_call 69; refine (HDg.out _).mono ?_; rintro e w1 ⟨rfl, hw'⟩; rw [hw']; clear hw' w1))
    go_ret2
    exact ⟨by rw [HE.out]; rfl, rfl⟩
set_option maxRecDepth 100000 in
set_option maxHeartbeats 4000000 in
theorem rInBlank (c : UInt8) (w : World) : Calls Tryd.prog 52 #[.string ⟨#[98, 108, 97, 110, 107]⟩, .int .u8 c.toNat] w fun e w' => e = .returned (.tuple #[.bool (Gl.inC Gl.nBlank c), .bool true]) ∧ w' = w := by
  have h8 := c.toNat_lt
  rcases (by omega : (0 ≤ c.toNat ∧ c.toNat ≤ 8) ∨ (9 ≤ c.toNat ∧ c.toNat ≤ 9) ∨ (10 ≤ c.toNat ∧ c.toNat ≤ 31) ∨ (32 ≤ c.toNat ∧ c.toNat ≤ 32) ∨ (33 ≤ c.toNat ∧ c.toNat ≤ 47) ∨ (48 ≤ c.toNat ∧ c.toNat ≤ 57) ∨ (58 ≤ c.toNat ∧ c.toNat ≤ 64) ∨ (65 ≤ c.toNat ∧ c.toNat ≤ 90) ∨ (91 ≤ c.toNat ∧ c.toNat ≤ 96) ∨ (97 ≤ c.toNat ∧ c.toNat ≤ 122) ∨ (123 ≤ c.toNat ∧ c.toNat ≤ 126) ∨ (127 ≤ c.toNat ∧ c.toNat ≤ 255)) with ⟨p, q⟩ | ⟨p, q⟩ | ⟨p, q⟩ | ⟨p, q⟩ | ⟨p, q⟩ | ⟨p, q⟩ | ⟨p, q⟩ | ⟨p, q⟩ | ⟨p, q⟩ | ⟨p, q⟩ | ⟨p, q⟩ | ⟨p, q⟩
  · have HLo : Hid (∀ W, Calls Tryd.prog 71 #[.int .u8 c.toNat] W fun e w' => e = .returned (.bool false) ∧ w' = W) := fun W => (iv_of Gl.lo 0 8 false (by decide +kernel) c p q) ▸ rLower c W
    have HUp : Hid (∀ W, Calls Tryd.prog 72 #[.int .u8 c.toNat] W fun e w' => e = .returned (.bool false) ∧ w' = W) := fun W => (iv_of Gl.up 0 8 false (by decide +kernel) c p q) ▸ rUpper c W
    have HDg : Hid (∀ W, Calls Tryd.prog 69 #[.int .u8 c.toNat] W fun e w' => e = .returned (.bool false) ∧ w' = W) := fun W => (iv_of Gl.dg 0 8 false (by decide +kernel) c p q) ▸ rDigit c W
    have HE := hidA (iv_of (Gl.inC Gl.nBlank) 0 8 false (by decide +kernel) c p q)
    have d0 : decide ((c.toNat : Int) ≤ 126) = true := decide_eq_true (by omega)
    have e0 : decide (c.toNat ≤ 126) = true := decide_eq_true (by omega)
    have k9 : ((c.toNat : Int) == 9) = false := beq_eq_false_iff_ne.2 (by omega)
    have k32 : ((c.toNat : Int) == 32) = false := beq_eq_false_iff_ne.2 (by omega)
    go_enter Tryd.func52, Tryd.ntmps52
    go_wp2_with (first | (go_at_call 71; refine (HLo.out _).mono ?_; rintro e w1 ⟨rfl, hw'⟩; rw [hw']; clear hw' w1) | (go_at_call 72; refine (HUp.out _).mono ?_; rintro e w1 ⟨rfl, hw'⟩; rw [hw']; clear hw' w1) | (go_at_call 69; refine (HDg.out _).mono ?_; rintro e w1 ⟨rfl, hw'⟩; rw [hw']; clear hw' w1))
    go_ret2
    exact ⟨by rw [HE.out]; rfl, rfl⟩
  · have HLo : Hid (∀ W, Calls Tryd.prog 71 #[.int .u8 c.toNat] W fun e w' => e = .returned (.bool false) ∧ w' = W) := fun W => (iv_of Gl.lo 9 9 false (by decide +kernel) c p q) ▸ rLower c W
    have HUp : Hid (∀ W, Calls Tryd.prog 72 #[.int .u8 c.toNat] W fun e w' => e = .returned (.bool false) ∧ w' = W) := fun W => (iv_of Gl.up 9 9 false (by decide +kernel) c p q) ▸ rUpper c W
    have HDg : Hid (∀ W, Calls Tryd.prog 69 #[.int .u8 c.toNat] W fun e w' => e = .returned (.bool false) ∧ w' = W) := fun W => (iv_of Gl.dg 9 9 false (by decide +kernel) c p q) ▸ rDigit c W
    have HE := hidA (iv_of (Gl.inC Gl.nBlank) 9 9 true (by decide +kernel) c p q)
    have d0 : decide ((c.toNat : Int) ≤ 126) = true := decide_eq_true (by omega)
    have e0 : decide (c.toNat ≤ 126) = true := decide_eq_true (by omega)
    have k9 : ((c.toNat : Int) == 9) = true := beq_iff_eq.2 (by omega)
    have k32 : ((c.toNat : Int) == 32) = false := beq_eq_false_iff_ne.2 (by omega)
    go_enter Tryd.func52, Tryd.ntmps52
    go_wp2_with (first | (go_at_call 71; refine (HLo.out _).mono ?_; rintro e w1 ⟨rfl, hw'⟩; rw [hw']; clear hw' w1) | (go_at_call 72; refine (HUp.out _).mono ?_; rintro e w1 ⟨rfl, hw'⟩; rw [hw']; clear hw' w1) | (go_at_call 69; refine (HDg.out _).mono ?_; rintro e w1 ⟨rfl, hw'⟩; rw [hw']; clear hw' w1))
    go_ret2
    exact ⟨by rw [HE.out]; rfl, rfl⟩
  · have HLo : Hid (∀ W, Calls Tryd.prog 71 #[.int .u8 c.toNat] W fun e w' => e = .returned (.bool false) ∧ w' = W) := fun W => (iv_of Gl.lo 10 31 false (by decide +kernel) c p q) ▸ rLower c W
    have HUp : Hid (∀ W, Calls Tryd.prog 72 #[.int .u8 c.toNat] W fun e w' => e = .returned (.bool false) ∧ w' = W) := fun W => (iv_of Gl.up 10 31 false (by decide +kernel) c p q) ▸ rUpper c W
    have HDg : Hid (∀ W, Calls Tryd.prog 69 #[.int .u8 c.toNat] W fun e w' => e = .returned (.bool false) ∧ w' = W) := fun W => (iv_of Gl.dg 10 31 false (by decide +kernel) c p q) ▸ rDigit c W
    have HE := hidA (iv_of (Gl.inC Gl.nBlank) 10 31 false (by decide +kernel) c p q)
    have d0 : decide ((c.toNat : Int) ≤ 126) = true := decide_eq_true (by omega)
    have e0 : decide (c.toNat ≤ 126) = true := decide_eq_true (by omega)
    have k9 : ((c.toNat : Int) == 9) = false := beq_eq_false_iff_ne.2 (by omega)
    have k32 : ((c.toNat : Int) == 32) = false := beq_eq_false_iff_ne.2 (by omega)
    go_enter Tryd.func52, Tryd.ntmps52
    go_wp2_with (first | (go_at_call 71; refine (HLo.out _).mono ?_; rintro e w1 ⟨rfl, hw'⟩; rw [hw']; clear hw' w1) | (go_at_call 72; refine (HUp.out _).mono ?_; rintro e w1 ⟨rfl, hw'⟩; rw [hw']; clear hw' w1) | (go_at_call 69; refine (HDg.out _).mono ?_; rintro e w1 ⟨rfl, hw'⟩; rw [hw']; clear hw' w1))
    go_ret2
    exact ⟨by rw [HE.out]; rfl, rfl⟩
  · have HLo : Hid (∀ W, Calls Tryd.prog 71 #[.int .u8 c.toNat] W fun e w' => e = .returned (.bool false) ∧ w' = W) := fun W => (iv_of Gl.lo 32 32 false (by decide +kernel) c p q) ▸ rLower c W
    have HUp : Hid (∀ W, Calls Tryd.prog 72 #[.int .u8 c.toNat] W fun e w' => e = .returned (.bool false) ∧ w' = W) := fun W => (iv_of Gl.up 32 32 false (by decide +kernel) c p q) ▸ rUpper c W
    have HDg : Hid (∀ W, Calls Tryd.prog 69 #[.int .u8 c.toNat] W fun e w' => e = .returned (.bool false) ∧ w' = W) := fun W => (iv_of Gl.dg 32 32 false (by decide +kernel) c p q) ▸ rDigit c W
    have HE := hidA (iv_of (Gl.inC Gl.nBlank) 32 32 true (by decide +kernel) c p q)
    have d0 : decide ((c.toNat : Int) ≤ 126) = true := decide_eq_true (by omega)
    have e0 : decide (c.toNat ≤ 126) = true := decide_eq_true (by omega)
    have k9 : ((c.toNat : Int) == 9) = false := beq_eq_false_iff_ne.2 (by omega)
    have k32 : ((c.toNat : Int) == 32) = true := beq_iff_eq.2 (by omega)
    go_enter Tryd.func52, Tryd.ntmps52
    go_wp2_with (first | (go_at_call 71; refine (HLo.out _).mono ?_; rintro e w1 ⟨rfl, hw'⟩; rw [hw']; clear hw' w1) | (go_at_call 72; refine (HUp.out _).mono ?_; rintro e w1 ⟨rfl, hw'⟩; rw [hw']; clear hw' w1) | (go_at_call 69; refine (HDg.out _).mono ?_; rintro e w1 ⟨rfl, hw'⟩; rw [hw']; clear hw' w1))
    go_ret2
    exact ⟨by rw [HE.out]; rfl, rfl⟩
  · have HLo : Hid (∀ W, Calls Tryd.prog 71 #[.int .u8 c.toNat] W fun e w' => e = .returned (.bool false) ∧ w' = W) := fun W => (iv_of Gl.lo 33 47 false (by decide +kernel) c p q) ▸ rLower c W
    have HUp : Hid (∀ W, Calls Tryd.prog 72 #[.int .u8 c.toNat] W fun e w' => e = .returned (.bool false) ∧ w' = W) := fun W => (iv_of Gl.up 33 47 false (by decide +kernel) c p q) ▸ rUpper c W
    have HDg : Hid (∀ W, Calls Tryd.prog 69 #[.int .u8 c.toNat] W fun e w' => e = .returned (.bool false) ∧ w' = W) := fun W => (iv_of Gl.dg 33 47 false (by decide +kernel) c p q) ▸ rDigit c W
    have HE := hidA (iv_of (Gl.inC Gl.nBlank) 33 47 false (by decide +kernel) c p q)
    have d0 : decide ((c.toNat : Int) ≤ 126) = true := decide_eq_true (by omega)
    have e0 : decide (c.toNat ≤ 126) = true := decide_eq_true (by omega)
    have k9 : ((c.toNat : Int) == 9) = false := beq_eq_false_iff_ne.2 (by omega)
    have k32 : ((c.toNat : Int) == 32) = false := beq_eq_false_iff_ne.2 (by omega)
    go_enter Tryd.func52, Tryd.ntmps52
    go_wp2_with (first | (go_at_call 71; refine (HLo.out _).mono ?_; rintro e w1 ⟨rfl, hw'⟩; rw [hw']; clear hw' w1) | (go_at_call 72; refine (HUp.out _).mono ?_; rintro e w1 ⟨rfl, hw'⟩; rw [hw']; clear hw' w1) | (go_at_call 69; refine (HDg.out _).mono ?_; rintro e w1 ⟨rfl, hw'⟩; rw [hw']; clear hw' w1))
    go_ret2
    exact ⟨by rw [HE.out]; rfl, rfl⟩
  · have HLo : Hid (∀ W, Calls Tryd.prog 71 #[.int .u8 c.toNat] W fun e w' => e = .returned (.bool false) ∧ w' = W) := fun W => (iv_of Gl.lo 48 57 false (by decide +kernel) c p q) ▸ rLower c W
    have HUp : Hid (∀ W, Calls Tryd.prog 72 #[.int .u8 c.toNat] W fun e w' => e = .returned (.bool false) ∧ w' = W) := fun W => (iv_of Gl.up 48 57 false (by decide +kernel) c p q) ▸ rUpper c W
    have HDg : Hid (∀ W, Calls Tryd.prog 69 #[.int .u8 c.toNat] W fun e w' => e = .returned (.bool true) ∧ w' = W) := fun W => (iv_of Gl.dg 48 57 true (by decide +kernel) c p q) ▸ rDigit c W
    have HE := hidA (iv_of (Gl.inC Gl.nBlank) 48 57 false (by decide +kernel) c p q)
    have d0 : decide ((c.toNat : Int) ≤ 126) = true := decide_eq_true (by omega)
    have e0 : decide (c.toNat ≤ 126) = true := decide_eq_true (by omega)
    have k9 : ((c.toNat : Int) == 9) = false := beq_eq_false_iff_ne.2 (by omega)
    have k32 : ((c.toNat : Int) == 32) = false := beq_eq_false_iff_ne.2 (by omega)
    go_enter Tryd.func52, Tryd.ntmps52
    go_wp2_with (first | (go_at_call 71; refine (HLo.out _).mono ?_; rintro e w1 ⟨rfl, hw'⟩; rw [hw']; clear hw' w1) | (go_at_call 72; refine (HUp.out _).mono ?_; rintro e w1 ⟨rfl, hw'⟩; rw [hw']; clear hw' w1) | (go_at_call 69; refine (HDg.out _).mono ?_; rintro e w1 ⟨rfl, hw'⟩; rw [hw']; clear hw' w1))
    go_ret2
    exact ⟨by rw [HE.out]; rfl, rfl⟩
  · have HLo : Hid (∀ W, Calls Tryd.prog 71 #[.int .u8 c.toNat] W fun e w' => e = .returned (.bool false) ∧ w' = W) := fun W => (iv_of Gl.lo 58 64 false (by decide +kernel) c p q) ▸ rLower c W
    have HUp : Hid (∀ W, Calls Tryd.prog 72 #[.int .u8 c.toNat] W fun e w' => e = .returned (.bool false) ∧ w' = W) := fun W => (iv_of Gl.up 58 64 false (by decide +kernel) c p q) ▸ rUpper c W
    have HDg : Hid (∀ W, Calls Tryd.prog 69 #[.int .u8 c.toNat] W fun e w' => e = .returned (.bool false) ∧ w' = W) := fun W => (iv_of Gl.dg 58 64 false (by decide +kernel) c p q) ▸ rDigit c W
    have HE := hidA (iv_of (Gl.inC Gl.nBlank) 58 64 false (by decide +kernel) c p q)
    have d0 : decide ((c.toNat : Int) ≤ 126) = true := decide_eq_true (by omega)
    have e0 : decide (c.toNat ≤ 126) = true := decide_eq_true (by omega)
    have k9 : ((c.toNat : Int) == 9) = false := beq_eq_false_iff_ne.2 (by omega)
    have k32 : ((c.toNat : Int) == 32) = false := beq_eq_false_iff_ne.2 (by omega)
    go_enter Tryd.func52, Tryd.ntmps52
    go_wp2_with (first | (go_at_call 71; refine (HLo.out _).mono ?_; rintro e w1 ⟨rfl, hw'⟩; rw [hw']; clear hw' w1) | (go_at_call 72; refine (HUp.out _).mono ?_; rintro e w1 ⟨rfl, hw'⟩; rw [hw']; clear hw' w1) | (go_at_call 69; refine (HDg.out _).mono ?_; rintro e w1 ⟨rfl, hw'⟩; rw [hw']; clear hw' w1))
    go_ret2
    exact ⟨by rw [HE.out]; rfl, rfl⟩
  · have HLo : Hid (∀ W, Calls Tryd.prog 71 #[.int .u8 c.toNat] W fun e w' => e = .returned (.bool false) ∧ w' = W) := fun W => (iv_of Gl.lo 65 90 false (by decide +kernel) c p q) ▸ rLower c W
    have HUp : Hid (∀ W, Calls Tryd.prog 72 #[.int .u8 c.toNat] W fun e w' => e = .returned (.bool true) ∧ w' = W) := fun W => (iv_of Gl.up 65 90 true (by decide +kernel) c p q) ▸ rUpper c W
    have HDg : Hid (∀ W, Calls Tryd.prog 69 #[.int .u8 c.toNat] W fun e w' => e = .returned (.bool false) ∧ w' = W) := fun W => (iv_of Gl.dg 65 90 false (by decide +kernel) c p q) ▸ rDigit c W
    have HE := hidA (iv_of (Gl.inC Gl.nBlank) 65 90 false (by decide +kernel) c p q)
    have d0 : decide ((c.toNat : Int) ≤ 126) = true := decide_eq_true (by omega)
    have e0 : decide (c.toNat ≤ 126) = true := decide_eq_true (by omega)
    have k9 : ((c.toNat : Int) == 9) = false := beq_eq_false_iff_ne.2 (by omega)
    have k32 : ((c.toNat : Int) == 32) = false := beq_eq_false_iff_ne.2 (by omega)
    go_enter Tryd.func52, Tryd.ntmps52
    go_wp2_with (first | (go_at_call 71; refine (HLo.out _).mono ?_; rintro e w1 ⟨rfl, hw'⟩; rw [hw']; clear hw' w1) | (go_at_call 72; refine (HUp.out _).mono ?_; rintro e w1 ⟨rfl, hw'⟩; rw [hw']; clear hw' w1) | (go_at_call 69; refine (HDg.out _).mono ?_; rintro e w1 ⟨rfl, hw'⟩; rw [hw']; clear hw' w1))
    go_ret2
    exact ⟨by rw [HE.out]; rfl, rfl⟩
  · have HLo : Hid (∀ W, Calls Tryd.prog 71 #[.int .u8 c.toNat] W fun e w' => e = .returned (.bool false) ∧ w' = W) := fun W => (iv_of Gl.lo 91 96 false (by decide +kernel) c p q) ▸ rLower c W
    have HUp : Hid (∀ W, Calls Tryd.prog 72 #[.int .u8 c.toNat] W fun e w' => e = .returned (.bool false) ∧ w' = W) := fun W => (iv_of Gl.up 91 96 false (by decide +kernel) c p q) ▸ rUpper c W
    have HDg : Hid (∀ W, Calls Tryd.prog 69 #[.int .u8 c.toNat] W fun e w' => e = .returned (.bool false) ∧ w' = W) := fun W => (iv_of Gl.dg 91 96 false (by decide +kernel) c p q) ▸ rDigit c W
    have HE := hidA (iv_of (Gl.inC Gl.nBlank) 91 96 false (by decide +kernel) c p q)
    have d0 : decide ((c.toNat : Int) ≤ 126) = true := decide_eq_true (by omega)
    have e0 : decide (c.toNat ≤ 126) = true := decide_eq_true (by omega)
    have k9 : ((c.toNat : Int) == 9) = false := beq_eq_false_iff_ne.2 (by omega)
    have k32 : ((c.toNat : Int) == 32) = false := beq_eq_false_iff_ne.2 (by omega)
    go_enter Tryd.func52, Tryd.ntmps52
    go_wp2_with (first | (go_at_call 71; refine (HLo.out _).mono ?_; rintro e w1 ⟨rfl, hw'⟩; rw [hw']; clear hw' w1) | (go_at_call 72; refine (HUp.out _).mono ?_; rintro e w1 ⟨rfl, hw'⟩; rw [hw']; clear hw' w1) | (go_at_call 69; refine (HDg.out _).mono ?_; rintro e w1 ⟨rfl, hw'⟩; rw [hw']; clear hw' w1))
    go_ret2
    exact ⟨by rw [HE.out]; rfl, rfl⟩
  · have HLo : Hid (∀ W, Calls Tryd.prog 71 #[.int .u8 c.toNat] W fun e w' => e = .returned (.bool true) ∧ w' = W) := fun W => (iv_of Gl.lo 97 122 true (by decide +kernel) c p q) ▸ rLower c W
    have HUp : Hid (∀ W, Calls Tryd.prog 72 #[.int .u8 c.toNat] W fun e w' => e = .returned (.bool false) ∧ w' = W) := fun W => (iv_of Gl.up 97 122 false (by decide +kernel) c p q) ▸ rUpper c W
    have HDg : Hid (∀ W, Calls Tryd.prog 69 #[.int .u8 c.toNat] W fun e w' => e = .returned (.bool false) ∧ w' = W) := fun W => (iv_of Gl.dg 97 122 false (by decide +kernel) c p q) ▸ rDigit c W
    have HE := hidA (iv_of (Gl.inC Gl.nBlank) 97 122 false (by decide +kernel) c p q)
    have d0 : decide ((c.toNat : Int) ≤ 126) = true := decide_eq_true (by omega)
    have e0 : decide (c.toNat ≤ 126) = true := decide_eq_true (by omega)
    have k9 : ((c.toNat : Int) == 9) = false := beq_eq_false_iff_ne.2 (by omega)
    have k32 : ((c.toNat : Int) == 32) = false := beq_eq_false_iff_ne.2 (by omega)
    go_enter Tryd.func52, Tryd.ntmps52
    go_wp2_with (first | (go_at_call 71; refine (HLo.out _).mono ?_; rintro e w1 ⟨rfl, hw'⟩; rw [hw']; clear hw' w1) | (go_at_call 72; refine (HUp.out _).mono ?_; rintro e w1 ⟨rfl, hw'⟩; rw [hw']; clear hw' w1) | (go_at_call 69; refine (HDg.out _).mono ?_; rintro e w1 ⟨rfl, hw'⟩; rw [hw']; clear hw' w1))
    go_ret2
    exact ⟨by rw [HE.out]; rfl, rfl⟩
  · have HLo : Hid (∀ W, Calls Tryd.prog 71 #[.int .u8 c.toNat] W fun e w' => e = .returned (.bool false) ∧ w' = W) := fun W => (iv_of Gl.lo 123 126 false (by decide +kernel) c p q) ▸ rLower c W
    have HUp : Hid (∀ W, Calls Tryd.prog 72 #[.int .u8 c.toNat] W fun e w' => e = .returned (.bool false) ∧ w' = W) := fun W => (iv_of Gl.up 123 126 false (by decide +kernel) c p q) ▸ rUpper c W
    have HDg : Hid (∀ W, Calls Tryd.prog 69 #[.int .u8 c.toNat] W fun e w' => e = .returned (.bool false) ∧ w' = W) := fun W => (iv_of Gl.dg 123 126 false (by decide +kernel) c p q) ▸ rDigit c W
    have HE := hidA (iv_of (Gl.inC Gl.nBlank) 123 126 false (by decide +kernel) c p q)
    have d0 : decide ((c.toNat : Int) ≤ 126) = true := decide_eq_true (by omega)
    have e0 : decide (c.toNat ≤ 126) = true := decide_eq_true (by omega)
    have k9 : ((c.toNat : Int) == 9) = false := beq_eq_false_iff_ne.2 (by omega)
    have k32 : ((c.toNat : Int) == 32) = false := beq_eq_false_iff_ne.2 (by omega)
    go_enter Tryd.func52, Tryd.ntmps52
    go_wp2_with (first | (go_at_call 71; refine (HLo.out _).mono ?_; rintro e w1 ⟨rfl, hw'⟩; rw [hw']; clear hw' w1) | (go_at_call 72; refine (HUp.out _).mono ?_; rintro e w1 ⟨rfl, hw'⟩; rw [hw']; clear hw' w1) | (go_at_call 69; refine (HDg.out _).mono ?_; rintro e w1 ⟨rfl, hw'⟩; rw [hw']; clear hw' w1))
    go_ret2
    exact ⟨by rw [HE.out]; rfl, rfl⟩
  · have HLo : Hid (∀ W, Calls Tryd.prog 71 #[.int .u8 c.toNat] W fun e w' => e = .returned (.bool false) ∧ w' = W) := fun W => (iv_of Gl.lo 127 255 false (by decide +kernel) c p q) ▸ rLower c W
    have HUp : Hid (∀ W, Calls Tryd.prog 72 #[.int .u8 c.toNat] W fun e w' => e = .returned (.bool false) ∧ w' = W) := fun W => (iv_of Gl.up 127 255 false (by decide +kernel) c p q) ▸ rUpper c W
    have HDg : Hid (∀ W, Calls Tryd.prog 69 #[.int .u8 c.toNat] W fun e w' => e = .returned (.bool false) ∧ w' = W) := fun W => (iv_of Gl.dg 127 255 false (by decide +kernel) c p q) ▸ rDigit c W
    have HE := hidA (iv_of (Gl.inC Gl.nBlank) 127 255 false (by decide +kernel) c p q)
    have d0 : decide ((c.toNat : Int) ≤ 126) = false := decide_eq_false (by omega)
    have e0 : decide (c.toNat ≤ 126) = false := decide_eq_false (by omega)
    have k9 : ((c.toNat : Int) == 9) = false := beq_eq_false_iff_ne.2 (by omega)
    have k32 : ((c.toNat : Int) == 32) = false := beq_eq_false_iff_ne.2 (by omega)
    go_enter Tryd.func52, Tryd.ntmps52
    go_wp2_with (first | (go_at_call 71; refine (HLo.out _).mono ?_; rintro e w1 ⟨rfl, hw'⟩; rw [hw']; clear hw' w1) | (go_at_call 72; refine (HUp.out _).mono ?_; rintro e w1 ⟨rfl, hw'⟩; rw [hw']; clear hw' w1) | (go_at_call 69; refine (HDg.out _).mono ?_; rintro e w1 ⟨rfl, hw'⟩; rw [hw']; clear hw' w1))
    go_ret2
    exact ⟨by rw [HE.out]; rfl, rfl⟩
set_option maxRecDepth 100000 in
set_option maxHeartbeats 4000000 in
theorem rInCntrl (c : UInt8) (w : World) : Calls Tryd.prog 52 #[.string ⟨#[99, 110, 116, 114, 108]⟩, .int .u8 c.toNat] w fun e w' => e = .returned (.tuple #[.bool (Gl.inC Gl.nCntrl c), .bool true]) ∧ w' = w := by
  have h8 := c.toNat_lt
  rcases (by omega : (0 ≤ c.toNat ∧ c.toNat ≤ 31) ∨ (32 ≤ c.toNat ∧ c.toNat ≤ 32) ∨ (33 ≤ c.toNat ∧ c.toNat ≤ 47) ∨ (48 ≤ c.toNat ∧ c.toNat ≤ 57) ∨ (58 ≤ c.toNat ∧ c.toNat ≤ 64) ∨ (65 ≤ c.toNat ∧ c.toNat ≤ 90) ∨ (91 ≤ c.toNat ∧ c.toNat ≤ 96) ∨ (97 ≤ c.toNat ∧ c.toNat ≤ 122) ∨ (123 ≤ c.toNat ∧ c.toNat ≤ 126) ∨ (127 ≤ c.toNat ∧ c.toNat ≤ 127) ∨ (128 ≤ c.toNat ∧ c.toNat ≤ 255)) with ⟨p, q⟩ | ⟨p, q⟩ | ⟨p, q⟩ | ⟨p, q⟩ | ⟨p, q⟩ | ⟨p, q⟩ | ⟨p, q⟩ | ⟨p, q⟩ | ⟨p, q⟩ | ⟨p, q⟩ | ⟨p, q⟩
  · have HLo : Hid (∀ W, Calls Tryd.prog 71 #[.int .u8 c.toNat] W fun e w' => e = .returned (.bool false) ∧ w' = W) := fun W => (iv_of Gl.lo 0 31 false (by decide +kernel) c p q) ▸ rLower c W
    have HUp : Hid (∀ W, Calls Tryd.prog 72 #[.int .u8 c.toNat] W fun e w' => e = .returned (.bool false) ∧ w' = W) := fun W => (iv_of Gl.up 0 31 false (by decide +kernel) c p q) ▸ rUpper c W
    have HDg : Hid (∀ W, Calls Tryd.prog 69 #[.int .u8 c.toNat] W fun e w' => e = .returned (.bool false) ∧ w' = W) := fun W => (iv_of Gl.dg 0 31 false (by decide +kernel) c p q) ▸ rDigit c W
    have HE := hidA (iv_of (Gl.inC Gl.nCntrl) 0 31 true (by decide +kernel) c p q)
    have d0 : decide ((c.toNat : Int) ≤ 126) = true := decide_eq_true (by omega)
    have e0 : decide (c.toNat ≤ 126) = true := decide_eq_true (by omega)
    have d1 : decide ((c.toNat : Int) < 32) = true := decide_eq_true (by omega)
    have e1 : decide (c.toNat < 32) = true := decide_eq_true (by omega)
    have k127 : ((c.toNat : Int) == 127) = false := beq_eq_false_iff_ne.2 (by omega)
    go_enter Tryd.func52, Tryd.ntmps52
    go_wp2_with (first | (go_at_call 71; refine (HLo.out _).mono ?_; rintro e w1 ⟨rfl, hw'⟩; rw [hw']; clear hw' w1) | (go_at_call 72; refine (HUp.out _).mono ?_; rintro e w1 ⟨rfl, hw'⟩; rw [hw']; clear hw' w1) | (go_at_call 69; refine (HDg.out _).mono ?_; rintro e w1 ⟨rfl, hw'⟩; rw [hw']; clear hw' w1))
    go_ret2
    exact ⟨by rw [HE.out]; rfl, rfl⟩
  · have HLo : Hid (∀ W, Calls Tryd.prog 71 #[.int .u8 c.toNat] W fun e w' => e = .returned (.bool false) ∧ w' = W) := fun W => (iv_of Gl.lo 32 32 false (by decide +kernel) c p q) ▸ rLower c W
    have HUp : Hid (∀ W, Calls Tryd.prog 72 #[.int .u8 c.toNat] W fun e w' => e = .returned (.bool false) ∧ w' = W) := fun W => (iv_of Gl.up 32 32 false (by decide +kernel) c p q) ▸ rUpper c W
    have HDg : Hid (∀ W, Calls Tryd.prog 69 #[.int .u8 c.toNat] W fun e w' => e = .returned (.bool false) ∧ w' = W) := fun W => (iv_of Gl.dg 32 32 false (by decide +kernel) c p q) ▸ rDigit c W
    have HE := hidA (iv_of (Gl.inC Gl.nCntrl) 32 32 false (by decide +kernel) c p q)
    have d0 : decide ((c.toNat : Int) ≤ 126) = true := decide_eq_true (by omega)
    have e0 : decide (c.toNat ≤ 126) = true := decide_eq_true (by omega)
    have d1 : decide ((c.toNat : Int) < 32) = false := decide_eq_false (by omega)
    have e1 : decide (c.toNat < 32) = false := decide_eq_false (by omega)
    have k127 : ((c.toNat : Int) == 127) = false := beq_eq_false_iff_ne.2 (by omega)
    go_enter Tryd.func52, Tryd.ntmps52
    go_wp2_with (first | (go_at_call 71; refine (HLo.out _).mono ?_; rintro e w1 ⟨rfl, hw'⟩; rw [hw']; clear hw' w1) | (go_at_call 72; refine (HUp.out _).mono ?_; rintro e w1 ⟨rfl, hw'⟩; rw [hw']; clear hw' w1) | (go_at_call 69; refine (HDg.out _).mono ?_; rintro e w1 ⟨rfl, hw'⟩; rw [hw']; clear hw' w1))
    go_ret2
    exact ⟨by rw [HE.out]; rfl, rfl⟩
  · have HLo : Hid (∀ W, Calls Tryd.prog 71 #[.int .u8 c.toNat] W fun e w' => e = .returned (.bool false) ∧ w' = W) := fun W => (iv_of Gl.lo 33 47 false (by decide +kernel) c p q) ▸ rLower c W
    have HUp : Hid (∀ W, Calls Tryd.prog 72 #[.int .u8 c.toNat] W fun e w' => e = .returned (.bool false) ∧ w' = W) := fun W => (iv_of Gl.up 33 47 false (by decide +kernel) c p q) ▸ rUpper c W
    have HDg : Hid (∀ W, Calls Tryd.prog 69 #[.int .u8 c.toNat] W fun e w' => e = .returned (.bool false) ∧ w' = W) := fun W => (iv_of Gl.dg 33 47 false (by decide +kernel) c p q) ▸ rDigit c W
    have HE := hidA (iv_of (Gl.inC Gl.nCntrl) 33 47 false (by decide +kernel) c p q)
    have d0 : decide ((c.toNat : Int) ≤ 126) = true := decide_eq_true (by omega)
    have e0 : decide (c.toNat ≤ 126) = true := decide_eq_true (by omega)
    have d1 : decide ((c.toNat : Int) < 32) = false := decide_eq_false (by omega)
    have e1 : decide (c.toNat < 32) = false := decide_eq_false (by omega)
    have k127 : ((c.toNat : Int) == 127) = false := beq_eq_false_iff_ne.2 (by omega)
    go_enter Tryd.func52, Tryd.ntmps52
    go_wp2_with (first | (go_at_call 71; refine (HLo.out _).mono ?_; rintro e w1 ⟨rfl, hw'⟩; rw [hw']; clear hw' w1) | (go_at_call 72; refine (HUp.out _).mono ?_; rintro e w1 ⟨rfl, hw'⟩; rw [hw']; clear hw' w1) | (go_at_call 69; refine (HDg.out _).mono ?_; rintro e w1 ⟨rfl, hw'⟩; rw [hw']; clear hw' w1))
    go_ret2
    exact ⟨by rw [HE.out]; rfl, rfl⟩
  · have HLo : Hid (∀ W, Calls Tryd.prog 71 #[.int .u8 c.toNat] W fun e w' => e = .returned (.bool false) ∧ w' = W) := fun W => (iv_of Gl.lo 48 57 false (by decide +kernel) c p q) ▸ rLower c W
    have HUp : Hid (∀ W, Calls Tryd.prog 72 #[.int .u8 c.toNat] W fun e w' => e = .returned (.bool false) ∧ w' = W) := fun W => (iv_of Gl.up 48 57 false (by decide +kernel) c p q) ▸ rUpper c W
    have HDg : Hid (∀ W, Calls Tryd.prog 69 #[.int .u8 c.toNat] W fun e w' => e = .returned (.bool true) ∧ w' = W) := fun W => (iv_of Gl.dg 48 57 true (by decide +kernel) c p q) ▸ rDigit c W
    have HE := hidA (iv_of (Gl.inC Gl.nCntrl) 48 57 false (by decide +kernel) c p q)
    have d0 : decide ((c.toNat : Int) ≤ 126) = true := decide_eq_true (by omega)
    have e0 : decide (c.toNat ≤ 126) = true := decide_eq_true (by omega)
    have d1 : decide ((c.toNat : Int) < 32) = false := decide_eq_false (by omega)
    have e1 : decide (c.toNat < 32) = false := decide_eq_false (by omega)
    have k127 : ((c.toNat : Int) == 127) = false := beq_eq_false_iff_ne.2 (by omega)
    go_enter Tryd.func52, Tryd.ntmps52
    go_wp2_with (first | (go_at_call 71; refine (HLo.out _).mono ?_; rintro e w1 ⟨rfl, hw'⟩; rw [hw']; clear hw' w1) | (go_at_call 72; refine (HUp.out _).mono ?_; rintro e w1 ⟨rfl, hw'⟩; rw [hw']; clear hw' w1) | (go_at_call 69; refine (HDg.out _).mono ?_; rintro e w1 ⟨rfl, hw'⟩; rw [hw']; clear hw' w1))
    go_ret2
    exact ⟨by rw [HE.out]; rfl, rfl⟩
  · have HLo : Hid (∀ W, Calls Tryd.prog 71 #[.int .u8 c.toNat] W fun e w' => e = .returned (.bool false) ∧ w' = W) := fun W => (iv_of Gl.lo 58 64 false (by decide +kernel) c p q) ▸ rLower c W
    have HUp : Hid (∀ W, Calls Tryd.prog 72 #[.int .u8 c.toNat] W fun e w' => e = .returned (.bool false) ∧ w' = W) := fun W => (iv_of Gl.up 58 64 false (by decide +kernel) c p q) ▸ rUpper c W
    have HDg : Hid (∀ W, Calls Tryd.prog 69 #[.int .u8 c.toNat] W fun e w' => e = .returned (.bool false) ∧ w' = W) := fun W => (iv_of Gl.dg 58 64 false (by decide +kernel) c p q) ▸ rDigit c W
    have HE := hidA (iv_of (Gl.inC Gl.nCntrl) 58 64 false (by decide +kernel) c p q)
    have d0 : decide ((c.toNat : Int) ≤ 126) = true := decide_eq_true (by omega)
    have e0 : decide (c.toNat ≤ 126) = true := decide_eq_true (by omega)
    have d1 : decide ((c.toNat : Int) < 32) = false := decide_eq_false (by omega)
    have e1 : decide (c.toNat < 32) = false := decide_eq_false (by omega)
    have k127 : ((c.toNat : Int) == 127) = false := beq_eq_false_iff_ne.2 (by omega)
    go_enter Tryd.func52, Tryd.ntmps52
    go_wp2_with (first | (go_at_call 71; refine (HLo.out _).mono ?_; rintro e w1 ⟨rfl, hw'⟩; rw [hw']; clear hw' w1) | (go_at_call 72; refine (HUp.out _).mono ?_; rintro e w1 ⟨rfl, hw'⟩; rw [hw']; clear hw' w1) | (go_at_call 69; refine (HDg.out _).mono ?_; rintro e w1 ⟨rfl, hw'⟩; rw [hw']; clear hw' w1))
    go_ret2
    exact ⟨by rw [HE.out]; rfl, rfl⟩
  · have HLo : Hid (∀ W, Calls Tryd.prog 71 #[.int .u8 c.toNat] W fun e w' => e = .returned (.bool false) ∧ w' = W) := fun W => (iv_of Gl.lo 65 90 false (by decide +kernel) c p q) ▸ rLower c W
    have HUp : Hid (∀ W, Calls Tryd.prog 72 #[.int .u8 c.toNat] W fun e w' => e = .returned (.bool true) ∧ w' = W) := fun W => (iv_of Gl.up 65 90 true (by decide +kernel) c p q) ▸ rUpper c W
    have HDg : Hid (∀ W, Calls Tryd.prog 69 #[.int .u8 c.toNat] W fun e w' => e = .returned (.bool false) ∧ w' = W) := fun W => (iv_of Gl.dg 65 90 false (by decide +kernel) c p q) ▸ rDigit c W
    have HE := hidA (iv_of (Gl.inC Gl.nCntrl) 65 90 false (by decide +kernel) c p q)
    have d0 : decide ((c.toNat : Int) ≤ 126) = true := decide_eq_true (by omega)
    have e0 : decide (c.toNat ≤ 126) = true := decide_eq_true (by omega)
    have d1 : decide ((c.toNat : Int) < 32) = false := decide_eq_false (by omega)
    have e1 : decide (c.toNat < 32) = false := decide_eq_false (by omega)
    have k127 : ((c.toNat : Int) == 127) = false := beq_eq_false_iff_ne.2 (by omega)
    go_enter Tryd.func52, Tryd.ntmps52
    go_wp2_with (first | (go_at_call 71; refine (HLo.out _).mono ?_; rintro e w1 ⟨rfl, hw'⟩; rw [hw']; clear hw' w1) | (go_at_call 72; refine (HUp.out _).mono ?_; rintro e w1 ⟨rfl, hw'⟩; rw [hw']; clear hw' w1) | (go_at_call 69; refine (HDg.out _).mono ?_; rintro e w1 ⟨rfl, hw'⟩; rw [hw']; clear hw' w1))
    go_ret2
    exact ⟨by rw [HE.out]; rfl, rfl⟩
  · have HLo : Hid (∀ W, Calls Tryd.prog 71 #[.int .u8 c.toNat] W fun e w' => e = .returned (.bool false) ∧ w' = W) := fun W => (iv_of Gl.lo 91 96 false (by decide +kernel) c p q) ▸ rLower c W
    have HUp : Hid (∀ W, Calls Tryd.prog 72 #[.int .u8 c.toNat] W fun e w' => e = .returned (.bool false) ∧ w' = W) := fun W => (iv_of Gl.up 91 96 false (by decide +kernel) c p q) ▸ rUpper c W
    have HDg : Hid (∀ W, Calls Tryd.prog 69 #[.int .u8 c.toNat] W fun e w' => e = .returned (.bool false) ∧ w' = W) := fun W => (iv_of Gl.dg 91 96 false (by decide +kernel) c p q) ▸ rDigit c W
    have HE := hidA (iv_of (Gl.inC Gl.nCntrl) 91 96 false (by decide +kernel) c p q)
    have d0 : decide ((c.toNat : Int) ≤ 126) = true := decide_eq_true (by omega)
    have e0 : decide (c.toNat ≤ 126) = true := decide_eq_true (by omega)
    have d1 : decide ((c.toNat : Int) < 32) = false := decide_eq_false (by omega)
    have e1 : decide (c.toNat < 32) = false := decide_eq_false (by omega)
    have k127 : ((c.toNat : Int) == 127) = false := beq_eq_false_iff_ne.2 (by omega)
    go_enter Tryd.func52, Tryd.ntmps52
    go_wp2_with (first | (go_at_call 71; refine (HLo.out _).mono ?_; rintro e w1 ⟨rfl, hw'⟩; rw [hw']; clear hw' w1) | (go_at_call 72; refine (HUp.out _).mono ?_; rintro e w1 ⟨rfl, hw'⟩; rw [hw']; clear hw' w1) | (go_at_call 69; refine (HDg.out _).mono ?_; rintro e w1 ⟨rfl, hw'⟩; rw [hw']; clear hw' w1))
    go_ret2
    exact ⟨by rw [HE.out]; rfl, rfl⟩
  · have HLo : Hid (∀ W, Calls Tryd.prog 71 #[.int .u8 c.toNat] W fun e w' => e = .returned (.bool true) ∧ w' = W) := fun W => (iv_of Gl.lo 97 122 true (by decide +kernel) c p q) ▸ rLower c W
    have HUp : Hid (∀ W, Calls Tryd.prog 72 #[.int .u8 c.toNat] W fun e w' => e = .returned (.bool false) ∧ w' = W) := fun W => (iv_of Gl.up 97 122 false (by decide +kernel) c p q) ▸ rUpper c W
    have HDg : Hid (∀ W, Calls Tryd.prog 69 #[.int .u8 c.toNat] W fun e w' => e = .returned (.bool false) ∧ w' = W) := fun W => (iv_of Gl.dg 97 122 false (by decide +kernel) c p q) ▸ rDigit c W
    have HE := hidA (iv_of (Gl.inC Gl.nCntrl) 97 122 false (by decide +kernel) c p q)
    have d0 : decide ((c.toNat : Int) ≤ 126) = true := decide_eq_true (by omega)
    have e0 : decide (c.toNat ≤ 126) = true := decide_eq_true (by omega)
    have d1 : decide ((c.toNat : Int) < 32) = false := decide_eq_false (by omega)
    have e1 : decide (c.toNat < 32) = false := decide_eq_false (by omega)
    have k127 : ((c.toNat : Int) == 127) = false := beq_eq_false_iff_ne.2 (by omega)
    go_enter Tryd.func52, Tryd.ntmps52
    go_wp2_with (first | (go_at_call 71; refine (HLo.out _).mono ?_; rintro e w1 ⟨rfl, hw'⟩; rw [hw']; clear hw' w1) | (go_at_call 72; refine (HUp.out _).mono ?_; rintro e w1 ⟨rfl, hw'⟩; rw [hw']; clear hw' w1) | (go_at_call 69; refine (HDg.out _).mono ?_; rintro e w1 ⟨rfl, hw'⟩; rw [hw']; clear hw' w1))
    go_ret2
    exact ⟨by rw [HE.out]; rfl, rfl⟩
  · have HLo : Hid (∀ W, Calls Tryd.prog 71 #[.int .u8 c.toNat] W fun e w' => e = .returned (.bool false) ∧ w' = W) := fun W => (iv_of Gl.lo 123 126 false (by decide +kernel) c p q) ▸ rLower c W
    have HUp : Hid (∀ W, Calls Tryd.prog 72 #[.int .u8 c.toNat] W fun e w' => e = .returned (.bool false) ∧ w' = W) := fun W => (iv_of Gl.up 123 126 false (by decide +kernel) c p q) ▸ rUpper c W
    have HDg : Hid (∀ W, Calls Tryd.prog 69 #[.int .u8 c.toNat] W fun e w' => e = .returned (.bool false) ∧ w' = W) := fun W => (iv_of Gl.dg 123 126 false (by decide +kernel) c p q) ▸ rDigit c W
    have HE := hidA (iv_of (Gl.inC Gl.nCntrl) 123 126 false (by decide +kernel) c p q)
    have d0 : decide ((c.toNat : Int) ≤ 126) = true := decide_eq_true (by omega)
    have e0 : decide (c.toNat ≤ 126) = true := decide_eq_true (by omega)
    have d1 : decide ((c.toNat : Int) < 32) = false := decide_eq_false (by omega)
    have e1 : decide (c.toNat < 32) = false := decide_eq_false (by omega)
    have k127 : ((c.toNat : Int) == 127) = false := beq_eq_false_iff_ne.2 (by omega)
    go_enter Tryd.func52, Tryd.ntmps52
    go_wp2_with (first | (go_at_call 71; refine (HLo.out _).mono ?_; rintro e w1 ⟨rfl, hw'⟩; rw [hw']; clear hw' w1) | (go_at_call 72; refine (HUp.out _).mono ?_; rintro e w1 ⟨rfl, hw'⟩; rw [hw']; clear hw' w1) | (go_at_call 69; refine (HDg.out _).mono ?_; rintro e w1 ⟨rfl, hw'⟩; rw [hw']; clear hw' w1))
    go_ret2
    exact ⟨by rw [HE.out]; rfl, rfl⟩
  · have HLo : Hid (∀ W, Calls Tryd.prog 71 #[.int .u8 c.toNat] W fun e w' => e = .returned (.bool false) ∧ w' = W) := fun W => (iv_of Gl.lo 127 127 false (by decide +kernel) c p q) ▸ rLower c W
    have HUp : Hid (∀ W, Calls Tryd.prog 72 #[.int .u8 c.toNat] W fun e w' => e = .returned (.bool false) ∧ w' = W) := fun W => (iv_of Gl.up 127 127 false (by decide +kernel) c p q) ▸ rUpper c W
    have HDg : Hid (∀ W, Calls Tryd.prog 69 #[.int .u8 c.toNat] W fun e w' => e = .returned (.bool false) ∧ w' = W) := fun W => (iv_of Gl.dg 127 127 false (by decide +kernel) c p q) ▸ rDigit c W
    have HE := hidA (iv_of (Gl.inC Gl.nCntrl) 127 127 true (by decide +kernel) c p q)
    have d0 : decide ((c.toNat : Int) ≤ 126) = false := decide_eq_false (by omega)
    have e0 : decide (c.toNat ≤ 126) = false := decide_eq_false (by omega)
    have d1 : decide ((c.toNat : Int) < 32) = false := decide_eq_false (by omega)
    have e1 : decide (c.toNat < 32) = false := decide_eq_false (by omega)
    have k127 : ((c.toNat : Int) == 127) = true := beq_iff_eq.2 (by omega)
    go_enter Tryd.func52, Tryd.ntmps52
    go_wp2_with (first | (go_at_call 71; refine (HLo.out _).mono ?_; rintro e w1 ⟨rfl, hw'⟩; rw [hw']; clear hw' w1) | (go_at_call 72; refine (HUp.out _).mono ?_; rintro e w1 ⟨rfl, hw'⟩; rw [hw']; clear hw' w1) | (go_at_call 69; refine (HDg.out _).mono ?_; rintro e w1 ⟨rfl, hw'⟩; rw [hw']; clear hw' w1))
    go_ret2
    exact ⟨by rw [HE.out]; rfl, rfl⟩
  · have HLo : Hid (∀ W, Calls Tryd.prog 71 #[.int .u8 c.toNat] W fun e w' => e = .returned (.bool false) ∧ w' = W) := fun W => (iv_of Gl.lo 128 255 false (by decide +kernel) c p q) ▸ rLower c W
    have HUp : Hid (∀ W, Calls Tryd.prog 72 #[.int .u8 c.toNat] W fun e w' => e = .returned (.bool false) ∧ w' = W) := fun W => (iv_of Gl.up 128 255 false (by decide +kernel) c p q) ▸ rUpper c W
    have HDg : Hid (∀ W, Calls Tryd.prog 69 #[.int .u8 c.toNat] W fun e w' => e = .returned (.bool false) ∧ w' = W) := fun W => (iv_of Gl.dg 128 255 false (by decide +kernel) c p q) ▸ rDigit c W
    have HE := hidA (iv_of (Gl.inC Gl.nCntrl) 128 255 false (by decide +kernel) c p q)
    have d0 : decide ((c.toNat : Int) ≤ 126) = false := decide_eq_false (by omega)
    have e0 : decide (c.toNat ≤ 126) = false := decide_eq_false (by omega)
    have d1 : decide ((c.toNat : Int) < 32) = false := decide_eq_false (by omega)
    have e1 : decide (c.toNat < 32) = false := decide_eq_false (by omega)
    have k127 : ((c.toNat : Int) == 127) = false := beq_eq_false_iff_ne.2 (by omega)
    go_enter Tryd.func52, Tryd.ntmps52
    go_wp2_with (first | (go_at_call 71; refine (HLo.out _).mono ?_; rintro e w1 ⟨rfl, hw'⟩; rw [hw']; clear hw' w1) | (go_at_call 72; refine (HUp.out _).mono ?_; rintro e w1 ⟨rfl, hw'⟩; rw [hw']; clear hw' w1) | (go_at_call 69; refine (HDg.out _).mono ?_; rintro e w1 ⟨rfl, hw'⟩; rw [hw']; clear hw' w1))
    go_ret2
    exact ⟨by rw [HE.out]; rfl, rfl⟩
end Go.Proofs.YtncnmeidciailaaDoor
