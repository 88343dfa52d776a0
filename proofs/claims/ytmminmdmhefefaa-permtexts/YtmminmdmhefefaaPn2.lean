/- The plain answer's class. No condition. -/
import Derived.Test.YtmminmdmhefefaaPn1
namespace Go.Proofs.Ytmminmdmhefefaa
open Go.RowKit
theorem ext_eq (l : List UInt8) (a b : Nat) : (⟨l.toArray⟩ : ByteArray).extract a b = ⟨((l.take b).drop a).toArray⟩ := by
  apply ByteArray.ext
  simp [ByteArray.data_extract, List.drop_take]
namespace Pm
/-- The three letters of class i that the bits v and x make. -/
def F3 (i : Nat) (sh v x : Int) : List UInt8 := ((txt (bits .or .i64 (v * sh) x)).take (4 + 3 * i)).drop (1 + 3 * i)
theorem txt_len (x : Int) : (txt x).length = 10 := rfl
def noF (i : Nat) (sh ex : Int) (l : List UInt8) (n : Nat) : Prop := ∀ v : Nat, v < n → F3 i sh v 0 ≠ l ∧ F3 i sh v ex ≠ l
end Pm
theorem ret_mb {a b : Int} {c d : Bool} (h : a = b) (k : c = d) : Ending.returned (.tuple #[.int .i64 a, .bool c]) = .returned (.tuple #[.int .i64 b, .bool d]) := by rw [h, k]
attribute [local go_sem] app_eq ext_eq
set_option maxRecDepth 100000 in
set_option maxHeartbeats 1000000 in
theorem rClass0 (l : List UInt8) (w : World) : Calls Try.prog 24 #[.string ⟨l.toArray⟩, .int .i64 0] w fun e w' =>
    ((∃ (v : Nat) (x : Int), v < 8 ∧ (x = 0 ∨ x = 2048) ∧ Pm.F3 0 64 v x = l ∧ e = .returned (.tuple #[.int .i64 (bits .or .i64 (v * 64) x), .bool true])) ∨ (Pm.noF 0 64 2048 l 8 ∧ e = .returned (.tuple #[.int .i64 0, .bool false]))) ∧ w' = w := by
  have hi0 : ∀ w, (Instr.index 64 (.agg #[.int .i64 0, .int .i64 2048]) (.int .i64 0)).run Try.prog w = .ok (.int .i64 0) w := fun _ => by kernel_rfl
  have hi1 : ∀ w, (Instr.index 64 (.agg #[.int .i64 0, .int .i64 2048]) (.int .i64 1)).run Try.prog w = .ok (.int .i64 2048) w := fun _ => by kernel_rfl
  go_enter Try.func24, Try.ntmps24
  go_wp2
  go_loop [8] (fun t => ∃ v : Nat, v ≤ 8 ∧ t = .int .i64 v ∧ Hid (Pm.noF 0 64 2048 l v)) (fun t => 8 - (intOf t).toNat)
  case atStart => exact ⟨0, by omega, rfl, fun v hv => absurd hv (by omega)⟩
  case round =>
    obtain ⟨v, hv, rfl, HN⟩ := hrel
    by_cases hlt : v < 8
    · go_wp2
      go_loop [25] (fun t => ∃ k : Nat, k ≤ 2 ∧ t = .int .i64 k ∧ Hid (1 ≤ k → Pm.F3 0 64 v 0 ≠ l) ∧ Hid (2 ≤ k → Pm.F3 0 64 v 2048 ≠ l)) (fun t => 2 - (intOf t).toNat)
      case atStart => exact ⟨0, by omega, rfl, fun h => absurd h (by omega), fun h => absurd h (by omega)⟩
      case round =>
        obtain ⟨k, hk, rfl, H1, H2⟩ := hrel
        obtain rfl | rfl | rfl : k = 0 ∨ k = 1 ∨ k = 2 := by omega
        · by_cases hF : Pm.F3 0 64 v 0 = l
          · have HF : Hid (Pm.F3 0 64 v 0 = l) := hF
            generalize hT : Pm.txt (bits .or .i64 ((v : Int) * 64) 0) = T at *
            have HT : Hid (Pm.txt (bits .or .i64 ((v : Int) * 64) 0) = T) := hT
            have HT' : Hid (Pm.txt (bits .or .i64 ((v : Int) * 64) 0) = T) := by show _ = _; rw [← hT]
            have hTl : T.length = 10 := by rw [← hT]; rfl
            have hF0 : (T.take 4).drop 1 = l := by rw [← hT]; exact hF
            have q1 : ((T.take 4).drop 1 == l) = true := by simpa using hF0
            have q2 : ((T.take 4).tail == l) = true := by rw [← List.drop_one]; exact q1
            clear hT hF hF0
            go_wp2_with (go_at_call 10; refine (rText _ _).mono ?_; rintro e w' ⟨rfl, rfl⟩; first | rw [HT.out] | rw [HT'.out])
            go_ret2
            exact ⟨.inl ⟨v, 0, hlt, .inl rfl, HF, ret_mb (by simp) rfl⟩, rfl⟩
          · have HF : Hid (¬ Pm.F3 0 64 v 0 = l) := hF
            generalize hT : Pm.txt (bits .or .i64 ((v : Int) * 64) 0) = T at *
            have HT : Hid (Pm.txt (bits .or .i64 ((v : Int) * 64) 0) = T) := hT
            have HT' : Hid (Pm.txt (bits .or .i64 ((v : Int) * 64) 0) = T) := by show _ = _; rw [← hT]
            have hTl : T.length = 10 := by rw [← hT]; rfl
            have hF0 : ¬ (T.take 4).drop 1 = l := by rw [← hT]; exact hF
            have q1 : ((T.take 4).drop 1 == l) = false := by simpa using hF0
            have q2 : ((T.take 4).tail == l) = false := by rw [← List.drop_one]; exact q1
            clear hT hF hF0
            go_wp2_with (go_at_call 10; refine (rText _ _).mono ?_; rintro e w' ⟨rfl, rfl⟩; first | rw [HT.out] | rw [HT'.out])
            exact ⟨⟨1, by omega, rfl, fun _ => HF, fun h => absurd h (by omega)⟩, by decide⟩
        · by_cases hF : Pm.F3 0 64 v 2048 = l
          · have HF : Hid (Pm.F3 0 64 v 2048 = l) := hF
            generalize hT : Pm.txt (bits .or .i64 ((v : Int) * 64) 2048) = T at *
            have HT : Hid (Pm.txt (bits .or .i64 ((v : Int) * 64) 2048) = T) := hT
            have HT' : Hid (Pm.txt (bits .or .i64 ((v : Int) * 64) 2048) = T) := by show _ = _; rw [← hT]
            have hTl : T.length = 10 := by rw [← hT]; rfl
            have hF0 : (T.take 4).drop 1 = l := by rw [← hT]; exact hF
            have q1 : ((T.take 4).drop 1 == l) = true := by simpa using hF0
            have q2 : ((T.take 4).tail == l) = true := by rw [← List.drop_one]; exact q1
            clear hT hF hF0
            go_wp2_with (go_at_call 10; refine (rText _ _).mono ?_; rintro e w' ⟨rfl, rfl⟩; first | rw [HT.out] | rw [HT'.out])
            go_ret2
            exact ⟨.inl ⟨v, 2048, hlt, .inr rfl, HF, ret_mb (by simp) rfl⟩, rfl⟩
          · have HF : Hid (¬ Pm.F3 0 64 v 2048 = l) := hF
            generalize hT : Pm.txt (bits .or .i64 ((v : Int) * 64) 2048) = T at *
            have HT : Hid (Pm.txt (bits .or .i64 ((v : Int) * 64) 2048) = T) := hT
            have HT' : Hid (Pm.txt (bits .or .i64 ((v : Int) * 64) 2048) = T) := by show _ = _; rw [← hT]
            have hTl : T.length = 10 := by rw [← hT]; rfl
            have hF0 : ¬ (T.take 4).drop 1 = l := by rw [← hT]; exact hF
            have q1 : ((T.take 4).drop 1 == l) = false := by simpa using hF0
            have q2 : ((T.take 4).tail == l) = false := by rw [← List.drop_one]; exact q1
            clear hT hF hF0
            go_wp2_with (go_at_call 10; refine (rText _ _).mono ?_; rintro e w' ⟨rfl, rfl⟩; first | rw [HT.out] | rw [HT'.out])
            exact ⟨⟨2, by omega, rfl, fun _ => H1.out (by omega), fun _ => HF⟩, by decide⟩
        · have HN2 : Hid (Pm.noF 0 64 2048 l (v + 1)) := fun u hu => by
            by_cases he : u = v
            · subst he; exact ⟨H1.out (by omega), H2.out (by omega)⟩
            · exact HN.out u (by omega)
          go_wp2
          exact ⟨⟨v + 1, by omega, by go_num, HN2⟩, by simp [intOf]; omega⟩
    · obtain rfl : v = 8 := by omega
      go_wp2
      go_ret2
      exact ⟨.inr ⟨HN.out, rfl⟩, rfl⟩
set_option maxRecDepth 100000 in
set_option maxHeartbeats 1000000 in
theorem rClass1 (l : List UInt8) (w : World) : Calls Try.prog 24 #[.string ⟨l.toArray⟩, .int .i64 1] w fun e w' =>
    ((∃ (v : Nat) (x : Int), v < 8 ∧ (x = 0 ∨ x = 1024) ∧ Pm.F3 1 8 v x = l ∧ e = .returned (.tuple #[.int .i64 (bits .or .i64 (v * 8) x), .bool true])) ∨ (Pm.noF 1 8 1024 l 8 ∧ e = .returned (.tuple #[.int .i64 0, .bool false]))) ∧ w' = w := by
  have hi0 : ∀ w, (Instr.index 64 (.agg #[.int .i64 0, .int .i64 1024]) (.int .i64 0)).run Try.prog w = .ok (.int .i64 0) w := fun _ => by kernel_rfl
  have hi1 : ∀ w, (Instr.index 64 (.agg #[.int .i64 0, .int .i64 1024]) (.int .i64 1)).run Try.prog w = .ok (.int .i64 1024) w := fun _ => by kernel_rfl
  go_enter Try.func24, Try.ntmps24
  go_wp2
  go_loop [8] (fun t => ∃ v : Nat, v ≤ 8 ∧ t = .int .i64 v ∧ Hid (Pm.noF 1 8 1024 l v)) (fun t => 8 - (intOf t).toNat)
  case atStart => exact ⟨0, by omega, rfl, fun v hv => absurd hv (by omega)⟩
  case round =>
    obtain ⟨v, hv, rfl, HN⟩ := hrel
    by_cases hlt : v < 8
    · go_wp2
      go_loop [25] (fun t => ∃ k : Nat, k ≤ 2 ∧ t = .int .i64 k ∧ Hid (1 ≤ k → Pm.F3 1 8 v 0 ≠ l) ∧ Hid (2 ≤ k → Pm.F3 1 8 v 1024 ≠ l)) (fun t => 2 - (intOf t).toNat)
      case atStart => exact ⟨0, by omega, rfl, fun h => absurd h (by omega), fun h => absurd h (by omega)⟩
      case round =>
        obtain ⟨k, hk, rfl, H1, H2⟩ := hrel
        obtain rfl | rfl | rfl : k = 0 ∨ k = 1 ∨ k = 2 := by omega
        · by_cases hF : Pm.F3 1 8 v 0 = l
          · have HF : Hid (Pm.F3 1 8 v 0 = l) := hF
            generalize hT : Pm.txt (bits .or .i64 ((v : Int) * 8) 0) = T at *
            have HT : Hid (Pm.txt (bits .or .i64 ((v : Int) * 8) 0) = T) := hT
            have HT' : Hid (Pm.txt (bits .or .i64 ((v : Int) * 8) 0) = T) := by show _ = _; rw [← hT]
            have hTl : T.length = 10 := by rw [← hT]; rfl
            have hF0 : (T.take 7).drop 4 = l := by rw [← hT]; exact hF
            have q1 : ((T.take 7).drop 4 == l) = true := by simpa using hF0
            clear hT hF hF0
            go_wp2_with (go_at_call 10; refine (rText _ _).mono ?_; rintro e w' ⟨rfl, rfl⟩; first | rw [HT.out] | rw [HT'.out])
            go_ret2
            exact ⟨.inl ⟨v, 0, hlt, .inl rfl, HF, ret_mb (by simp) rfl⟩, rfl⟩
          · have HF : Hid (¬ Pm.F3 1 8 v 0 = l) := hF
            generalize hT : Pm.txt (bits .or .i64 ((v : Int) * 8) 0) = T at *
            have HT : Hid (Pm.txt (bits .or .i64 ((v : Int) * 8) 0) = T) := hT
            have HT' : Hid (Pm.txt (bits .or .i64 ((v : Int) * 8) 0) = T) := by show _ = _; rw [← hT]
            have hTl : T.length = 10 := by rw [← hT]; rfl
            have hF0 : ¬ (T.take 7).drop 4 = l := by rw [← hT]; exact hF
            have q1 : ((T.take 7).drop 4 == l) = false := by simpa using hF0
            clear hT hF hF0
            go_wp2_with (go_at_call 10; refine (rText _ _).mono ?_; rintro e w' ⟨rfl, rfl⟩; first | rw [HT.out] | rw [HT'.out])
            exact ⟨⟨1, by omega, rfl, fun _ => HF, fun h => absurd h (by omega)⟩, by decide⟩
        · by_cases hF : Pm.F3 1 8 v 1024 = l
          · have HF : Hid (Pm.F3 1 8 v 1024 = l) := hF
            generalize hT : Pm.txt (bits .or .i64 ((v : Int) * 8) 1024) = T at *
            have HT : Hid (Pm.txt (bits .or .i64 ((v : Int) * 8) 1024) = T) := hT
            have HT' : Hid (Pm.txt (bits .or .i64 ((v : Int) * 8) 1024) = T) := by show _ = _; rw [← hT]
            have hTl : T.length = 10 := by rw [← hT]; rfl
            have hF0 : (T.take 7).drop 4 = l := by rw [← hT]; exact hF
            have q1 : ((T.take 7).drop 4 == l) = true := by simpa using hF0
            clear hT hF hF0
            go_wp2_with (go_at_call 10; refine (rText _ _).mono ?_; rintro e w' ⟨rfl, rfl⟩; first | rw [HT.out] | rw [HT'.out])
            go_ret2
            exact ⟨.inl ⟨v, 1024, hlt, .inr rfl, HF, ret_mb (by simp) rfl⟩, rfl⟩
          · have HF : Hid (¬ Pm.F3 1 8 v 1024 = l) := hF
            generalize hT : Pm.txt (bits .or .i64 ((v : Int) * 8) 1024) = T at *
            have HT : Hid (Pm.txt (bits .or .i64 ((v : Int) * 8) 1024) = T) := hT
            have HT' : Hid (Pm.txt (bits .or .i64 ((v : Int) * 8) 1024) = T) := by show _ = _; rw [← hT]
            have hTl : T.length = 10 := by rw [← hT]; rfl
            have hF0 : ¬ (T.take 7).drop 4 = l := by rw [← hT]; exact hF
            have q1 : ((T.take 7).drop 4 == l) = false := by simpa using hF0
            clear hT hF hF0
            go_wp2_with (go_at_call 10; refine (rText _ _).mono ?_; rintro e w' ⟨rfl, rfl⟩; first | rw [HT.out] | rw [HT'.out])
            exact ⟨⟨2, by omega, rfl, fun _ => H1.out (by omega), fun _ => HF⟩, by decide⟩
        · have HN2 : Hid (Pm.noF 1 8 1024 l (v + 1)) := fun u hu => by
            by_cases he : u = v
            · subst he; exact ⟨H1.out (by omega), H2.out (by omega)⟩
            · exact HN.out u (by omega)
          go_wp2
          exact ⟨⟨v + 1, by omega, by go_num, HN2⟩, by simp [intOf]; omega⟩
    · obtain rfl : v = 8 := by omega
      go_wp2
      go_ret2
      exact ⟨.inr ⟨HN.out, rfl⟩, rfl⟩
set_option maxRecDepth 100000 in
set_option maxHeartbeats 1000000 in
theorem rClass2 (l : List UInt8) (w : World) : Calls Try.prog 24 #[.string ⟨l.toArray⟩, .int .i64 2] w fun e w' =>
    ((∃ (v : Nat) (x : Int), v < 8 ∧ (x = 0 ∨ x = 512) ∧ Pm.F3 2 1 v x = l ∧ e = .returned (.tuple #[.int .i64 (bits .or .i64 (v * 1) x), .bool true])) ∨ (Pm.noF 2 1 512 l 8 ∧ e = .returned (.tuple #[.int .i64 0, .bool false]))) ∧ w' = w := by
  have hi0 : ∀ w, (Instr.index 64 (.agg #[.int .i64 0, .int .i64 512]) (.int .i64 0)).run Try.prog w = .ok (.int .i64 0) w := fun _ => by kernel_rfl
  have hi1 : ∀ w, (Instr.index 64 (.agg #[.int .i64 0, .int .i64 512]) (.int .i64 1)).run Try.prog w = .ok (.int .i64 512) w := fun _ => by kernel_rfl
  go_enter Try.func24, Try.ntmps24
  go_wp2
  go_loop [8] (fun t => ∃ v : Nat, v ≤ 8 ∧ t = .int .i64 v ∧ Hid (Pm.noF 2 1 512 l v)) (fun t => 8 - (intOf t).toNat)
  case atStart => exact ⟨0, by omega, rfl, fun v hv => absurd hv (by omega)⟩
  case round =>
    obtain ⟨v, hv, rfl, HN⟩ := hrel
    by_cases hlt : v < 8
    · go_wp2
      go_loop [25] (fun t => ∃ k : Nat, k ≤ 2 ∧ t = .int .i64 k ∧ Hid (1 ≤ k → Pm.F3 2 1 v 0 ≠ l) ∧ Hid (2 ≤ k → Pm.F3 2 1 v 512 ≠ l)) (fun t => 2 - (intOf t).toNat)
      case atStart => exact ⟨0, by omega, rfl, fun h => absurd h (by omega), fun h => absurd h (by omega)⟩
      case round =>
        obtain ⟨k, hk, rfl, H1, H2⟩ := hrel
        obtain rfl | rfl | rfl : k = 0 ∨ k = 1 ∨ k = 2 := by omega
        · by_cases hF : Pm.F3 2 1 v 0 = l
          · have HF : Hid (Pm.F3 2 1 v 0 = l) := hF
            generalize hT : Pm.txt (bits .or .i64 ((v : Int) * 1) 0) = T at *
            have HT : Hid (Pm.txt (bits .or .i64 ((v : Int) * 1) 0) = T) := hT
            have HT' : Hid (Pm.txt (bits .or .i64 ((v : Int)) 0) = T) := by show _ = _; rw [← hT]; simp
            have hTl : T.length = 10 := by rw [← hT]; rfl
            have hF0 : (T.take 10).drop 7 = l := by rw [← hT]; exact hF
            have q1 : ((T.take 10).drop 7 == l) = true := by simpa using hF0
            have q2 : (T.drop 7 == l) = true := by rw [List.take_of_length_le (by omega)] at q1; exact q1
            clear hT hF hF0
            go_wp2_with (go_at_call 10; refine (rText _ _).mono ?_; rintro e w' ⟨rfl, rfl⟩; first | rw [HT.out] | rw [HT'.out])
            go_ret2
            exact ⟨.inl ⟨v, 0, hlt, .inl rfl, HF, ret_mb (by simp) rfl⟩, rfl⟩
          · have HF : Hid (¬ Pm.F3 2 1 v 0 = l) := hF
            generalize hT : Pm.txt (bits .or .i64 ((v : Int) * 1) 0) = T at *
            have HT : Hid (Pm.txt (bits .or .i64 ((v : Int) * 1) 0) = T) := hT
            have HT' : Hid (Pm.txt (bits .or .i64 ((v : Int)) 0) = T) := by show _ = _; rw [← hT]; simp
            have hTl : T.length = 10 := by rw [← hT]; rfl
            have hF0 : ¬ (T.take 10).drop 7 = l := by rw [← hT]; exact hF
            have q1 : ((T.take 10).drop 7 == l) = false := by simpa using hF0
            have q2 : (T.drop 7 == l) = false := by rw [List.take_of_length_le (by omega)] at q1; exact q1
            clear hT hF hF0
            go_wp2_with (go_at_call 10; refine (rText _ _).mono ?_; rintro e w' ⟨rfl, rfl⟩; first | rw [HT.out] | rw [HT'.out])
            exact ⟨⟨1, by omega, rfl, fun _ => HF, fun h => absurd h (by omega)⟩, by decide⟩
        · by_cases hF : Pm.F3 2 1 v 512 = l
          · have HF : Hid (Pm.F3 2 1 v 512 = l) := hF
            generalize hT : Pm.txt (bits .or .i64 ((v : Int) * 1) 512) = T at *
            have HT : Hid (Pm.txt (bits .or .i64 ((v : Int) * 1) 512) = T) := hT
            have HT' : Hid (Pm.txt (bits .or .i64 ((v : Int)) 512) = T) := by show _ = _; rw [← hT]; simp
            have hTl : T.length = 10 := by rw [← hT]; rfl
            have hF0 : (T.take 10).drop 7 = l := by rw [← hT]; exact hF
            have q1 : ((T.take 10).drop 7 == l) = true := by simpa using hF0
            have q2 : (T.drop 7 == l) = true := by rw [List.take_of_length_le (by omega)] at q1; exact q1
            clear hT hF hF0
            go_wp2_with (go_at_call 10; refine (rText _ _).mono ?_; rintro e w' ⟨rfl, rfl⟩; first | rw [HT.out] | rw [HT'.out])
            go_ret2
            exact ⟨.inl ⟨v, 512, hlt, .inr rfl, HF, ret_mb (by simp) rfl⟩, rfl⟩
          · have HF : Hid (¬ Pm.F3 2 1 v 512 = l) := hF
            generalize hT : Pm.txt (bits .or .i64 ((v : Int) * 1) 512) = T at *
            have HT : Hid (Pm.txt (bits .or .i64 ((v : Int) * 1) 512) = T) := hT
            have HT' : Hid (Pm.txt (bits .or .i64 ((v : Int)) 512) = T) := by show _ = _; rw [← hT]; simp
            have hTl : T.length = 10 := by rw [← hT]; rfl
            have hF0 : ¬ (T.take 10).drop 7 = l := by rw [← hT]; exact hF
            have q1 : ((T.take 10).drop 7 == l) = false := by simpa using hF0
            have q2 : (T.drop 7 == l) = false := by rw [List.take_of_length_le (by omega)] at q1; exact q1
            clear hT hF hF0
            go_wp2_with (go_at_call 10; refine (rText _ _).mono ?_; rintro e w' ⟨rfl, rfl⟩; first | rw [HT.out] | rw [HT'.out])
            exact ⟨⟨2, by omega, rfl, fun _ => H1.out (by omega), fun _ => HF⟩, by decide⟩
        · have HN2 : Hid (Pm.noF 2 1 512 l (v + 1)) := fun u hu => by
            by_cases he : u = v
            · subst he; exact ⟨H1.out (by omega), H2.out (by omega)⟩
            · exact HN.out u (by omega)
          go_wp2
          exact ⟨⟨v + 1, by omega, by go_num, HN2⟩, by simp [intOf]; omega⟩
    · obtain rfl : v = 8 := by omega
      go_wp2
      go_ret2
      exact ⟨.inr ⟨HN.out, rfl⟩, rfl⟩
end Go.Proofs.Ytmminmdmhefefaa
