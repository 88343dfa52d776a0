/- number of the program. No condition. -/
import Derived.Test.YtmminmdmhefefaaPma
namespace Go.Proofs.Ytmminmdmhefefaa
open Go.RowKit
namespace Pm
theorem or_nat (a b : Nat) (ha : a < 2 ^ 60) (hb : b < 2 ^ 60) : bits .or .i64 (a : Int) (b : Int) = ((a ||| b : Nat) : Int) := by
  have hlt : a ||| b < 2 ^ 60 := Nat.or_lt_two_pow ha hb
  have e : (B (a : Int) ||| B (b : Int)).toNat = a ||| b := by
    rw [BitVec.toNat_or, toNat_B, toNat_B, show ((a : Int) % 18446744073709551616).toNat = a by omega, show ((b : Int) % 18446744073709551616).toNat = b by omega]
  rw [or_eq, toInt_small _ (by rw [e]; omega), e]
theorem or_digit (n d : Int) (h0 : 0 ≤ n) (h1 : n < 65536) (h2 : 0 ≤ d) (h3 : d < 8) : bits .or .i64 (n * 8) d = n * 8 + d := by
  obtain ⟨N, rfl⟩ := Int.eq_ofNat_of_zero_le h0
  obtain ⟨D, rfl⟩ := Int.eq_ofNat_of_zero_le h2
  have h := or_nat (N * 8) D (by omega) (by omega)
  rw [nat_join 3 (N * 8) D (by omega) (by omega)] at h
  simpa using h
theorem pow8 (k : Nat) (h : k ≤ 3) : (8 : Int) ^ k ≤ 512 := by
  obtain rfl | rfl | rfl | rfl : k = 0 ∨ k = 1 ∨ k = 2 ∨ k = 3 := by omega
  all_goals decide
def dig (c : UInt8) : Bool := decide (48 ≤ (c.toNat : Int)) && decide ((c.toNat : Int) ≤ 55)
def numF (n : Int) : List UInt8 → Option Int
  | [] => some n
  | c :: cs => if dig c then numF (n * 8 + (c.toNat - 48)) cs else none
def numB (l : List UInt8) : Option Int := if 4 < l.length then none else numF 0 l
def endN : Option Int → Ending
  | some n => .returned (.int .i64 n)
  | none => .panicked EI
end Pm
theorem nit_any (w : World) (b : Nat) (hb : w.heap.size = b) (l : List UInt8) (pos : Nat) (hp : pos < l.length) (ty : TypeId) :
    (Instr.next (.pointer (some ⟨b, 0, none⟩)) true ty).run Try.prog (w.iter ⟨l.toArray⟩ pos) =
      .ok (.tuple #[.bool true, .int .i64 pos, .int .i32 (Utf8.decode ⟨l.toArray⟩ pos).1]) (w.iter ⟨l.toArray⟩ (pos + (Utf8.decode ⟨l.toArray⟩ pos).2)) := by
  subst hb; exact run_next_any (P := Try.prog) w ⟨l.toArray⟩ pos ty (by simpa [ByteArray.size] using hp)
theorem nit_fin (w : World) (b : Nat) (hb : w.heap.size = b) (l : List UInt8) (pos : Nat) (hp : ¬ pos < l.length) (ty : TypeId) :
    (Instr.next (.pointer (some ⟨b, 0, none⟩)) true ty).run Try.prog (w.iter ⟨l.toArray⟩ pos) = .ok (.tuple #[.bool false]) (w.iter ⟨l.toArray⟩ pos) := by
  subst hb; exact run_next_end (P := Try.prog) w ⟨l.toArray⟩ pos ty (by simpa [ByteArray.size] using hp)
theorem nit_pos (w : World) (b : Nat) (hb : w.heap.size = b) (S : ByteArray) (p : Nat) : (w.iter S p).iterPos b = p := by subst hb; exact World.iterPos_iter w S p
theorem below_iter (w : World) (S : ByteArray) (p : Nat) : Below w.heap.size w (w.iter S p) := (Below.refl _ _).alloc (Nat.le_refl _) _
set_option maxRecDepth 100000 in
set_option maxHeartbeats 2000000 in
theorem pNumber (l : List UInt8) (w : World) (hl : l.length ≤ 2 ^ 60) : Calls Try.prog 32 #[.string ⟨l.toArray⟩] w fun e w' => e = Pm.endN (Pm.numB l) ∧ Below w.heap.size w w' := by
  by_cases h4 : 4 < l.length
  · have h4' : decide ((4 : Int) < (l.length : Int)) = true := by simp; omega
    have HE : Hid (Pm.numB l = none) := if_pos h4
    go_enter Try.func32, Try.ntmps32
    go_wp2_with fail
    refine (pGive _).mono ?_
    rintro e w' ⟨rfl, rfl⟩
    go_wp2
    exact ⟨rfl, by rw [HE.out]; rfl, Below.refl _ _⟩
  · have h4' : decide ((4 : Int) < (l.length : Int)) = false := by simp; omega
    have HM : Hid (Pm.numB l = Pm.numF 0 l) := if_neg h4
    have HB : Hid (∀ p, Below w.heap.size w (w.iter ⟨l.toArray⟩ p)) := fun p => below_iter w _ p
    generalize hb : w.heap.size = b at *
    go_enter Try.func32, Try.ntmps32
    go_wp2_with fail
    go_loopw [3] (fun t w' => ∃ (pos : Nat) (n : Int), t = .int .i64 n ∧ w' = w.iter ⟨l.toArray⟩ pos ∧ pos ≤ l.length ∧ Hid (0 ≤ n ∧ n < 8 ^ pos) ∧ Hid (Pm.numF n (l.drop pos) = Pm.numF 0 l)) (fun _ w' => l.length - w'.iterPos b)
    case atStart => exact ⟨0, 0, rfl, rfl, Nat.zero_le _, ⟨by decide, by decide⟩, rfl⟩
    case round =>
      obtain ⟨pos, n, rfl, rfl, hle, HS, HN⟩ := hrel
      by_cases hp : pos < l.length
      · have hdr : l.drop pos = l[pos] :: l.drop (pos + 1) := List.drop_eq_getElem_cons hp
        have HN2 := HN.out
        rw [hdr] at HN2
        clear hdr
        by_cases hc : l[pos].toNat < 128
        · have hnx : ∀ ty, (Instr.next (.pointer (some ⟨b, 0, none⟩)) true ty).run Try.prog (w.iter ⟨l.toArray⟩ pos) = .ok (.tuple #[.bool true, .int .i64 pos, .int .i32 l[pos].toNat]) (w.iter ⟨l.toArray⟩ (pos + 1)) := fun ty => by
            have h := nit_any w b hb l pos hp ty
            rw [dec_low l pos hp hc] at h
            exact h
          cases hd : Pm.dig l[pos] with
          | false =>
            have HE : Hid (Pm.numB l = none) := by show _ = _; rw [HM.out, ← HN2, Pm.numF, hd]; rfl
            clear HN HN2
            have hd' : (decide (48 ≤ (l[pos].toNat : Int)) && decide ((l[pos].toNat : Int) ≤ 55)) = false := hd
            clear hd
            go_wp2_with (first | (go_at_call 31; refine (pDigit _ _).mono ?_; rintro e w' ⟨rfl, rfl⟩; rw [hd']) | (go_at_call 38; refine (pGive _).mono ?_; rintro e w' ⟨rfl, rfl⟩))
            exact ⟨rfl, by rw [HE.out]; rfl, by first | exact HB.out _ | (rw [hb]; exact HB.out _)⟩
          | true =>
            have HE : Hid (Pm.numF (n * 8 + (l[pos].toNat - 48)) (l.drop (pos + 1)) = Pm.numF 0 l) := by show _ = _; rw [← HN2, Pm.numF, hd]; rfl
            clear HN HN2
            have hd' : (decide (48 ≤ (l[pos].toNat : Int)) && decide ((l[pos].toNat : Int) ≤ 55)) = true := hd
            clear hd
            have hd2 : 48 ≤ (l[pos].toNat : Int) ∧ (l[pos].toNat : Int) ≤ 55 := by simpa using hd'
            have hn1 : 0 ≤ n ∧ n < 512 := ⟨HS.out.1, Int.lt_of_lt_of_le HS.out.2 (Pm.pow8 pos (by omega))⟩
            have HO : Hid (bits .or .i64 (n * 8) ((l[pos].toNat : Int) - 48) = n * 8 + (l[pos].toNat - 48)) := Pm.or_digit n _ hn1.1 (by omega) (by omega) (by omega)
            have HS2 : Hid (0 ≤ n * 8 + ((l[pos].toNat : Int) - 48) ∧ n * 8 + ((l[pos].toNat : Int) - 48) < 8 ^ (pos + 1)) := ⟨by omega, by
              have := HS.out.2
              rw [Int.pow_succ]
              omega⟩
            obtain ⟨hd3, hd4⟩ := hd2
            obtain ⟨hn2, hn3⟩ := hn1
            go_wp2_with (go_at_call 31; refine (pDigit _ _).mono ?_; rintro e w' ⟨rfl, rfl⟩; rw [hd'])
            exact ⟨⟨pos + 1, _, by rw [HO.out], rfl, hp, HS2, HE⟩, by rw [nit_pos w b hb, nit_pos w b hb]; omega⟩
        · obtain ⟨hh1, -⟩ := dec_high l pos hp (by omega)
          have hnx : ∀ ty, (Instr.next (.pointer (some ⟨b, 0, none⟩)) true ty).run Try.prog (w.iter ⟨l.toArray⟩ pos) = _ := fun ty => nit_any w b hb l pos hp ty
          have HE : Hid (Pm.numB l = none) := by
            show _ = _
            rw [HM.out, ← HN2, Pm.numF, if_neg]
            unfold Pm.dig
            simp only [Bool.and_eq_true, decide_eq_true_eq]
            omega
          generalize Utf8.decode ⟨l.toArray⟩ pos = D at hnx hh1
          have hd' : (decide (48 ≤ (D.1 : Int)) && decide ((D.1 : Int) ≤ 55)) = false := by
            simp only [Bool.and_eq_false_iff, decide_eq_false_iff_not]
            omega
          clear HN HN2 hh1
          go_wp2_with (first | (go_at_call 31; refine (pDigit _ _).mono ?_; rintro e w' ⟨rfl, rfl⟩; rw [hd']) | (go_at_call 38; refine (pGive _).mono ?_; rintro e w' ⟨rfl, rfl⟩))
          exact ⟨rfl, by rw [HE.out]; rfl, by first | exact HB.out _ | (rw [hb]; exact HB.out _)⟩
      · have hnx : ∀ ty, (Instr.next (.pointer (some ⟨b, 0, none⟩)) true ty).run Try.prog (w.iter ⟨l.toArray⟩ pos) = _ := fun ty => nit_fin w b hb l pos hp ty
        have HN2 := HN.out
        rw [List.drop_eq_nil_of_le (by omega)] at HN2
        have HE : Hid (Pm.numB l = some n) := by show _ = _; rw [HM.out, ← HN2]; rfl
        clear HN HN2
        go_wp2_with fail
        go_ret
        exact ⟨by rw [HE.out]; rfl, by first | exact HB.out _ | (rw [hb]; exact HB.out _)⟩
end Go.Proofs.Ytmminmdmhefefaa
