/- The plain model of layer 11's texts of numbers: digits, their value, Int, Size, Octal, Owner. No condition. -/
import Derived.Test.YtgkjpfebjhhdkaaDoorProg
import Derived.WalkKit
import Derived.WalkSpells
import Derived.WalkLawsBesides
import Derived.Handy
import Derived.Deep.QuietTactic
import Derived.BigQuiet
import Derived.ProofKit
import Derived.Below
import Derived.Laws.RangeAny
import Derived.Lib.DecodeN
import Derived.Lib.SlBytesConst
namespace Go.Proofs.YtgkjpfebjhhdkaaDoor
open Go.RowKit
namespace Na
/-- A digit below a base. -/
def dig (b : Int) (c : UInt8) : Bool := decide (48 ≤ (c.toNat : Int)) && decide ((c.toNat : Int) < 48 + b)
/-- One or more digits. -/
def pl (b : Int) (l : List UInt8) : Bool := l.all (dig b) && !l.isEmpty
/-- The value of digits, none above t: as both sides reckon it. -/
def vl (b t n : Int) : List UInt8 → Option Int
  | [] => some n
  | c :: r => if (t - ((c.toNat : Int) - 48)) / b < n then none else vl b t (n * b + ((c.toNat : Int) - 48)) r
/-- The value of digits. -/
def dv (b n : Int) : List UInt8 → Int
  | [] => n
  | c :: r => dv b (n * b + ((c.toNat : Int) - 48)) r
theorem dig_iff {b : Int} {c : UInt8} : dig b c = true ↔ 48 ≤ (c.toNat : Int) ∧ (c.toNat : Int) < 48 + b := by simp [dig]
theorem all_cons {b : Int} {c : UInt8} {r : List UInt8} (h : (c :: r).all (dig b) = true) : (48 ≤ (c.toNat : Int) ∧ (c.toNat : Int) < 48 + b) ∧ r.all (dig b) = true := by
  rw [List.all_cons, Bool.and_eq_true] at h
  exact ⟨dig_iff.1 h.1, h.2⟩
theorem dv_ge {b : Int} (hb : 2 ≤ b) : ∀ (l : List UInt8) (n : Int), 0 ≤ n → l.all (dig b) = true → n ≤ dv b n l
  | [], n, h0, _ => Int.le_refl _
  | c :: r, n, h0, h => by
    obtain ⟨⟨h1, h2⟩, h3⟩ := all_cons h
    have hm : n * 2 ≤ n * b := Int.mul_le_mul_of_nonneg_left hb h0
    have := dv_ge hb r (n * b + ((c.toNat : Int) - 48)) (by omega) h3
    rw [dv]; omega
theorem div_lt_iff {t d b n : Int} (hb : 0 < b) : (t - d) / b < n ↔ t < n * b + d := by
  rw [Int.ediv_lt_iff_lt_mul hb]; omega
theorem vl_eq {b t : Int} (hb : 2 ≤ b) : ∀ (l : List UInt8) (n : Int), 0 ≤ n → n ≤ t → l.all (dig b) = true → vl b t n l = if dv b n l ≤ t then some (dv b n l) else none
  | [], n, h0, ht, _ => by rw [vl, dv, if_pos ht]
  | c :: r, n, h0, ht, h => by
    obtain ⟨⟨h1, h2⟩, h3⟩ := all_cons h
    have hm : 0 ≤ n * b := Int.mul_nonneg h0 (by omega)
    rw [vl, dv]
    by_cases hc : (t - ((c.toNat : Int) - 48)) / b < n
    · rw [if_pos hc, if_neg]
      rw [div_lt_iff (by omega)] at hc
      have := dv_ge hb r (n * b + ((c.toNat : Int) - 48)) (by omega) h3
      omega
    · rw [if_neg hc]
      rw [div_lt_iff (by omega)] at hc
      exact vl_eq hb r _ (by omega) (by omega) h3
theorem vl_rng {b t : Int} (hb : 2 ≤ b) (l : List UInt8) (n m : Int) (h0 : 0 ≤ n) (ht : n ≤ t) (hd : l.all (dig b) = true) (h : vl b t n l = some m) : 0 ≤ m ∧ m ≤ t := by
  rw [vl_eq hb l n h0 ht hd] at h
  have := dv_ge hb l n h0 hd
  split at h
  · cases h; omega
  · cases h
/-- A text's number in a base, at most t; and the error. -/
def rd (b t : Int) (l : List UInt8) : Int × Int := if pl b l then (match vl b t 0 l with | some n => (n, 0) | none => (0, 34)) else (0, 22)
def mx : Int := 999999999999999999
def intP (l : List UInt8) : Int × Int := if l.head? = some 45 then (-(rd 10 mx l.tail).1, (rd 10 mx l.tail).2) else rd 10 mx l
def unit (c : UInt8) : Int := if c = 99 then 1 else if c = 119 then 2 else if c = 98 then 512 else if c = 107 ∨ c = 75 then 1024 else if c = 77 then 1048576 else if c = 71 then 1073741824 else 0
def uOf (l : List UInt8) : Int := match l.getLast? with
  | some c => unit c
  | none => 0
def sizeP (l : List UInt8) : Int × Int := if uOf l = 0 then rd 10 mx l else ((rd 10 (mx / uOf l) l.dropLast).1 * uOf l, (rd 10 (mx / uOf l) l.dropLast).2)
def octP (l : List UInt8) : Int × Int := rd 8 mx l
/-- What stands ahead of the first mark. -/
def ahead (m : UInt8) (l : List UInt8) : List UInt8 := l.takeWhile (fun c => decide (c ≠ m))
def behind (m : UInt8) (l : List UInt8) : List UInt8 := (l.dropWhile (fun c => decide (c ≠ m))).tail
def has (m : UInt8) (l : List UInt8) : Bool := l.any (fun c => decide (c = m))
def opt (l : List UInt8) : Bool := l.isEmpty || pl 10 l
def own (l : List UInt8) : Option Int := if l.isEmpty then some (-1) else vl 10 2147483647 0 l
def ownQ (A B : List UInt8) : Int × Int × Int :=
  if (A.isEmpty && B.isEmpty) || !opt A || !opt B then (0, 0, 22)
  else match own A, own B with
    | some u, some g => (u, g, 0)
    | _, _ => (0, 0, 34)
def ownP (l : List UInt8) : Int × Int × Int := ownQ (ahead 58 l) (behind 58 l)
theorem rd_rng {b t : Int} (hb : 2 ≤ b) (ht : 0 ≤ t) (l : List UInt8) : 0 ≤ (rd b t l).1 ∧ (rd b t l).1 ≤ t := by
  unfold rd
  split
  · rename_i hp
    unfold pl at hp
    rw [Bool.and_eq_true] at hp
    cases hv : vl b t 0 l with
    | none => exact ⟨Int.le_refl _, ht⟩
    | some n => exact vl_rng hb l 0 n (Int.le_refl _) ht hp.1 hv
  · exact ⟨Int.le_refl _, ht⟩
theorem unit_rng (c : UInt8) : 0 ≤ unit c ∧ unit c ≤ 1073741824 := by
  unfold unit
  repeat' split
  all_goals decide
end Na
theorem hidA {p : Prop} (h : p) : Hid p := h
theorem ext_eq (l : List UInt8) (a b : Nat) : (⟨l.toArray⟩ : ByteArray).extract a b = ⟨((l.take b).drop a).toArray⟩ := by
  apply ByteArray.ext
  simp [ByteArray.data_extract, List.drop_take]
theorem app_eq (a b : List UInt8) : (⟨a.toArray⟩ : ByteArray) ++ (⟨b.toArray⟩ : ByteArray) = ⟨(a ++ b).toArray⟩ := by
  apply ByteArray.ext
  simp [ByteArray.data_append]
theorem get_eq (l : List UInt8) (i : Nat) (h : i < (⟨l.toArray⟩ : ByteArray).size) : (⟨l.toArray⟩ : ByteArray)[i] = l[i]'(by simpa [ByteArray.size] using h) := rfl
theorem byte_eq (c d : UInt8) : (((c.toNat : Int) == (d.toNat : Int))) = decide (c = d) := by
  rw [Bool.eq_iff_iff]; simp [← UInt8.toNat_inj]; omega
theorem byte_no (c d : UInt8) (k : Int) (hk : (d.toNat : Int) = k) (h : c ≠ d) : (((c.toNat : Int) == k)) = false := by rw [← hk, byte_eq]; simpa using h
theorem byte_yes (c d : UInt8) (k : Int) (hk : (d.toNat : Int) = k) (h : c = d) : (((c.toNat : Int) == k)) = true := by rw [← hk, byte_eq]; simpa using h
theorem str_size (l : List UInt8) : (⟨l.toArray⟩ : ByteArray).size = l.length := by simp [ByteArray.size]
theorem ret_bool {a b : Bool} (h : a = b) : Ending.returned (.bool a) = .returned (.bool b) := by rw [h]
theorem ret_int {k : IntKind} {a b : Int} (h : a = b) : Ending.returned (.int k a) = .returned (.int k b) := by rw [h]
theorem ret_str {a b : List UInt8} (h : a = b) : Ending.returned (.string ⟨a.toArray⟩) = .returned (.string ⟨b.toArray⟩) := by rw [h]
theorem byte_lt (c : UInt8) : (c.toNat : Int) ≤ 255 := by have := c.toNat_lt; omega
theorem nit_any (w : World) (b : Nat) (hb : w.heap.size = b) (l : List UInt8) (pos : Nat) (hp : pos < l.length) (ty : TypeId) :
    (Instr.next (.pointer (some ⟨b, 0, none⟩)) true ty).run Tryd.prog (w.iter ⟨l.toArray⟩ pos) =
      .ok (.tuple #[.bool true, .int .i64 pos, .int .i32 (Utf8.decode ⟨l.toArray⟩ pos).1]) (w.iter ⟨l.toArray⟩ (pos + (Utf8.decode ⟨l.toArray⟩ pos).2)) := by
  subst hb; exact run_next_any (P := Tryd.prog) w ⟨l.toArray⟩ pos ty (by simpa [ByteArray.size] using hp)
theorem nit_fin (w : World) (b : Nat) (hb : w.heap.size = b) (l : List UInt8) (pos : Nat) (hp : ¬ pos < l.length) (ty : TypeId) :
    (Instr.next (.pointer (some ⟨b, 0, none⟩)) true ty).run Tryd.prog (w.iter ⟨l.toArray⟩ pos) = .ok (.tuple #[.bool false]) (w.iter ⟨l.toArray⟩ pos) := by
  subst hb; exact run_next_end (P := Tryd.prog) w ⟨l.toArray⟩ pos ty (by simpa [ByteArray.size] using hp)
theorem nit_pos (w : World) (b : Nat) (hb : w.heap.size = b) (S : ByteArray) (p : Nat) : (w.iter S p).iterPos b = p := by subst hb; exact World.iterPos_iter w S p
theorem bl2 {w w1 w2 : World} (b1 : Below w.heap.size w w1) (b2 : Below w1.heap.size w1 w2) : Below w.heap.size w w2 := b1.trans (b2.mono b1.size)
theorem bl_drew (w : World) (m : Nat) : Below w.heap.size w (w.drewN m) := ⟨rfl, rfl, rfl, Nat.le_refl _, fun _ _ => rfl⟩
theorem below_iter (w : World) (S : ByteArray) (p : Nat) : Below w.heap.size w (w.iter S p) := (Below.refl _ _).alloc (Nat.le_refl _) _
theorem dec_low (l : List UInt8) (pos : Nat) (hp : pos < l.length) (hc : l[pos].toNat < 128) : Utf8.decode ⟨l.toArray⟩ pos = (l[pos].toNat, 1) := decode_ascii ⟨l.toArray⟩ pos (by simpa [ByteArray.size] using hp) hc
theorem dec_high (l : List UInt8) (pos : Nat) (hp : pos < l.length) (hc : 128 ≤ l[pos].toNat) : 128 ≤ (Utf8.decode ⟨l.toArray⟩ pos).1 ∧ 1 ≤ (Utf8.decode ⟨l.toArray⟩ pos).2 := decode_high ⟨l.toArray⟩ pos (by simpa [ByteArray.size] using hp) hc
theorem nit_low (w : World) (b : Nat) (hb : w.heap.size = b) (l : List UInt8) (pos : Nat) (hp : pos < l.length) (hc : l[pos].toNat < 128) (ty : TypeId) :
    (Instr.next (.pointer (some ⟨b, 0, none⟩)) true ty).run Tryd.prog (w.iter ⟨l.toArray⟩ pos) = .ok (.tuple #[.bool true, .int .i64 pos, .int .i32 l[pos].toNat]) (w.iter ⟨l.toArray⟩ (pos + 1)) := by
  have h := nit_any w b hb l pos hp ty
  rw [dec_low l pos hp hc] at h
  exact h
theorem decodeN_conts (n b0 b1 b2 b3 : Nat) :
    (2 ≤ (Lib.decodeN n b0 b1 b2 b3).2 → b1 / 64 = 2 ∧ 1 < n) ∧ (3 ≤ (Lib.decodeN n b0 b1 b2 b3).2 → b2 / 64 = 2 ∧ 2 < n) ∧ (4 ≤ (Lib.decodeN n b0 b1 b2 b3).2 → b3 / 64 = 2 ∧ 3 < n) ∧ (Lib.decodeN n b0 b1 b2 b3).2 ≤ 4 := by
  unfold Lib.decodeN
  repeat' split
  all_goals (simp only; omega)
theorem ba_get (l : List UInt8) (i : Nat) (h : i < l.length) : (⟨l.toArray⟩ : ByteArray).get! i = l[i] := by
  show l.toArray[i]! = _
  simp [h]
/-- What a rune of more than one byte goes over: none of it is a byte below 128. -/
theorem dec_skip (l : List UInt8) (pos : Nat) (hp : pos < l.length) : pos + (Utf8.decode ⟨l.toArray⟩ pos).2 ≤ l.length ∧ ∀ j (hj : j < l.length), pos < j → j < pos + (Utf8.decode ⟨l.toArray⟩ pos).2 → 128 ≤ l[j].toNat := by
  rw [Lib.decode_at]
  obtain ⟨h2, h3, h4, h5⟩ := decodeN_conts ((⟨l.toArray⟩ : ByteArray).size - pos) ((⟨l.toArray⟩ : ByteArray).get! pos).toNat ((⟨l.toArray⟩ : ByteArray).get! (pos + 1)).toNat ((⟨l.toArray⟩ : ByteArray).get! (pos + 2)).toNat ((⟨l.toArray⟩ : ByteArray).get! (pos + 3)).toNat
  generalize (Lib.decodeN ((⟨l.toArray⟩ : ByteArray).size - pos) ((⟨l.toArray⟩ : ByteArray).get! pos).toNat ((⟨l.toArray⟩ : ByteArray).get! (pos + 1)).toNat ((⟨l.toArray⟩ : ByteArray).get! (pos + 2)).toNat ((⟨l.toArray⟩ : ByteArray).get! (pos + 3)).toNat).2 = N at *
  rw [str_size] at h2 h3 h4
  refine ⟨?_, fun j hj h1 hN => ?_⟩
  · by_cases e4 : 4 ≤ N
    · have := (h4 e4).2; omega
    · by_cases e3 : 3 ≤ N
      · have := (h3 e3).2; omega
      · by_cases e2 : 2 ≤ N
        · have := (h2 e2).2; omega
        · omega
  · obtain rfl | rfl | rfl : j = pos + 1 ∨ j = pos + 2 ∨ j = pos + 3 := by omega
    · have := (h2 (by omega)).1; rw [ba_get l _ hj] at this; omega
    · have := (h3 (by omega)).1; rw [ba_get l _ hj] at this; omega
    · have := (h4 (by omega)).1; rw [ba_get l _ hj] at this; omega
end Go.Proofs.YtgkjpfebjhhdkaaDoor
