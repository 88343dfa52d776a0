/- Bytes as a string. Condition: the slice can be read. -/
import Derived.Test.YtpcbpikhiooafaaGreatDoorM2
import Derived.Laws.BytesString
namespace Go.Proofs.YtpcbpikhiooafaaGreatDoor
open Go.RowKit
/-- The slice v can be read, as the bytes l. -/
def BytesAt (w : World) (v : Value) (l : List Nat) : Prop :=
  (∀ x ∈ l, x < 256) ∧ ∃ a cap, v = .slice a l.length cap ∧ (a = none → l = []) ∧ ∀ ad, a = some ad → ∀ j x, l[j]? = some x → w.cell? (ad.add j) = some (byteV x)
def strOf (l : List Nat) : ByteArray := ⟨(l.map UInt8.ofNat).toArray⟩
theorem strOf_foldl (l : List Nat) : ∀ s : ByteArray, (l.map Int.ofNat).foldl (fun r n => r.push (UInt8.ofNat n.toNat)) s = ⟨(s.data.toList ++ l.map UInt8.ofNat).toArray⟩ := by
  induction l with
  | nil => intro s; simp
  | cons x l ih =>
    intro s
    simp only [List.map_cons, List.foldl_cons]
    rw [ih]
    simp
theorem strOf_inj {a b : List Nat} (ha : ∀ x ∈ a, x < 256) (hb : ∀ x ∈ b, x < 256) (h : strOf a = strOf b) : a = b := by
  have h1 : a.map UInt8.ofNat = b.map UInt8.ofNat := by
    have := congrArg (fun s => s.data.toList) h
    simpa [strOf] using this
  have back : ∀ l : List Nat, (∀ x ∈ l, x < 256) → (l.map UInt8.ofNat).map UInt8.toNat = l := by
    intro l hl
    rw [List.map_map]
    conv => rhs; rw [← List.map_id l]
    exact List.map_congr_left fun x hx => by simp [Nat.mod_eq_of_lt (hl x hx)]
  rw [← back a ha, ← back b hb, h1]
theorem conv_bytes {w : World} {v : Value} {l : List Nat} (h : BytesAt w v l) : (convert 22 9 v).run Tryz.prog w = .ok (.string (strOf l)) w := by
  obtain ⟨hl, a, cap, rfl, hn, hs⟩ := h
  rw [run_convert_bytes_string w 22 9 5 a l.length cap (by kernel_rfl) (by kernel_rfl) (by kernel_rfl)]
  cases a with
  | none =>
    obtain rfl := hn rfl
    rfl
  | some ad =>
    have hload := run_loadCells_list (P := Tryz.prog) w ad (l.map byteV) (fun j v hv => by
      rw [List.getElem?_map, Option.map_eq_some_iff] at hv
      obtain ⟨x, hx, rfl⟩ := hv
      exact hs ad rfl j x hx)
    have := run_bytesToString (P := Tryz.prog) w ad l.length cap (l.map Int.ofNat) (by
      have e : (l.map Int.ofNat).map (Value.int .u8) = l.map byteV := by rw [List.map_map]; rfl
      rw [e]; simpa using hload)
    rw [this, strOf_foldl]
    rfl
end Go.Proofs.YtpcbpikhiooafaaGreatDoor
