/- The walks of the plain answer's Has and of the law's same. Conditions: the rows' cells are as said; lengths that fit. -/
import Derived.Test.YtncnmeidciailaaDoorLq2
namespace Go.Proofs.YtncnmeidciailaaDoor
open Go.RowKit
attribute [local go_sem] ext_eq app_eq get_eq
theorem Src.heap {W W' : World} {a : Option Addr} {l : List UInt8} (h : Src W a l) (e : W'.heap = W.heap) : Src W' a l := fun j hj => by
  obtain ⟨g, o, e1, hg, hc⟩ := h j hj
  exact ⟨g, o, e1, by rw [e]; exact hg, by rw [← hc]; exact World.cell?_of_block (w := W) (by rw [e])⟩
set_option maxRecDepth 100000 in
set_option maxHeartbeats 1000000 in
theorem gHas (l : List UInt8) (x : UInt8) (a : Option Addr) (c : Nat) (hl : l.length ≤ 2 ^ 62) (w : World) (hS : Src w a l) : Calls Tryd.prog 54 #[.slice a l.length c, .int .u8 x.toNat] w fun e w' => e = .returned (.bool (Gl.has l x)) ∧ w' = w := by
  have HS := hidA hS
  clear hS
  go_enter Tryd.func54, Tryd.ntmps54
  go_wp2
  go_loop [9] (fun s9 => ∃ (k : Nat), s9 = .int .i64 k ∧ k ≤ l.length ∧ Hid (x ∉ l.take k)) (fun s9 => l.length - (intOf s9).toNat)
  case atStart => exact ⟨0, rfl, Nat.zero_le _, by simp [Hid]⟩
  case round =>
    obtain ⟨k, rfl, hk, HK⟩ := hrel
    by_cases hlt : k < l.length
    · have hw1 : IntKind.i64.wrap ((k : Int) + 1) = ((k + 1 : Nat) : Int) := by rw [IntKind.wrap_i64]; omega
      obtain ⟨g, o, rfl, hg, hc⟩ := HS.out k hlt
      have HE := hidA (List.take_succ_eq_append_getElem hlt)
      have HM : Hid (l[k] ∈ l) := List.getElem_mem hlt
      generalize l[k] = y at *
      clear HS
      by_cases hyx : y = x
      · have h1 := byte_yes y x x.toNat rfl hyx
        have HR : Hid (Gl.has l x = true) := decide_eq_true (hyx ▸ HM.out)
        clear hyx
        go_wp2
        go_ret
        exact ⟨by rw [HR.out]; rfl, rfl⟩
      · have h1 := byte_no y x x.toNat rfl hyx
        have HK2 : Hid (x ∉ l.take (k + 1)) := by
          show x ∉ l.take (k + 1)
          rw [HE.out, List.mem_append, not_or]
          exact ⟨HK.out, by simpa using fun h => hyx h.symm⟩
        clear hyx HE
        go_wp2
        exact ⟨⟨k + 1, by first | rfl | go_num, hlt, HK2⟩, by simp [intOf]; omega⟩
    · have HR : Hid (Gl.has l x = false) := decide_eq_false (by have := HK.out; rwa [List.take_of_length_le (by omega)] at this)
      clear HS HK
      go_wp2
      go_ret
      exact ⟨by rw [HR.out]; rfl, rfl⟩
theorem Src.text {W : World} {a : Option Addr} {l : List UInt8} (h : Src W a l) (c : Nat) : (convert 32 9 (.slice a l.length c)).run Tryd.prog W = .ok (.string ⟨l.toArray⟩) W := by
  cases a with
  | none =>
    cases l with
    | nil => simp [convert, go_sem, Conv.bytesToString]; rfl
    | cons x r =>
      obtain ⟨g, o, e, _⟩ := h 0 (by simp)
      cases e
  | some ad =>
    exact run_convert_bytes_back (P := Tryd.prog) W 32 9 5 ad c l Tryd.underlying32 Tryd.underlying5 Tryd.underlying9 (fun j hj => by
      obtain ⟨g, o, e, _, hc⟩ := h j hj
      cases e
      rw [show (⟨g, o, none⟩ : Addr).add j = ⟨g, o + j, none⟩ by simp [Addr.add]]; exact hc)
theorem gSame (l m : List UInt8) (a a2 : Option Addr) (c c2 : Nat) (w : World) (hS : Src w a l) (hS2 : Src w a2 m) : Calls Tryd.prog 22 #[.slice a l.length c, .slice a2 m.length c2] w fun e w' => e = .returned (.bool (l == m)) ∧ w' = w := by
  have h1 := hS.text c
  have h2 := hS2.text c2
  clear hS hS2
  go_enter Tryd.func22, Tryd.ntmps22
  go_wp2
  go_ret
  exact ⟨rfl, rfl⟩
end Go.Proofs.YtncnmeidciailaaDoor
