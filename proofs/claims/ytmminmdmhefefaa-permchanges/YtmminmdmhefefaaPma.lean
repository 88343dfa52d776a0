/- clauses of the program: what its letters make of a mode, or that it gives up. Condition: lengths that fit. -/
import Derived.Test.YtmminmdmhefefaaPm8
import Derived.Test.YtmminmdmhefefaaPm9
import Derived.Laws.RangeAny
namespace Go.Proofs.Ytmminmdmhefefaa
open Go.RowKit
namespace Pm
def runB (r : Rd) : List UInt8 → Option Rd
  | [] => takeB r 44
  | c :: cs => (takeB r c.toNat).bind fun r' => runB r' cs
def signOk (r : Rd) : Prop := r.sign = 0 ∨ r.sign = 43 ∨ r.sign = 45 ∨ r.sign = 61
theorem take_sign {r r' : Rd} {c : Int} (h : takeB r c = some r') (hs : signOk r) : signOk r' := by
  unfold takeB at h
  split at h
  · rename_i hc
    cases h
    rcases hc with rfl | rfl | rfl
    · exact .inr (.inl rfl)
    · exact .inr (.inr (.inl rfl))
    · exact .inr (.inr (.inr rfl))
  · split at h
    · cases hx : whoseB c with
      | none => rw [hx] at h; cases h
      | some x => rw [hx] at h; cases h; exact hs
    · split at h
      · cases h; exact .inl rfl
      · unfold letterB at h
        split at h
        · cases h
        · cases hx : bitsB r.now r.mx c with
          | none => rw [hx] at h; cases h
          | some x => rw [hx] at h; cases h; exact hs
theorem take_high (r : Rd) (c : Int) (hc : 128 ≤ c) : takeB r c = none := by
  have h1 : whoseB c = none := by
    unfold whoseB
    repeat rw [if_neg (by omega)]
  have h2 : bitsB r.now r.mx c = none := by
    unfold bitsB
    repeat rw [if_neg (by omega)]
  unfold takeB letterB
  rw [if_neg (by omega), h1, h2, if_neg (show ¬ c = 44 by omega)]
  simp
def mxB (old : Int) : Int := if bits .and .i64 old 61440 == 16384 || bits .and .i64 old 73 != 0 then 73 else 0
def r0 (old umask : Int) : Rd := ⟨bits .and .i64 old 4095, mxB old, bits .andNot .i64 4095 umask, 0, 0, 0, false, false⟩
def endB : Option Rd → Ending
  | some r => .returned (.int .i64 r.now)
  | none => .panicked EI
end Pm
theorem nxt_any (w : World) (o : Obj) (b : Nat) (hb : w.heap.size = b) (l : List UInt8) (pos : Nat) (hp : pos < l.length) (ty : TypeId) :
    (Instr.next (.pointer (some ⟨b + 1, 0, none⟩)) true ty).run Try.prog ((w.alloc o).iter ⟨l.toArray⟩ pos) =
      .ok (.tuple #[.bool true, .int .i64 pos, .int .i32 (Utf8.decode ⟨l.toArray⟩ pos).1]) ((w.alloc o).iter ⟨l.toArray⟩ (pos + (Utf8.decode ⟨l.toArray⟩ pos).2)) := by
  have e := run_next_any (P := Try.prog) (w.alloc o) ⟨l.toArray⟩ pos ty (by simpa [ByteArray.size] using hp)
  rw [show (w.alloc o).heap.size = b + 1 by simp [hb]] at e
  exact e
theorem nxt_fin (w : World) (o : Obj) (b : Nat) (hb : w.heap.size = b) (l : List UInt8) (pos : Nat) (hp : ¬ pos < l.length) (ty : TypeId) :
    (Instr.next (.pointer (some ⟨b + 1, 0, none⟩)) true ty).run Try.prog ((w.alloc o).iter ⟨l.toArray⟩ pos) = .ok (.tuple #[.bool false]) ((w.alloc o).iter ⟨l.toArray⟩ pos) := by
  have e := run_next_end (P := Try.prog) (w.alloc o) ⟨l.toArray⟩ pos ty (by simpa [ByteArray.size] using hp)
  rw [show (w.alloc o).heap.size = b + 1 by simp [hb]] at e
  exact e
theorem pos_any (w : World) (o : Obj) (b : Nat) (hb : w.heap.size = b) (S : ByteArray) (p : Nat) : ((w.alloc o).iter S p).iterPos (b + 1) = p := by subst hb; exact it_pos w o S p
theorem dec_low (l : List UInt8) (pos : Nat) (hp : pos < l.length) (hc : l[pos].toNat < 128) : Utf8.decode ⟨l.toArray⟩ pos = (l[pos].toNat, 1) := decode_ascii ⟨l.toArray⟩ pos (by simpa [ByteArray.size] using hp) hc
theorem dec_high (l : List UInt8) (pos : Nat) (hp : pos < l.length) (hc : 128 ≤ l[pos].toNat) : 128 ≤ (Utf8.decode ⟨l.toArray⟩ pos).1 ∧ 1 ≤ (Utf8.decode ⟨l.toArray⟩ pos).2 := decode_high ⟨l.toArray⟩ pos (by simpa [ByteArray.size] using hp) hc
attribute [local go_sem] it_size at_cell at_frozen at_set row_mk iter_drew
set_option maxRecDepth 100000 in
set_option maxHeartbeats 2000000 in
theorem pClauses (l : List UInt8) (old umask : Int) (w : World) : Calls Try.prog 33 #[.string ⟨l.toArray⟩, .int .i64 old, .int .i64 umask] w fun e w' => e = Pm.endB (Pm.runB (Pm.r0 old umask) l) ∧ Below w.heap.size w w' := by
  have HR : Hid (Pm.r0 old umask = ⟨bits .and .i64 old 4095, Pm.mxB old, bits .andNot .i64 4095 umask, 0, 0, 0, false, false⟩) := rfl
  have hm : ((bits .and .i64 old 61440 == 16384) = true ∧ Pm.mxB old = 73) ∨ ((bits .and .i64 old 61440 == 16384) = false ∧ (bits .and .i64 old 73 != 0) = true ∧ Pm.mxB old = 73) ∨ ((bits .and .i64 old 61440 == 16384) = false ∧ (bits .and .i64 old 73 != 0) = false ∧ Pm.mxB old = 0) := by
    unfold Pm.mxB
    cases (bits .and .i64 old 61440 == 16384) <;> cases (bits .and .i64 old 73 != 0) <;> simp
  generalize hb : w.heap.size = b
  rcases hm with ⟨h1, hx⟩ | ⟨h1, h2, hx⟩ | ⟨h1, h2, hx⟩
  all_goals
    have HR' := HR.out
    rw [hx] at HR'
    have HQ : Hid (Pm.r0 old umask = _) := HR'
    clear HR HR' hx
    go_enter Try.func33, Try.ntmps33
    go_wp2
    go_loopw [9] (fun _ w' => ∃ (pos : Nat) (r : Pm.Rd) (w2 : World), Dr w w2 ∧ w' = (w2.alloc (.cells r.row 67)).iter ⟨l.toArray⟩ pos ∧ pos ≤ l.length ∧ Hid (Pm.signOk r) ∧ Hid (Pm.runB r (l.drop pos) = Pm.runB (Pm.r0 old umask) l)) (fun _ w' => l.length - w'.iterPos (b + 1))
    case atStart => exact ⟨0, _, w, Dr.refl w, by rw [← row_mk], Nat.zero_le _, .inl rfl, by show _ = _; rw [HQ.out]; rfl⟩
    case round =>
      obtain ⟨pos, r, w2, hD, rfl, hle, HS, HN⟩ := hrel
      have hb2 : w2.heap.size = b := by rw [hD.size, hb]
      have HD : Hid (Dr w w2) := hD
      clear hD
      by_cases hp : pos < l.length
      · have hdr : l.drop pos = l[pos] :: l.drop (pos + 1) := List.drop_eq_getElem_cons hp
        have HN2 := HN.out
        rw [hdr] at HN2
        clear hdr
        by_cases hc : l[pos].toNat < 128
        · have hnx : ∀ ty, (Instr.next (.pointer (some ⟨b + 1, 0, none⟩)) true ty).run Try.prog ((w2.alloc (.cells r.row 67)).iter ⟨l.toArray⟩ pos) = .ok (.tuple #[.bool true, .int .i64 pos, .int .i32 l[pos].toNat]) ((w2.alloc (.cells r.row 67)).iter ⟨l.toArray⟩ (pos + 1)) := fun ty => by
            have h := nxt_any w2 (.cells r.row 67) b hb2 l pos hp ty
            rw [dec_low l pos hp hc] at h
            exact h
          cases ht : Pm.takeB r l[pos].toNat with
          | none =>
            have HE : Hid (Pm.runB (Pm.r0 old umask) l = none) := by show _ = _; rw [← HN2, Pm.runB, ht]; rfl
            clear HN HN2
            have HT : Hid (Pm.takeB r l[pos].toNat = none) := ht
            clear ht
            go_wp2_with fail
            refine (pTake_no r l[pos].toNat HT.out w2 b hb2 _ _).mono ?_
            rintro e w' ⟨rfl, hB⟩
            go_wp2
            exact ⟨rfl, by rw [HE.out]; rfl, (HD.out.below b).trans (hB.mono (by omega))⟩
          | some r' =>
            have HE : Hid (Pm.runB r' (l.drop (pos + 1)) = Pm.runB (Pm.r0 old umask) l) := by show _ = _; rw [← HN2, Pm.runB, ht]; rfl
            clear HN HN2
            have HT : Hid (Pm.takeB r l[pos].toNat = some r') := ht
            clear ht
            go_wp2_with fail
            refine (pTake r r' HS.out l[pos].toNat HT.out w2 b hb2 _ _).mono ?_
            rintro e w' ⟨rfl, w3, hD3, rfl⟩
            go_wp2_with fail
            exact ⟨⟨pos + 1, r', w3, HD.out.trans hD3, rfl, hp, Pm.take_sign HT.out HS.out, HE⟩, by rw [pos_any w3 _ b (by rw [hD3.size, hb2]), pos_any w2 _ b hb2]; omega⟩
        · obtain ⟨hh1, -⟩ := dec_high l pos hp (by omega)
          have hnx : ∀ ty, (Instr.next (.pointer (some ⟨b + 1, 0, none⟩)) true ty).run Try.prog ((w2.alloc (.cells r.row 67)).iter ⟨l.toArray⟩ pos) = _ := fun ty => nxt_any w2 (.cells r.row 67) b hb2 l pos hp ty
          have HE : Hid (Pm.runB (Pm.r0 old umask) l = none) := by show _ = _; rw [← HN2, Pm.runB, Pm.take_high r _ (by omega)]; rfl
          generalize Utf8.decode ⟨l.toArray⟩ pos = D at hnx hh1
          have HT : Hid (Pm.takeB r D.1 = none) := Pm.take_high r _ (by omega)
          clear HN HN2 hh1
          go_wp2_with fail
          refine (pTake_no r D.1 HT.out w2 b hb2 _ _).mono ?_
          rintro e w' ⟨rfl, hB⟩
          go_wp2
          exact ⟨rfl, by rw [HE.out]; rfl, (HD.out.below b).trans (hB.mono (by omega))⟩
      · have hnx : ∀ ty, (Instr.next (.pointer (some ⟨b + 1, 0, none⟩)) true ty).run Try.prog ((w2.alloc (.cells r.row 67)).iter ⟨l.toArray⟩ pos) = _ := fun ty => nxt_fin w2 (.cells r.row 67) b hb2 l pos hp ty
        have HN2 := HN.out
        rw [List.drop_eq_nil_of_le (by omega)] at HN2
        cases ht : Pm.takeB r 44 with
        | none =>
          have HE : Hid (Pm.runB (Pm.r0 old umask) l = none) := by show _ = _; rw [← HN2, Pm.runB, ht]
          clear HN HN2
          have HT : Hid (Pm.takeB r 44 = none) := ht
          clear ht
          go_wp2_with fail
          refine (pTake_no r 44 HT.out w2 b hb2 _ _).mono ?_
          rintro e w' ⟨rfl, hB⟩
          go_wp2
          exact ⟨rfl, by rw [HE.out]; rfl, (HD.out.below b).trans (hB.mono (by omega))⟩
        | some r' =>
          have HE : Hid (Pm.runB (Pm.r0 old umask) l = some r') := by show _ = _; rw [← HN2, Pm.runB, ht]
          clear HN HN2
          have HT : Hid (Pm.takeB r 44 = some r') := ht
          clear ht
          go_wp2_with fail
          refine (pTake r r' HS.out 44 HT.out w2 b hb2 _ _).mono ?_
          rintro e w' ⟨rfl, w3, hD3, rfl⟩
          have hb3 : w3.heap.size = b := by rw [hD3.size, hb2]
          have HD3 : Hid (Dr w w3) := HD.out.trans hD3
          clear hD3
          unfold Pm.Rd.row
          go_wp2_with fail
          go_ret
          exact ⟨by rw [HE.out]; rfl, (HD3.out.below b).trans (by rw [← hb3]; exact below_it w3 _ _ _)⟩
end Go.Proofs.Ytmminmdmhefefaa
