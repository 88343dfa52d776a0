/- The walk of the program's class of a set. Conditions: a text that fits; the reader lies in memory; the table of names. -/
import Derived.Test.YtncnmeidciailaaDoorLb6
import Derived.Lib.IndexMore
import Derived.Lib.LastIndexLaws
namespace Go.Proofs.YtncnmeidciailaaDoor
open Go.RowKit
attribute [local go_sem] ext_eq app_eq get_eq
namespace Gl
theorem pfx2 (c : UInt8) (r : List UInt8) : List.isPrefixOf [58, 93] (c :: r) = (decide (c = 58) && (r.head? == some 93)) := by
  have e1 : ((58 : UInt8) == c) = decide (c = 58) := by rw [Bool.eq_iff_iff, beq_iff_eq, decide_eq_true_eq]; exact ⟨Eq.symm, Eq.symm⟩
  cases r with
  | nil =>
    show (((58 : UInt8) == c) && false) = (decide (c = 58) && false)
    rw [Bool.and_false, Bool.and_false]
  | cons d t =>
    have e2 : ((93 : UInt8) == d) = (some d == some 93) := by rw [Bool.eq_iff_iff, beq_iff_eq, beq_iff_eq, Option.some.injEq]; exact ⟨Eq.symm, Eq.symm⟩
    show (((58 : UInt8) == c) && (((93 : UInt8) == d) && true)) = (decide (c = 58) && (some d == some 93))
    rw [Bool.and_true, e1, e2]
theorem upTo_index : ∀ m : List UInt8, upTo m = if 0 ≤ Lib.index m [58, 93] then some (m.take (Lib.index m [58, 93]).toNat) else none
  | [] => rfl
  | c :: r => by
    have ih := upTo_index r
    have hg := Lib.index_ge r [58, 93]
    have e : Lib.index (c :: r) [58, 93] = if List.isPrefixOf [58, 93] (c :: r) = true then 0 else if (Lib.index r [58, 93] == -1) = true then -1 else Lib.index r [58, 93] + 1 := rfl
    rw [pfx2] at e
    unfold upTo
    by_cases h : (decide (c = 58) && (r.head? == some 93)) = true
    · rw [if_pos h] at e ⊢
      rw [e]; rfl
    · rw [if_neg h] at e ⊢
      rw [ih]
      by_cases h2 : Lib.index r [58, 93] = -1
      · rw [if_pos (by simp [h2])] at e
        rw [e, h2]; rfl
      · have h3 : 0 ≤ Lib.index r [58, 93] := by omega
        rw [if_neg (by simpa using h2)] at e
        rw [e, if_pos h3, if_pos (by omega), show (Lib.index r [58, 93] + 1).toNat = (Lib.index r [58, 93]).toNat + 1 by omega]
        rfl
theorem cut_upTo {m n : List UInt8} (h : upTo m = some n) : (Lib.cut m [58, 93]).1 = n := by
  rw [upTo_index] at h
  unfold Lib.cut
  split at h
  · rename_i h1
    rw [if_pos h1]; exact Option.some.inj h
  · cases h
/-- The last end of a class lies behind a place just if one does. -/
theorem last_upTo (l : List UInt8) (k : Nat) : ((k : Int) < Lib.lastIndex l [58, 93]) ↔ upTo (l.drop (k + 1)) ≠ none := by
  have hocc : ∀ j, Lib.occAt l [58, 93] (k + 1 + j) = Lib.occAt (l.drop (k + 1)) [58, 93] j := fun j => by
    unfold Lib.occAt; rw [List.drop_drop]
  have hroom : ∀ j, Lib.occAt l [58, 93] j = true → j + 2 ≤ l.length := fun j h => by
    rcases Lib.occAt_room h with h | h
    · exact h
    · cases h
  have hu : upTo (l.drop (k + 1)) ≠ none ↔ ∃ j, Lib.occAt (l.drop (k + 1)) [58, 93] j = true := by
    rw [upTo_index]
    rcases Lib.index_spec (l.drop (k + 1)) [58, 93] with ⟨h1, h2⟩ | ⟨i, h1, h2, h3, _⟩
    · rw [if_neg (by omega)]
      constructor
      · intro h; exact absurd rfl h
      · rintro ⟨j, hj⟩
        have hr := hroom (k + 1 + j) (by rw [hocc]; exact hj)
        rw [h2 j (by rw [List.length_drop]; omega)] at hj; cases hj
    · rw [if_pos (by omega)]
      exact ⟨fun _ => ⟨i, h3⟩, fun _ => by simp⟩
  rw [hu]
  unfold Lib.lastIndex
  split
  · rename_i hlen
    have hlen2 : 2 ≤ l.length := hlen
    rcases Lib.lastOcc_spec l [58, 93] (l.length - 2 + 1) with ⟨h1, h2⟩ | ⟨i, h1, h2, h3, h4⟩
    · show (k : Int) < Lib.lastOcc l [58, 93] (l.length - 2 + 1) ↔ _
      rw [h1]
      constructor
      · intro h; omega
      · rintro ⟨j, hj⟩
        rw [← hocc] at hj
        have := hroom _ hj
        rw [h2 _ (by omega)] at hj; cases hj
    · show (k : Int) < Lib.lastOcc l [58, 93] (l.length - 2 + 1) ↔ _
      rw [h2]
      constructor
      · intro h
        refine ⟨i - (k + 1), ?_⟩
        rw [← hocc, show k + 1 + (i - (k + 1)) = i by omega]; exact h3
      · rintro ⟨j, hj⟩
        rw [← hocc] at hj
        have := hroom _ hj
        by_cases e : i < k + 1 + j
        · rw [h4 _ e (by omega)] at hj; cases hj
        · omega
  · rename_i hlen
    constructor
    · intro h; omega
    · rintro ⟨j, hj⟩
      rw [← hocc] at hj
      have := hroom _ hj
      exact absurd (show 2 ≤ l.length by omega) hlen
theorem cls_some {l n : List UInt8} {k : Nat} (hk : k < l.length) (h : cls (l.drop k) = some n) : k + 1 < l.length ∧ l[k]? = some 91 ∧ l[k + 1]? = some 58 ∧ upTo (l.drop (k + 2)) = some n := by
  unfold cls at h
  split at h
  · rename_i h2
    have hl : k + 1 < l.length := by have := congrArg List.length h2; simp at this; omega
    have e0 : l[k]? = some 91 := by have := congrArg (fun x => x[0]?) h2; simpa using this
    have e1 : l[k + 1]? = some 58 := by have := congrArg (fun x => x[1]?) h2; simpa using this
    rw [List.drop_drop] at h
    exact ⟨hl, e0, e1, h⟩
  · cases h
end Gl
theorem vNew.of {W W' : World} {v v' : Value} (h : vNew W v v') (hs : W'.heap.size ≤ W.heap.size) : vNew W' v v' := by
  rcases h with h | ⟨b, h2, h3⟩
  · exact .inl h
  · exact .inr ⟨b, h2, by omega⟩
theorem By.at {B : Nat} {W : World} {v : Value} {bs : List UInt8} (h : By B W v bs) (j : Nat) (hj : j < bs.length) : ∃ g cap cur, v = .slice (some ⟨g, 0, none⟩) bs.length cap ∧ B ≤ g ∧ W.heap[g]? = some (Obj.cells cur 5 (0, 0)) ∧ cur[j]? = some (.int .u8 bs[j].toNat) := by
  have h' : W.ownsRow B 5 1 v bs.length (bCs bs) := h
  rcases h'.2 with ⟨e, h0⟩ | ⟨g, cap, cur, e1, e2, e3, _, _, _, e4⟩
  · rw [h0] at hj; exact absurd hj (Nat.not_lt_zero _)
  · refine ⟨g, cap, cur, e1, e2, e3, ?_⟩
    rw [← Array.getElem?_toList]
    have ht : (bCs bs)[j]? = some (.int .u8 bs[j].toNat) := by simp [bCs, hj]
    rw [← e4, List.getElem?_take] at ht
    split at ht
    · exact ht
    · cases ht
/-- What a class adds. -/
def clsO (s : Gl.SS) (n : List UInt8) : Option (Gl.SS × Nat) := if n ∈ Gl.names then some (s.add (Gl.lst (Gl.inC n) 256), n.length + 4) else none
/-- A class that is one. -/
theorem gClassYes (n L : List UInt8) (hin : n ∈ Gl.names) (hL : L = Gl.lst (Gl.inC n) 256) (w : World) (hc : CN w) : Calls Tryd.prog 24 #[.string ⟨n.toArray⟩] w fun e w' => Below w.heap.size w w' ∧ ∃ a c, e = .returned (.tuple #[.slice a L.length c, .int .i64 0]) ∧ By w.heap.size w' (.slice a L.length c) L := by
  refine (gClass n w hc).mono ?_
  intro e w' h
  unfold ClOut at h
  rw [← hL] at h
  obtain ⟨hb, h⟩ := h
  rcases h with ⟨_, v, he, hy⟩ | ⟨hno, _⟩
  · obtain ⟨a, c, rfl⟩ := hy.slice
    exact ⟨hb, a, c, he, hy⟩
  · exact absurd hin hno
set_option maxRecDepth 100000 in
set_option maxHeartbeats 1000000 in
/-- A class that is there. -/
theorem gSClass {B : Nat} {W : World} {rb : Nat} {l : List UInt8} {size : Int} {v : Value} {s : Gl.SS} (h : SR B W rb l size (Lib.lastIndex l [58, 93]) v s) (hB : B ≤ W.heap.size) (k : Nat) (hk : k < l.length) (hl : l.length < 4294967281) (n : List UInt8) (hn : Gl.cls (l.drop k) = some n) (hc : CN W) (hm : ML W) : Calls Tryd.prog 65 #[.pointer (some ⟨rb, 0, none⟩), .int .i64 ((k + 1 : Nat) : Int)] W (ItOut B rb l size (Lib.lastIndex l [58, 93]) v W k (clsO s n)) := by
  have hs : (⟨l.toArray⟩ : ByteArray).size = l.length := str_size l
  obtain ⟨hk1, e0, e1, hu⟩ := Gl.cls_some hk hn
  have hlen := Gl.upTo_len hu
  rw [List.length_drop] at hlen
  obtain ⟨mx, hmx⟩ := hm
  have hla : ¬ Lib.lastIndex l [58, 93] ≤ ((k + 1 : Nat) : Int) := by
    have := (Gl.last_upTo l (k + 1)).2 (by rw [hu]; simp)
    omega
  have hpf : Lib.hasPrefix (l.drop (k + 1)) [58] = true := by
    rw [List.drop_eq_getElem_cons hk1]
    have : l[k + 1] = 58 := by rw [List.getElem?_eq_getElem hk1] at e1; exact Option.some.inj e1
    simp [Lib.hasPrefix, this]
  have HPf : Hid (∀ w, Calls Tryd.prog 78 #[.string ⟨(l.drop (k + 1)).toArray⟩, .string ⟨#[58]⟩] w fun e w' => e = .returned (.bool true) ∧ w' = w) := fun w => by
    have := Tryd.strings_HasPrefix ⟨(l.drop (k + 1)).toArray⟩ ⟨#[58]⟩ w
    rw [show (Lib.hasPrefix (ByteArray.mk (l.drop (k + 1)).toArray).data.toList (ByteArray.mk #[58]).data.toList) = Lib.hasPrefix (l.drop (k + 1)) [58] from rfl, hpf] at this
    exact this
  have HCt : Hid (∀ w, w.cell? ⟨1, 0, none⟩ = some (.int .i64 mx) → Calls Tryd.prog 79 #[.string ⟨(l.drop (k + 2)).toArray⟩, .string ⟨#[58, 93]⟩] w fun e w' => ∃ r b, e = .returned (.tuple #[.string ⟨n.toArray⟩, .string ⟨r⟩, .bool b]) ∧ ∃ m, w' = w.drewN m) := fun w hw => by
    refine (Tryd.strings_Cut ⟨(l.drop (k + 2)).toArray⟩ ⟨#[58, 93]⟩ mx w (by rw [str_size, List.length_drop]; omega) hw).mono ?_
    rintro e w' ⟨rfl, m, rfl⟩
    refine ⟨(Lib.cut (l.drop (k + 2)) [58, 93]).2.1.toArray, (Lib.cut (l.drop (k + 2)) [58, 93]).2.2, ?_, m, rfl⟩
    show Ending.returned (.tuple #[.string ⟨(Lib.cut (l.drop (k + 2)) [58, 93]).1.toArray⟩, _, _]) = _
    rw [Gl.cut_upTo hu]
  have hw1 : IntKind.i64.wrap (((k + 1 : Nat) : Int) + 1) = ((k + 2 : Nat) : Int) := by rw [IntKind.wrap_i64]; omega
  obtain ⟨c0, -, c2, -, -, -, -⟩ := h.cells
  have HS := hidA h
  have HCl := hidA (fun w hc => gClass n w hc)
  have HG := hidA (fun w => gGiveUp w)
  have HAd := hidA (fun (s : Gl.SS) (v : Value) (w : World) (h : SR B w rb l size (Lib.lastIndex l [58, 93]) v s) hB c => gAdd h hB c 1 (by omega))
  have HCN := hidA hc
  have htk : List.take l.length l = l := by simp
  clear h hc hpf hu e0 e1 hn
  generalize Lib.lastIndex l [58, 93] = last at *
  by_cases hin : n ∈ Gl.names
  · have HO : Hid (clsO s n = some (s.add (Gl.lst (Gl.inC n) 256), n.length + 4)) := by show _ = _; unfold clsO; rw [if_pos hin]
    have HIn := hidA hin
    have hll := Gl.lst_len (Gl.inC n) 256
    clear hin HG
    generalize clsO s n = O at *
    obtain ⟨L, hL⟩ : ∃ L, L = Gl.lst (Gl.inC n) 256 := ⟨_, rfl⟩
    rw [← hL] at hll HO
    have HCl2 := hidA (fun w hc => gClassYes n L HIn.out hL w hc)
    clear hL HCl
    go_enter Tryd.func65, Tryd.ntmps65
    go_wp2_with (first | (go_at_call 78; go_loud (refine (HPf.out _).mono ?_); rintro e w1 ⟨rfl, hw1⟩; rw [hw1]; clear hw1 w1) | (go_at_call 79; go_loud (refine (HCt.out _ hmx).mono ?_); rintro e w2 ⟨r, b, rfl, m2, hw2⟩; (have HS2 : Hid (SR B w2 rb l size last v s) := by rw [hw2]; exact HS.out.grow (bl_drew W m2)); (have hb2 : Below W.heap.size W w2 := by rw [hw2]; exact bl_drew W m2); (have HC2 := hidA (HCN.out.grow hb2 (Nat.le_refl _))); (have HB2 := hidA hb2); (have z2 : W.heap.size ≤ w2.heap.size := hb2.size); clear hw2 hb2) | (go_at_call 24; go_loud (refine (HCl2.out _ HC2.out).mono ?_); rintro e w3 ⟨hb3, ya, yc, rfl, hy3⟩; (have HB3 := hidA (bl2 HB2.out hb3)); (have HS3 := hidA (HS2.out.grow hb3)); (have HY3 := hidA hy3); (have z3 : w2.heap.size ≤ w3.heap.size := hb3.size); clear hb3 hy3))
    go_loopw [50] (fun s50 W' => ∃ (j : Nat) (v' : Value), s50 = .int .i64 j ∧ j ≤ L.length ∧ Hid (SR B W' rb l size last v' (s.add (L.take j))) ∧ Hid (Md (sS rb v) w3 W') ∧ Hid (vNew w3 v v')) (fun s50 _ => L.length - (intOf s50).toNat)
    case atStart => exact ⟨0, v, rfl, Nat.zero_le _, hidA (by rw [List.take_zero, Gl.add_nil]; exact HS3.out), Md.refl _ _, vNew.refl _ _⟩
    case round =>
      obtain ⟨j, v', rfl, hj, HK, HMk, HV⟩ := hrel
      rename_i wr
      have hzr : w3.heap.size ≤ wr.heap.size := HMk.out.size
      by_cases hlt : j < L.length
      · obtain ⟨g, cap, cur, e1, e2, e3, e4⟩ := HY3.out.at j hlt
        injection e1 with e1a e1b e1c
        subst e1a
        have hgn : ¬ sS rb v g := fun h => h.elim (fun h => by have := HS2.out.lt.1; omega) (fun h => by have := (HS2.out.lt.2 g h).1; omega)
        have hcell : wr.cell? ⟨g, j, none⟩ = some (.int .u8 L[j].toNat) := by
          rw [cell_heap ((HMk.out.block g (heap_lt e3) hgn).trans e3)]; exact e4
        have hgl : g < wr.heap.size := by have := heap_lt e3; omega
        have HA1 := hidA (HAd.out _ _ wr HK.out (by omega) L[j])
        have HF : Hid ((s.add (L.take j)).add (List.replicate 1 L[j]) = s.add (L.take (j + 1))) := by
          show _ = _
          rw [Gl.add_add, List.take_succ_eq_append_getElem hlt]; rfl
        clear HAd e3 e4 hgn e1b e1c
        go_wp2_with (go_at_call 81; refine HA1.out.mono ?_; rintro e w4 ⟨rfl, v4, q1, q2, q3⟩; rw [HF.out] at q1; have Q1 := hidA q1; have Q2 := hidA q2; have Q3 := hidA q3; clear q1 q2 q3)
        exact ⟨⟨j + 1, v4, by first | rfl | go_num, hlt, Q1, sS_trans HMk.out HV.out Q2.out, HV.out.trans hzr Q3.out⟩, by simp [intOf]; omega⟩
      · obtain rfl : j = L.length := by omega
        have hwn : IntKind.i64.wrap (((k + 2 : Nat) : Int) + (n.length : Int)) = ((k + 2 + n.length : Nat) : Int) := by rw [IntKind.wrap_i64]; omega
        have hwm : IntKind.i64.wrap (((k + 2 + n.length : Nat) : Int) + 2) = ((k + 2 + n.length + 2 : Nat) : Int) := by rw [IntKind.wrap_i64]; omega
        clear HAd
        go_wp2
        go_ret
        exact ⟨(Md.of_below HB3.out).trans HMk.out, .inl ⟨_, _, v', HO.out, ret_int (by omega), by have := HK.out; rwa [List.take_length] at this, HV.out.of (by have := HB3.out.size; omega)⟩⟩
  · have HO : Hid (clsO s n = none) := by show _ = _; unfold clsO; rw [if_neg hin]
    have HIn := hidA hin
    clear hin HAd
    generalize clsO s n = O at *
    go_enter Tryd.func65, Tryd.ntmps65
    go_wp2_with (first | (go_at_call 78; go_loud (refine (HPf.out _).mono ?_); rintro e w1 ⟨rfl, hw1⟩; rw [hw1]; clear hw1 w1) | (go_at_call 79; go_loud (refine (HCt.out _ hmx).mono ?_); rintro e w2 ⟨r, b, rfl, m2, hw2⟩; (have HS2 : Hid (SR B w2 rb l size last v s) := by rw [hw2]; exact HS.out.grow (bl_drew W m2)); (have hb2 : Below W.heap.size W w2 := by rw [hw2]; exact bl_drew W m2); (have HC2 := hidA (HCN.out.grow hb2 (Nat.le_refl _))); (have HB2 := hidA hb2); clear hw2 hb2) | (go_at_call 24; go_loud (refine (HCl.out _ HC2.out).mono ?_); rintro e w3 ⟨hb3, h3⟩; (obtain rfl := (h3.resolve_left (fun h => HIn.out h.1)).2); (have HB3 := hidA (bl2 HB2.out hb3)); clear hb3 h3) | (go_at_call 80; go_loud (refine (HG.out _).mono ?_); rintro e w9 ⟨rfl, hw9⟩; rw [hw9]; clear hw9 w9))
    exact ⟨rfl, Md.of_below HB3.out, .inr ⟨HO.out, rfl⟩⟩
end Go.Proofs.YtncnmeidciailaaDoor
