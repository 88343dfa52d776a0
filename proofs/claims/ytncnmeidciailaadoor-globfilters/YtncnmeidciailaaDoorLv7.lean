/- The walk of the plain answer's step. Conditions: texts that fit; what bracket answers, as a premise. -/
import Derived.Test.YtncnmeidciailaaDoorLv6
namespace Go.Proofs.YtncnmeidciailaaDoor
open Go.RowKit
attribute [local go_sem] ext_eq app_eq get_eq
theorem set_br (w : World) {g : UInt8 → Bool} {n : Int} {L : List Value} (h : BrV g n L) : (w.alloc (.cells Tryd.zeroCells89 89)).setCells w.heap.size 0 L = w.alloc (.cells L.toArray 89) :=
  set_new w _ _ L (by rw [sizeBr, h.len]) (all_oneCell_toArray h.one) h.inf
theorem there_br (w : World) {g : UInt8 → Bool} {n : Int} {L : List Value} (h : BrV g n L) : (w.alloc (.cells Tryd.zeroCells89 89)).there w.heap.size 0 L.toArray.size := by
  rw [show L.toArray.size = 257 by simpa using h.len]; exact there_at (heap_new _ _) sizeBr
theorem BrV.cell {g : UInt8 → Bool} {n : Int} {L : List Value} (h : BrV g n L) (w : World) (k : UInt8) : (w.alloc (.cells L.toArray 89)).cell? ⟨w.heap.size, k.toNat, none⟩ = some (.bool (g k)) := by
  rw [World.cell?_alloc_at _ _ _ _ rfl]; simpa using h.bit k
theorem BrV.numC {g : UInt8 → Bool} {n : Int} {L : List Value} (h : BrV g n L) (w : World) : (w.alloc (.cells L.toArray 89)).cell? ⟨w.heap.size, 256, none⟩ = some (.int .i64 n) := by
  rw [World.cell?_alloc_at _ _ _ _ rfl]; simpa using h.num
set_option maxRecDepth 100000 in
set_option maxHeartbeats 8000000 in
theorem rStepI (hBr : ∀ (l : List UInt8) (fl : Int), l.length ≤ 2 ^ 40 → ∀ W, Calls Tryd.prog 59 #[.string ⟨l.toArray⟩, .int .i64 fl] W (BkOut l fl W))
    (p s : List UInt8) (i : Nat) (fl : Int) (hp : 0 < p.length) (hpl : p.length ≤ 2 ^ 40) (h42 : p[0] ≠ 42) (hsl : s.length ≤ 2 ^ 40) (hi : i ≤ s.length) (w : World) :
    Calls Tryd.prog 39 #[.string ⟨p.toArray⟩, .string ⟨s.toArray⟩, .int .i64 i, .int .i64 fl] w fun e w' => e = .returned (.tuple #[.bool (Gl.takes (Gl.flOf fl) s (Gl.piece (Gl.flOf fl) p).1 i), .int .i64 ((Gl.piece (Gl.flOf fl) p).2 : Nat)]) ∧ Below w.heap.size w w' := by
  have hsp : (⟨p.toArray⟩ : ByteArray).size = p.length := str_size p
  have hss : (⟨s.toArray⟩ : ByteArray).size = s.length := str_size s
  obtain ⟨shut, Hsh⟩ : ∃ b, Hid (b = (decide (s.length ≤ i) || Gl.guard (Gl.flOf fl) s i)) := ⟨(decide (s.length ≤ i) || Gl.guard (Gl.flOf fl) s i), rfl⟩
  have HLd := hidA (fun (hi : i < s.length) W => rLead s i hi hsl fl W)
  have HO := hidA (fun W => rOne p fl hp (by omega) W)
  have hone := Gl.one_pos (Gl.flOf fl) p (List.length_pos_iff.1 hp)
  go_enter Tryd.func39, Tryd.ntmps39
  go_upto_region 1 with fail
  go_cut [10] (fun v wc => w = wc ∧ v = .bool shut)
  case first =>
    by_cases hlt : i < s.length
    · have hd1 : decide ((s.length : Int) ≤ (i : Int)) = false := decide_eq_false (by omega)
      have hd2 : decide (s.length ≤ i) = false := decide_eq_false (by omega)
      have hgl := Gl.guard_ld (Gl.flOf fl) s i
      rw [List.getElem?_eq_getElem hlt, fl_path] at hgl
      have HL2 := hidA (HLd.out hlt)
      have hsh := Hsh.out
      rw [hd2, Bool.false_or, ← hgl] at hsh
      clear hgl HLd Hsh HO
      generalize Gl.ld (Gl.flOf fl) s i = L at *
      cases hq : (bits .and .i64 fl 1 != 0) with
      | false =>
        rw [hq] at hsh
        obtain rfl : shut = L := by rw [hsh]; simp
        clear hsh
        go_wp2_with (go_at_call 38; refine (HL2.out _).mono ?_; rintro e w1 ⟨rfl, hw'⟩; rw [hw']; clear hw' w1)
        go_meet
        exact ⟨rfl, rfl⟩
      | true =>
        rw [hq] at hsh
        by_cases c47 : s[i] = 47
        · have hc := byte_yes _ 47 47 rfl c47
          obtain rfl : shut = true := by rw [hsh, c47]; simp
          clear hsh c47 HL2
          go_wp2_with fail
          go_meet
          exact ⟨rfl, rfl⟩
        · have hc := byte_no _ 47 47 rfl c47
          obtain rfl : shut = L := by rw [hsh]; simp [c47]
          clear hsh c47
          go_wp2_with (go_at_call 38; refine (HL2.out _).mono ?_; rintro e w1 ⟨rfl, hw'⟩; rw [hw']; clear hw' w1)
          go_meet
          exact ⟨rfl, rfl⟩
    · have hd1 : decide ((s.length : Int) ≤ (i : Int)) = true := decide_eq_true (by omega)
      have hd2 : decide (s.length ≤ i) = true := decide_eq_true (by omega)
      obtain rfl : shut = true := by rw [Hsh.out, hd2]; rfl
      clear Hsh HLd HO
      go_wp2_with fail
      go_meet
      exact ⟨rfl, rfl⟩
  case rest =>
  obtain ⟨rfl, rfl⟩ := hcut
  clear HLd
  have HIn : Hid (i < s.length → shut = Gl.guard (Gl.flOf fl) s i) := fun h => by rw [Hsh.out, decide_eq_false (by omega), Bool.false_or]
  have HOut : Hid (¬ i < s.length → shut = true) := fun h => by rw [Hsh.out, decide_eq_true (by omega)]; rfl
  clear Hsh
  by_cases c63 : p[0] = 63
  · have hc := byte_yes _ 63 63 rfl c63
    have HP : Hid (Gl.piece (Gl.flOf fl) p = (.any, 1)) := Gl.piece_any (l := p) (k := 0) hp c63
    have HT : Hid (Gl.takes (Gl.flOf fl) s .any i = !shut) := by
      show _ = _
      by_cases hlt : i < s.length
      · rw [HIn.out hlt]; simp [Gl.takes, hlt]
      · rw [HOut.out hlt]; simp [Gl.takes, hlt]
    clear c63 h42 HO
    go_wp2_with fail
    go_ret2
    exact ⟨by rw [HP.out, HT.out]; rfl, Below.refl _ _⟩
  · have hc := byte_no _ 63 63 rfl c63
    have HThis : Hid (Gl.piece (Gl.flOf fl) p = (.this (Gl.fold (Gl.flOf fl) (Gl.one (Gl.flOf fl) p).1), (Gl.one (Gl.flOf fl) p).2) → ∀ hlt : i < s.length, Gl.takes (Gl.flOf fl) s (Gl.piece (Gl.flOf fl) p).1 i = (decide (s[i] = (Gl.one (Gl.flOf fl) p).1) || ((bits .and .i64 fl 8 != 0) && decide (Gl.other s[i] = (Gl.one (Gl.flOf fl) p).1)))) := fun h hlt => by
      rw [h, ← fl_fold, ← Gl.fold_other]
      simp only [Gl.takes, List.getElem?_eq_getElem hlt, Option.map_some]
      rw [Bool.eq_iff_iff]; simp
    by_cases c91 : p[0] = 91
    · have hc9 := byte_yes _ 91 91 rfl c91
      have HBr := hidA (hBr p.tail fl (by rw [List.length_tail]; omega) w)
      unfold BkOut at HBr
      rw [← List.drop_one (l := p)] at HBr
      generalize hbk : Gl.bracket (Gl.flOf fl) (p.drop 1) = BB at *
      rw [List.drop_one] at HBr
      have HPs : Hid (∀ g n, BB = some (g, n) → Gl.piece (Gl.flOf fl) p = (.some g, n + 1) ∧ n ≤ 2 ^ 40) := fun g n h => ⟨Gl.piece_br (l := p) (k := 0) hp c91 (hbk.trans h), by have := Gl.bracket_len (hbk.trans h); rw [List.length_drop] at this; simp only at this; omega⟩
      have HPn : Hid (BB = none → Gl.piece (Gl.flOf fl) p = (.this (Gl.fold (Gl.flOf fl) (Gl.one (Gl.flOf fl) p).1), (Gl.one (Gl.flOf fl) p).2)) := fun h => Gl.piece_nb (l := p) (k := 0) hp c91 (hbk.trans h)
      clear c91 hBr hbk
      go_upto_region 7 with (first | (go_at_call 59; with_reducible refine Calls.mono HBr.out ?_; rintro e w1 ⟨b1, L, g, n, rfl, hV, hcase⟩; (have B1 := hidA b1); (have HV := hidA hV); (have HCs := hidA hcase); (have HTh := hidA (there_br w1 hV)); (have HSt := hidA (set_br w1 hV)); clear b1 hV hcase) | (refine wpList_store_mid rfl 89 _ _ rfl w1.heap.size 0 L.toArray rfl rfl HTh.out HV.out.infA (all_oneCell_toArray HV.out.one) ?_; rw [show L.toArray.toList = L from rfl, HSt.out]))
      have cn := HV.out.numC w1
      have HB2 := hidA (B1.out.alloc B1.out.size (.cells L.toArray 89))
      clear HTh HSt HBr
      rcases HCs.out with ⟨rfl, hb⟩ | ⟨hn, hb⟩
      · have HP := hidA (HPn.out hb)
        clear hb HPn HPs HCs
        have cn0 : (w1.alloc (.cells L.toArray 89)).cell? ⟨w1.heap.size, 256, none⟩ = some (.int .i64 0) := cn
        clear cn HV B1
        generalize w1.alloc (.cells L.toArray 89) = W1 at *
        have HTk := hidA (HThis.out HP.out)
        clear HThis HIn HOut h42 c63
        rw [HP.out] at HTk
        generalize Gl.one (Gl.flOf fl) p = O at *
        obtain ⟨oc, on⟩ := O
        dsimp only at HO hone HTk HP
        by_cases hlt : i < s.length
        · have hd1 : decide ((s.length : Int) ≤ (i : Int)) = false := decide_eq_false (by omega)
          have hd2 : decide (s.length ≤ i) = false := decide_eq_false (by omega)
          have hTk := HTk.out hlt
          have HOt := hidA (fun W => rOther s[i] W)
          clear HTk
          by_cases e1 : s[i] = oc
          · have h1 := byte_yes _ oc oc.toNat rfl e1
            rw [decide_eq_true e1, Bool.true_or] at hTk
            have HT := hidA hTk
            clear e1 hTk HOt
            go_wp2_with (go_at_call 60; refine (HO.out _).mono ?_; rintro e w8 ⟨rfl, hw'⟩; rw [hw']; clear hw' w8)
            go_ret2
            exact ⟨by rw [HP.out]; simp only [HT.out]; rfl, HB2.out⟩
          · have h1 := byte_no _ oc oc.toNat rfl e1
            rw [decide_eq_false e1, Bool.false_or] at hTk
            cases hq : (bits .and .i64 fl 8 != 0) with
            | false =>
              rw [hq, Bool.false_and] at hTk
              have HT := hidA hTk
              clear e1 hTk HOt
              go_wp2_with (go_at_call 60; refine (HO.out _).mono ?_; rintro e w8 ⟨rfl, hw'⟩; rw [hw']; clear hw' w8)
              go_ret2
              exact ⟨by rw [HP.out]; simp only [HT.out]; rfl, HB2.out⟩
            | true =>
              rw [hq, Bool.true_and] at hTk
              have HT := hidA hTk
              have h2 : (((Gl.other s[i]).toNat : Int) == (oc.toNat : Int)) = decide (Gl.other s[i] = oc) := byte_eq _ _
              clear e1 hTk
              generalize Gl.other s[i] = ot at *
              go_wp2_with (first | (go_at_call 60; refine (HO.out _).mono ?_; rintro e w8 ⟨rfl, hw'⟩; rw [hw']; clear hw' w8) | (go_at_call 61; refine (HOt.out _).mono ?_; rintro e w9 ⟨rfl, hw'⟩; rw [hw']; clear hw' w9))
              go_ret2
              exact ⟨by rw [HP.out]; simp only [HT.out]; rfl, HB2.out⟩
        · have hd1 : decide ((s.length : Int) ≤ (i : Int)) = true := decide_eq_true (by omega)
          have hd2 : decide (s.length ≤ i) = true := decide_eq_true (by omega)
          have HT := hidA (Gl.takes_out (f := Gl.flOf fl) (x := Gl.Pc.this (Gl.fold (Gl.flOf fl) oc)) (Nat.le_of_not_lt hlt))
          clear HTk
          go_wp2_with (go_at_call 60; refine (HO.out _).mono ?_; rintro e w8 ⟨rfl, hw'⟩; rw [hw']; clear hw' w8)
          go_ret2
          exact ⟨by rw [HP.out]; simp only [HT.out]; rfl, HB2.out⟩
      · have HP := hidA (HPs.out g n hb).1
        have hd1 : decide ((0 : Int) < (n : Int)) = true := decide_eq_true (by omega)
        have hd2 : decide (0 < n) = true := decide_eq_true hn
        have hnl := (HPs.out g n hb).2
        have hwn : IntKind.i64.wrap ((n : Int) + 1) = ((n + 1 : Nat) : Int) := by rw [IntKind.wrap_i64]; omega
        clear hb HPn HPs HCs HThis h42 HO hone
        by_cases hlt : i < s.length
        · have hsg := HIn.out hlt
          have ck := HV.out.cell w1 s[i]
          have h8 := s[i].toNat_lt
          have HT : Hid (Gl.takes (Gl.flOf fl) s (.some g) i = (g s[i] && !shut)) := by
            show _ = _
            rw [hsg]; simp [Gl.takes, hlt]
          clear HIn HOut hsg
          generalize g s[i] = gk at *
          cases shut with
          | true =>
            generalize w1.alloc (.cells L.toArray 89) = W1 at *
            go_wp2_with (go_quiet (fail))
            go_ret2
            exact ⟨by rw [HP.out]; simp only [HT.out]; simp, HB2.out.trans ((bl_drew W1 _).mono HB2.out.size)⟩
          | false =>
            generalize w1.alloc (.cells L.toArray 89) = W1 at *
            go_wp2_with (go_quiet (fail))
            go_ret2
            exact ⟨by rw [HP.out]; simp only [HT.out]; simp, HB2.out.trans ((bl_drew W1 _).mono HB2.out.size)⟩
        · obtain rfl := HOut.out hlt
          have HT := hidA (Gl.takes_out (f := Gl.flOf fl) (x := Gl.Pc.some g) (Nat.le_of_not_lt hlt))
          clear HIn HOut
          generalize w1.alloc (.cells L.toArray 89) = W1 at *
          go_wp2_with (go_quiet (fail))
          go_ret2
          exact ⟨by rw [HP.out]; simp only [HT.out]; simp, HB2.out.trans ((bl_drew W1 _).mono HB2.out.size)⟩
    · have hc9 := byte_no _ 91 91 rfl c91
      have HP : Hid (Gl.piece (Gl.flOf fl) p = (.this (Gl.fold (Gl.flOf fl) (Gl.one (Gl.flOf fl) p).1), (Gl.one (Gl.flOf fl) p).2)) := Gl.piece_else (l := p) (k := 0) hp h42 c63 c91
      clear hBr
      have HTk := hidA (HThis.out HP.out)
      clear HThis HIn HOut h42 c63 c91
      rw [HP.out] at HTk
      generalize Gl.one (Gl.flOf fl) p = O at *
      obtain ⟨oc, on⟩ := O
      dsimp only at HO hone HTk HP
      by_cases hlt : i < s.length
      · have hd1 : decide ((s.length : Int) ≤ (i : Int)) = false := decide_eq_false (by omega)
        have hd2 : decide (s.length ≤ i) = false := decide_eq_false (by omega)
        have hTk := HTk.out hlt
        have HOt := hidA (fun W => rOther s[i] W)
        clear HTk
        by_cases e1 : s[i] = oc
        · have h1 := byte_yes _ oc oc.toNat rfl e1
          rw [decide_eq_true e1, Bool.true_or] at hTk
          have HT := hidA hTk
          clear e1 hTk HOt
          go_wp2_with (go_at_call 60; refine (HO.out _).mono ?_; rintro e w8 ⟨rfl, hw'⟩; rw [hw']; clear hw' w8)
          go_ret2
          exact ⟨by rw [HP.out]; simp only [HT.out]; rfl, Below.refl _ _⟩
        · have h1 := byte_no _ oc oc.toNat rfl e1
          rw [decide_eq_false e1, Bool.false_or] at hTk
          cases hq : (bits .and .i64 fl 8 != 0) with
          | false =>
            rw [hq, Bool.false_and] at hTk
            have HT := hidA hTk
            clear e1 hTk HOt
            go_wp2_with (go_at_call 60; refine (HO.out _).mono ?_; rintro e w8 ⟨rfl, hw'⟩; rw [hw']; clear hw' w8)
            go_ret2
            exact ⟨by rw [HP.out]; simp only [HT.out]; rfl, Below.refl _ _⟩
          | true =>
            rw [hq, Bool.true_and] at hTk
            have HT := hidA hTk
            have h2 : (((Gl.other s[i]).toNat : Int) == (oc.toNat : Int)) = decide (Gl.other s[i] = oc) := byte_eq _ _
            clear e1 hTk
            generalize Gl.other s[i] = ot at *
            go_wp2_with (first | (go_at_call 60; refine (HO.out _).mono ?_; rintro e w8 ⟨rfl, hw'⟩; rw [hw']; clear hw' w8) | (go_at_call 61; refine (HOt.out _).mono ?_; rintro e w9 ⟨rfl, hw'⟩; rw [hw']; clear hw' w9))
            go_ret2
            exact ⟨by rw [HP.out]; simp only [HT.out]; rfl, Below.refl _ _⟩
      · have hd1 : decide ((s.length : Int) ≤ (i : Int)) = true := decide_eq_true (by omega)
        have hd2 : decide (s.length ≤ i) = true := decide_eq_true (by omega)
        have HT := hidA (Gl.takes_out (f := Gl.flOf fl) (x := Gl.Pc.this (Gl.fold (Gl.flOf fl) oc)) (Nat.le_of_not_lt hlt))
        clear HTk
        go_wp2_with (go_at_call 60; refine (HO.out _).mono ?_; rintro e w8 ⟨rfl, hw'⟩; rw [hw']; clear hw' w8)
        go_ret2
        exact ⟨by rw [HP.out]; simp only [HT.out]; rfl, Below.refl _ _⟩
end Go.Proofs.YtncnmeidciailaaDoor
