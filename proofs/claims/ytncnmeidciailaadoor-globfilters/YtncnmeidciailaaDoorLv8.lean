/- The walk of the plain answer's Match. Conditions: texts that fit; what step answers, as a premise. -/
import Derived.Test.YtncnmeidciailaaDoorLv6
namespace Go.Proofs.YtncnmeidciailaaDoor
open Go.RowKit
attribute [local go_sem] ext_eq app_eq get_eq
namespace Gl
/-- The places that a star leads to. -/
def nx (f : Fl) (s : List UInt8) (E : Nat → Bool) : Nat → Bool
  | 0 => E 0
  | j + 1 => E (j + 1) || (nx f s E j && !guard f s j)
theorem nx_iff (f : Fl) (s : List UInt8) (E : Nat → Bool) : ∀ j, nx f s E j = true ↔ ∃ i, i ≤ j ∧ E i = true ∧ ∀ x, i ≤ x → x < j → guard f s x = false
  | 0 => by
    show E 0 = true ↔ _
    constructor
    · intro h; exact ⟨0, Nat.le_refl _, h, fun x h1 h2 => by omega⟩
    · rintro ⟨i, h1, h2, _⟩
      obtain rfl : i = 0 := by omega
      exact h2
  | j + 1 => by
    show (E (j + 1) || (nx f s E j && !guard f s j)) = true ↔ _
    rw [Bool.or_eq_true, Bool.and_eq_true, nx_iff f s E j, Bool.not_eq_true']
    constructor
    · rintro (h | ⟨⟨i, h1, h2, h3⟩, h4⟩)
      · exact ⟨j + 1, Nat.le_refl _, h, fun x h1 h2 => by omega⟩
      · refine ⟨i, by omega, h2, fun x hx hy => ?_⟩
        by_cases e : x = j
        · rw [e]; exact h4
        · exact h3 x hx (by omega)
    · rintro ⟨i, h1, h2, h3⟩
      by_cases e : i = j + 1
      · exact .inl (e ▸ h2)
      · exact .inr ⟨⟨i, by omega, h2, fun x hx hy => h3 x hx (by omega)⟩, h3 j (by omega) (by omega)⟩
theorem star_rel (f : Fl) (s : List UInt8) (E : Nat → Bool) (ps : List Pc) : (∃ j, j < s.length + 1 ∧ nx f s E j = true ∧ Mt f s ps j) ↔ ∃ i, i < s.length + 1 ∧ E i = true ∧ Mt f s (.star :: ps) i := by
  constructor
  · rintro ⟨j, h1, h2, h3⟩
    obtain ⟨i, h4, h5, h6⟩ := (nx_iff f s E j).1 h2
    exact ⟨i, by omega, h5, mt_star_iff.2 ⟨j, h4, h6, h3⟩⟩
  · rintro ⟨i, h1, h2, h3⟩
    obtain ⟨t, h4, h5, h6⟩ := mt_star_iff.1 h3
    have := h6.le
    exact ⟨t, by omega, (nx_iff f s E t).2 ⟨i, h4, h2, h5⟩, h6⟩
/-- The places behind a piece that takes one byte. -/
def tx (f : Fl) (s : List UInt8) (x : Pc) (E : Nat → Bool) (i : Nat) : Bool := decide (0 < i) && (E (i - 1) && takes f s x (i - 1))
theorem one_rel (f : Fl) (s : List UInt8) (x : Pc) (hx : x.isStar = false) (E : Nat → Bool) (ps : List Pc) : (∃ j, j < s.length + 1 ∧ tx f s x E j = true ∧ Mt f s ps j) ↔ ∃ i, i < s.length + 1 ∧ E i = true ∧ Mt f s (x :: ps) i := by
  constructor
  · rintro ⟨j, h1, h2, h3⟩
    unfold tx at h2
    simp only [Bool.and_eq_true, decide_eq_true_eq] at h2
    exact ⟨j - 1, by omega, h2.2.1, (mt_one hx).2 ⟨by omega, h2.2.2, by rw [show j - 1 + 1 = j by omega]; exact h3⟩⟩
  · rintro ⟨i, h1, h2, h3⟩
    obtain ⟨h4, h5, h6⟩ := (mt_one hx).1 h3
    exact ⟨i + 1, by omega, by unfold tx; rw [Nat.add_sub_cancel, h2, h5, decide_eq_true (by omega)]; rfl, h6⟩
theorem piece_nostar {f : Fl} {P : List UInt8} (hP : 0 < P.length) (h : P[0] ≠ 42) : (piece f P).1.isStar = false := by
  match P, hP with
  | c :: r, _ =>
    have hc : c ≠ 42 := h
    unfold piece
    simp only [if_neg hc]
    split
    · rfl
    · split <;> rfl
end Gl
theorem infoB2 : ∃ i, Tryd.prog.info? 4 = some i ∧ i.zero = some (.bool false) ∧ i.size = 1 ∧ i.bytes = 1 := info_of (by kernel_rfl)
theorem mkB2 (n : Nat) (hn : n ≤ 140737488355328) (w : World) : (Instr.makeSlice 54 (.int .i64 n) (.int .i64 n)).run Tryd.prog w = .ok (.slice (some ⟨w.heap.size, 0, none⟩) n n) (w.alloc (.cells (madeCells #[.bool false] n) 4)) := by
  obtain ⟨i, hi, hz, hs, hb⟩ := infoB2
  have h := run_make (P := Tryd.prog) w 54 4 i _ Tryd.underlying54 hi hz .i64 .i64 n n (by omega) (by omega) (by rw [hb]; omega) (by omega)
  rw [hs] at h
  simpa [Value.cells] using h
/-- A row of places. -/
def EndR (W : World) (eb n : Nat) (E : Nat → Bool) : Prop := ∃ arr, W.heap[eb]? = some (.cells arr 4 (0, 0)) ∧ arr.size = n ∧ ∀ i, i < n → arr[i]? = some (.bool (E i))
section
variable {W W' : World} {eb n : Nat} {E E' : Nat → Bool}
theorem EndR.cell (h : EndR W eb n E) (i : Nat) (hi : i < n) : W.cell? ⟨eb, i, none⟩ = some (.bool (E i)) := by
  obtain ⟨arr, h1, _, h2⟩ := h
  rw [cell_heap h1]; exact h2 i hi
theorem EndR.frozen (h : EndR W eb n E) (i : Nat) : W.frozen? ⟨eb, i, none⟩ = false := by
  obtain ⟨arr, h1, _⟩ := h
  simp [World.frozen?, h1]
theorem EndR.lt (h : EndR W eb n E) : eb < W.heap.size := by
  obtain ⟨arr, h1, _⟩ := h
  exact heap_lt h1
theorem EndR.grow (h : EndR W eb n E) {B : Nat} (hB : Below B W W') (hb : eb < B) : EndR W' eb n E := by
  obtain ⟨arr, h1, h2⟩ := h
  exact ⟨arr, (hB.block _ hb).trans h1, h2⟩
theorem EndR.congr (h : EndR W eb n E) (e : ∀ i, i < n → E' i = E i) : EndR W eb n E' := by
  obtain ⟨arr, h1, h0, h2⟩ := h
  exact ⟨arr, h1, h0, fun i hi => by rw [e i hi]; exact h2 i hi⟩
theorem EndR.off (h : EndR W eb n E) (b i : Nat) (v : Value) (hb : eb ≠ b) : EndR (W.setCell ⟨b, i, none⟩ v) eb n E := by
  obtain ⟨arr, h1, h2⟩ := h
  exact ⟨arr, (Below.heap_setCell _ _ _ _ hb).trans h1, h2⟩
theorem EndR.set (h : EndR W eb n E) (k : Nat) (hk : k < n) (v : Bool) : EndR (W.setCell ⟨eb, k, none⟩ (.bool v)) eb n (fun i => if i = k then v else E i) := by
  obtain ⟨arr, h1, h0, h2⟩ := h
  refine ⟨arr.setIfInBounds k (.bool v), ?_, by simpa using h0, fun j hj => ?_⟩
  · show (W.heap.modify eb _)[eb]? = _
    rw [Array.getElem?_modify, if_pos rfl, h1]; rfl
  · show _ = some (Value.bool (if j = k then v else E j))
    rw [Array.getElem?_setIfInBounds]
    by_cases e : j = k
    · subst e; rw [if_pos rfl, if_pos (by omega), if_pos rfl]
    · rw [if_neg (fun h => e h.symm), if_neg e]; exact h2 j hj
end
theorem EndR.new (W : World) (n : Nat) : EndR (W.alloc (.cells (madeCells #[.bool false] n) 4)) W.heap.size n (fun _ => false) :=
  ⟨_, heap_new _ _, size_madeCells _ _, fun i hi => by simp [madeCells, hi, Nat.mod_one]⟩
set_option maxRecDepth 100000 in
set_option maxHeartbeats 8000000 in
theorem rMatchI (l s : List UInt8) (fl : Int) (hl : l.length ≤ 2 ^ 39) (hsl : s.length ≤ 2 ^ 39) (w : World)
    (hSt : ∀ (p : List UInt8) (i : Nat) (hp : 0 < p.length), p.length ≤ 2 ^ 40 → p[0] ≠ 42 → i ≤ s.length → ∀ W, Calls Tryd.prog 39 #[.string ⟨p.toArray⟩, .string ⟨s.toArray⟩, .int .i64 i, .int .i64 fl] W fun e w' => e = .returned (.tuple #[.bool (Gl.takes (Gl.flOf fl) s (Gl.piece (Gl.flOf fl) p).1 i), .int .i64 ((Gl.piece (Gl.flOf fl) p).2 : Nat)]) ∧ Below W.heap.size W w') :
    Calls Tryd.prog 13 #[.string ⟨l.toArray⟩, .string ⟨s.toArray⟩, .int .i64 fl] w fun e w' => ∃ b, e = .returned (.bool b) ∧ (b = true ↔ Gl.Mt (Gl.flOf fl) s (Gl.pcs (Gl.flOf fl) l) 0) ∧ Below w.heap.size w w' := by
  have hss : (⟨s.toArray⟩ : ByteArray).size = s.length := str_size s
  have HSt := hidA hSt
  have HLd := hidA (fun i (hi : i < s.length) W => rLead s i hi (by omega) fl W)
  obtain ⟨f, Hf⟩ : ∃ f, Hid (f = Gl.flOf fl) := ⟨_, rfl⟩
  rw [← Hf.out] at HSt HLd
  obtain ⟨n1, Hn1⟩ : ∃ n, Hid (n = s.length + 1) := ⟨_, rfl⟩
  have hwn : IntKind.i64.wrap ((s.length : Int) + 1) = (n1 : Int) := by have := Hn1.out; rw [IntKind.wrap_i64]; omega
  have hn1 : s.length < n1 := by have := Hn1.out; omega
  have hn0 : 0 < n1 := by omega
  have hn1b : n1 ≤ 2 ^ 40 := by have := Hn1.out; omega
  have hmk := fun W => mkB2 n1 (by omega) W
  have HA := hidA (EndR.new w n1)
  have HN : Hid (∀ W : World, EndR (W.alloc (.cells (madeCells #[.bool false] n1) 4)) W.heap.size n1 (fun _ => false)) := fun W => EndR.new W n1
  generalize madeCells #[Value.bool false] n1 = A at *
  have c0 : A[0]? = some (.bool false) := by
    obtain ⟨arr, h1, _, h2⟩ := HA.out
    have h3 : (w.alloc (.cells A 4)).heap[w.heap.size]? = some (.cells A 4 (0, 0)) := heap_new _ _
    rw [h3] at h1
    cases h1
    exact h2 0 hn0
  have HE0 : Hid (EndR (w.alloc (.cells (A.setIfInBounds 0 (.bool true)) 4)) w.heap.size n1 (fun i => if i = 0 then true else false)) := by
    obtain ⟨arr, h1, h0, h2⟩ := HA.out
    have h3 : (w.alloc (.cells A 4)).heap[w.heap.size]? = some (.cells A 4 (0, 0)) := heap_new _ _
    rw [h3] at h1
    cases h1
    refine ⟨_, heap_new _ _, by simpa using h0, fun j hj => ?_⟩
    show _ = some (Value.bool (if j = 0 then true else false))
    rw [Array.getElem?_setIfInBounds]
    by_cases e : j = 0
    · subst e; rw [if_pos rfl, if_pos (by omega), if_pos rfl]
    · rw [if_neg (fun h => e h.symm), if_neg e]; exact h2 j hj
  have HB0 : Hid (Below w.heap.size w (w.alloc (.cells (A.setIfInBounds 0 (.bool true)) 4))) := (Below.refl _ _).alloc (Nat.le_refl _) _
  have HM0 : Hid ((∃ i, i < n1 ∧ (if i = 0 then true else false) = true ∧ Gl.Mt f s (Gl.pcs f l) i) ↔ Gl.Mt f s (Gl.pcs f l) 0) := by
    show _ ↔ _
    constructor
    · rintro ⟨i, h1, h2, h3⟩
      by_cases e : i = 0
      · rw [e] at h3; exact h3
      · rw [if_neg e] at h2; cases h2
    · intro h; exact ⟨0, hn0, rfl, h⟩
  clear hSt HA
  go_enter Tryd.func13, Tryd.ntmps13
  go_wp2_with fail
  generalize w.alloc (.cells (A.setIfInBounds 0 (.bool true)) 4) = W0 at *
  clear c0
  go_loopg [0, 7] l.length (fun k s0 s7 W => ∃ (P : List UInt8) (eb : Nat) (E : Nat → Bool), k = P.length ∧ s0 = .string ⟨P.toArray⟩ ∧ s7 = .slice (some ⟨eb, 0, none⟩) n1 n1 ∧ P.length ≤ l.length ∧ w.heap.size ≤ eb ∧ Hid (EndR W eb n1 E) ∧ Hid (Below w.heap.size w W) ∧ Hid ((∃ i, i < n1 ∧ E i = true ∧ Gl.Mt f s (Gl.pcs f P) i) ↔ Gl.Mt f s (Gl.pcs f l) 0))
  case atStart => exact ⟨l, _, _, rfl, rfl, rfl, Nat.le_refl _, Nat.le_refl _, HE0, HB0, HM0⟩
  case round =>
    obtain ⟨P, eb, E, rfl, rfl, rfl, hPl, heb, HE, HB, HM⟩ := hrel
    clear HE0 HB0 HM0
    have hsP : (⟨P.toArray⟩ : ByteArray).size = P.length := str_size P
    by_cases hP : 0 < P.length
    · have HN1 := hidA (HN.out wr)
      have HE1 := hidA (HE.out.grow ((Below.refl wr.heap.size wr).alloc (Nat.le_refl _) (.cells A 4)) HE.out.lt)
      have HB1 := hidA (HB.out.alloc HB.out.size (.cells A 4))
      have hnb : eb < wr.heap.size := HE.out.lt
      have hmk1 := hmk wr
      obtain ⟨hp1, hp2⟩ := Gl.piece_pos f P (List.length_pos_iff.1 hP)
      have Hpcs := hidA (Gl.pcs_step f P (List.length_pos_iff.1 hP))
      clear HE HB hmk
      by_cases c42 : P[0] = 42
      · have hc := byte_yes _ 42 42 rfl c42
        have HP : Hid (Gl.piece f P = (.star, 1)) := Gl.piece_star (l := P) (k := 0) hP c42
        have HM2 : Hid ((∃ i, i < n1 ∧ Gl.nx f s E i = true ∧ Gl.Mt f s (Gl.pcs f P.tail) i) ↔ Gl.Mt f s (Gl.pcs f l) 0) := by
          show _ ↔ _
          rw [← HM.out, Hpcs.out, HP.out, Hn1.out, List.drop_one]
          exact Gl.star_rel f s E _
        have hPt : P.tail.length < P.length := by rw [List.length_tail]; omega
        clear c42 HP HM Hpcs hp1 hp2 HSt
        go_wp2_with fail
        generalize wr.alloc (.cells A 4) = W1 at *
        generalize wr.heap.size = nb at *
        go_loopg [32] n1 (fun k s32 W => ∃ (j : Nat), k = n1 - j ∧ s32 = .int .i64 j ∧ j ≤ n1 ∧ Hid (EndR W nb n1 (fun i => if i < j then Gl.nx f s E i else (decide (i = j) && decide (0 < j) && (Gl.nx f s E (j - 1) && !Gl.guard f s (j - 1))))) ∧ Hid (EndR W eb n1 E) ∧ Hid (Below w.heap.size w W))
        case atStart => exact ⟨0, rfl, rfl, Nat.zero_le _, hidA (HN1.out.congr (fun i _ => by simp)), HE1, HB1⟩
        case round =>
          obtain ⟨j, rfl, rfl, hj, HNj, HEj, HBj⟩ := hrel
          clear HN1 HE1 HB1
          by_cases hlj : j < n1
          · have hw1 : IntKind.i64.wrap ((j : Int) + 1) = ((j + 1 : Nat) : Int) := by rw [IntKind.wrap_i64]; omega
            obtain ⟨v, Hv⟩ : ∃ v, Hid (v = (decide (0 < j) && (Gl.nx f s E (j - 1) && !Gl.guard f s (j - 1)))) := ⟨_, rfl⟩
            have cn : wr.cell? ⟨nb, j, none⟩ = some (.bool v) := by
              have := HNj.out.cell j hlj
              rwa [if_neg (Nat.lt_irrefl _), decide_eq_true rfl, Bool.true_and, ← Hv.out] at this
            have ce := HEj.out.cell j hlj
            have fn := HNj.out.frozen j
            have Hnv : Hid (Gl.nx f s E j = (v || E j)) := by
              show _ = _
              rw [Hv.out]
              cases j with
              | zero => show E 0 = _; simp
              | succ j => show (E (j + 1) || (Gl.nx f s E j && !Gl.guard f s j)) = _; rw [decide_eq_true (Nat.succ_pos _), Nat.add_sub_cancel, Bool.true_and, Bool.or_comm]
            obtain ⟨nv, HNv⟩ : ∃ b, Hid (b = Gl.nx f s E j) := ⟨_, rfl⟩
            have Hnv2 : Hid (nv = (v || E j)) := HNv.out.trans Hnv.out
            have HN2 := hidA (HNj.out.set j hlj nv)
            have HE2 := hidA (HEj.out.off nb j (.bool nv) (by omega))
            have HB2 := hidA (HBj.out.setCell (p := ⟨nb, j, none⟩) (by show _ ≤ nb; omega) (.bool nv))
            clear HNj HEj HBj Hnv Hv
            go_upto_region 9 with fail
            go_cut [46] (fun c wc => c = .bool nv ∧ wc = wr.setCell ⟨nb, j, none⟩ (.bool nv))
            case first =>
              cases v with
              | true =>
                obtain rfl : nv = true := Hnv2.out
                clear HN2 HE2 HB2
                go_wp2_with fail
                go_meet
                exact ⟨rfl, rfl⟩
              | false =>
                have h1 : nv = E j := Hnv2.out
                rw [← h1] at ce
                clear HN2 HE2 HB2 Hnv2 h1
                go_wp2_with fail
                go_meet
                exact ⟨rfl, rfl⟩
            case rest =>
            obtain ⟨rfl, rfl⟩ := hcut
            have cn2 := HN2.out.cell j hlj
            rw [if_pos rfl] at cn2
            clear cn ce fn Hnv2
            generalize wr.setCell ⟨nb, j, none⟩ (.bool nv) = W2 at *
            obtain ⟨Cd, HCd⟩ : ∃ b, Hid (b = (decide (j < s.length) && nv && !Gl.guard f s j)) := ⟨(decide (j < s.length) && nv && !Gl.guard f s j), rfl⟩
            go_upto_region 10 with fail
            go_cut [76] (fun c wc => W2 = wc ∧ c = .bool Cd)
            case first =>
              by_cases hjl : j < s.length
              · have hd1 : decide ((j : Int) < (s.length : Int)) = true := decide_eq_true (by omega)
                have hd2 : decide (j < s.length) = true := decide_eq_true hjl
                cases nv with
                | false =>
                  obtain rfl : Cd = false := by rw [HCd.out]; simp
                  clear HCd HN2 HE2 HB2
                  go_wp2_with fail
                  go_meet
                  exact ⟨rfl, rfl⟩
                | true =>
                  have hgl := Gl.guard_ld f s j
                  rw [List.getElem?_eq_getElem hjl] at hgl
                  have hfp : f.path = (bits .and .i64 fl 1 != 0) := by rw [Hf.out]; rfl
                  rw [hfp] at hgl
                  have HL2 := hidA (HLd.out j hjl)
                  have hcd := HCd.out
                  rw [hd2, ← hgl, Bool.true_and, Bool.true_and] at hcd
                  clear hgl HCd HN2 HE2 HB2 hfp
                  generalize Gl.ld f s j = L at *
                  cases hq : (bits .and .i64 fl 1 != 0) with
                  | false =>
                    rw [hq] at hcd
                    obtain rfl : Cd = !L := by rw [hcd]; simp
                    clear hcd
                    go_wp2_with (go_at_call 38; refine (HL2.out _).mono ?_; rintro e w1 ⟨rfl, hw'⟩; rw [hw']; clear hw' w1)
                    go_meet
                    exact ⟨rfl, rfl⟩
                  | true =>
                    rw [hq] at hcd
                    by_cases c47 : s[j] = 47
                    · have hc := byte_yes _ 47 47 rfl c47
                      obtain rfl : Cd = false := by rw [hcd, c47]; simp
                      clear hcd c47
                      go_wp2_with fail
                      go_meet
                      exact ⟨rfl, rfl⟩
                    · have hc := byte_no _ 47 47 rfl c47
                      obtain rfl : Cd = !L := by rw [hcd]; simp [c47]
                      clear hcd c47
                      go_wp2_with (go_at_call 38; refine (HL2.out _).mono ?_; rintro e w1 ⟨rfl, hw'⟩; rw [hw']; clear hw' w1)
                      go_meet
                      exact ⟨rfl, rfl⟩
              · have hd1 : decide ((j : Int) < (s.length : Int)) = false := decide_eq_false (by omega)
                have hd2 : decide (j < s.length) = false := decide_eq_false hjl
                obtain rfl : Cd = false := by rw [HCd.out, hd2]; rfl
                clear HCd HN2 HE2 HB2
                go_wp2_with fail
                go_meet
                exact ⟨rfl, rfl⟩
            case rest =>
            obtain ⟨rfl, rfl⟩ := hcut
            have HNx : Hid (nv = Gl.nx f s E j) := HNv
            cases Cd with
            | true =>
              have hcd := HCd.out.symm
              simp only [Bool.and_eq_true, decide_eq_true_eq, Bool.not_eq_true'] at hcd
              have hj1 : j + 1 < n1 := by have := Hn1.out; omega
              obtain ⟨m, Hm⟩ : ∃ m, Hid (m = j + 1) := ⟨_, rfl⟩
              have hwm : IntKind.i64.wrap ((j : Int) + 1) = (m : Int) := by rw [hw1, Hm.out]
              have hmn : m < n1 := by have := Hm.out; omega
              have cm := HN2.out.cell m hmn
              have fm := HN2.out.frozen m
              have HN3 := hidA ((HN2.out.set m hmn true).congr (E' := fun i => if i < m then Gl.nx f s E i else (decide (i = m) && decide (0 < m) && (Gl.nx f s E (m - 1) && !Gl.guard f s (m - 1)))) (fun i hi => by
                have hm := Hm.out
                have h1 : Gl.nx f s E j = true := HNx.out.symm.trans hcd.1.2
                by_cases e : i = m
                · rw [if_pos e, if_neg (by omega), decide_eq_true e, decide_eq_true (by omega), show m - 1 = j by omega, h1, hcd.2]; rfl
                · rw [if_neg e]
                  by_cases e2 : i = j
                  · rw [if_pos e2, if_pos (by omega), e2, HNx.out]
                  · rw [if_neg e2]
                    by_cases e3 : i < j
                    · rw [if_pos e3, if_pos (by omega)]
                    · rw [if_neg e3, if_neg (by omega), decide_eq_false e, decide_eq_false e2]; rfl))
              have HE3 := hidA (HE2.out.off nb m (.bool true) (by omega))
              have HB3 := hidA (HB2.out.setCell (p := ⟨nb, m, none⟩) (by show _ ≤ nb; omega) (.bool true))
              have hm3 : n1 - m < n1 - j := by have := Hm.out; omega
              clear HN2 HE2 HB2 HCd hcd hw1 HNx HNv Hm
              go_wp2_with fail
              go_roundg (n1 - m)
              case measure => omega
              case rel => exact ⟨m, rfl, by first | rfl | go_num, by omega, HN3, HE3, HB3⟩
            | false =>
              have HN3 := hidA (HN2.out.congr (E' := fun i => if i < j + 1 then Gl.nx f s E i else (decide (i = j + 1) && decide (0 < j + 1) && (Gl.nx f s E (j + 1 - 1) && !Gl.guard f s (j + 1 - 1)))) (fun i hi => by
                have hcd := HCd.out
                rw [HNx.out] at hcd
                by_cases e2 : i = j
                · rw [if_pos e2, if_pos (by omega), e2, HNx.out]
                · rw [if_neg e2]
                  by_cases e3 : i < j
                  · rw [if_pos e3, if_pos (by omega)]
                  · rw [if_neg e3, if_neg (by omega), decide_eq_false e2]
                    by_cases e : i = j + 1
                    · have h1 : j < s.length := by have := Hn1.out; omega
                      rw [decide_eq_true h1, Bool.true_and] at hcd
                      rw [Nat.add_sub_cancel, ← hcd]; simp
                    · rw [decide_eq_false e]; rfl))
              clear HN2 HCd HNx HNv
              go_wp2_with fail
              go_roundg (n1 - (j + 1))
              case measure => omega
              case rel => exact ⟨j + 1, rfl, by first | rfl | go_num, hlj, HN3, HE2, HB2⟩
          · obtain rfl : j = n1 := by omega
            have HN3 := hidA (HNj.out.congr (E' := Gl.nx f s E) (fun i hi => by rw [if_pos hi]))
            clear HNj HEj
            go_wp2_with fail
            go_roundg P.tail.length
            case measure => omega
            case rel => exact ⟨P.tail, nb, _, rfl, by first | rfl | simp, rfl, by omega, by omega, HN3, HBj, HM2⟩
      · have hc := byte_no _ 42 42 rfl c42
        have HPx := hidA (Gl.piece_nostar (f := f) hP c42)
        have HS2 := hidA (fun i hi W => HSt.out P i hP (by omega) c42 hi W)
        clear c42 HSt HLd
        generalize hpc : Gl.piece f P = X at *
        clear hpc
        obtain ⟨x, d⟩ := X
        dsimp only at HPx HS2 Hpcs hp1 hp2
        have HM2 : Hid ((∃ i, i < n1 ∧ Gl.tx f s x E i = true ∧ Gl.Mt f s (Gl.pcs f (P.drop d)) i) ↔ Gl.Mt f s (Gl.pcs f l) 0) := by
          show _ ↔ _
          rw [← HM.out, Hpcs.out, Hn1.out]
          exact Gl.one_rel f s x HPx.out E _
        have Hto : Hid (∀ i, ¬ i < s.length → Gl.takes f s x i = false) := fun i h => Gl.takes_out (Nat.le_of_not_lt h)
        have hPd : (P.drop d).length < P.length := by rw [List.length_drop]; omega
        clear HM Hpcs HPx
        go_wp2_with fail
        generalize wr.alloc (.cells A 4) = W1 at *
        generalize wr.heap.size = nb at *
        go_loopg [10, 87] n1 (fun k s10 s87 W => ∃ (j dd : Nat), k = n1 - j ∧ s10 = .int .i64 dd ∧ s87 = .int .i64 j ∧ j ≤ n1 ∧ Hid (j = 0 ∨ dd = d) ∧ Hid (EndR W nb n1 (fun i => decide (i ≤ j) && Gl.tx f s x E i)) ∧ Hid (EndR W eb n1 E) ∧ Hid (Below w.heap.size w W))
        case atStart => exact ⟨0, 1, rfl, rfl, rfl, Nat.zero_le _, .inl rfl, hidA (HN1.out.congr (fun i _ => by
          unfold Gl.tx
          by_cases h : 0 < i
          · rw [decide_eq_false (by omega), Bool.false_and]
          · rw [decide_eq_false h, Bool.false_and, Bool.and_false])), HE1, HB1⟩
        case round =>
          obtain ⟨j, dd, rfl, rfl, rfl, hj, Hdd, HNj, HEj, HBj⟩ := hrel
          clear HN1 HE1 HB1
          by_cases hlj : j < n1
          · have hw1 : IntKind.i64.wrap ((j : Int) + 1) = ((j + 1 : Nat) : Int) := by rw [IntKind.wrap_i64]; omega
            have HSj := hidA (HS2.out j (by have := Hn1.out; omega) wr)
            obtain ⟨tk, Htk⟩ : ∃ b, Hid (b = Gl.takes f s x j) := ⟨_, rfl⟩
            rw [← Htk.out] at HSj
            have hnbl := HNj.out.lt
            have hebl := HEj.out.lt
            have Htx : Hid (Gl.tx f s x E (j + 1) = (E j && tk)) := by
              show _ = _
              unfold Gl.tx
              rw [decide_eq_true (Nat.succ_pos _), Nat.add_sub_cancel, Bool.true_and, Htk.out]
            have hstep : ∀ (v : Bool) (F : Nat → Bool), v = (E j && tk) → (∀ i, i < n1 → F i = if i = j + 1 then v else (decide (i ≤ j) && Gl.tx f s x E i)) → ∀ i, i < n1 → (decide (i ≤ j + 1) && Gl.tx f s x E i) = F i := fun v F hv hF i hi => by
              rw [hF i hi]
              by_cases e : i = j + 1
              · rw [if_pos e, e, decide_eq_true (Nat.le_refl _), Bool.true_and, Htx.out, hv]
              · rw [if_neg e, show decide (i ≤ j + 1) = decide (i ≤ j) by rw [decide_eq_decide]; omega]
            have Hstep := hidA hstep
            clear hstep HS2
            cases tk with
            | false =>
              go_wp2_with (go_at_call 39; refine HSj.out.mono ?_; rintro e w2 ⟨rfl, b2⟩; (have HN2 := hidA (HNj.out.grow b2 hnbl)); (have HE2 := hidA (HEj.out.grow b2 hebl)); (have HB2 := hidA (bl2 HBj.out b2)); clear b2)
              go_roundg (n1 - (j + 1))
              case measure => omega
              case rel => exact ⟨j + 1, d, rfl, by first | rfl | go_num, by first | rfl | go_num, hlj, .inr rfl, hidA (HN2.out.congr (Hstep.out false _ (by simp) (fun i hi => by
                by_cases e : i = j + 1
                · rw [if_pos e, decide_eq_false (by omega)]; rfl
                · rw [if_neg e]))), HE2, HB2⟩
            | true =>
              have hjs : j < s.length := by
                by_cases h : j < s.length
                · exact h
                · have := Hto.out j h
                  rw [← Htk.out] at this; cases this
              obtain ⟨m, Hm⟩ : ∃ m, Hid (m = j + 1) := ⟨_, rfl⟩
              have hmn : m < n1 := by have h1 := Hm.out; have h2 := Hn1.out; omega
              have hwm : IntKind.i64.wrap ((j : Int) + 1) = (m : Int) := by rw [hw1, Hm.out]
              have hm3 : n1 - m < n1 - j := by have := Hm.out; omega
              rw [← Hm.out] at Hstep
              clear hw1
              cases hEj : E j with
              | false =>
                have ce0 := HEj.out.cell j hlj
                rw [hEj] at ce0
                rw [hEj] at Hstep
                clear hEj
                go_wp2_with (go_at_call 39; refine HSj.out.mono ?_; rintro e w2 ⟨rfl, b2⟩; (have ce : w2.cell? ⟨eb, j, none⟩ = some (.bool false) := (b2.cell (p := ⟨eb, j, none⟩) hebl).trans ce0); (have HN2 := hidA (HNj.out.grow b2 hnbl)); (have HE2 := hidA (HEj.out.grow b2 hebl)); (have HB2 := hidA (bl2 HBj.out b2)); clear b2)
                go_roundg (n1 - m)
                case measure => omega
                case rel => exact ⟨m, d, rfl, by first | rfl | go_num, by first | rfl | go_num, by omega, .inr rfl, hidA (HN2.out.congr (Hstep.out false _ (by simp) (fun i hi => by
                  have hm := Hm.out
                  by_cases e : i = m
                  · rw [if_pos e, decide_eq_false (by omega)]; rfl
                  · rw [if_neg e]))), HE2, HB2⟩
              | true =>
                have ce0 := HEj.out.cell j hlj
                rw [hEj] at ce0
                rw [hEj] at Hstep
                clear hEj
                go_wp2_with (go_at_call 39; refine HSj.out.mono ?_; rintro e w2 ⟨rfl, b2⟩; (have ce : w2.cell? ⟨eb, j, none⟩ = some (.bool true) := (b2.cell (p := ⟨eb, j, none⟩) hebl).trans ce0); (have HN2 := hidA (HNj.out.grow b2 hnbl)); (have HE2 := hidA (HEj.out.grow b2 hebl)); (have HB2 := hidA (bl2 HBj.out b2)); (have cm := HN2.out.cell m hmn); (have fm := HN2.out.frozen m); clear b2)
                go_roundg (n1 - m)
                case measure => omega
                case rel => exact ⟨m, d, rfl, by first | rfl | go_num, by first | rfl | go_num, by omega, .inr rfl, hidA ((HN2.out.set m hmn true).congr (Hstep.out true _ (by simp) (fun i hi => rfl))), hidA (HE2.out.off nb m (.bool true) (by omega)), hidA (HB2.out.setCell (p := ⟨nb, m, none⟩) (by show _ ≤ nb; omega) (.bool true))⟩
          · obtain rfl : j = n1 := by omega
            have HN3 := hidA (HNj.out.congr (E' := Gl.tx f s x E) (fun i hi => by rw [decide_eq_true (by omega), Bool.true_and]))
            have hdd : dd = d := Hdd.out.elim (fun h => by omega) id
            clear HNj HEj HS2 Hto Hdd
            subst hdd
            go_wp2_with fail
            go_roundg (P.drop dd).length
            case measure => omega
            case rel => exact ⟨P.drop dd, nb, _, rfl, by first | rfl | simp, rfl, by omega, by omega, HN3, HBj, HM2⟩
    · obtain rfl : P = [] := List.length_eq_zero_iff.1 (by omega)
      have cl := HE.out.cell s.length hn1
      have HR : Hid (E s.length = true ↔ Gl.Mt f s (Gl.pcs f l) 0) := by
        show _ ↔ _
        rw [← HM.out, Gl.pcs_nil]
        constructor
        · intro h; exact ⟨s.length, hn1, h, .nil⟩
        · rintro ⟨i, h1, h2, h3⟩
          rw [Gl.mt_nil] at h3
          rw [← h3]; exact h2
      clear HE HM HSt HLd hmk
      generalize E s.length = b at *
      go_wp2_with fail
      go_ret
      exact ⟨b, rfl, by rw [← Hf.out]; exact HR.out, HB.out⟩
end Go.Proofs.YtncnmeidciailaaDoor
