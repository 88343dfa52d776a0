/- Dates: the walk of the program's Date. Conditions: a length that fits; the table of days reads as its text lays it. -/
import Derived.Test.YtgkjpfebjhhdkaaDoorNd6
namespace Go.Proofs.YtgkjpfebjhhdkaaDoor
open Go.RowKit
attribute [local go_sem] ext_eq app_eq get_eq
namespace Na
/-- The second of a date, or the error: the year, eight digits, two digits. -/
def dRes (y : Int) (r q : List UInt8) : Int × Int :=
  if exB y (tw r) (tw (r.drop 2)) (tw (r.drop 4)) (tw (r.drop 6)) (tw q) then (secP y ((tw r).toNat - 1) (tw (r.drop 2)) (tw (r.drop 4)) (tw (r.drop 6)) (tw q), 0) else (0, 22)
def secOf (s : List UInt8) : List UInt8 := if has 46 s then behind 46 s else [48, 48]
end Na
def DtR (s : List UInt8) (now : Int) (v : Int × Int) : Prop :=
  if (Na.secOf s).length = 2 ∧ Na.pl 10 (Na.secOf s) = true ∧ Na.pl 10 (Na.ahead 46 s) = true then
    ∃ Y, Yr (Na.ahead 46 s) now Y ∧ v = (match Y with | none => (0, 22) | some y => Na.dRes y ((Na.ahead 46 s).drop ((Na.ahead 46 s).length - 8)) (Na.secOf s))
  else v = (0, 22)
theorem Yn_rng {now y : Int} (h : Yn now (some y)) : 0 ≤ y ∧ y ≤ 9999 := by
  unfold Yn at h
  split at h
  · cases h
  · obtain ⟨y', j, hc, he⟩ := h
    cases he
    exact ⟨hc.y0, hc.y1⟩
theorem Yr_rng {l : List UInt8} {now y : Int} (hd : l.all (Na.dig 10) = true) (h : Yr l now (some y)) : (0 ≤ y ∧ y ≤ 9999) ∧ 8 ≤ l.length := by
  unfold Yr at h
  have t1 := Na.tw_rng hd
  have t2 := Na.tw_rng (Na.all_drop hd 2)
  split at h
  · exact ⟨Yn_rng h, by omega⟩
  · split at h
    · refine ⟨?_, by omega⟩
      split at h <;> (cases h; omega)
    · split at h
      · exact ⟨by cases h; omega, by omega⟩
      · cases h
theorem ex_rng {y m d h mi s : Int} (he : Na.exB y m d h mi s = true) : 1 ≤ m ∧ m ≤ 12 ∧ 1 ≤ d := by
  unfold Na.exB at he
  simp at he
  omega
theorem al_split {W w' : World} {o : Obj} {m : Nat} (h : w' = (W.alloc o).drewN m) : ∃ x : World, x.heap.size = W.heap.size ∧ Below W.heap.size W x ∧ w' = x.alloc o := ⟨W.drewN m, rfl, bl_drew _ _, h⟩
theorem al_split2 {W w' : World} {o : Obj} {m : Nat} (h : w' = (W.alloc o).drew.drewN m) : ∃ x : World, x.heap.size = W.heap.size ∧ Below W.heap.size W x ∧ w' = x.alloc o := ⟨W.drew.drewN m, rfl, ⟨rfl, rfl, rfl, Nat.le_refl _, fun _ _ => rfl⟩, h⟩
theorem dr_split {W w' : World} {m : Nat} (h : w' = W.drewN m) : w'.heap.size = W.heap.size ∧ Below W.heap.size W w' := by subst h; exact ⟨rfl, bl_drew _ _⟩
theorem mo_cells {w : World} {y m d h mi s : Int} {w' : World} (k : Nat) (hk : w.heap.size = k) (b : Below (w.alloc (.cells #[.int .i64 y, .int .i64 m, .int .i64 d, .int .i64 h, .int .i64 mi, .int .i64 s] 80)).heap.size (w.alloc (.cells #[.int .i64 y, .int .i64 m, .int .i64 d, .int .i64 h, .int .i64 mi, .int .i64 s] 80)) w') :
    w'.cell? ⟨k, 0, none⟩ = some (.int .i64 y) ∧ w'.cell? ⟨k, 1, none⟩ = some (.int .i64 m) ∧ w'.cell? ⟨k, 2, none⟩ = some (.int .i64 d) ∧ w'.cell? ⟨k, 3, none⟩ = some (.int .i64 h) ∧ w'.cell? ⟨k, 4, none⟩ = some (.int .i64 mi) ∧ w'.cell? ⟨k, 5, none⟩ = some (.int .i64 s) := by
  subst hk
  have hlt : w.heap.size < (w.alloc (.cells #[.int .i64 y, .int .i64 m, .int .i64 d, .int .i64 h, .int .i64 mi, .int .i64 s] 80)).heap.size := by simp
  refine ⟨?_, ?_, ?_, ?_, ?_, ?_⟩
  all_goals
    rw [b.cell hlt, World.cell?_alloc_at _ _ _ _ rfl]
    rfl
set_option maxRecDepth 100000 in
set_option maxHeartbeats 16000000 in
theorem nDate (s : List UInt8) (now : Int) (h0 : -9223372036854775808 ≤ now) (h1 : now ≤ 9223372036854775807) (w : World) (ht : DT w) (hl : s.length ≤ 2 ^ 47) :
    Calls Tryd.prog 26 #[.string ⟨s.toArray⟩, .int .i64 now] w fun e w' => (∃ v, DtR s now v ∧ e = .returned (.tuple #[.int .i64 v.1, .int .i64 v.2])) ∧ Below w.heap.size w w' := by
  have HC := hidA (nCut 46 (by decide) s w hl)
  have HD : Hid (∀ v, DtR s now v ↔ (if (Na.secOf s).length = 2 ∧ Na.pl 10 (Na.secOf s) = true ∧ Na.pl 10 (Na.ahead 46 s) = true then ∃ Y, Yr (Na.ahead 46 s) now Y ∧ v = (match Y with | none => (0, 22) | some y => Na.dRes y ((Na.ahead 46 s).drop ((Na.ahead 46 s).length - 8)) (Na.secOf s)) else v = (0, 22))) := fun v => Iff.rfl
  have HQ : Hid (Na.secOf s = if Na.has 46 s then Na.behind 46 s else [48, 48]) := rfl
  have hal := ahead_len 46 s
  have HP1 := hidA (fun (q : List UInt8) (w : World) => nPlain 10 (by decide) q w)
  have HYr := hidA (fun hd w ht => nYearOf (Na.ahead 46 s) hd now h0 h1 w ht)
  have HT := hidA (fun (w' : World) (b : Below w.heap.size w w') => ht.on b)
  have HB0 := hidA (fun (W : World) m => bl_drew W m)
  generalize Na.secOf s = q at *
  generalize Na.ahead 46 s = A at *
  generalize Na.behind 46 s = B at *
  clear ht
  -- from the parts on, whatever they are
  have main : ∀ hs : Bool, Na.has 46 s = hs → Calls Tryd.prog 26 #[.string ⟨s.toArray⟩, .int .i64 now] w fun e w' => (∃ v, DtR s now v ∧ e = .returned (.tuple #[.int .i64 v.1, .int .i64 v.2])) ∧ Below w.heap.size w w' := by
    intro hs hh
    rw [hh] at HC HQ
    clear hh
    have hQ := HQ.out
    have HPq := hidA (HP1.out q)
    have HPA := hidA (HP1.out A)
    by_cases hq2 : q.length = 2
    · have hq2' : ((q.length : Int) != 2) = false := by simp; omega
      cases hpq : Na.pl 10 q with
      | false =>
        have HF := hidA ((HD.out (0, 22)).2 (by rw [if_neg (by simp [hpq])]))
        rw [hpq] at HPq
        clear HD HYr HP1 hpq
        cases hs with
        | true =>
          rw [if_pos rfl] at hQ
          subst hQ
          go_enter Tryd.func26, Tryd.ntmps26
          go_wp2_with (first | (go_at_call 34; refine HC.out.mono ?_; rintro e w1 ⟨rfl, b1⟩) | (go_at_call 51; refine (HPq.out _).mono ?_; rintro e w2 ⟨rfl, b2⟩))
          go_ret2
          exact ⟨⟨_, HF.out, rfl⟩, bl2 b1 b2⟩
        | false =>
          rw [if_neg (by simp)] at hQ
          subst hQ
          go_enter Tryd.func26, Tryd.ntmps26
          go_wp2_with (first | (go_at_call 34; refine HC.out.mono ?_; rintro e w1 ⟨rfl, b1⟩) | (go_at_call 51; refine (HPq.out _).mono ?_; rintro e w2 ⟨rfl, b2⟩))
          go_ret2
          exact ⟨⟨_, HF.out, rfl⟩, bl2 b1 b2⟩
      | true =>
        rw [hpq] at HPq
        cases hpA : Na.pl 10 A with
        | false =>
          have HF := hidA ((HD.out (0, 22)).2 (by rw [if_neg (by simp [hpA])]))
          rw [hpA] at HPA
          clear HD HYr HP1 hpq hpA
          cases hs with
          | true =>
            rw [if_pos rfl] at hQ
            subst hQ
            go_enter Tryd.func26, Tryd.ntmps26
            go_wp2_with (first | (go_at_call 34; refine HC.out.mono ?_; rintro e w1 ⟨rfl, b1⟩) | (go_at_call 51; first | (with_reducible refine (HPq.out _).mono ?_; rintro e w2 ⟨rfl, b2⟩) | (with_reducible refine (HPA.out _).mono ?_; rintro e w3 ⟨rfl, b3⟩)))
            go_ret2
            exact ⟨⟨_, HF.out, rfl⟩, bl2 (bl2 b1 b2) b3⟩
          | false =>
            rw [if_neg (by simp)] at hQ
            subst hQ
            go_enter Tryd.func26, Tryd.ntmps26
            go_wp2_with (first | (go_at_call 34; refine HC.out.mono ?_; rintro e w1 ⟨rfl, b1⟩) | (go_at_call 51; first | (with_reducible refine (HPq.out _).mono ?_; rintro e w2 ⟨rfl, b2⟩) | (with_reducible refine (HPA.out _).mono ?_; rintro e w3 ⟨rfl, b3⟩)))
            go_ret2
            exact ⟨⟨_, HF.out, rfl⟩, bl2 (bl2 b1 b2) b3⟩
        | true =>
          -- the date itself
          have hdA : A.all (Na.dig 10) = true := by unfold Na.pl at hpA; rw [Bool.and_eq_true] at hpA; exact hpA.1
          have hdq : q.all (Na.dig 10) = true := by unfold Na.pl at hpq; rw [Bool.and_eq_true] at hpq; exact hpq.1
          have HD2 : Hid (∀ v Y, Yr A now Y → v = (match Y with | none => (0, 22) | some y => Na.dRes y (A.drop (A.length - 8)) q) → DtR s now v) := fun v Y h1 h2 => (HD.out v).2 (by rw [if_pos ⟨hq2, hpq, hpA⟩]; exact ⟨Y, h1, h2⟩)
          rw [hpA] at HPA
          clear HD hpq hpA
          cases hs with
          | true =>
            rw [if_pos rfl] at hQ
            subst hQ
            go_enter Tryd.func26, Tryd.ntmps26
            go_wp2_with (first | (go_at_call 34; refine HC.out.mono ?_; rintro e w1 ⟨rfl, b1⟩) | (go_at_call 51; first | (with_reducible refine (HPq.out _).mono ?_; rintro e w2 ⟨rfl, b2⟩) | (with_reducible refine (HPA.out _).mono ?_; rintro e w3 ⟨rfl, b3⟩; have B3 := hidA (bl2 (bl2 b1 b2) b3); clear b1 b2 b3)))
            go_at_call 52
            refine (HYr.out hdA _ (HT.out _ B3.out)).mono ?_
            rintro e w4 ⟨⟨Y, r, hY, hr, rfl⟩, b4⟩
            have B4 := hidA (bl2 B3.out b4)
            clear b4
            cases Y with
            | none =>
              have HF := hidA (HD2.out (0, 22) none hY rfl)
              clear HD2 HYr HP1
              simp only [Option.getD_none, Option.isSome_none]
              go_wp2
              go_ret2
              exact ⟨⟨_, HF.out, rfl⟩, B4.out⟩
            | some y =>
              obtain ⟨⟨y0, y1⟩, hA8⟩ := Yr_rng hdA hY
              have hr2 := hr rfl
              have HF0 := hidA (fun v hv => HD2.out v (some y) hY hv)
              have hdr : r.all (Na.dig 10) = true := by rw [hr2]; exact Na.all_drop hdA _
              have hr8 : r.length = 8 := by rw [hr2, List.length_drop]; omega
              rw [← hr2] at HF0
              clear HD2 HYr HP1 hr hr2 hY HPA HPq
              simp only [Option.getD_some, Option.isSome_some]
              have HT0 := hidA (fun w => nTwo r hdr (by omega) w)
              have HT1 := hidA (fun w => nTwo (r.drop 2) (Na.all_drop hdr 2) (by rw [List.length_drop]; omega) w)
              have HT2 := hidA (fun w => nTwo (r.drop 4) (Na.all_drop hdr 4) (by rw [List.length_drop]; omega) w)
              have HT3 := hidA (fun w => nTwo (r.drop 6) (Na.all_drop hdr 6) (by rw [List.length_drop]; omega) w)
              have HT4 := hidA (fun w => nTwo q hdq (by omega) w)
              have t0 := Na.tw_rng hdr
              have t1 := Na.tw_rng (Na.all_drop hdr 2)
              have t2 := Na.tw_rng (Na.all_drop hdr 4)
              have t3 := Na.tw_rng (Na.all_drop hdr 6)
              have t4 := Na.tw_rng hdq
              have htk : List.take 8 r = r := List.take_of_length_le (by omega)
              have HF : Hid (∀ v, v = (if Na.exB y (Na.tw r) (Na.tw (r.drop 2)) (Na.tw (r.drop 4)) (Na.tw (r.drop 6)) (Na.tw q) then (Na.secP y ((Na.tw r).toNat - 1) (Na.tw (r.drop 2)) (Na.tw (r.drop 4)) (Na.tw (r.drop 6)) (Na.tw q), 0) else (0, 22)) → DtR s now v) := fun v hv => HF0.out v hv
              clear HF0
              generalize Na.tw r = m at *
              generalize Na.tw (r.drop 2) = d at *
              generalize Na.tw (r.drop 4) = h at *
              generalize Na.tw (r.drop 6) = mi at *
              generalize Na.tw q = sc at *
              have HX := hidA (fun w ht => nExists y m d h mi sc y0 t0 w ht)
              have HS := hidA (fun (hex : Na.exB y m d h mi sc = true) w ht => (show Calls Tryd.prog 55 #[mV y m d h mi sc] w fun e w' => e = .returned (.int .i64 (Na.secP y (m.toNat - 1) d h mi sc)) ∧ Below w.heap.size w w' from by
                obtain ⟨x1, x2, x3⟩ := ex_rng hex
                have hh := nSeconds y (m.toNat - 1) d h mi sc y0 (by omega) (by omega) (by omega) t2 t3 t4 w ht
                rw [show ((m.toNat - 1 : Nat) : Int) + 1 = m by omega] at hh
                exact hh))
              unfold mV at HX HS
              have z4 : w4.drew.heap.size = w4.heap.size := rfl
              go_wp2_with fail
              go_region_held3 (fun _ => True) (trivial) (first | (go_at_call 53; first | (with_reducible refine Calls.mono (HT0.out _) ?_; rintro e w5 ⟨rfl, m5, hw5⟩; first | (obtain ⟨x5, z5, b5, ew5⟩ := al_split2 hw5; rw [ew5]; clear hw5 ew5) | (obtain ⟨x5, z5, b5, ew5⟩ := al_split hw5; rw [ew5]; clear hw5 ew5) | (obtain ⟨z5, b5⟩ := dr_split hw5; clear hw5)) | (with_reducible refine Calls.mono (HT1.out _) ?_; rintro e w6 ⟨rfl, m6, hw6⟩; first | (obtain ⟨x6, z6, b6, ew6⟩ := al_split2 hw6; rw [ew6]; clear hw6 ew6) | (obtain ⟨x6, z6, b6, ew6⟩ := al_split hw6; rw [ew6]; clear hw6 ew6) | (obtain ⟨z6, b6⟩ := dr_split hw6; clear hw6)) | (with_reducible refine Calls.mono (HT2.out _) ?_; rintro e w7 ⟨rfl, m7, hw7⟩; first | (obtain ⟨x7, z7, b7, ew7⟩ := al_split2 hw7; rw [ew7]; clear hw7 ew7) | (obtain ⟨x7, z7, b7, ew7⟩ := al_split hw7; rw [ew7]; clear hw7 ew7) | (obtain ⟨z7, b7⟩ := dr_split hw7; clear hw7)) | (with_reducible refine Calls.mono (HT3.out _) ?_; rintro e w8 ⟨rfl, m8, hw8⟩; first | (obtain ⟨x8, z8, b8, ew8⟩ := al_split2 hw8; rw [ew8]; clear hw8 ew8) | (obtain ⟨x8, z8, b8, ew8⟩ := al_split hw8; rw [ew8]; clear hw8 ew8) | (obtain ⟨z8, b8⟩ := dr_split hw8; clear hw8)) | (with_reducible refine Calls.mono (HT4.out _) ?_; rintro e w9 ⟨rfl, m9, hw9⟩; first | (obtain ⟨x9, z9, b9, ew9⟩ := al_split2 hw9; rw [ew9]; clear hw9 ew9) | (obtain ⟨x9, z9, b9, ew9⟩ := al_split hw9; rw [ew9]; clear hw9 ew9) | (obtain ⟨z9, b9⟩ := dr_split hw9; clear hw9))) | fail)
              all_goals
                first
                  | (have B9 := hidA (bl2 (bl2 (bl2 (bl2 (bl2 (bl2 B4.out (HB0.out _ 1)) b5) b6) b7) b8) b9))
                  | (have B9 := hidA (bl2 (bl2 (bl2 (bl2 (bl2 B4.out b5) b6) b7) b8) b9))
                clear b5 b6 b7 b8 b9
                cases hex : Na.exB y m d h mi sc with
                | false =>
                  have HFF := hidA (HF.out (0, 22) (by rw [hex]; rfl))
                  rw [hex] at HX
                  clear HF HS hex
                  go_wp2_with (go_at_call 54; refine (HX.out _ (HT.out _ (B9.out.alloc B9.out.size _))).mono ?_; rintro e w10 ⟨rfl, b10⟩)
                  go_ret2
                  exact ⟨⟨_, HFF.out, rfl⟩, bl2 (B9.out.alloc B9.out.size _) b10⟩
                | true =>
                  have HFF := hidA (HF.out _ (by rw [hex, if_pos rfl]))
                  have HS2 := hidA (HS.out hex)
                  rw [hex] at HX
                  clear HF HS hex
                  generalize Na.secP y (m.toNat - 1) d h mi sc = SC at *
                  go_wp2_with (first | (go_at_call 54; refine (HX.out _ (HT.out _ (B9.out.alloc B9.out.size _))).mono ?_; rintro e w10 ⟨rfl, b10⟩; have B10 := hidA (bl2 (B9.out.alloc B9.out.size _) b10); obtain ⟨c0, c1, c2, c3, c4, c5⟩ := mo_cells w4.heap.size (by omega) b10; clear b10) | (go_at_call 55; refine (HS2.out _ (HT.out _ B10.out)).mono ?_; rintro e w11 ⟨rfl, b11⟩))
                  go_ret2
                  exact ⟨⟨_, HFF.out, rfl⟩, bl2 B10.out b11⟩
          | false =>
            rw [if_neg (by simp)] at hQ
            subst hQ
            go_enter Tryd.func26, Tryd.ntmps26
            go_wp2_with (first | (go_at_call 34; refine HC.out.mono ?_; rintro e w1 ⟨rfl, b1⟩) | (go_at_call 51; first | (with_reducible refine (HPq.out _).mono ?_; rintro e w2 ⟨rfl, b2⟩) | (with_reducible refine (HPA.out _).mono ?_; rintro e w3 ⟨rfl, b3⟩; have B3 := hidA (bl2 (bl2 b1 b2) b3); clear b1 b2 b3)))
            go_at_call 52
            refine (HYr.out hdA _ (HT.out _ B3.out)).mono ?_
            rintro e w4 ⟨⟨Y, r, hY, hr, rfl⟩, b4⟩
            have B4 := hidA (bl2 B3.out b4)
            clear b4
            cases Y with
            | none =>
              have HF := hidA (HD2.out (0, 22) none hY rfl)
              clear HD2 HYr HP1
              simp only [Option.getD_none, Option.isSome_none]
              go_wp2
              go_ret2
              exact ⟨⟨_, HF.out, rfl⟩, B4.out⟩
            | some y =>
              obtain ⟨⟨y0, y1⟩, hA8⟩ := Yr_rng hdA hY
              have hr2 := hr rfl
              have HF0 := hidA (fun v hv => HD2.out v (some y) hY hv)
              have hdr : r.all (Na.dig 10) = true := by rw [hr2]; exact Na.all_drop hdA _
              have hr8 : r.length = 8 := by rw [hr2, List.length_drop]; omega
              rw [← hr2] at HF0
              clear HD2 HYr HP1 hr hr2 hY HPA HPq
              simp only [Option.getD_some, Option.isSome_some]
              have HT0 := hidA (fun w => nTwo r hdr (by omega) w)
              have HT1 := hidA (fun w => nTwo (r.drop 2) (Na.all_drop hdr 2) (by rw [List.length_drop]; omega) w)
              have HT2 := hidA (fun w => nTwo (r.drop 4) (Na.all_drop hdr 4) (by rw [List.length_drop]; omega) w)
              have HT3 := hidA (fun w => nTwo (r.drop 6) (Na.all_drop hdr 6) (by rw [List.length_drop]; omega) w)
              have HT4 := hidA (fun w => nTwo [48, 48] hdq (by decide) w)
              have t0 := Na.tw_rng hdr
              have t1 := Na.tw_rng (Na.all_drop hdr 2)
              have t2 := Na.tw_rng (Na.all_drop hdr 4)
              have t3 := Na.tw_rng (Na.all_drop hdr 6)
              have t4 := Na.tw_rng hdq
              have htk : List.take 8 r = r := List.take_of_length_le (by omega)
              have HF : Hid (∀ v, v = (if Na.exB y (Na.tw r) (Na.tw (r.drop 2)) (Na.tw (r.drop 4)) (Na.tw (r.drop 6)) (Na.tw [48, 48]) then (Na.secP y ((Na.tw r).toNat - 1) (Na.tw (r.drop 2)) (Na.tw (r.drop 4)) (Na.tw (r.drop 6)) (Na.tw [48, 48]), 0) else (0, 22)) → DtR s now v) := fun v hv => HF0.out v hv
              clear HF0
              generalize Na.tw r = m at *
              generalize Na.tw (r.drop 2) = d at *
              generalize Na.tw (r.drop 4) = h at *
              generalize Na.tw (r.drop 6) = mi at *
              generalize Na.tw [48, 48] = sc at *
              have HX := hidA (fun w ht => nExists y m d h mi sc y0 t0 w ht)
              have HS := hidA (fun (hex : Na.exB y m d h mi sc = true) w ht => (show Calls Tryd.prog 55 #[mV y m d h mi sc] w fun e w' => e = .returned (.int .i64 (Na.secP y (m.toNat - 1) d h mi sc)) ∧ Below w.heap.size w w' from by
                obtain ⟨x1, x2, x3⟩ := ex_rng hex
                have hh := nSeconds y (m.toNat - 1) d h mi sc y0 (by omega) (by omega) (by omega) t2 t3 t4 w ht
                rw [show ((m.toNat - 1 : Nat) : Int) + 1 = m by omega] at hh
                exact hh))
              unfold mV at HX HS
              have z4 : w4.drew.heap.size = w4.heap.size := rfl
              go_wp2_with fail
              go_region_held3 (fun _ => True) (trivial) (first | (go_at_call 53; first | (with_reducible refine Calls.mono (HT0.out _) ?_; rintro e w5 ⟨rfl, m5, hw5⟩; first | (obtain ⟨x5, z5, b5, ew5⟩ := al_split2 hw5; rw [ew5]; clear hw5 ew5) | (obtain ⟨x5, z5, b5, ew5⟩ := al_split hw5; rw [ew5]; clear hw5 ew5) | (obtain ⟨z5, b5⟩ := dr_split hw5; clear hw5)) | (with_reducible refine Calls.mono (HT1.out _) ?_; rintro e w6 ⟨rfl, m6, hw6⟩; first | (obtain ⟨x6, z6, b6, ew6⟩ := al_split2 hw6; rw [ew6]; clear hw6 ew6) | (obtain ⟨x6, z6, b6, ew6⟩ := al_split hw6; rw [ew6]; clear hw6 ew6) | (obtain ⟨z6, b6⟩ := dr_split hw6; clear hw6)) | (with_reducible refine Calls.mono (HT2.out _) ?_; rintro e w7 ⟨rfl, m7, hw7⟩; first | (obtain ⟨x7, z7, b7, ew7⟩ := al_split2 hw7; rw [ew7]; clear hw7 ew7) | (obtain ⟨x7, z7, b7, ew7⟩ := al_split hw7; rw [ew7]; clear hw7 ew7) | (obtain ⟨z7, b7⟩ := dr_split hw7; clear hw7)) | (with_reducible refine Calls.mono (HT3.out _) ?_; rintro e w8 ⟨rfl, m8, hw8⟩; first | (obtain ⟨x8, z8, b8, ew8⟩ := al_split2 hw8; rw [ew8]; clear hw8 ew8) | (obtain ⟨x8, z8, b8, ew8⟩ := al_split hw8; rw [ew8]; clear hw8 ew8) | (obtain ⟨z8, b8⟩ := dr_split hw8; clear hw8)) | (with_reducible refine Calls.mono (HT4.out _) ?_; rintro e w9 ⟨rfl, m9, hw9⟩; first | (obtain ⟨x9, z9, b9, ew9⟩ := al_split2 hw9; rw [ew9]; clear hw9 ew9) | (obtain ⟨x9, z9, b9, ew9⟩ := al_split hw9; rw [ew9]; clear hw9 ew9) | (obtain ⟨z9, b9⟩ := dr_split hw9; clear hw9))) | fail)
              all_goals
                first
                  | (have B9 := hidA (bl2 (bl2 (bl2 (bl2 (bl2 (bl2 B4.out (HB0.out _ 1)) b5) b6) b7) b8) b9))
                  | (have B9 := hidA (bl2 (bl2 (bl2 (bl2 (bl2 B4.out b5) b6) b7) b8) b9))
                clear b5 b6 b7 b8 b9
                cases hex : Na.exB y m d h mi sc with
                | false =>
                  have HFF := hidA (HF.out (0, 22) (by rw [hex]; rfl))
                  rw [hex] at HX
                  clear HF HS hex
                  go_wp2_with (go_at_call 54; refine (HX.out _ (HT.out _ (B9.out.alloc B9.out.size _))).mono ?_; rintro e w10 ⟨rfl, b10⟩)
                  go_ret2
                  exact ⟨⟨_, HFF.out, rfl⟩, bl2 (B9.out.alloc B9.out.size _) b10⟩
                | true =>
                  have HFF := hidA (HF.out _ (by rw [hex, if_pos rfl]))
                  have HS2 := hidA (HS.out hex)
                  rw [hex] at HX
                  clear HF HS hex
                  generalize Na.secP y (m.toNat - 1) d h mi sc = SC at *
                  go_wp2_with (first | (go_at_call 54; refine (HX.out _ (HT.out _ (B9.out.alloc B9.out.size _))).mono ?_; rintro e w10 ⟨rfl, b10⟩; have B10 := hidA (bl2 (B9.out.alloc B9.out.size _) b10); obtain ⟨c0, c1, c2, c3, c4, c5⟩ := mo_cells w4.heap.size (by omega) b10; clear b10) | (go_at_call 55; refine (HS2.out _ (HT.out _ B10.out)).mono ?_; rintro e w11 ⟨rfl, b11⟩))
                  go_ret2
                  exact ⟨⟨_, HFF.out, rfl⟩, bl2 B10.out b11⟩
    · have hq2' : ((q.length : Int) != 2) = true := by simp; omega
      have HF := hidA ((HD.out (0, 22)).2 (by rw [if_neg (by simp [hq2])]))
      clear HD HYr HP1 HPA HPq
      cases hs with
      | true =>
        rw [if_pos rfl] at hQ
        subst hQ
        go_enter Tryd.func26, Tryd.ntmps26
        go_wp2_with (go_at_call 34; refine HC.out.mono ?_; rintro e w1 ⟨rfl, b1⟩)
        go_ret2
        exact ⟨⟨_, HF.out, rfl⟩, b1⟩
      | false =>
        rw [if_neg (by simp)] at hQ
        subst hQ
        exact absurd rfl hq2
  exact main _ rfl
end Go.Proofs.YtgkjpfebjhhdkaaDoor
