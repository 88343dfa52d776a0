/- The walk of act at Write: both answer the same, stay alike, and the bytes that were handed in are as they were. -/
import Derived.Test.YtipdpifpblaldaaDoorAct2
namespace Go.Proofs.YtipdpifpblaldaaDoor
open Go.RowKit
/-- Bytes that lie below block B0. -/
structure Src (w : World) (B0 : Nat) (a : Option Addr) (bs : List Nat) : Prop where
  lt : ∀ x ∈ bs, x < 256
  nil : a = none → bs = []
  at_ : ∀ j x, bs[j]? = some x → ∃ g o, a = some ⟨g, o, none⟩ ∧ g < B0 ∧ w.cell? ⟨g, o + j, none⟩ = some (byteV x)
theorem Src.keep {w w' : World} {B0 : Nat} {a : Option Addr} {bs : List Nat} (h : Src w B0 a bs) (m : Mod (fun k => B0 ≤ k) w w') : Src w' B0 a bs :=
  ⟨h.lt, h.nil, fun j x hx => by
    obtain ⟨g, o, h1, h2, h3⟩ := h.at_ j x hx
    exact ⟨g, o, h1, h2, by rw [m.cell (p := ⟨g, o + j, none⟩) (block_lt_of_cell h3) (by show ¬ B0 ≤ g; omega)]; exact h3⟩⟩
theorem Src.notF {w : World} {B0 : Nat} {a : Option Addr} {bs : List Nat} (h : Src w B0 a bs) {F : Nat → Prop} (hF : ∀ k, F k → B0 ≤ k) : ∀ j x, bs[j]? = some x → ∃ g o, a = some ⟨g, o, none⟩ ∧ ¬ F g ∧ w.cell? ⟨g, o + j, none⟩ = some (byteV x) := fun j x hx => by
  obtain ⟨g, o, h1, h2, h3⟩ := h.at_ j x hx
  exact ⟨g, o, h1, fun hf => by have := hF g hf; omega, h3⟩
theorem Src.bytes {w : World} {B0 : Nat} {a : Option Addr} {bs : List Nat} (h : Src w B0 a bs) (cap : Nat) : BytesAt w (.slice a bs.length cap) bs :=
  ⟨h.lt, a, cap, rfl, h.nil, fun ad ha j x hx => by
    obtain ⟨g, o, h1, _, h3⟩ := h.at_ j x hx
    rw [ha] at h1
    cases h1
    rw [Addr.add_mid]; exact h3⟩
/-- What Lend handed out, in memory. -/
structure Lent (w : World) (h : Nat) (bs : List Nat) : Prop where
  first : w.cell? ⟨h, 0, none⟩ = some (.int .u8 165)
  last : w.cell? ⟨h, bs.length + 1, none⟩ = some (.int .u8 90)
  mid : ∀ j x, bs[j]? = some x → w.cell? ⟨h, 1 + j, none⟩ = some (byteV x)
theorem Lent.far {w w' : World} {s : Nat → Prop} {h : Nat} {bs : List Nat} (l : Lent w h bs) (m : Mod s w w') (hs : ¬ s h) : Lent w' h bs := by
  have hl : h < w.heap.size := block_lt_of_cell l.first
  have e : ∀ o, w'.cell? ⟨h, o, none⟩ = w.cell? ⟨h, o, none⟩ := fun o => m.cell (p := ⟨h, o, none⟩) hl hs
  exact ⟨by rw [e]; exact l.first, by rw [e]; exact l.last, fun j x hx => by rw [e]; exact l.mid j x hx⟩
theorem Lent.bytes {w : World} {h : Nat} {bs : List Nat} (l : Lent w h bs) (hb : ∀ x ∈ bs, x < 256) : BytesAt w (.slice (some ⟨h, 1, none⟩) bs.length (bs.length + 1)) bs :=
  ⟨hb, _, _, rfl, fun h => (by cases h), fun ad ha j x hx => by cases ha; rw [Addr.add_mid]; exact l.mid j x hx⟩
theorem lend_lent {w : World} {A : Array Value} {bs : List Nat} (h : LendAt A bs bs.length) (m : Nat) : Lent ((w.alloc (.cells A 5)).drewN m) w.heap.size bs := by
  have e : ∀ o, ((w.alloc (.cells A 5)).drewN m).cell? ⟨w.heap.size, o, none⟩ = A[o]? := fun o => World.cell?_alloc_at _ _ _ _ rfl
  exact ⟨by rw [e]; exact h.first, by rw [e]; exact h.last, fun j x hx => by rw [e, Nat.add_comm]; exact h.mid j x (List.getElem?_eq_some_iff.1 hx).1 hx⟩
section
variable {w : World} {B0 b c tb n : Nat} {u : Nat → Bool} {D : Nat → Nat} {F : Nat → Prop}
/-- The three cells of a call that are looked at. -/
def Acts3 (w : World) (ab : Nat) (i t : Int) (v : Value) : Prop := w.cell? ⟨ab, 1, none⟩ = some (.int .i64 i) ∧ w.cell? ⟨ab, 2, none⟩ = some (.int .i64 t) ∧ w.cell? ⟨ab, 3, none⟩ = some v
theorem Acts3.far {w w' : World} {ab : Nat} {i t : Int} {v : Value} {s : Nat → Prop} (h : Acts3 w ab i t v) (m : Mod s w w') (hs : ¬ s ab) : Acts3 w' ab i t v := by
  have hl : ab < w.heap.size := block_lt_of_cell h.1
  have e : ∀ o, w'.cell? ⟨ab, o, none⟩ = w.cell? ⟨ab, o, none⟩ := fun o => m.cell (p := ⟨ab, o, none⟩) hl hs
  exact ⟨by rw [e]; exact h.1, by rw [e]; exact h.2.1, by rw [e]; exact h.2.2⟩
/-- Write at the store, where it is refused. -/
theorem rwrite_not {w : World} {ob co yb cy : Nat} {R : Nat → Nat} (S : Rf w tb n u D F ob co yb cy R) (i t : Int) (a : Option Addr) (k cap : Nat) (hi : Unfit n u i ∨ t < 0 ∨ 64 < t + k) :
    Calls Tryd.prog 30 #[.pointer (some ⟨tb, 0, none⟩), .int .i64 i, .int .i64 t, .slice a k cap] w fun e w' => e = .returned (.int .i64 22) ∧ w' = w := by
  by_cases hf : Unfit n u i
  · exact rwrite_out w tb i t _ (S.is_not i hf)
  · have ha : t < 0 ∨ 64 < t + k := by rcases hi with h | h; exact absurd h hf; exact h
    unfold Unfit at hf
    obtain ⟨j, rfl⟩ := Int.eq_ofNat_of_zero_le (show 0 ≤ i by omega)
    have hu : u j = true := by
      have : ¬ u (j : Int).toNat = false := fun e => hf (.inr (.inr e))
      simpa using this
    exact rwrite_bad w tb n ob co j t a k cap S.on (by omega) (by rw [S.oc j (by omega), hu]) ha
set_option maxHeartbeats 2000000 in
theorem act_write_not (j : J w B0 b c tb n u D F) (i t : Int) (a : Option Addr) (cap : Nat) (bs : List Nat) (hL : bs.length ≤ 140737488351232) (hsrc : Src w B0 a bs) (hu : Unfit n u i ∨ t < 0 ∨ 64 < t + bs.length) :
    Calls Tryd.prog 10 #[.pointer (some ⟨b, 0, none⟩), .pointer (some ⟨tb, 0, none⟩), .agg #[.int .i64 3, .int .i64 i, .int .i64 t, .slice a bs.length cap]] w (ActOk B0 b c tb n F w) := by
  have hJ : J (w.alloc (.cells #[.int .i64 3, .int .i64 i, .int .i64 t, .slice a bs.length cap] 35)) B0 b c tb n u D F := j.mod ((Mod.refl _ w).alloc _)
  have HM0 : Hid (Mod (fun k => k = b ∨ k = c ∨ F k) w (w.alloc (.cells #[.int .i64 3, .int .i64 i, .int .i64 t, .slice a bs.length cap] 35))) := (Mod.refl _ w).alloc _
  have hA : Acts3 (w.alloc (.cells #[.int .i64 3, .int .i64 i, .int .i64 t, .slice a bs.length cap] 35)) w.heap.size i t (.slice a bs.length cap) := ⟨by rw [World.cell?_alloc_at _ _ _ _ rfl]; rfl, by rw [World.cell?_alloc_at _ _ _ _ rfl]; rfl, by rw [World.cell?_alloc_at _ _ _ _ rfl]; rfl⟩
  have HU : Hid (Unfit n u i ∨ t < 0 ∨ 64 < t + bs.length) := hu
  have HSr : Hid (Src w B0 a bs) := hsrc
  clear hu j hsrc
  go_enter Tryd.func10, Tryd.ntmps10
  go_wp2_with fail
  generalize w.alloc (.cells #[.int .i64 3, .int .i64 i, .int .i64 t, .slice a bs.length cap] 35) = w0 at *
  have HJ : Hid (J w0 B0 b c tb n u D F) := hJ
  have HA : Hid (Acts3 w0 w.heap.size i t (.slice a bs.length cap)) := hA
  clear hJ hA
  refine (lend_any w0 a cap bs (by omega) (fun j x hx => by obtain ⟨g, o, h1, _, h3⟩ := (HSr.out.keep (HM0.out.mono (fun q _ h => HJ.out.sB q h))).at_ j x hx; exact ⟨g, o, h1, h3⟩)).mono ?_
  rintro e w1 ⟨A, m, hLA, rfl, hw1⟩
  have HM1 : Hid (Mod (fun _ => False) w0 w1) := by show Mod _ _ _; rw [hw1]; exact ((Mod.refl _ w0).alloc _).drewN m
  have HL1 : Hid (Lent w1 w0.heap.size bs) := by show Lent _ _ _; rw [hw1]; exact lend_lent hLA m
  clear hw1 hLA
  have HJ1 : Hid (J w1 B0 b c tb n u D F) := HJ.out.mod HM1.out
  have HA1 : Hid (Acts3 w1 w.heap.size i t (.slice a bs.length cap)) := HA.out.far HM1.out (fun h => h)
  have HM01 : Hid (Mod (fun k => k = b ∨ k = c ∨ F k) w w1) := HM0.out.trans (HM1.out.mono (fun _ _ h => h.elim))
  obtain ⟨ob, co, yb, cy, R, hR⟩ := HJ1.out.R
  have HR1 : Hid (Rf w1 tb n u D F ob co yb cy R) := hR
  clear hR
  go_wp2_with fail
  go_region_held (fun W' => W'.cell? ⟨w.heap.size, 1, none⟩ = some (.int .i64 i) ∧ W'.cell? ⟨w.heap.size, 2, none⟩ = some (.int .i64 t) ∧ W'.cell? ⟨w.heap.size, 3, none⟩ = some (.slice a bs.length cap)) (exact HA1.out) (first | (go_at_call 23; refine ((HJ1.out.S.same (by rfl)).write_not i t _ _ _ (by unfold maxLen; omega) HU.out).mono ?_; rintro e w2 ⟨rfl, m2, rfl⟩) | (go_at_call 30; refine (rwrite_not (HR1.out.same (by rfl)) i t a bs.length cap HU.out).mono ?_; rintro e w2 ⟨rfl, rfl⟩) | (go_at_call 31; refine (kept_true _ w0.heap.size a cap bs (by omega) (by exact HL1.out.first) (by exact HL1.out.last) (by exact (HSr.out.keep ((HM01.out.mono (fun q _ h => HJ1.out.sB q h)).drewN _)).bytes cap) (by exact (HL1.out.far ((Mod.refl (fun _ => False) w1).drewN _) (fun h => h)).bytes HSr.out.lt)).mono ?_; rintro e w2 ⟨rfl, m3, rfl⟩))
  go_wp2
  go_ret
  exact ⟨by simp, u, D, F, HJ1.out.mod ((Mod.refl _ _).drewN _), HM01.out.drewN _⟩
/-- Write at the store, the list as it was, and what lies in other blocks. -/
theorem write_first {w1 : World} (j : J w1 B0 b c tb n u D F) {ob co yb cy : Nat} {R : Nat → Nat} (hR : Rf w1 tb n u D F ob co yb cy R) (i t ab h : Nat) (x y : Int) (v : Value) (bs : List Nat) (hi : i < n) (hu : u i = true) (ht : t + bs.length ≤ 64) (hb : ∀ x ∈ bs, x < 256)
    (hA : Acts3 w1 ab x y v) (hL : Lent w1 h bs) (h1 : ab ≠ c) (h2 : h ≠ c) :
    Calls Tryd.prog 23 #[.pointer (some ⟨b, 0, none⟩), .int .i64 i, .int .i64 t, .slice (some ⟨h, 1, none⟩) bs.length (bs.length + 1)] w1.drew fun e w' => e = .returned (.int .i64 0) ∧ Acts3 w' ab x y v ∧ Hid (St w' b c n u (over D (i * 64 + t) bs)) ∧ Hid (Rf w' tb n u D F ob co yb cy R) ∧ Hid (Lent w' h bs) ∧ Hid (Mod (fun q => q = b ∨ q = c ∨ F q) w1 w') := by
  refine ((j.S.same (w' := w1.drew) rfl).write_ok i t _ bs.length (bs.length + 1) bs hi hu ht rfl hb (fun _ => ⟨_, rfl, fun q y hq => ?_⟩)).mono fun e w' ⟨he, hS, hM, _⟩ => ⟨he, ?_, hS, (hR.same (w' := w1.drew) rfl).mod hM (fun q hq e => j.nc (e ▸ hq)), ?_, ?_⟩
  · rw [List.getElem?_map, Option.map_eq_some_iff] at hq
    obtain ⟨z, hz, rfl⟩ := hq
    rw [Addr.add_mid]; exact hL.mid q z hz
  · exact Acts3.far (w := w1.drew) hA hM h1
  · exact Lent.far (w := w1.drew) ⟨hL.first, hL.last, hL.mid⟩ hM h2
  · have m2 : Mod (fun q => q = b ∨ q = c ∨ F q) w1.drew w' := hM.mono (fun q _ h => .inr (.inl h))
    exact ((Mod.refl _ w1).drewN 1).trans m2
set_option maxHeartbeats 2000000 in
theorem act_write_ok (j : J w B0 b c tb n u D F) (i t : Nat) (a : Option Addr) (cap : Nat) (bs : List Nat) (hsrc : Src w B0 a bs) (hi : i < n) (hu : u i = true) (ht : t + bs.length ≤ 64) :
    Calls Tryd.prog 10 #[.pointer (some ⟨b, 0, none⟩), .pointer (some ⟨tb, 0, none⟩), .agg #[.int .i64 3, .int .i64 i, .int .i64 t, .slice a bs.length cap]] w (ActOk B0 b c tb n F w) := by
  have hJ : J (w.alloc (.cells #[.int .i64 3, .int .i64 i, .int .i64 t, .slice a bs.length cap] 35)) B0 b c tb n u D F := j.mod ((Mod.refl _ w).alloc _)
  have HM0 : Hid (Mod (fun k => k = b ∨ k = c ∨ F k) w (w.alloc (.cells #[.int .i64 3, .int .i64 i, .int .i64 t, .slice a bs.length cap] 35))) := (Mod.refl _ w).alloc _
  have hA : Acts3 (w.alloc (.cells #[.int .i64 3, .int .i64 i, .int .i64 t, .slice a bs.length cap] 35)) w.heap.size i t (.slice a bs.length cap) := ⟨by rw [World.cell?_alloc_at _ _ _ _ rfl]; rfl, by rw [World.cell?_alloc_at _ _ _ _ rfl]; rfl, by rw [World.cell?_alloc_at _ _ _ _ rfl]; rfl⟩
  have HU : Hid (u i = true) := hu
  have HSr : Hid (Src w B0 a bs) := hsrc
  have HF0 : Hid (¬ F w.heap.size) := j.nF
  have hcw := j.S.lt_c
  clear hu j hsrc
  go_enter Tryd.func10, Tryd.ntmps10
  go_wp2_with fail
  generalize w.alloc (.cells #[.int .i64 3, .int .i64 i, .int .i64 t, .slice a bs.length cap] 35) = w0 at *
  have HJ : Hid (J w0 B0 b c tb n u D F) := hJ
  have HA : Hid (Acts3 w0 w.heap.size i t (.slice a bs.length cap)) := hA
  have HF1 : Hid (¬ F w0.heap.size) := hJ.nF
  have hc0 := hJ.S.lt_c
  clear hJ hA
  refine (lend_any w0 a cap bs (by omega) (fun j x hx => by obtain ⟨g, o, h1, _, h3⟩ := (HSr.out.keep (HM0.out.mono (fun q _ h => HJ.out.sB q h))).at_ j x hx; exact ⟨g, o, h1, h3⟩)).mono ?_
  rintro e w1 ⟨A, m, hLA, rfl, hw1⟩
  have HM1 : Hid (Mod (fun _ => False) w0 w1) := by show Mod _ _ _; rw [hw1]; exact ((Mod.refl _ w0).alloc _).drewN m
  have HL1 : Hid (Lent w1 w0.heap.size bs) := by show Lent _ _ _; rw [hw1]; exact lend_lent hLA m
  clear hw1 hLA
  have HJ1 : Hid (J w1 B0 b c tb n u D F) := HJ.out.mod HM1.out
  have HA1 : Hid (Acts3 w1 w.heap.size i t (.slice a bs.length cap)) := HA.out.far HM1.out (fun h => h)
  have HM01 : Hid (Mod (fun k => k = b ∨ k = c ∨ F k) w w1) := HM0.out.trans (HM1.out.mono (fun _ _ h => h.elim))
  obtain ⟨ob, co, yb, cy, R, hR⟩ := HJ1.out.R
  have HR1 : Hid (Rf w1 tb n u D F ob co yb cy R) := hR
  clear hR
  have hac : w.heap.size ≠ c := by omega
  have hhc : w0.heap.size ≠ c := by omega
  go_wp2_with fail
  go_region_held (fun W' => W'.cell? ⟨w.heap.size, 1, none⟩ = some (.int .i64 i) ∧ W'.cell? ⟨w.heap.size, 2, none⟩ = some (.int .i64 t) ∧ W'.cell? ⟨w.heap.size, 3, none⟩ = some (.slice a bs.length cap)) (first | exact hA4 | exact hA3 | exact hA2 | exact HA1.out) (first | (go_at_call 23; refine (write_first HJ1.out HR1.out i t w.heap.size w0.heap.size _ _ _ bs hi HU.out ht HSr.out.lt HA1.out HL1.out hac hhc).mono ?_; rintro e w2 ⟨rfl, hA2, HS2, HR2, HL2, HM2⟩) | (go_at_call 30; refine (HR2.out.write_ok i t cap a bs hi HU.out ht HSr.out.lt ((HSr.out.keep ((HM01.out.trans HM2.out).mono (fun q _ h => HJ1.out.sB q h))).notF HJ1.out.fB)).mono ?_; rintro e w3 ⟨rfl, R3, M3⟩; have hA3 := hA2.far M3 HF0.out; have HL3 : Hid (Lent w3 w0.heap.size bs) := HL2.out.far M3 HF1.out; have HR3 : Hid (Rf w3 tb n u (over D (i * 64 + t) bs) F ob co yb cy R) := R3; have HM3 : Hid (Mod F w2 w3) := M3; clear R3 M3) | (go_at_call 31; refine (kept_true w3 w0.heap.size a cap bs (by omega) HL3.out.first HL3.out.last ((HSr.out.keep (((HM01.out.trans HM2.out).trans (HM3.out.mono (fun q _ h => .inr (.inr h)))).mono (fun q _ h => HJ1.out.sB q h))).bytes cap) (HL3.out.bytes HSr.out.lt)).mono ?_; rintro e w4 ⟨rfl, m3, hw4⟩; have hA4 : Acts3 w4 w.heap.size i t (.slice a bs.length cap) := (by rw [hw4]; exact hA3); have HW4 : Hid (w4 = w3.drewN m3) := hw4; clear hw4))
  go_wp2
  go_ret
  have hs : St w3 b c n u (over D (i * 64 + t) bs) := HS2.out.mod HM3.out HJ1.out.b0 HJ1.out.nb HJ1.out.nc
  have hj : J w3 B0 b c tb n u (over D (i * 64 + t) bs) F := ⟨hs, ⟨_, _, _, _, _, HR3.out⟩, HJ1.out.nb, HJ1.out.nc, HJ1.out.fB, HJ1.out.bB, HJ1.out.cB, Nat.le_trans HJ1.out.BB (Nat.le_trans HM2.out.size HM3.out.size)⟩
  have hm := (HM01.out.trans HM2.out).trans (HM3.out.mono (fun q _ h => .inr (.inr h)))
  obtain rfl := HW4.out
  exact ⟨by simp, _, _, _, hj.mod ((Mod.refl _ _).drewN m3), hm.drewN m3⟩
end
end Go.Proofs.YtipdpifpblaldaaDoor
