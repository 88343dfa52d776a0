/- The walk of writePlaces: place by place from the first one. Conditions: the table lies in memory as 'Tb' says; the bytes to be written lie apart from it. -/
import Derived.Test.YtpcbpikhiooafaaGreatDoorM6
import Derived.Test.YtpcbpikhiooafaaGreatDoorM8
namespace Go.Proofs.YtpcbpikhiooafaaGreatDoor
open Go.RowKit
/-- What the bytes are when bs were written to ref f's block from o on. -/
def wrt (u : Nat → Bool) (D : Nat → Nat) (f o : Nat) (bs : List Nat) : Nat → Nat := if f ≠ 0 ∧ u (f - 1) = true then over D ((f - 1) * 64 + o) bs else D
/-- How far a write has come: the bytes written, what is in use, the store's bytes, the inode's refs. -/
structure WS where
  done : Nat
  u : Nat → Bool
  D : Nat → Nat
  R : Nat → Nat
/-- take, of an inode's place. -/
def tkAt (n : Nat) (u : Nat → Bool) (D : Nat → Nat) (R : Nat → Nat) (k : Nat) : Option ((Nat → Bool) × (Nat → Nat) × Nat × Nat) := tk (lv k) n u D (R (rt k)) (kk k)
def wrun (n off : Nat) (bs : List Nat) : Nat → WS → WS
  | 0, s => s
  | f + 1, s =>
    if s.done < bs.length then
      match tkAt n s.u s.D s.R ((off + s.done) / 64) with
      | none => s
      | some (u', D', r', x) =>
        let m := min (bs.length - s.done) (64 - (off + s.done) % 64)
        wrun n off bs f ⟨s.done + m, u', wrt u' D' x ((off + s.done) % 64) ((bs.drop s.done).take m), upd s.R (rt ((off + s.done) / 64)) r'⟩
    else s
theorem tk_lt_any {n : Nat} {u : Nat → Bool} {D : Nat → Nat} {r k l : Nat} {u2 : Nat → Bool} {D2 : Nat → Nat} {p f : Nat} (hn : n ≤ 4096) (hr : r < 4294967296) (h : tk l n u D r k = some (u2, D2, p, f)) : p < 4294967296 := by
  cases l with
  | zero => exact tk_lt0 hn hr h
  | succ l =>
    rw [tk] at h
    by_cases h0 : r ≠ 0
    · rw [if_pos h0] at h
      simp only [Option.bind_some, Option.map_eq_some_iff, Prod.mk.injEq] at h; obtain ⟨_, _, _, _, h, _⟩ := h; omega
    · rw [if_neg h0] at h
      cases hl : low u n with
      | none => rw [hl] at h; simp at h
      | some i =>
        have := (low_some hl).1
        rw [hl] at h
        simp only [Option.map_some, Option.bind_some, Option.map_eq_some_iff, Prod.mk.injEq] at h; obtain ⟨_, _, _, _, h, _⟩ := h; omega
theorem upd2_same {α : Type} (R : Nat → Nat → α) (i k : Nat) : upd2 R i k (R i k) = R := by
  funext a c; unfold upd2; split
  · rename_i h; rw [h.1, h.2]
  · rfl
theorem upd2_setN {α : Type} (R : Nat → Nat → α) (i k : Nat) (g : Nat → α) (v : α) : upd2 (setN R i g) i k v = setN R i (upd g k v) := by
  funext a c; unfold upd2 setN upd
  by_cases e : a = i
  · subst e
    by_cases e2 : c = k
    · simp [e2]
    · simp [e2]
  · simp [e]
theorem setN_setN {α : Type} (R : Nat → Nat → α) (i : Nat) (g h : Nat → α) : setN (setN R i g) i h = setN R i h := by
  funext a c; unfold setN; split <;> rfl
theorem setN_self {α : Type} (R : Nat → Nat → α) (i : Nat) : setN R i (R i) = R := by
  funext a c; unfold setN; split
  · rename_i h; rw [h]
  · rfl
theorem setN_at {α : Type} (R : Nat → Nat → α) (i : Nat) (g : Nat → α) (k : Nat) : setN R i g i k = g k := by simp [setN]
theorem setN_at' {α : Type} (R : Nat → Nat → α) (i : Nat) (g : Nat → α) : setN R i g i = g := by funext k; simp [setN]
section
variable {w w' : World} {t q b c n N : Nat} {clk : Int} {F : Nat → Nat → Int} {R : Nat → Nat → Nat} {u : Nat → Bool} {D : Nat → Nat}
theorem St.write_any (S : St w b c n u D) (f o : Nat) (sp : Option Addr) (k cap : Nat) (bs : List Nat) (ho : o + k ≤ 64) (hk : bs.length = k) (hb : ∀ x ∈ bs, x < 256)
    (hsrc : 0 < k → ∃ ad, sp = some ad ∧ ∀ j v, (bs.map byteV)[j]? = some v → w.cell? (ad.add j) = some v) :
    Calls Tryz.prog 102 #[.pointer (some ⟨b, 0, none⟩), .int .i64 ((f : Int) - 1), .int .i64 (o : Nat), .slice sp k cap] w fun e w' => (∃ v, e = .returned (.int .i64 v)) ∧ Hid (St w' b c n u (wrt u D f o bs)) ∧ Hid (Mod (fun k => k = c) w w') := by
  unfold wrt
  by_cases h : f ≠ 0 ∧ u (f - 1) = true
  · have hrn : f - 1 < n := Nat.lt_of_not_le fun h' => by have := h.2; rw [S.out _ h'] at this; exact absurd this (by simp)
    rw [if_pos h, show (f : Int) - 1 = ((f - 1 : Nat) : Int) by have := h.1; omega]
    exact (S.write_ok (f - 1) o sp k cap bs hrn h.2 ho hk hb hsrc).mono fun e w' ⟨h1, h2, h3, _⟩ => ⟨⟨_, h1⟩, h2, h3⟩
  · rw [if_neg h]
    exact (S.write_not _ o sp k cap (by unfold maxLen; omega) (.inl (unfit_of h))).mono fun e w' ⟨h1, m, h2⟩ => ⟨⟨_, h1⟩, by subst h2; exact S.drewN m, by subst h2; exact (Mod.refl _ w).drewN m⟩
theorem place_any2 (nb no k : Nat) (w : World) (hk : k < 278) : Calls Tryz.prog 100 #[.pointer (some ⟨nb, no, none⟩), .int .i64 k] w fun e w' => ∃ o P K : Nat,
    e = .returned (.tuple #[.agg #[.pointer (some ⟨nb, o, none⟩), .int .i64 P], .int .i64 K]) ∧ Hid (o = no + 9 + rt k ∧ P = 16 ^ lv k ∧ K = kk k) ∧ Hid (Mod (fun _ => False) w w') :=
  (place_at nb no k w hk).mono fun _ _ ⟨h1, h2⟩ => ⟨_, _, _, h1, ⟨rfl, rfl, rfl⟩, h2⟩
theorem takeAt (T : Tb w t q b c n N clk F R u D) (i k o P K : Nat) (hi : i < N) (hk : k < 278) (h : o = i * 17 + 9 + rt k ∧ P = 16 ^ lv k ∧ K = kk k) :
    Calls Tryz.prog 104 #[.pointer (some ⟨t, 0, none⟩), .pointer (some ⟨q, o, none⟩), .int .i64 P, .int .i64 K] w (TkPost b c n t q o u D (R i (rt k)) w (tkAt n u D (R i) k)) := by
  obtain ⟨rfl, rfl, rfl⟩ := h
  have ha := T.cr i (rt k) hi (rt_lt k)
  have hf := T.fq (i * 17 + 9 + rt k)
  unfold tkAt
  by_cases h1 : k < 6
  · have e : lv k = 0 := by simp [lv, h1]
    rw [e]; exact take0 T.S t q _ _ _ T.c0 ha hf T.apart
  · by_cases h2 : k < 22
    · have e : lv k = 1 := by simp [lv, h1, h2]
      rw [e]; exact take1 T.S t q _ _ _ T.c0 ha hf T.apart (by simp [kk, h1, h2]; omega) (T.rl _ _)
    · have e : lv k = 2 := by simp [lv, h1, h2]
      rw [e]; exact take2 T.S t q _ _ _ T.c0 ha hf T.apart (by simp [kk, h1, h2]; omega) (T.rl _ _)
theorem tk_f_lt {n : Nat} {D : Nat → Nat} (hn : n ≤ 4096) (hD : ∀ j, D j < 256) : ∀ {l : Nat} {u : Nat → Bool} {r k : Nat} {u2 : Nat → Bool} {D2 : Nat → Nat} {p f : Nat}, r < 4294967296 → tk l n u D r k = some (u2, D2, p, f) → f < 4294967296
  | 0, u, r, k, u2, D2, p, f, hr, h => by
    rw [tk] at h
    by_cases h0 : r ≠ 0
    · rw [if_pos h0] at h
      simp only [Option.some.injEq, Prod.mk.injEq] at h; omega
    · rw [if_neg h0] at h
      cases hl : low u n with
      | none => rw [hl] at h; simp at h
      | some i =>
        have := (low_some hl).1
        rw [hl] at h
        simp only [Option.map_some, Option.some.injEq, Prod.mk.injEq] at h; omega
  | l + 1, u, r, k, u2, D2, p, f, hr, h => by
    rw [tk] at h
    rw [Option.bind_eq_some_iff] at h
    obtain ⟨⟨u1, r1⟩, _, h⟩ := h
    rw [Option.map_eq_some_iff] at h
    obtain ⟨⟨u3, D3, p3, f3⟩, h3, h4⟩ := h
    simp only [Prod.mk.injEq] at h4
    obtain ⟨_, _, _, rfl⟩ := h4
    exact tk_f_lt hn hD (ptr_lt _ _ hD _ _) h3
/-- Behind take. -/
theorem Tb.took {i : Nat} {g : Nat → Nat} (T : Tb w t q b c n N clk F (setN R i g) u D) (k o : Nat) {u' : Nat → Bool} {D' : Nat → Nat} {r' x : Nat} (hx : tkAt n u D g k = some (u', D', r', x)) (ho : o = i * 17 + 9 + rt k)
    (hS : St w' b c n u' D') (hc : w'.cell? ⟨q, o, none⟩ = some (.int .i64 (r' : Nat))) (hF : Fr b c q o w w') : Tb w' t q b c n N clk F (setN R i (upd g (rt k) r')) u' D' := by
  subst ho
  have hr : r' < 4294967296 := tk_lt_any T.S.n2 (by have := T.rl i (rt k); rw [setN_at] at this; exact this) hx
  have := T.fr i (rt k) r' (rt_lt k) hF hS hr hc
  rwa [upd2_setN] at this
theorem Tb.untook (T : Tb w t q b c n N clk F R u D) (i k o : Nat) (ho : o = i * 17 + 9 + rt k) (hS : St w' b c n u D) (hc : w'.cell? ⟨q, o, none⟩ = some (.int .i64 (R i (rt k) : Nat))) (hF : Fr b c q o w w') : Tb w' t q b c n N clk F R u D := by
  subst ho
  have := T.fr i (rt k) _ (rt_lt k) hF hS (T.rl i (rt k)) hc
  rwa [upd2_same] at this
/-- Where the bytes to be written lie. -/
structure Src (w : World) (g go : Nat) (bs : List Nat) : Prop where
  at_ : ∀ j x, bs[j]? = some x → w.cell? ⟨g, go + j, none⟩ = some (byteV x)
  lt : ∀ x ∈ bs, x < 256
theorem Src.keep {g go : Nat} {bs : List Nat} (h : Src w g go bs) {s : Nat → Prop} (hM : Mod s w w') (hs : ¬ s g) : Src w' g go bs :=
  ⟨fun j x hj => (hM.cell (p := ⟨g, go + j, none⟩) (block_lt_of_cell (h.at_ j x hj)) hs).trans (h.at_ j x hj), h.lt⟩
theorem Src.part {g go : Nat} {bs : List Nat} (h : Src w g go bs) (d m : Nat) : ∀ j v, (((bs.drop d).take m).map byteV)[j]? = some v → w.cell? ((⟨g, go + d, none⟩ : Addr).add j) = some v := fun j v hv => by
  rw [Addr.add_mid]
  rw [List.getElem?_map, Option.map_eq_some_iff] at hv
  obtain ⟨x, hx, rfl⟩ := hv
  rw [List.getElem?_take] at hx
  split at hx
  · rw [List.getElem?_drop] at hx
    rw [Nat.add_assoc]; exact h.at_ (d + j) x hx
  · exact absurd hx (by simp)
theorem inPlace_any2 (o M : Nat) (w : World) (ho : o < 9223372036854775808) : Calls Tryz.prog 105 #[.int .i64 o, .int .i64 M] w fun e w' => ∃ m : Nat, e = .returned (.int .i64 m) ∧ Hid (m = min M (64 - o % 64)) ∧ m ≤ M ∧ m ≤ 64 ∧ Hid (m + o % 64 ≤ 64) ∧ Hid (0 < M → 0 < m) ∧ w' = w :=
  (inPlace_any o M w ho).mono fun _ _ ⟨h1, h2⟩ => ⟨_, h1, rfl, by omega, by omega, by show _ ≤ _; omega, by intro h; omega, h2⟩
/-- One round of writePlaces. -/
theorem wrun_step {n off : Nat} {bs : List Nat} {f : Nat} {s : WS} (h : s.done < bs.length) {u' : Nat → Bool} {D' : Nat → Nat} {r' x : Nat} (hx : tkAt n s.u s.D s.R ((off + s.done) / 64) = some (u', D', r', x)) :
    wrun n off bs (f + 1) s = wrun n off bs f ⟨s.done + min (bs.length - s.done) (64 - (off + s.done) % 64), u', wrt u' D' x ((off + s.done) % 64) ((bs.drop s.done).take (min (bs.length - s.done) (64 - (off + s.done) % 64))), upd s.R (rt ((off + s.done) / 64)) r'⟩ := by
  rw [wrun, if_pos h, hx]
theorem wrun_stop {n off : Nat} {bs : List Nat} {f : Nat} {s : WS} (hx : tkAt n s.u s.D s.R ((off + s.done) / 64) = none) : wrun n off bs f s = s := by
  cases f with
  | zero => rfl
  | succ f =>
    rw [wrun]
    split
    · rw [hx]
    · rfl
theorem wrun_end {n off : Nat} {bs : List Nat} {f : Nat} {s : WS} (h : ¬ s.done < bs.length) : wrun n off bs f s = s := by
  cases f with
  | zero => rfl
  | succ f => rw [wrun, if_neg h]
set_option maxRecDepth 8000 in
set_option maxHeartbeats 4000000 in
theorem wplaces (T : Tb w t q b c n N clk F R u D) (i off g go cap : Nat) (bs : List Nat) (hi : i < N) (hb : off + bs.length ≤ 17792) (hcap : bs.length ≤ cap) (hcm : cap ≤ 9223372036854775807) (hsrc : Src w g go bs) (hgb : g ≠ b) (hgc : g ≠ c) (hgq : g ≠ q) :
    Calls Tryz.prog 86 #[.pointer (some ⟨t, 0, none⟩), .pointer (some ⟨q, i * 17, none⟩), .int .i64 off, .slice (some ⟨g, go, none⟩) bs.length cap] w fun e w' => e = .returned (.int .i64 ((wrun n off bs bs.length ⟨0, u, D, R i⟩).done : Nat)) ∧
      Tb w' t q b c n N clk F (setN R i (wrun n off bs bs.length ⟨0, u, D, R i⟩).R) (wrun n off bs bs.length ⟨0, u, D, R i⟩).u (wrun n off bs bs.length ⟨0, u, D, R i⟩).D ∧ Mod (fun k => k = b ∨ k = c ∨ k = q) w w' := by
  have HS : Hid (Src w g go bs) := hsrc
  have HT : Hid (Tb w t q b c n N clk F (setN R i (R i)) u D) := by show Tb _ _ _ _ _ _ _ _ _ _ _ _; rw [setN_self]; exact T
  have HG : Hid (¬ (g = b ∨ g = c ∨ g = q)) := fun e => e.elim hgb (fun e => e.elim hgc hgq)
  have htl := T.lt_t
  generalize hFIN : wrun n off bs bs.length ⟨0, u, D, R i⟩ = FIN
  have HFIN : Hid (wrun n off bs bs.length ⟨0, u, D, R i⟩ = FIN) := hFIN
  clear T hsrc hgb hgc hgq hFIN
  go_enter Tryz.func86, Tryz.ntmps86
  go_wp2
  go_loopw [9] (fun x wx => ∃ d : Nat, d ≤ bs.length ∧ x = .int .i64 d ∧ ∃ (us : Nat → Bool) (Ds : Nat → Nat) (Rs : Nat → Nat), Hid (Tb wx t q b c n N clk F (setN R i Rs) us Ds) ∧ Hid (Mod (fun k => k = b ∨ k = c ∨ k = q) w wx) ∧ Hid (∃ f, bs.length - d ≤ f ∧ wrun n off bs f ⟨d, us, Ds, Rs⟩ = FIN)) (fun x _ => bs.length - (intOf x).toNat)
  case atStart => exact ⟨0, by omega, rfl, u, D, R i, HT, Mod.refl _ _, ⟨_, by omega, HFIN.out⟩⟩
  case round =>
    obtain ⟨d, hd, rfl, us, Ds, Rs, HTr, HMr, HFr⟩ := hrel
    by_cases hlt : d < bs.length
    · have hk : (off + d) / 64 < 278 := by omega
      have hquo : ((off : Int) + d) / 64 = (((off + d) / 64 : Nat) : Int) := by omega
      have HQ : Hid (((off : Int) + d) / 64 = (((off + d) / 64 : Nat) : Int)) := hquo
      clear hquo
      cases hx : tkAt n us Ds Rs ((off + d) / 64) with
      | none =>
        have HX : Hid (tkAt n us Ds Rs ((off + d) / 64) = none) := hx
        clear hx
        go_wp2_with (first | (go_at_call 100; go_loud (rw [HQ.out]; refine (place_any2 q (i * 17) _ _ hk).mono ?_; rintro e w1 ⟨o, P, K, rfl, HP, HM1⟩; have HT1 : Hid (Tb (w1.alloc (.cells #[.pointer (some ⟨q, o, none⟩), .int .i64 P] 171)) t q b c n N clk F (setN R i Rs) us Ds) := HTr.out.new (HM1.out.alloc _))) | (go_at_call 104; go_loud (refine (takeAt HT1.out i _ o P K hi hk HP.out).mono ?_; rw [setN_at', HX.out]; rintro e w2 ⟨rfl, H2, C2, F2, -⟩; have HT2 : Hid (Tb w2 t q b c n N clk F (setN R i Rs) us Ds) := HT1.out.untook i _ o HP.out.1 H2 (by rw [setN_at]; exact C2) F2; have HM2 : Hid (Mod (fun k => k = b ∨ k = c ∨ k = q) w w2) := (HMr.out.trans (((HM1.out.alloc _).mono (fun _ _ h => h.elim)))).trans F2.mod; clear H2 C2 F2)))
        obtain ⟨f, hf, hfin⟩ := HFr.out
        rw [wrun_stop HX.out] at hfin
        have HE : Hid (FIN = ⟨d, us, Ds, Rs⟩) := hfin.symm
        clear hfin
        go_ret
        exact ⟨by simp [HE.out], by rw [HE.out]; exact HT2.out, HM2.out⟩
      | some y =>
        obtain ⟨u', D', r', x⟩ := y
        have HX : Hid (tkAt n us Ds Rs ((off + d) / 64) = some (u', D', r', x)) := hx
        clear hx
        have hxl : x < 4294967296 := tk_f_lt HTr.out.S.n2 HTr.out.S.dl (by have := HTr.out.rl i (rt ((off + d) / 64)); rw [setN_at] at this; exact this) HX.out
        have HA : Hid ((off : Int) + d = ((off + d : Nat) : Int)) := rfl
        have HB : Hid ((bs.length : Int) - d = ((bs.length - d : Nat) : Int)) := by show _ = _; omega
        have HR : Hid (((off : Int) + d).tmod 64 = (((off + d) % 64 : Nat) : Int)) := by show _ = _; rw [Int.tmod_eq_emod_of_nonneg (by omega)]; omega
        go_wp2_with (first | (go_at_call 100; rw [HQ.out]; refine (place_any2 q (i * 17) _ _ hk).mono ?_; rintro e w1 ⟨o, P, K, rfl, HP, HM1⟩; have HT1 : Hid (Tb (w1.alloc (.cells #[.pointer (some ⟨q, o, none⟩), .int .i64 P] 171)) t q b c n N clk F (setN R i Rs) us Ds) := HTr.out.new (HM1.out.alloc _)) | (go_at_call 104; refine (takeAt HT1.out i _ o P K hi hk HP.out).mono ?_; rw [setN_at', HX.out]; rintro e w2 ⟨rfl, H2, C2, F2, -⟩; have HT2 : Hid (Tb w2 t q b c n N clk F (setN R i (upd Rs (rt ((off + d) / 64)) r')) u' D') := HT1.out.took _ o HX.out HP.out.1 H2 C2 F2; have HM2 : Hid (Mod (fun k => k = b ∨ k = c ∨ k = q) w w2) := (HMr.out.trans (((HM1.out.alloc _).mono (fun _ _ h => h.elim)))).trans F2.mod; clear H2 C2 F2) | (go_at_call 105; rw [HA.out, HB.out]; refine (inPlace_any2 (off + d) (bs.length - d) _ (by omega)).mono ?_; rintro e w3 ⟨m, rfl, HM, hm1, hm2, HM64, HMp, hw3⟩; rw [hw3]; clear hw3 w3))
        have HSg : Hid (Src w2 g go bs) := HS.out.keep HM2.out HG.out
        have HC : Hid ((w2.drewN 1).cell? ⟨t, 0, none⟩ = some (.pointer (some ⟨b, 0, none⟩))) := HT2.out.c0
        have hlen : ((bs.drop d).take m).length = m := by rw [List.length_take, List.length_drop]; omega
        have HLn : Hid (((bs.drop d).take m).length = m) := hlen
        clear hlen
        go_region_held (fun W' => W'.cell? ⟨t, 0, none⟩ = some (.pointer (some ⟨b, 0, none⟩))) (first | exact hS3 | exact HC.out) (first | (go_at_call 103; refine (block_any x _ (by omega)).mono ?_; rintro e w3 ⟨rfl, rfl⟩) | (go_at_call 102; rw [HR.out]; refine ((HT2.out.S.drewN 1).write_any x ((off + d) % 64) _ m _ ((bs.drop d).take m) (by have := HM64.out; omega) HLn.out (fun y hy => HSg.out.lt y (List.mem_of_mem_drop (List.mem_of_mem_take hy))) (fun _ => ⟨_, rfl, HSg.out.part d m⟩)).mono ?_; rintro e w3 ⟨⟨v, rfl⟩, H3, M3⟩; have HT3 : Hid (Tb w3 t q b c n N clk F (setN R i (upd Rs (rt ((off + d) / 64)) r')) u' (wrt u' D' x ((off + d) % 64) ((bs.drop d).take m))) := HT2.out.store (((Mod.refl _ w2).drewN 1).trans M3.out) H3.out HT2.out.tc HT2.out.qc; have HM3 : Hid (Mod (fun k => k = b ∨ k = c ∨ k = q) w w3) := HM2.out.trans ((((Mod.refl _ w2).drewN 1).trans M3.out).mono (fun _ _ h => .inr (.inl h))); have hS3 := HT3.out.c0; clear H3 M3))
        clear hS3
        have hmp : 0 < m := HMp.out (by omega)
        have HF3 : Hid (∃ f, bs.length - (d + m) ≤ f ∧ wrun n off bs f ⟨d + m, u', wrt u' D' x ((off + d) % 64) ((bs.drop d).take m), upd Rs (rt ((off + d) / 64)) r'⟩ = FIN) := by
          obtain ⟨f, hf, hfin⟩ := HFr.out
          cases f with
          | zero => omega
          | succ f =>
            rw [wrun_step hlt HX.out] at hfin
            refine ⟨f, by omega, ?_⟩
            rw [HM.out]; exact hfin
        go_wp2
        exact ⟨⟨d + m, by omega, by go_num, u', _, _, HT3, HM3, HF3⟩, by simp [intOf]; omega⟩
    · obtain ⟨f, hf, hfin⟩ := HFr.out
      rw [wrun_end hlt] at hfin
      have HE : Hid (FIN = ⟨d, us, Ds, Rs⟩) := hfin.symm
      clear hfin hf
      go_wp2
      go_ret
      exact ⟨by simp [HE.out], by rw [HE.out]; exact HTr.out, HMr.out⟩
end
end Go.Proofs.YtpcbpikhiooafaaGreatDoor
