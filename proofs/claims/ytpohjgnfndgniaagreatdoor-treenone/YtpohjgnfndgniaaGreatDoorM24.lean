/- Several texts of this claim, one behind the other, in their order. -/
import Derived.Test.YtpohjgnfndgniaaGreatDoorTr7
import Derived.Laws.IdiomStrings
import Derived.Test.YtpohjgnfndgniaaGreatDoorM21
/- The task's call content. Conditions: the task's table; what Read tells of the link. -/
namespace Go.Proofs.YtpohjgnfndgniaaGreatDoor
open Go.RowKit
set_option maxRecDepth 100000 in
set_option maxHeartbeats 2000000 in
theorem tContent {w : World} {k t : Nat} (hc : w.cell? ⟨k, 0, none⟩ = some (.pointer (some ⟨t, 0, none⟩))) (s0 s1 s2 s3 s5 s6 s7 s8 s9 : Int) (l : List UInt8)
    (hR : ∀ W, Mod (fun _ => False) w W → Calls Tryz.prog 105 #[.pointer (some ⟨t, 0, none⟩), .int .i64 s0, .int .i64 0, .int .i64 (l.length : Nat)] W fun e w' => ∃ g cp, e = .returned (.tuple #[.slice (some ⟨g, 0, none⟩) l.length cp, .int .i64 0]) ∧ (∀ j (hj : j < l.length), w'.cell? ((⟨g, 0, none⟩ : Addr).add j) = some (.int .u8 (l[j].toNat : Int))) ∧ Mod (fun _ => False) W w') :
    Calls Tryz.prog 47 #[.pointer (some ⟨k, 0, none⟩), sA s0 s1 s2 s3 (l.length : Nat) s5 s6 s7 s8 s9] w fun e w' => e = .returned (.string ⟨l.toArray⟩) ∧ Mod (fun _ => False) w w' := by
  have HR := hid6 hR
  clear hR
  have hk := block_lt_of_cell hc
  unfold sA
  go_enter Tryz.func47, Tryz.ntmps47
  go_upto_region 1 with fail
  go_cut [5, 6] (fun v5 v6 wc => ∃ g cp : Nat, v5 = .slice (some ⟨g, 0, none⟩) l.length cp ∧ v6 = .int .i64 0 ∧ Hid (∀ j (hj : j < l.length), wc.cell? ((⟨g, 0, none⟩ : Addr).add j) = some (.int .u8 (l[j].toNat : Int))) ∧ Hid (Mod (fun _ => False) w wc))
  case first =>
    have hall := ((Mod.refl (fun _ => False) w).alloc (.cells #[.int .i64 s0, .int .i64 s1, .int .i64 s2, .int .i64 s3, .int .i64 (l.length : Nat), .int .i64 s5, .int .i64 s6, .int .i64 s7, .int .i64 s8, .int .i64 s9] 38))
    have HAl := hid6 hall
    clear hall
    go_region_held (fun W' => W'.cell? ⟨k, 0, none⟩ = some (.pointer (some ⟨t, 0, none⟩)) ∧ W'.cell? ⟨w.heap.size, 0, none⟩ = some (.int .i64 s0) ∧ W'.cell? ⟨w.heap.size, 4, none⟩ = some (.int .i64 (l.length : Nat))) (first | with_reducible exact hS1 | go_keep)
      (first | (go_at_call 105; refine (HR.out _ (HAl.out.drewN 1)).mono ?_; rintro e w1 ⟨g, cp, rfl, hcl, M1⟩; have hS1 := And.intro ((M1.cell (p := ⟨k, 0, none⟩) (by simp; omega) (fun e => e)).trans ((HAl.out.cell (p := ⟨k, 0, none⟩) hk (fun e => e)).trans hc)) (And.intro ((M1.cell (p := ⟨w.heap.size, 0, none⟩) (by simp) (fun e => e)).trans (show (w.alloc _).cell? ⟨w.heap.size, 0, none⟩ = some (.int .i64 s0) by rw [World.cell?_alloc_at _ _ _ _ rfl]; rfl)) ((M1.cell (p := ⟨w.heap.size, 4, none⟩) (by simp) (fun e => e)).trans (show (w.alloc _).cell? ⟨w.heap.size, 4, none⟩ = some (.int .i64 (l.length : Nat)) by rw [World.cell?_alloc_at _ _ _ _ rfl]; rfl))); have HM1 := hid6 ((HAl.out.drewN 1).trans M1); have HCl := hid6 hcl; clear M1 hcl))
    all_goals
      go_wp2_with fail
      go_meet
      exact ⟨g, cp, rfl, rfl, HCl, HM1⟩
  case rest =>
    obtain ⟨g, cp, rfl, rfl, HCl, HM1⟩ := hcut
    have hcv := run_convert_bytes_back (P := Tryz.prog) wc 26 9 5 ⟨g, 0, none⟩ cp l Tryz.underlying26 Tryz.underlying5 Tryz.underlying9 HCl.out
    go_wp2_with (first | (go_at_call 57; refine (must_no _).mono ?_; rintro e w9 ⟨rfl, hw9⟩; rw [hw9]; clear hw9 w9))
    go_ret
    exact ⟨rfl, HM1.out⟩
end Go.Proofs.YtpohjgnfndgniaaGreatDoor
/- The task's call enter: a relative link ahead of other names. Conditions: what content and Split tell. -/
namespace Go.Proofs.YtpohjgnfndgniaaGreatDoor
open Go.RowKit
theorem infStr6 : ∃ i, Tryz.prog.info? 9 = some i ∧ i.zero = some (.string ⟨#[]⟩) ∧ i.size = 1 ∧ i.bytes = 16 := info_of (by kernel_rfl)
theorem row_mod6 {w w' : World} {base e n : Nat} {v : Value} {xs : List Value} {s : Nat → Prop} (h : w.ownsRow base e 1 v n xs) (hM : Mod s w w') (hs : ∀ g, base ≤ g → ¬ s g) : w'.ownsRow base e 1 v n xs := by
  refine ⟨h.1, ?_⟩
  rcases h.2 with h0 | ⟨g, cap, cur, hv, hb, hg, r⟩
  · exact .inl h0
  · exact .inr ⟨g, cap, cur, hv, hb, (hM.block g (Array.getElem?_eq_some_iff.1 hg).1 (hs g hb)).trans hg, r⟩
theorem mod_grown6 {b c : World} {r : Option Nat} (hg : b.grownBy c r) : Mod (fun x => r = some x) b c := ⟨hg.os, hg.tape, hg.output, hg.size, fun k hk hs => hg.block k hk (fun e => hs (by first | exact e.symm | exact e))⟩
theorem ret_enter {W : World} {B : Nat} {L : List Value} {v : Value} (h : W.rangeAt B 0 L) (hl : L.length = 4) (tmps : Array Value) (h4 : tmps[8]?.getD undef = .pointer (some ⟨B, 0, none⟩)) (h5 : tmps[9]?.getD undef = v) :
    (results Tryz.f130 tmps).run Tryz.prog W = .ok (.tuple #[.agg L.toArray, v]) W := by
  have h2 := run_loadVar_mid (P := Tryz.prog) W B 0 87 L _ h Tryz.underlying87 rfl (by rw [hl]; exact infSp)
  unfold results
  rw [Tryz.results130]
  simp [h4, h5, asAddr, Result.andThen, h2]
set_option maxRecDepth 100000 in
set_option maxHeartbeats 2000000 in
theorem tEnter {w : World} {k : Nat} (s0 s1 s2 s3 s4 s5 s6 s7 s8 s9 : Int) (l : List UInt8) (ns : List (List UInt8)) (sl : Bool) (hP : SplOf l false ns sl)
    (hCo : ∀ W, Mod (fun _ => False) w W → Calls Tryz.prog 47 #[.pointer (some ⟨k, 0, none⟩), sA s0 s1 s2 s3 s4 s5 s6 s7 s8 s9] W fun e w' => e = .returned (.string ⟨l.toArray⟩) ∧ Mod (fun _ => False) W w')
    (d i : Int) (nm : List UInt8) (ssl : Bool) (bk o c m : Nat) (xs : List (List UInt8)) (hS : Strs w (some ⟨bk, o, none⟩) xs) (hm : m = xs.length) (hm0 : 0 < m) (hn : ns.length + m ≤ 2 ^ 40) :
    Calls Tryz.prog 130 #[.pointer (some ⟨k, 0, none⟩), spA d nm i ssl, sA s0 s1 s2 s3 s4 s5 s6 s7 s8 s9, .slice (some ⟨bk, o, none⟩) m c] w fun e w' => ∃ a' c', e = .returned (.tuple #[spA d nm d ssl, .slice a' (ns.length + m) c']) ∧ ns.length + m ≤ c' ∧ Strs w' a' (ns ++ xs) ∧ (∀ b, a'.map (·.block) = some b → w.heap.size ≤ b ∧ b < w'.heap.size) ∧ Mod (fun _ => False) w w' := by
  have HP := hid6 hP
  have HCo := hid6 hCo
  have HS := hid6 hS
  have HM := hid6 hm
  have HN := hid6 hn
  clear hP hCo hS hm hn
  unfold spA sA at *
  have hmz : (((m : Nat) : Int) == 0) = false := by simp; omega
  go_enter Tryz.func130, Tryz.ntmps130
  go_wp2_with fail
  have HA3 := hid6 (fun o1 o2 o3 => (((Mod.refl (fun _ => False) w).alloc o1).alloc o2).alloc o3)
  have HP5 : Hid (∀ o2 o3, SpAt (((w.alloc (.cells #[.int .i64 d, .string ⟨nm.toArray⟩, .int .i64 i, .bool ssl] 87)).alloc o2).alloc o3) w.heap.size d nm i ssl) := fun o2 o3 => (SpAt.fresh w d nm i ssl 87).mod (((Mod.refl (fun _ => False) _).alloc o2).alloc o3) (fun e => e)
  have HP8 : Hid (∀ o1 o2, SpAt (((w.alloc o1).alloc o2).alloc (.cells #[.int .i64 0, .string ⟨#[]⟩, .int .i64 0, .bool false] 87)) (w.heap.size + 2) 0 [] 0 false) := fun o1 o2 => by
    have := SpAt.fresh ((w.alloc o1).alloc o2) 0 [] 0 false 87
    simpa using this
  refine Calls.mono (HCo.out _ (HA3.out _ _ _)) ?_
  rintro e w1 ⟨rfl, M1⟩
  have HM1 := hid6 ((HA3.out _ _ _).trans M1)
  have HQ5 := hid6 ((HP5.out _ _).mod M1 (fun e => e))
  have HQ8 := hid6 ((HP8.out _ _).mod M1 (fun e => e))
  have hsz1 : w.heap.size + 2 < w1.heap.size := HQ8.out.lt
  clear M1 HA3 HP5 HP8 HCo
  go_wp2_with fail
  refine Calls.mono (HP.out _) ?_
  rintro e w2 ⟨a, c2, rfl, hc2, hown, B2⟩
  have HB2 := hid6 (mod_below B2)
  have HOw := hid6 hown
  have hsz2 : w1.heap.size ≤ w2.heap.size := HB2.out.size
  have HR5 := hid6 (HQ5.out.mod HB2.out (fun e => e))
  have HR8 := hid6 (HQ8.out.mod HB2.out (fun e => e))
  have HM2 := hid6 (HM1.out.trans HB2.out)
  obtain ⟨p0, p1, p2, p3, pf⟩ := HR5.out
  obtain ⟨q0, q1, q2, q3, qf⟩ := HR8.out
  have l5 := HR5.out.lt
  have l8 := HR8.out.lt
  have hne : ¬ w.heap.size = w2.heap.size := by omega
  have hne8 : ¬ w.heap.size + 2 = w2.heap.size := by omega
  have hB2' := B2
  clear B2 hown HQ5 HQ8 HP hB2'
  go_upto_region 8 with (first | (go_at_call 57; refine (must_no _).mono ?_; rintro e w9 ⟨rfl, hw9⟩; rw [hw9]; clear hw9 w9))
  have HMs : Hid (∀ ob, Mod (fun x => x = w.heap.size) w2 ((w2.setCell ⟨w.heap.size, 2, none⟩ (.int .i64 d)).alloc ob)) := fun ob => ((Mod.refl (fun x => x = w.heap.size) w2).setCell _ _ rfl).alloc ob
  have HM8 : Hid (∀ ob, Mod (fun _ => False) w ((w2.setCell ⟨w.heap.size, 2, none⟩ (.int .i64 d)).alloc ob)) := fun ob => HM2.out.new6 (HMs.out ob) (fun b e => by rw [e]; exact Nat.le_refl _)
  have HT5 : Hid (∀ ob, SpAt ((w2.setCell ⟨w.heap.size, 2, none⟩ (.int .i64 d)).alloc ob) w.heap.size d nm d ssl) := fun ob => (HR5.out.ino d).mod ((Mod.refl (fun _ => False) _).alloc ob) (fun e => e)
  have HT8 : Hid (∀ ob, SpAt ((w2.setCell ⟨w.heap.size, 2, none⟩ (.int .i64 d)).alloc ob) (w.heap.size + 1 + 1) 0 [] 0 false) := fun ob => HR8.out.mod (HMs.out ob) (by show ¬ w.heap.size + 2 = w.heap.size; omega)
  have HO8 : Hid (∀ ob, ((w2.setCell ⟨w.heap.size, 2, none⟩ (.int .i64 d)).alloc ob).ownsRow w1.heap.size 9 1 (.slice a ns.length c2) ns.length (ns.map sv)) := fun ob => row_mod6 HOw.out (HMs.out ob) (fun g hg e => by omega)
  have HSr : Hid (∀ ob, Strs ((w2.setCell ⟨w.heap.size, 2, none⟩ (.int .i64 d)).alloc ob) (some ⟨bk, o, none⟩) xs) := fun ob => HS.out.mod (HM8.out ob) (fun _ _ e => e)
  have hPc : ((w2.setCell ⟨w.heap.size, 2, none⟩ (.int .i64 d)).alloc (.cells #[.bool false, .slice a ns.length c2, .bool sl] 114)).cell? ⟨w2.heap.size, 1, none⟩ = some (.slice a ns.length c2) := by rw [World.cell?_alloc_at _ _ _ _ (by simp)]; rfl
  have hP2 : w2.heap.size < ((w2.setCell ⟨w.heap.size, 2, none⟩ (.int .i64 d)).alloc (.cells #[.bool false, .slice a ns.length c2, .bool sl] 114)).heap.size := block_lt_of_cell hPc
  have HV := hid6 (HM8.out (.cells #[.bool false, .slice a ns.length c2, .bool sl] 114))
  have HU5 := hid6 (HT5.out (.cells #[.bool false, .slice a ns.length c2, .bool sl] 114))
  have HU8 := hid6 (HT8.out (.cells #[.bool false, .slice a ns.length c2, .bool sl] 114))
  have HUO := hid6 (HO8.out (.cells #[.bool false, .slice a ns.length c2, .bool sl] 114))
  have HUS := hid6 (HSr.out (.cells #[.bool false, .slice a ns.length c2, .bool sl] 114))
  clear HMs HM8 HT5 HT8 HO8 HSr p0 p1 p2 p3 pf q0 q1 q2 q3 qf l5 l8 HR5 HR8 HOw HM2 hne hne8
  generalize (w2.setCell ⟨w.heap.size, 2, none⟩ (.int .i64 d)).alloc (.cells #[.bool false, .slice a ns.length c2, .bool sl] 114) = W8 at *
  generalize hB8 : w.heap.size + 1 + 1 = B8 at *
  obtain ⟨p0, p1, p2, p3, pf⟩ := HU5.out
  obtain ⟨q0, q1, q2, q3, qf⟩ := HU8.out
  have l5 := HU5.out.lt
  have l8 := HU8.out.lt
  obtain ⟨i0, hi0, hz0, hs0, hb0⟩ := infStr6
  have HIf := hid6 (show Tryz.prog.info? 9 = some i0 ∧ i0.zero = some (.string ⟨#[]⟩) ∧ i0.size = 1 ∧ i0.bytes = 16 from ⟨hi0, hz0, hs0, hb0⟩)
  clear hi0 hz0 hs0 hb0
  have HNw : Hid (∀ j u, (xs.map sv)[j]? = some u → W8.drew.cell? ((⟨bk, o, none⟩ : Addr).add j) = some u) := fun j u hu => by
    simp only [List.getElem?_map, Option.map_eq_some_iff] at hu
    obtain ⟨y, hy, rfl⟩ := hu
    obtain ⟨bk', o', he, _, hcl⟩ := HUS.out j y hy
    cases he
    rw [Addr.add_mid]
    exact hcl
  have HGr : Hid (∀ g, (Value.slice a ns.length c2).ownBlock = some g → w1.heap.size ≤ g) := fun g hg => by
    rcases HUO.out.2 with ⟨h0, _⟩ | ⟨g', cap, cur, hv, hb, _⟩
    · rw [h0] at hg; simp [Value.ownBlock] at hg
    · rw [hv] at hg; simp [Value.ownBlock] at hg; omega
  go_region_law (first | (refine step_append_own rfl (.tmp 39) (.tmp 40) 112 rfl w1.heap.size 9 i0 (.string ⟨#[]⟩) 1 16 Tryz.underlying112 HIf.out.1 HIf.out.2.1 HIf.out.2.2.1 HIf.out.2.2.2 rfl (by decide) (.slice a ns.length c2) ns.length (ns.map sv) (by first | (simp [Act.eval]; done) | (simp [Act.eval, Act.put]; done)) HUO.out ⟨bk, o, none⟩ m c (xs.map sv) (by first | (simp [Act.eval]; done) | (simp [Act.eval, Act.put]; done)) (by have := HM.out; simp [this]) HNw.out (fun u hu => by simp only [List.mem_map] at hu; obtain ⟨y, _, rfl⟩ := hu; rfl) (by have := HN.out; unfold maxLen; omega) (by have := HN.out; omega) (by simp; omega) ?_; intro v' w3 hown3 hgrow hiff; obtain ⟨a3, c3, rfl⟩ := row_sl hown3; have HG := hid6 (((Mod.refl _ W8).drewN 1).trans (mod_grown6 hgrow)); have HG5 := hid6 (HU5.out.mod HG.out (fun e => by have := HGr.out _ e; omega)); have HG8 := hid6 (HU8.out.mod HG.out (fun e => by have := HGr.out _ e; omega)); have HO3 := hid6 hown3; obtain ⟨u0, u1, u2, u3, uf⟩ := HG5.out; obtain ⟨v0, v1, v2, v3, vf⟩ := HG8.out; clear hown3 hgrow hiff))
  all_goals
    have HFin : Hid (ns.length + m ≤ c3 ∧ Strs (w4 w3 B8 (.int .i64 d) (.string ⟨nm.toArray⟩) (.int .i64 d) (.bool ssl)) a3 (ns ++ xs) ∧ (∀ b, a3.map (·.block) = some b → w.heap.size ≤ b ∧ b < (w4 w3 B8 (.int .i64 d) (.string ⟨nm.toArray⟩) (.int .i64 d) (.bool ssl)).heap.size) ∧ Mod (fun _ => False) w (w4 w3 B8 (.int .i64 d) (.string ⟨nm.toArray⟩) (.int .i64 d) (.bool ssl))) := by
      have h3 := HO3.out
      rw [← List.map_append] at h3
      obtain ⟨hn3, a', c', he, hc', hSt, hbl⟩ := own_strs h3
      rw [hn3] at he
      cases he
      have hm := w4_mod w3 B8 (.int .i64 d) (.string ⟨nm.toArray⟩) (.int .i64 d) (.bool ssl)
      refine ⟨by rw [hn3]; exact hc', hSt.mod hm (fun b hb e => ?_), fun b hb => ?_, (HV.out.new6 HG.out (fun g e => by have := HGr.out g e; omega)).new6 hm (fun g e => by omega)⟩
      · have := hbl b hb
        omega
      · have := hbl b hb
        exact ⟨by omega, Nat.lt_of_lt_of_le this.2 hm.size⟩
    have HRg := hid6 (w4_range v0 v1 v2 v3 (.int .i64 d) (.string ⟨nm.toArray⟩) (.int .i64 d) (.bool ssl))
    clear v0 v1 v2 v3 vf u0 u1 u2 u3 uf
    go_wp2
    exact bodyPost_ret (ret_enter HRg.out rfl _ rfl rfl) rfl ⟨a3, c3, rfl, HFin.out.1, HFin.out.2.1, HFin.out.2.2.1, HFin.out.2.2.2⟩
end Go.Proofs.YtpohjgnfndgniaaGreatDoor
/- The task's call follow, along names and relative links ahead of other names. Conditions: the task lies in memory as 'TkAt' says (no groups); what Split tells; what stat, find and enter tell along the way; no slash at the end. -/
namespace Go.Proofs.YtpohjgnfndgniaaGreatDoor
open Go.RowKit
/-- What enter tells of a link at x in the directory i, in whatever later world: the names ns come ahead. -/
def EnA (w : World) (k : Nat) (i : Int) (x : List UInt8) (r : Int) (f : Nat → Int) (ns : List (List UInt8)) : Prop := ∀ W, Mod (fun _ => False) w W → ∀ (bl bk o c m : Nat) (xs : List (List UInt8)), Strs W (some ⟨bk, o, none⟩) xs → m = xs.length → 0 < m → ns.length + m ≤ 2 ^ 40 →
  Calls Tryz.prog 130 #[.pointer (some ⟨k, 0, none⟩), .agg #[.int .i64 i, .string ⟨x.toArray⟩, .int .i64 r, .bool false], .agg #[.int .i64 r, .int .i64 (f 3), .int .i64 (f 1), .int .i64 (f 2), .int .i64 (f 5), .int .i64 (bl : Nat), .int .i64 (f 0), .int .i64 (f 6), .int .i64 (f 7), .int .i64 (f 8)], .slice (some ⟨bk, o, none⟩) m c] W fun e w' => ∃ a' c', e = .returned (.tuple #[.agg #[.int .i64 i, .string ⟨x.toArray⟩, .int .i64 i, .bool false], .slice a' (ns.length + m) c']) ∧ ns.length + m ≤ c' ∧ Strs w' a' (ns ++ xs) ∧ (∀ b, a'.map (·.block) = some b → W.heap.size ≤ b ∧ b < w'.heap.size) ∧ Mod (fun _ => False) W w'
/-- Four cells are set. -/
theorem SpAt.four {W : World} {B : Nat} {d : Int} {nm : List UInt8} {i : Int} {sl : Bool} (h : SpAt W B d nm i sl) (d' : Int) (nm' : List UInt8) (i' : Int) (sl' : Bool) : SpAt (w4 W B (.int .i64 d') (.string ⟨nm'.toArray⟩) (.int .i64 i') (.bool sl')) B d' nm' i' sl' where
  c0 := by have := h.c0; unfold w4; simp [go_sem, this]
  c1 := by have := h.c1; unfold w4; simp [go_sem, this]
  c2 := by have := h.c2; unfold w4; simp [go_sem, this]
  c3 := by have := h.c3; unfold w4; simp [go_sem, this]
  fr := fun o => by have := h.fr o; unfold w4; simp [go_sem, this]
/-- The way along names and links: where it ends. -/
def WayL (w : World) (k : Nat) : Nat → Nat → Int → List UInt8 → Int → List (List UInt8) → Int → List UInt8 → Int → Prop
  | 0, _, d, nm, i, xs, fd, fx, fi => xs = [] ∧ fd = d ∧ fx = nm ∧ fi = i
  | g + 1, lk, _, _, i, xs, fd, fx, fi => ∃ x ys r, xs = x :: ys ∧ TfA w k i x r ∧ ((r = 0 ∧ ys = [] ∧ fd = i ∧ fx = x ∧ fi = 0) ∨ ((r == 0) = false ∧ (∃ f, StA w k r f ∧ (bits .and .i64 (f 0) 61440 != 40960) = true) ∧ WayL w k g lk i x r ys fd fx fi)
      ∨ ((r == 0) = false ∧ ¬ ys = [] ∧ lk < 8 ∧ ∃ f ns, StA w k r f ∧ (bits .and .i64 (f 0) 61440 != 40960) = false ∧ EnA w k i x r f ns ∧ ns.length + ys.length ≤ 2 ^ 40 ∧ WayL w k g (lk + 1) i x i (ns ++ ys) fd fx fi))
theorem WayL.nil {w : World} {k g lk : Nat} {d : Int} {nm : List UInt8} {i fd : Int} {fx : List UInt8} {fi : Int} (h : WayL w k g lk d nm i [] fd fx fi) : fd = d ∧ fx = nm ∧ fi = i := by
  cases g with
  | zero => exact h.2
  | succ g => obtain ⟨x, ys, r, h0, _⟩ := h; cases h0
theorem WayL.cons {w : World} {k g lk : Nat} {d : Int} {nm : List UInt8} {i fd : Int} {fx : List UInt8} {fi : Int} {x : List UInt8} {ys : List (List UInt8)} (h : WayL w k g lk d nm i (x :: ys) fd fx fi) : ∃ g' r, g = g' + 1 ∧ TfA w k i x r ∧ ((r = 0 ∧ ys = [] ∧ fd = i ∧ fx = x ∧ fi = 0) ∨ ((r == 0) = false ∧ (∃ f, StA w k r f ∧ (bits .and .i64 (f 0) 61440 != 40960) = true) ∧ WayL w k g' lk i x r ys fd fx fi)
      ∨ ((r == 0) = false ∧ ¬ ys = [] ∧ lk < 8 ∧ ∃ f ns, StA w k r f ∧ (bits .and .i64 (f 0) 61440 != 40960) = false ∧ EnA w k i x r f ns ∧ ns.length + ys.length ≤ 2 ^ 40 ∧ WayL w k g' (lk + 1) i x i (ns ++ ys) fd fx fi)) := by
  cases g with
  | zero => exact absurd h.1 (by simp)
  | succ g => obtain ⟨x', ys', r, h0, h1⟩ := h; cases h0; exact ⟨g, r, rfl, h1⟩
/-- What the loop keeps: the blocks that follow laid, and where one stands. -/
structure FoL (w w2 W : World) (B6 B7 k : Nat) (d : Int) (nm : List UInt8) (i : Int) (a : Option Addr) (xs : List (List UInt8)) (g lk : Nat) (fd : Int) (fx : List UInt8) (fi : Int) : Prop where
  M0 : Mod (fun _ => False) w W
  P6 : SpAt W B6 0 [] 0 false
  P7 : SpAt W B7 d nm i false
  lt : w.heap.size ≤ B6 ∧ B6 < B7
  S : Strs W a xs
  ne : ∀ b, a.map (·.block) = some b → b ≠ B7 ∧ b ≠ B6
  way : WayL w k g lk d nm i xs fd fx fi
set_option maxRecDepth 100000 in
set_option maxHeartbeats 4000000 in
theorem tFollowL {w : World} {k t : Nat} {u g : Int} {ga : Option Addr} {gc : Nat} {um cw : Int} (h : TkAt w k t u g ga gc um cw) (l : List UInt8) (ab : Bool) (xs : List (List UInt8)) (hP : SplOf l ab xs false) (ino : Int) (hi : (ab = true ∨ (cw == 0) = true) ∧ ino = 1 ∨ ab = false ∧ (cw == 0) = false ∧ ino = cw) (en : Int) (fd : Int) (fx : List UInt8) (fi : Int) (g0 : Nat) (hW : WayL w k g0 0 0 [] ino xs fd fx fi) (hn : xs.length ≤ 2 ^ 40) :
    Calls Tryz.prog 50 #[.pointer (some ⟨k, 0, none⟩), .string ⟨l.toArray⟩, .int .i64 en] w fun e w' => e = .returned (.agg #[.int .i64 fd, .string ⟨fx.toArray⟩, .int .i64 fi, .bool false]) ∧ Mod (fun _ => False) w w' := by
  have HB := hid6 (tBegin (h.new ((Mod.refl _ w).alloc (.cells #[.int .i64 0, .string ⟨#[]⟩, .int .i64 0, .bool false] 87))) l ab false xs hP ino hi)
  have HW := hid6 hW
  have HN := hid6 hn
  unfold spA at HB
  clear hW hP hi h hn
  go_enter Tryz.func50, Tryz.ntmps50
  go_wp2_with fail
  go_step3
  go_wp2_with fail
  refine Calls.mono HB.out ?_
  rintro e w1 ⟨a, c, rfl, hc, HS, hbl, M1⟩
  clear HB
  obtain ⟨n, hn⟩ : ∃ n, n = xs.length := ⟨_, rfl⟩
  rw [← hn]
  have HN' := hid6 hn
  have hkk : w.heap.size < w1.heap.size := by have := M1.size; simp at this; omega
  clear hn
  have HF : Hid (FoL w w (w1.alloc (.cells #[.int .i64 0, .string ⟨#[]⟩, .int .i64 ino, .bool false] 87)) w.heap.size w1.heap.size k 0 [] ino a xs g0 0 fd fx fi) := {
    M0 := (((Mod.refl _ w).alloc _).trans M1).alloc _
    P6 := ((SpAt.fresh w 0 [] 0 false 87).mod M1 (fun e => e)).mod ((Mod.refl (fun _ => False) _).alloc _) (fun e => e)
    P7 := SpAt.fresh w1 0 [] ino false 87
    lt := ⟨Nat.le_refl _, hkk⟩
    S := HS.grow ((Below.refl _ _).alloc (Nat.le_refl _) _)
    ne := fun b hb => by have := hbl b hb; simp at this; exact ⟨by omega, by omega⟩
    way := HW.out }
  have HL := hid6 (show n ≤ 2 ^ 40 by rw [HN'.out]; exact HN.out)
  clear HS hbl M1 HW
  go_wp2_with fail
  go_step3
  go_wp2_with fail
  generalize w.heap.size = B6 at *
  generalize w1.heap.size = B7 at *
  go_loopg [8, 9] g0 (fun gh r lk wr => ∃ (m z : Nat) (d i : Int) (nm : List UInt8) (a' : Option Addr) (c' : Nat) (ys : List (List UInt8)), r = .slice a' m c' ∧ lk = .int .i64 (z : Nat) ∧ m ≤ c' ∧ m ≤ 2 ^ 40 ∧ z ≤ 8 ∧ Hid (FoL w w wr B6 B7 k d nm i a' ys gh z fd fx fi) ∧ Hid (m = ys.length))
  case atStart => exact ⟨n, 0, 0, ino, [], a, c, xs, rfl, rfl, by rw [HN'.out]; exact hc, HL.out, Nat.zero_le _, HF, HN'⟩
  case round =>
    obtain ⟨m, z, d, i, nm, a', c', ys, rfl, rfl, hmc, hm40, hz8, HK, HY⟩ := hrel
    clear HF
    by_cases hm : m = 0
    · subst hm
      have hy : ys = [] := by have := HY.out; exact List.length_eq_zero_iff.mp this.symm
      subst hy
      obtain ⟨rfl, rfl, rfl⟩ : fd = d ∧ fx = nm ∧ fi = i := HK.out.way.nil
      obtain ⟨p0, p1, p2, p3, pf⟩ := HK.out.P7
      obtain ⟨q0, q1, q2, q3, qf⟩ := HK.out.P6
      go_wp2_with (first | (go_at_call 45; refine (refuse_no _ _).mono ?_; rintro e w3 ⟨rfl, hw3⟩; rw [hw3]; clear hw3 w3))
      rw [Exit.noGoto_ret]
      exact bodyPost_ret (ret_follow (w4_range q0 q1 q2 q3 _ _ _ _) rfl _ rfl) rfl ⟨rfl, HK.out.M0.new6 (w4_mod wr B6 _ _ _ _) (fun b e => by rw [e]; exact HK.out.lt.1)⟩
    · obtain ⟨x, ys', hys⟩ : ∃ x ys', ys = x :: ys' := by
        cases ys with
        | nil => exact absurd HY.out hm
        | cons x ys' => exact ⟨x, ys', rfl⟩
      subst hys
      obtain ⟨gh', r, hgh, hTf, hor⟩ := HK.out.way.cons
      subst hgh
      obtain ⟨bk, o, rfl, hbk, hx⟩ := HK.out.S 0 x rfl
      rw [Nat.add_zero] at hx
      have hnb := HK.out.ne bk rfl
      have hb7 := HK.out.P7.lt
      obtain ⟨p0, p1, p2, p3, pf⟩ := HK.out.P7
      have hm1 : (0 : Int) < (m : Int) := by omega
      have hm2 : (1 : Int) ≤ (m : Int) := by omega
      have hm3 : (m : Int) ≤ (c' : Int) := by omega
      have hne7 : ¬ bk = B7 := hnb.1
      have HTf := hid6 hTf
      have HOr := hid6 hor
      clear hTf hor hnb
      go_wp2_with fail
      go_region
      have HA2 : Hid (Strs wr (if c' = 1 then some (⟨bk, o, none⟩ : Addr) else some ⟨bk, o + 1, none⟩) ys' ∧ (∀ b, (if c' = 1 then some (⟨bk, o, none⟩ : Addr) else some ⟨bk, o + 1, none⟩).map (·.block) = some b → b ≠ B7 ∧ b ≠ B6)) := by
        refine ⟨HK.out.S.tail (by have := HY.out; simp at this; omega), fun b hb => ?_⟩
        have : b = bk := by split at hb <;> (cases hb; rfl)
        rw [this]; exact HK.out.ne bk rfl
      generalize (if c' = 1 then some (⟨bk, o, none⟩ : Addr) else some ⟨bk, o + 1, none⟩) = a2 at *
      have HP4 := hid6 (HK.out.P7.step i x)
      have HM4 := hid6 (mod_step wr B7 (.int .i64 i) (.string ⟨x.toArray⟩))
      have HQ4 := hid6 (HK.out.P6.mod HM4.out (by have := HK.out.lt; show ¬ B6 = B7; omega))
      have HS4 := hid6 (HA2.out.1.mod HM4.out (fun b hb => (HA2.out.2 b hb).1))
      have HN4 := hid6 (HK.out.M0.new6 HM4.out (fun b e => by have := HK.out.lt; rw [e]; omega))
      clear p0 p1 p2 p3 pf hx hbk hb7
      generalize ((wr.setCell ⟨B7, 0, none⟩ (.int .i64 i)).setCell ⟨B7, 1, none⟩ (.string ⟨x.toArray⟩)).drew = W4 at *
      obtain ⟨p0, p1, p2, p3, pf⟩ := HP4.out
      go_wp2_with fail
      refine Calls.mono (HTf.out _ HN4.out) ?_
      rintro e w5 ⟨rfl, M5⟩
      have HP5 := hid6 ((HP4.out.mod M5 (fun e => e)).ino r)
      have HN5 := hid6 ((HN4.out.trans M5).new6 (mod_ino w5 B7 (.int .i64 r)) (fun b e => by have := HK.out.lt; rw [e]; omega))
      have HM5 := hid6 ((M5.mono (t := fun b => b = B7) (fun _ _ h => h.elim)).trans (mod_ino w5 B7 (.int .i64 r)))
      have HQ5 := hid6 (HQ4.out.mod HM5.out (by have := HK.out.lt; show ¬ B6 = B7; omega))
      have HS5 := hid6 (HS4.out.mod HM5.out (fun b hb => (HA2.out.2 b hb).1))
      have t2 := (HP4.out.mod M5 (fun e => e)).c2
      have tf := (HP4.out.mod M5 (fun e => e)).fr
      clear p0 p1 p2 p3 pf M5 HP4 HQ4 HS4 HN4 HM4 HM5
      rcases HOr.out with ⟨rfl, rfl, rfl, rfl, rfl⟩ | ⟨hr0, ⟨f, hSt, hlk⟩, hway⟩ | ⟨hr0, hy0, hz7, f, ns, hSt, hlk, hEn, h40, hway⟩
      · have hm0 : m = 1 := by have := HY.out; simpa using this
        obtain ⟨p0, p1, p2, p3, pf⟩ := HP5.out
        obtain ⟨q0, q1, q2, q3, qf⟩ := HQ5.out
        subst hm0
        go_wp2_with (first | (go_at_call 45; refine (refuse_no _ _).mono ?_; rintro e w3 ⟨rfl, hw3⟩; rw [hw3]; clear hw3 w3))
        rw [Exit.noGoto_ret]
        exact bodyPost_ret (ret_follow (w4_range q0 q1 q2 q3 _ _ _ _) rfl _ rfl) rfl ⟨rfl, HN5.out.new6 (w4_mod _ B6 _ _ _ _) (fun b e => by rw [e]; exact HK.out.lt.1)⟩
      · have HSt := hid6 hSt
        have HWy := hid6 hway
        have HKd : Hid (∀ s0 s1 s2 s3 s4 s5 s7 s8 s9 W, _) := fun s0 s1 s2 s3 s4 s5 s7 s8 s9 W => tKind s0 s1 s2 s3 s4 s5 (f 0) s7 s8 s9 W
        unfold sA at HKd
        clear hSt hway HOr
        obtain ⟨p0, p1, p2, p3, pf⟩ := HP5.out
        go_wp2_with fail
        refine Calls.mono (HSt.out _ HN5.out) ?_
        rintro e w6 ⟨⟨bl, rfl⟩, M6⟩
        have HM6 := hid6 (fun o => M6.alloc o)
        clear M6 p0 p1 p2 p3 pf t2 tf
        go_wp2_with fail
        refine Calls.mono (HKd.out _ _ _ _ _ _ _ _ _ _) ?_
        rintro e w7 ⟨rfl, M7⟩
        have HM7 := hid6 ((HM6.out _).trans M7)
        clear M7
        have HE : Hid (FoL w w w7 B6 B7 k i x r a2 ys' gh' z fd fx fi) := {
          M0 := HN5.out.trans HM7.out
          P6 := HQ5.out.mod HM7.out (fun e => e)
          P7 := HP5.out.mod HM7.out (fun e => e)
          lt := HK.out.lt
          S := HS5.out.mod HM7.out (fun _ _ e => e)
          ne := HA2.out.2
          way := HWy.out }
        clear HK HQ5 HP5 HS5 HN5 HM6 HM7 HTf HWy HSt HKd
        go_wp2_with fail
        go_roundg gh'
        case measure => omega
        case rel => exact ⟨m - 1, z, i, r, x, a2, c' - 1, ys', rfl, rfl, by omega, by omega, hz8, HE, by have := HY.out; show _ = _; simp at this; omega⟩
      · have HSt := hid6 hSt
        have HWy := hid6 hway
        have HEn := hid6 hEn
        have H40 := hid6 h40
        have HML : Hid (m - 1 = ys'.length) := by have := HY.out; show _ = _; simp at this; omega
        have hm12 : 0 < m - 1 := by rw [HML.out]; exact List.length_pos_iff.mpr hy0
        have hm13 : (((m - 1 : Nat) : Int) == 0) = false := by simp; omega
        obtain ⟨bq, oq, rfl⟩ : ∃ bq oq, a2 = some (⟨bq, oq, none⟩ : Addr) := by
          obtain ⟨y, yt, hyy⟩ : ∃ y yt, ys' = y :: yt := by
            cases ys' with
            | nil => exact absurd rfl hy0
            | cons y yt => exact ⟨y, yt, rfl⟩
          obtain ⟨bq, oq, h, _⟩ := HA2.out.1 0 y (by rw [hyy]; rfl)
          exact ⟨bq, oq, h⟩
        clear hy0
        have HKd : Hid (∀ s0 s1 s2 s3 s4 s5 s7 s8 s9 W, _) := fun s0 s1 s2 s3 s4 s5 s7 s8 s9 W => tKind s0 s1 s2 s3 s4 s5 (f 0) s7 s8 s9 W
        unfold sA at HKd
        clear hSt hway HOr hEn h40
        obtain ⟨p0, p1, p2, p3, pf⟩ := HP5.out
        go_wp2_with fail
        refine Calls.mono (HSt.out _ HN5.out) ?_
        rintro e w6 ⟨⟨bl, rfl⟩, M6⟩
        have HM6 := hid6 (fun o => M6.alloc o)
        clear M6 p0 p1 p2 p3 pf t2 tf
        go_wp2_with fail
        refine Calls.mono (HKd.out _ _ _ _ _ _ _ _ _ _) ?_
        rintro e w7 ⟨rfl, M7⟩
        have HM7 := hid6 ((HM6.out _).trans M7)
        have HC7 := hid6 M7
        have hcs := fun j => M7.cell (p := ⟨w6.heap.size, j, none⟩) (by simp) (fun e => e)
        have k0 := (hcs 0).trans ((World.cell?_alloc_at _ _ _ _ rfl).trans rfl)
        have k1 := (hcs 1).trans ((World.cell?_alloc_at _ _ _ _ rfl).trans rfl)
        have k2 := (hcs 2).trans ((World.cell?_alloc_at _ _ _ _ rfl).trans rfl)
        have k3 := (hcs 3).trans ((World.cell?_alloc_at _ _ _ _ rfl).trans rfl)
        have k4 := (hcs 4).trans ((World.cell?_alloc_at _ _ _ _ rfl).trans rfl)
        have k5 := (hcs 5).trans ((World.cell?_alloc_at _ _ _ _ rfl).trans rfl)
        have k6 := (hcs 6).trans ((World.cell?_alloc_at _ _ _ _ rfl).trans rfl)
        have k7 := (hcs 7).trans ((World.cell?_alloc_at _ _ _ _ rfl).trans rfl)
        have k8 := (hcs 8).trans ((World.cell?_alloc_at _ _ _ _ rfl).trans rfl)
        have k9 := (hcs 9).trans ((World.cell?_alloc_at _ _ _ _ rfl).trans rfl)
        have HX7 := hid6 (HP5.out.mod HM7.out (fun e => e))
        have HX6 := hid6 (HQ5.out.mod HM7.out (fun e => e))
        have HXS := hid6 (HS5.out.mod HM7.out (fun _ _ e => e))
        have HXM := hid6 (HN5.out.trans HM7.out)
        have hb77 := HX7.out.lt
        clear hcs M7 HM6
        obtain ⟨p0, p1, p2, p3, pf⟩ := HX7.out
        have hzz : ¬ ((z : Int) + 1 > 8) := by omega
        have hzz' : (8 < (z : Int) + 1) = False := by simp; omega
        go_wp2_with (first | (go_at_call 45; refine (refuse_no _ _).mono ?_; rintro e w3 ⟨rfl, hw3⟩; rw [hw3]; clear hw3 w3))
        refine Calls.mono (HEn.out _ HXM.out bl bq oq (c' - 1) (m - 1) ys' HXS.out HML.out hm12 (by rw [HML.out]; exact H40.out)) ?_
        rintro e w8 ⟨a3, c3, rfl, hc3, HS3, hbl3, M8⟩
        have HX8 := hid6 (HX7.out.mod M8 (fun e => e))
        have HE : Hid (FoL w w (w4 w8 B7 (.int .i64 i) (.string ⟨x.toArray⟩) (.int .i64 i) (.bool false)) B6 B7 k i x i a3 (ns ++ ys') gh' (z + 1) fd fx fi) := by
          have hm := w4_mod w8 B7 (.int .i64 i) (.string ⟨x.toArray⟩) (.int .i64 i) (.bool false)
          have hl := HK.out.lt
          exact {
            M0 := (HXM.out.trans M8).new6 hm (fun b e => by rw [e]; omega)
            P6 := (HX6.out.mod M8 (fun e => e)).mod hm (by show ¬ B6 = B7; omega)
            P7 := HX8.out.four i x i false
            lt := hl
            S := HS3.mod hm (fun b hb e => by have := hbl3 b hb; omega)
            ne := fun b hb => by have := hbl3 b hb; exact ⟨by omega, by omega⟩
            way := HWy.out }
        have HLn : Hid (ns.length + (m - 1) = (ns ++ ys').length ∧ ns.length + (m - 1) ≤ 2 ^ 40) := ⟨by rw [List.length_append, HML.out], by rw [HML.out]; exact H40.out⟩
        clear p0 p1 p2 p3 pf HS3 hbl3 M8 HWy HEn k0 k1 k2 k3 k4 k5 k6 k7 k8 k9 HK HX7 HX6 HXS
        obtain ⟨p0, p1, p2, p3, pf⟩ := HX8.out
        go_wp2_with fail
        go_roundg gh'
        case measure => omega
        case rel => exact ⟨ns.length + (m - 1), z + 1, i, i, x, a3, c3, ns ++ ys', rfl, by first | rfl | (push_cast; rfl), hc3, HLn.out.2, by omega, HE, HLn.out.1⟩
end Go.Proofs.YtpohjgnfndgniaaGreatDoor
