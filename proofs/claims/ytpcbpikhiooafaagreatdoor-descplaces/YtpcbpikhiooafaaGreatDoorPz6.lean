/- WriteAt and ReadAt of the new file of DescPlaces, in plain bytes. Conditions: the file system lies in memory as Open leaves it; the bytes can be read, at most 2000, at a place below 3000. -/
import Derived.Test.YtpcbpikhiooafaaGreatDoorM30
import Derived.Test.YtpcbpikhiooafaaGreatDoorPz3
import Derived.Test.YtpcbpikhiooafaaGreatDoorMp4
import Derived.Test.YtpcbpikhiooafaaGreatDoorM29
namespace Go.Proofs.YtpcbpikhiooafaaGreatDoor
open Go.RowKit
/-- What the write leaves. -/
def oW (off : Nat) (bs : List Nat) : WS := wrun 300 off bs bs.length ⟨0, uK 2, lDz, fun _ => 0⟩
theorem cnt2 : Bt.cnt (uK 2) 300 ≤ 100 := by decide +kernel
theorem oW_done (off : Nat) (bs : List Nat) (hl : bs.length ≤ 2000) : (oW off bs).done = bs.length := wrun_whole off bs ⟨0, uK 2, lDz, fun _ => 0⟩ rfl hl cnt2
def F6 (sz : Nat) : Nat → Nat → Int := upd2 (upd2 (upd2 lF5z 1 5 (sz : Int)) 1 7 0) 1 8 0
theorem F6_5 (sz : Nat) : F6 sz 1 5 = (sz : Int) := by simp [F6, upd2]
theorem F6_0 (sz : Nat) : F6 sz 1 0 = 33188 := by
  have h : lF5z 1 0 = 33188 := by decide +kernel
  simp [F6, upd2, h]
theorem lF5z_0 : lF5z 1 0 = 33188 := by decide +kernel
theorem lF5z_5 : lF5z 1 5 = 0 := by decide +kernel
theorem lR3z_1 : lR3z 1 = fun _ => 0 := by funext j; rfl
theorem fi0 (u : Nat → Bool) (D : Nat → Nat) : Mp.FI u D (fun _ => 0) := ⟨fun _ _ => Mp.wf_zero _ _ _, fun _ _ _ _ _ _ h => absurd h (Mp.ow_zero _ _ _ _), fun _ _ => by omega⟩
theorem lk0 (u : Nat → Bool) (D : Nat → Nat) : ∀ l k, lk l u D 0 k = 0
  | 0, k => by rw [lk]
  | l + 1, k => by rw [lk]; have e : ptr u D 0 (k / 16 ^ l) = 0 := by { unfold ptr; simp }; rw [e]; exact lk0 u D l _
theorem rd0 (u : Nat → Bool) (D : Nat → Nat) (x : Nat) : rd u D (fun _ => 0) x = 0 := by
  unfold rd lkAt
  rw [lk0]
  simp
/-- What is read behind it. -/
theorem oW_rd {w : World} {t q b c : Nat} (T : Tb w t q b c 300 8 0 lF5z lR3z (uK 2) lDz) (off : Nat) (bs : List Nat) (hb : ∀ x ∈ bs, x < 256) (hl : bs.length ≤ 2000) (ho : off < 3000) (x : Nat) (hx : x < 17792) :
    rd (oW off bs).u (oW off bs).D (oW off bs).R x = if off ≤ x ∧ x < off + bs.length then bs.getD (x - off) 0 else 0 := by
  have O := Mp.wrun_ok (n := 300) (by omega) off bs hb (by omega) bs.length ⟨0, uK 2, lDz, fun _ => 0⟩ (fi0 _ _) T.S.dl T.S.free (Nat.zero_le _)
  have h := O.2.2.2 x hx
  have hd := oW_done off bs hl
  unfold oW at hd ⊢
  rw [h, hd]
  show (if off + 0 ≤ x ∧ x < off + bs.length then bs.getD (x - off) 0 else rd (uK 2) lDz (fun _ => 0) x) = _
  rw [rd0, Nat.add_zero]
theorem setN_own6 (R : Nat → Nat → Nat) (i : Nat) (g : Nat → Nat) : setN R i g i = g := by funext o; simp [setN]
section
variable {W : World} {t q b c n N : Nat} {clk : Int} {F : Nat → Nat → Int} {R : Nat → Nat → Nat} {u : Nat → Bool} {D : Nat → Nat}
set_option maxRecDepth 8000 in
theorem tw_empty6 (T : Tb W t q b c n N clk F R u D) (i o cap : Nat) (p : Option Addr) (hi : i < N) (hz : F i 0 ≠ 0) : Calls Tryz.prog 63 #[.pointer (some ⟨t, 0, none⟩), .int .i64 ((i : Int) + 1), .int .i64 o, .slice p 0 cap] W fun e W' => e = .returned (.tuple #[.int .i64 0, .int .i64 0]) ∧ W' = W := by
  have HT : Hid (Tb W t q b c n N clk F R u D) := T
  have HZ : Hid (F i 0 ≠ 0) := hz
  clear T hz
  go_enter Tryz.func63, Tryz.ntmps63
  go_wp2_with (go_at_call 37; refine (find_ok HT.out i hi HZ.out).mono ?_; rintro e w1 ⟨rfl, hw1⟩; rw [hw1]; clear hw1 w1)
  go_ret2
  exact ⟨by simp, rfl⟩
set_option maxRecDepth 8000 in
theorem tread_end (T : Tb W t q b c n N clk F R u D) (i k : Nat) (hi : i < N) (hz : F i 0 ≠ 0) (hs : F i 5 = 0) : Calls Tryz.prog 114 #[.pointer (some ⟨t, 0, none⟩), .int .i64 ((i : Int) + 1), .int .i64 0, .int .i64 k] W fun e W' => e = .returned (.tuple #[.slice none 0 0, .int .i64 0]) ∧ W' = W := by
  have HT : Hid (Tb W t q b c n N clk F R u D) := T
  have HZ : Hid (F i 0 ≠ 0) := hz
  have h5 := T.cf i 5 hi (by omega)
  rw [hs] at h5
  have hk : ¬ (k : Int) < 0 := by omega
  clear T hz hs
  go_enter Tryz.func114, Tryz.ntmps114
  go_wp2_with (go_at_call 37; refine (find_ok HT.out i hi HZ.out).mono ?_; rintro e w1 ⟨rfl, hw1⟩; rw [hw1]; clear hw1 w1)
  go_ret2
  exact ⟨by simp, rfl⟩
end
/-- What the bytes that were read are. -/
def RdQ (sz : Nat) (f : Nat → Nat) (ra : Option Addr) (rl rc s : Nat) (w' : World) : Prop := rl = sz ∧ rl ≤ rc ∧ (rl = 0 ∨ ∃ g1 : Nat, ra = some ⟨g1, 0, none⟩ ∧ s ≤ g1 ∧ g1 < w'.heap.size ∧ ∀ j, j < rl → w'.cell? ⟨g1, j, none⟩ = some (.int .u8 (f j : Nat)))
theorem RdQ.keep {sz : Nat} {f : Nat → Nat} {ra : Option Addr} {rl rc s E : Nat} {a b : World} (h : RdQ sz f ra rl rc s a) (hE : E < s) (hM : Mod (fun x => x = E) a b) : RdQ sz f ra rl rc s b := by
  obtain ⟨h1, h2, h3⟩ := h
  refine ⟨h1, h2, ?_⟩
  rcases h3 with h3 | ⟨g1, h3, h4, h5, h6⟩
  · exact .inl h3
  · exact .inr ⟨g1, h3, h4, Nat.lt_of_lt_of_le h5 hM.size, fun j hj => (hM.cell (p := ⟨g1, j, none⟩) h5 (fun e => by have e1 : g1 = E := e; omega)).trans (h6 j hj)⟩
theorem RdQ.new {sz : Nat} {f : Nat → Nat} {ra : Option Addr} {rl rc s : Nat} {a b : World} (h : RdQ sz f ra rl rc s a) {S : Nat → Prop} (hS : ∀ x, S x → x < s) (hM : Mod S a b) : RdQ sz f ra rl rc s b := by
  obtain ⟨h1, h2, h3⟩ := h
  refine ⟨h1, h2, ?_⟩
  rcases h3 with h3 | ⟨g1, h3, h4, h5, h6⟩
  · exact .inl h3
  · exact .inr ⟨g1, h3, h4, Nat.lt_of_lt_of_le h5 hM.size, fun j hj => (hM.cell (p := ⟨g1, j, none⟩) h5 (fun e => by have h9 : g1 < s := hS _ e; omega)).trans (h6 j hj)⟩
section
variable {w : World} {fb t q b c : Nat}
theorem plWrite0 (T : Tb w t q b c 300 8 0 lF5z lR3z (uK 2) lDz) (hf : FsAt w fb t) (p : Option Addr) (cap off : Nat) :
    Calls Tryz.prog 187 #[.pointer (some ⟨fb, 0, none⟩), .int .i64 2, .int .i64 off, .slice p 0 cap] w fun e w' => e = .returned (.tuple #[.int .i64 0, .int .i64 0]) ∧ Mod (fun x => x = b ∨ x = c ∨ x = q) w w' ∧ Tb w' t q b c 300 8 0 lF5z lR3z (uK 2) lDz := by
  have l1 := T.lt_t; have l2 := T.lt_q; have l3 := T.S.lt_b; have l4 := T.S.lt_c; have l5 := T.S.tab.lt
  refine fsWriteAt hf 2 off 0 p 0 cap (fun x => x = b ∨ x = c ∨ x = q) (fun x hx => by rcases hx with e | e | e <;> omega) (fun w' => Tb w' t q b c 300 8 0 lF5z lR3z (uK 2) lDz) (fun a' b' hT hM => hT.mod hM (by omega) (by omega) (by omega) (by omega) (by omega)) (fun W K b1 b2 b3 hN hle c1 c2 c3 => ?_)
  have TW := T.new hN.M
  have hk := hN.le
  refine (tWriteWork (k := K) hN.k.c0 2 off 0 p 0 cap c1 c2 c3 (lF5z 1) (staOf TW hN.k.c0 1 (by omega) (by rw [lF5z_0]; decide)) (by rw [lF5z_0]; decide +kernel) (fun x => x = b ∨ x = c ∨ x = q) ⟨fun e => by rcases e with e | e | e <;> omega, fun e => by rcases e with e | e | e <;> omega, fun e => by rcases e with e | e | e <;> omega, fun e => by rcases e with e | e | e <;> omega⟩ (fun w' => Tb w' t q b c 300 8 0 lF5z lR3z (uK 2) lDz) (fun W' hM' => ?_)).mono (fun e w' ⟨h1, h2, h3⟩ => ⟨h1, h2.mono (fun _ _ e => .inl e), h3⟩)
  refine (tw_empty6 (TW.new hM') 1 off cap p (by omega) (by rw [lF5z_0]; decide)).mono ?_
  rintro e w' ⟨rfl, rfl⟩
  exact ⟨rfl, Mod.refl _ _, TW.new hM'⟩
theorem plRead0 (T : Tb w t q b c 300 8 0 lF5z lR3z (uK 2) lDz) (hf : FsAt w fb t) (k : Nat) (f : Nat → Nat) :
    Calls Tryz.prog 186 #[.pointer (some ⟨fb, 0, none⟩), .int .i64 2, .int .i64 0, .int .i64 k] w fun e w' => ∃ ra rl rc s, e = .returned (.tuple #[.slice ra rl rc, .int .i64 0]) ∧ Mod (fun _ => False) w w' ∧ (w.heap.size ≤ s ∧ RdQ 0 f ra rl rc s w') := by
  refine fsReadAt hf 2 0 k (fun _ => False) (fun x hx => hx.elim) (fun ra rl rc s w' => w.heap.size ≤ s ∧ RdQ 0 f ra rl rc s w') (fun ra rl rc s E a b h hE hM => ⟨h.1, h.2.keep hE hM⟩) (fun W K b1 b2 b3 hN hle c1 c2 c3 => ?_)
  have TW := T.new hN.M
  refine (tReadWork (k := K) hN.k.c0 2 0 k c1 c2 c3 (lF5z 1) (staOf TW hN.k.c0 1 (by omega) (by rw [lF5z_0]; decide)) (by rw [lF5z_0]; decide +kernel) (fun _ => False) ⟨fun e => e, fun e => e, fun e => e, fun e => e⟩ (fun ra rl rc w' => w.heap.size ≤ W.heap.size ∧ RdQ 0 f ra rl rc W.heap.size w') (fun W' hM' => ?_)).mono (fun e w' ⟨ra, rl, rc, h1, h2, h3⟩ => ⟨ra, rl, rc, h1, h2.mono (fun _ _ e => e.elim), h3⟩)
  refine (tread_end (TW.new hM') 1 k (by omega) (by rw [lF5z_0]; decide) lF5z_5).mono ?_
  rintro e w' ⟨rfl, rfl⟩
  exact ⟨none, 0, 0, rfl, Mod.refl _ _, hN.M.size, rfl, Nat.le_refl _, .inl rfl⟩
theorem plWrite (T : Tb w t q b c 300 8 0 lF5z lR3z (uK 2) lDz) (hf : FsAt w fb t) (g go cap off : Nat) (bs : List Nat) (hs : Src w g go bs) (hg : g ≠ b ∧ g ≠ c ∧ g ≠ q) (hgl : g < w.heap.size) (h0 : 0 < bs.length) (hl : bs.length ≤ 2000) (ho : off < 3000) (hcap : bs.length ≤ cap) (hcm : cap ≤ 9223372036854775807) :
    Calls Tryz.prog 187 #[.pointer (some ⟨fb, 0, none⟩), .int .i64 2, .int .i64 off, .slice (some ⟨g, go, none⟩) bs.length cap] w fun e w' => e = .returned (.tuple #[.int .i64 bs.length, .int .i64 0]) ∧ Mod (fun x => x = b ∨ x = c ∨ x = q) w w' ∧ Tb w' t q b c 300 8 0 (F6 (off + bs.length)) (setN lR3z 1 (oW off bs).R) (oW off bs).u (oW off bs).D := by
  have l1 := T.lt_t; have l2 := T.lt_q; have l3 := T.S.lt_b; have l4 := T.S.lt_c; have l5 := T.S.tab.lt
  refine fsWriteAt hf 2 off bs.length (some ⟨g, go, none⟩) bs.length cap (fun x => x = b ∨ x = c ∨ x = q) (fun x hx => by rcases hx with e | e | e <;> omega) (fun w' => Tb w' t q b c 300 8 0 (F6 (off + bs.length)) (setN lR3z 1 (oW off bs).R) (oW off bs).u (oW off bs).D) (fun a' b' hT hM => hT.mod hM (by omega) (by omega) (by omega) (by omega) (by omega)) (fun W K b1 b2 b3 hN hle c1 c2 c3 => ?_)
  have TW := T.new hN.M
  have hk := hN.le
  refine (tWriteWork (k := K) hN.k.c0 2 off bs.length (some ⟨g, go, none⟩) bs.length cap c1 c2 c3 (lF5z 1) (staOf TW hN.k.c0 1 (by omega) (by rw [lF5z_0]; decide)) (by rw [lF5z_0]; decide +kernel) (fun x => x = b ∨ x = c ∨ x = q) ⟨fun e => by rcases e with e | e | e <;> omega, fun e => by rcases e with e | e | e <;> omega, fun e => by rcases e with e | e | e <;> omega, fun e => by rcases e with e | e | e <;> omega⟩ (fun w' => Tb w' t q b c 300 8 0 (F6 (off + bs.length)) (setN lR3z 1 (oW off bs).R) (oW off bs).u (oW off bs).D) (fun W' hM' => ?_)).mono (fun e w' ⟨h1, h2, h3⟩ => ⟨h1, h2.mono (fun _ _ e => .inl e), h3⟩)
  have hM2 := hN.M.trans hM'
  have h := twrite (T.new hM2) 1 off g go cap bs (by omega) (by rw [lF5z_0]; decide) h0 (by omega) hcap hcm ⟨fun j x hj => (hM2.cell (p := ⟨g, go + j, none⟩) hgl (fun e => e)).trans (hs.at_ j x hj), hs.lt⟩ hg.1 hg.2.1 hg.2.2 bs.length (by omega)
  refine Calls.mono h ?_
  intro e w' hp
  have hd := oW_done off bs hl
  rw [List.take_length, lR3z_1] at hp
  have hp' : WPost t q b c 300 8 0 lF5z lR3z 1 off (oW off bs) W' e w' := hp
  unfold WPost at hp'
  rw [hd, if_neg (by omega), lF5z_5] at hp'
  obtain ⟨p1, p2, p3⟩ := hp'
  refine ⟨p1, p3, ?_⟩
  have hm : max (0 : Int) ((off : Int) + (bs.length : Nat)) = ((off + bs.length : Nat) : Int) := by omega
  rw [hm] at p2
  exact p2
theorem plRead (off : Nat) (bs : List Nat) (h0 : 0 < bs.length) (hl : bs.length ≤ 2000) (ho : off < 3000) (T : Tb w t q b c 300 8 0 (F6 (off + bs.length)) (setN lR3z 1 (oW off bs).R) (oW off bs).u (oW off bs).D) (hf : FsAt w fb t) (hR : ∀ x, x < 17792 → rd (oW off bs).u (oW off bs).D (oW off bs).R x = if off ≤ x ∧ x < off + bs.length then bs.getD (x - off) 0 else 0) (k : Nat) (hk : off + bs.length ≤ k) (hk2 : k ≤ 6000) :
    Calls Tryz.prog 186 #[.pointer (some ⟨fb, 0, none⟩), .int .i64 2, .int .i64 0, .int .i64 k] w fun e w' => ∃ ra rl rc s, e = .returned (.tuple #[.slice ra rl rc, .int .i64 0]) ∧ Mod (fun _ => False) w w' ∧ (w.heap.size ≤ s ∧ RdQ (off + bs.length) (fun j => if off ≤ j then bs.getD (j - off) 0 else 0) ra rl rc s w') := by
  refine fsReadAt hf 2 0 k (fun _ => False) (fun x hx => hx.elim) (fun ra rl rc s w' => w.heap.size ≤ s ∧ RdQ (off + bs.length) (fun j => if off ≤ j then bs.getD (j - off) 0 else 0) ra rl rc s w') (fun ra rl rc s E a b h hE hM => ⟨h.1, h.2.keep hE hM⟩) (fun W K b1 b2 b3 hN hle c1 c2 c3 => ?_)
  have TW := T.new hN.M
  refine (tReadWork (k := K) hN.k.c0 2 0 k c1 c2 c3 (F6 (off + bs.length) 1) (staOf TW hN.k.c0 1 (by omega) (by rw [F6_0]; decide)) (by rw [F6_0]; decide +kernel) (fun _ => False) ⟨fun e => e, fun e => e, fun e => e, fun e => e⟩ (fun ra rl rc w' => w.heap.size ≤ W.heap.size ∧ RdQ (off + bs.length) (fun j => if off ≤ j then bs.getD (j - off) 0 else 0) ra rl rc W.heap.size w') (fun W' hM' => ?_)).mono (fun e w' ⟨ra, rl, rc, h1, h2, h3⟩ => ⟨ra, rl, rc, h1, h2.mono (fun _ _ e => e.elim), h3⟩)
  refine (tread (TW.new hM') 1 0 k (off + bs.length) (by omega) (by rw [F6_0]; decide) (F6_5 _) (by omega) (by omega) (off + bs.length) (by omega)).mono ?_
  rintro e w' ⟨rfl, A⟩
  refine ⟨_, _, _, rfl, A.mod, hN.M.size, rfl, Nat.le_refl _, .inr ⟨W'.heap.size, rfl, hM'.size, A.lt, fun j hj => ?_⟩⟩
  rw [A.at_ j hj, if_pos hj, setN_own6, Nat.zero_add, hR j (by omega)]
  congr 3
  show _ = (if off ≤ j then bs.getD (j - off) 0 else 0)
  by_cases hj2 : off ≤ j
  · rw [if_pos ⟨hj2, hj⟩, if_pos hj2]
  · rw [if_neg (fun h => hj2 h.1), if_neg hj2]
end
end Go.Proofs.YtpcbpikhiooafaaGreatDoor
