/- A region that draws its order: one operation more; the end. No condition. -/
import Derived.Test.YtdldpehmcfbbeaaGreatDoorEv20
namespace Go.Proofs.YtdldpehmcfbbeaaGreatDoor.Ev
variable {P : Program} {G : Nat}
/-- One operation more is done. -/
theorem Inv.step {N n : Nat} {Hh : Nat → Hp} {Th : Nat → LL} {ww dm : Nat → Nat} {R : Nat → Prop} {ρ0 : Env} {w0 : World} {S : Nat → Prop} {ρ : Env} {w : World} {tm : Array Value} (v : Inv G N n Hh Th ww dm R ρ0 w0 S ρ w tm) (pl : Plan N Hh ww) (hf : Fresh ρ0 (Hh 0).next (Hh N).next) {i : Nat} (hi : i < N) (hS : ¬ S i)
    (hlt : ∀ x, On (ww i) x → ∀ m, m < N → S m → On (ww m) x → m ≤ i) (hltT : ∀ t, On (dm i) t → ∀ m, m < N → S m → On (dm m) t → m ≤ i) {ρ' : Env} {w' : World} (g : Goes G (Ri N Hh ww R S i) ρ (Hh i) w (ww i) ρ' (Hh (i + 1)) w') {tm' : Array Value} (htsz : tm'.size = n)
    (ht1 : ∀ t u, On (dm i) t → (Th (i + 1)).get t = some u → ∃ r, tm'[t]? = some r ∧ VR ρ' u r) (ht2 : ∀ t, ¬ On (dm i) t → tm'[t]? = tm[t]?) :
    Inv G N n Hh Th ww dm R ρ0 w0 (fun m => S m ∨ m = i) ρ' w' tm' := by
  have hfr := v.fresh pl hf hi hS
  have hwS : ∀ x, Wt N S ww x → Wt N (fun m => S m ∨ m = i) ww x := fun x ⟨m, a, b, c⟩ => ⟨m, a, .inl b, c⟩
  have hwi : ∀ x, On (ww i) x → Wt N (fun m => S m ∨ m = i) ww x := fun x h => ⟨i, hi, .inr rfl, h⟩
  have hRS : ∀ x, ¬ On (ww i) x → (R x ∨ Wt N (fun m => S m ∨ m = i) ww x) → R x ∨ Wt N S ww x := fun x hn h => h.imp_right fun h => (wt_step h).elim (fun h => (hn h).elim) id
  have hlive : ∀ x o k, On (ww i) x → (Hh i).tr.get x = some o → ρ x = some k → (R x ∨ Wt N S ww x) ∧ Cont N S ww (fun j x => (Hh j).tr.get x) x o := by
    intro x o k h1 h2 h3
    rcases (g.own x h1).1 with h4 | h4
    · exact ⟨h4.1, h4.2 o h2⟩
    · rw [hfr x h4.1 h4.2] at h3; cases h3
  have h0live : ∀ x o k, (Hh i).tr.get x = some o → ρ0 x = some k → ∃ o', (Hh 0).tr.get x = some o' := by
    intro x o k h1 h2
    rcases pl.live i (by omega) x o h1 with h3 | h3
    · exact h3
    · rw [hf x h3.1 (Nat.lt_of_lt_of_le h3.2 (pl.next N (by omega) (Nat.le_refl _)))] at h2; cases h2
  have hblk : ∀ x o k, On (ww i) x → (Hh i).tr.get x = some o → ρ x = some k → w0.heap.size ≤ k.b ∨ ∃ y o ky, Wt N (fun m => S m ∨ m = i) ww y ∧ (Hh 0).tr.get y = some o ∧ ρ0 y = some ky ∧ ky.b = k.b := by
    intro x o k h1 h2 h3
    cases h4 : ρ0 x with
    | some k0 =>
      have e := v.le _ _ h4
      rw [h3] at e
      injection e with e
      subst e
      obtain ⟨o', h5⟩ := h0live x o k h2 h4
      exact .inr ⟨x, o', k, hwi x h1, h5, h4, rfl⟩
    | none =>
      rcases (v.new x k h4 h3).2 with h5 | ⟨y, oy, ky, h5, h6⟩
      · exact .inl h5
      · exact .inr ⟨y, oy, ky, hwS y h5, h6⟩
  have hold : ∀ x o, ¬ On (ww i) x → (R x ∨ Wt N S ww x) → Cont N S ww (fun j x => (Hh j).tr.get x) x o → ∃ k ob, ρ x = some k ∧ w'.heap[k.b]? = some ob ∧ SatO ρ k o ob := by
    intro x o hn hx hc
    obtain ⟨k, ob, a1, a2, a3⟩ := v.sat x o hx hc
    refine ⟨k, ob, a1, ?_, a3⟩
    rw [g.same k.b (v.low _ _ a1), a2]
    intro y oy ky h1 h2 h3 e
    obtain ⟨b1, b2⟩ := hlive y oy ky h1 h2 h3
    exact hn (v.inj y x oy o ky k b1 hx b2 hc h3 a1 e ▸ h1)
  refine ⟨?_, ?_, g.st.glob, g.st.low, fun x k h => g.le _ _ (v.le _ _ h), ?_, Nat.le_trans v.size g.size, ?_, ⟨g.rest.1.trans v.rest.1, g.rest.2.1.trans v.rest.2.1, g.rest.2.2.trans v.rest.2.2⟩, ?_, htsz, ?_⟩
  · intro x o hx hc
    rcases hc.step hi (hlt x) with ⟨h1, h2⟩ | ⟨h1, h2⟩
    · exact g.st.sat x o (.inr h1) h2
    · obtain ⟨k, ob, a1, a2, a3⟩ := hold x o h1 (hRS x h1 hx) h2
      exact ⟨k, ob, g.le _ _ a1, a2, a3.mono g.le⟩
  · intro x y o o' k k' hx hy hcx hcy hk hk' hb
    have mixed : ∀ x y o o' k k', On (ww i) x → (Hh (i + 1)).tr.get x = some o → ¬ On (ww i) y → (R y ∨ Wt N S ww y) → Cont N S ww (fun j x => (Hh j).tr.get x) y o' → ρ' x = some k → ρ' y = some k' → k.b = k'.b → False := by
      intro x y o o' k k' h1 h2 h3 h4 h5 h6 h7 h8
      obtain ⟨ky, oby, b1, b2, b3⟩ := v.sat y o' h4 h5
      have e := g.le _ _ b1
      rw [h7] at e
      injection e with e
      subst e
      cases h9 : ρ x with
      | some kx =>
        have e := g.le _ _ h9
        rw [h6] at e
        injection e with e
        subst e
        rcases g.live x o h2 with ⟨ox, h10⟩ | h10
        · obtain ⟨c1, c2⟩ := hlive x ox k h1 h10 h9
          exact h3 (v.inj x y ox o' k k' c1 h4 c2 h5 h9 b1 h8 ▸ h1)
        · rw [hfr x h10.1 h10.2] at h9; cases h9
      | none =>
        rcases (g.new x k h9 h6).2 with h10 | ⟨z, oz, kz, h10, h11, h12, h13⟩
        · have := v.low _ _ b1; omega
        · obtain ⟨c1, c2⟩ := hlive z oz kz h10 h11 h12
          exact h3 (v.inj z y oz o' kz k' c1 h4 c2 h5 h12 b1 (h13.trans h8) ▸ h10)
    rcases hcx.step hi (hlt x) with ⟨a1, a2⟩ | ⟨a1, a2⟩ <;> rcases hcy.step hi (hlt y) with ⟨b1, b2⟩ | ⟨b1, b2⟩
    · exact g.st.inj x y o o' k k' (.inr a1) (.inr b1) a2 b2 hk hk' hb
    · exact (mixed x y o o' k k' a1 a2 b1 (hRS y b1 hy) b2 hk hk' hb).elim
    · exact (mixed y x o' o k' k b1 b2 a1 (hRS x a1 hx) a2 hk' hk hb.symm).elim
    · obtain ⟨kx, _, c1, _, _⟩ := v.sat x o (hRS x a1 hx) a2
      obtain ⟨ky, _, d1, _, _⟩ := v.sat y o' (hRS y b1 hy) b2
      have e1 := g.le _ _ c1
      have e2 := g.le _ _ d1
      rw [hk] at e1
      rw [hk'] at e2
      injection e1 with e1
      injection e2 with e2
      subst e1 e2
      exact v.inj x y o o' k k' (hRS x a1 hx) (hRS y b1 hy) a2 b2 c1 d1 hb
  · intro x k h1 h2
    cases h3 : ρ x with
    | some k0 =>
      have e := g.le _ _ h3
      rw [h2] at e
      injection e with e
      subst e
      obtain ⟨⟨m, a1, a2, a3⟩, a4⟩ := v.new x k h1 h3
      exact ⟨⟨m, a1, .inl a2, a3⟩, a4.imp_right fun ⟨y, o, ky, b1, b2⟩ => ⟨y, o, ky, hwS y b1, b2⟩⟩
    | none =>
      obtain ⟨a1, a2⟩ := g.new x k h3 h2
      refine ⟨⟨i, hi, .inr rfl, a1⟩, ?_⟩
      rcases a2 with a2 | ⟨z, oz, kz, b1, b2, b3, b4⟩
      · exact .inl (Nat.le_trans v.size a2)
      · rw [← b4]; exact hblk z oz kz b1 b2 b3
  · intro b hb hn
    rw [g.same b (Nat.lt_of_lt_of_le hb v.size), v.same b hb fun x o k h1 h2 h3 => hn x o k (hwS x h1) h2 h3]
    intro x o k h1 h2 h3 e
    rcases hblk x o k h1 h2 h3 with h4 | ⟨y, oy, ky, h4, h5, h6, h7⟩
    · omega
    · exact hn y oy ky h4 h5 h6 (h7.trans e)
  · intro x hx
    rcases wt_step hx with h1 | h1
    · obtain ⟨h2, h3⟩ := g.own x h1
      refine ⟨?_, h3⟩
      rcases h2 with h2 | h2
      · rcases h2.1 with h4 | h4
        · exact .inl h4
        · exact (v.own x h4).1
      · exact .inr ⟨Nat.le_trans (pl.next i (Nat.zero_le _) (by omega)) h2.1, Nat.lt_of_lt_of_le h2.2 (pl.next N (by omega) (Nat.le_refl _))⟩
    · exact v.own x h1
  · intro t u hc
    rcases hc.step hi (hltT t) with ⟨h1, h2⟩ | ⟨h1, h2⟩
    · exact ht1 t u h1 h2
    · obtain ⟨r, a1, a2⟩ := v.tmv t u h2
      exact ⟨r, by rw [ht2 t h1]; exact a1, VR.mono g.le _ _ a2⟩
/-- At the end: all are done. -/
theorem Inv.done {N n : Nat} {Hh : Nat → Hp} {Th : Nat → LL} {ww dm : Nat → Nat} {R : Nat → Prop} {ρ0 : Env} {w0 : World} {S : Nat → Prop} {ρ : Env} {w : World} {tm : Array Value} (v : Inv G N n Hh Th ww dm R ρ0 w0 S ρ w tm) (pl : Plan N Hh ww) (hTo : ∀ j, j < N → ∀ t u, ¬ On (dm j) t → (fun j t => (Th j).get t) (j + 1) t = some u → (fun j t => (Th j).get t) j t = some u) (hall : ∀ m, m < N → S m) (wr : Nat) (hwr : ∀ x, On wr x ↔ ∃ j, j < N ∧ On (ww j) x) :
    Goes G R ρ0 (Hh 0) w0 wr ρ (Hh N) w ∧ LmR ρ (Th N) n tm := by
  have hW : ∀ x, Wt N S ww x ↔ On wr x := fun x => by
    rw [hwr]
    exact ⟨fun ⟨m, a, _, c⟩ => ⟨m, a, c⟩, fun ⟨m, a, c⟩ => ⟨m, a, hall m a, c⟩⟩
  have hrd : ∀ x o, (Hh N).tr.get x = some o → Cont N S ww (fun j x => (Hh j).tr.get x) x o := fun x o h => Cont.read pl.old (Nat.le_refl _) (fun m hm _ => hall m hm) (fun m hm _ _ => hm) h
  refine ⟨⟨⟨fun x o hx h => v.sat x o (hx.imp_right (hW x).2) (hrd x o h), fun x y o o' k k' hx hy h1 h2 => v.inj x y o o' k k' (hx.imp_right (hW x).2) (hy.imp_right (hW y).2) (hrd x o h1) (hrd y o' h2), v.glob, v.low⟩, v.le, ?_, v.size, fun b hb hn => v.same b hb fun x o k h => hn x o k ((hW x).1 h), pl.next N (Nat.zero_le _) (Nat.le_refl _), ?_, fun x o h => pl.live N (Nat.le_refl _) x o h, ?_, v.rest⟩, v.tsz, fun t u h => v.tmv t u (Cont.read hTo (Nat.le_refl _) (fun m hm _ => hall m hm) (fun m hm _ _ => hm) h)⟩
  · intro x k h1 h2
    obtain ⟨⟨m, a1, _, a3, a4⟩, a5⟩ := v.new x k h1 h2
    refine ⟨⟨Nat.le_trans (pl.next m (Nat.zero_le _) (by omega)) a3, Nat.lt_of_lt_of_le a4 (pl.next N (by omega) (Nat.le_refl _))⟩, a5.imp_right fun ⟨y, o, ky, b1, b2⟩ => ⟨y, o, ky, (hW y).1 b1, b2⟩⟩
  · intro x o hx h
    exact down (gt := fun j x => (Hh j).tr.get x) pl.old N (Nat.zero_le _) (Nat.le_refl _) (fun m _ h2 h3 => hx ((hwr x).2 ⟨m, h2, h3⟩)) h
  · intro x hx
    exact v.own x ((hW x).2 hx)
end Go.Proofs.YtdldpehmcfbbeaaGreatDoor.Ev
