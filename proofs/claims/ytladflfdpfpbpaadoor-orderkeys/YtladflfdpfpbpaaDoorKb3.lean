/- The walk of the plain answer's ParseKey. Condition: a text that fits. -/
import Derived.Test.YtladflfdpfpbpaaDoorKb2
namespace Go.Proofs.YtladflfdpfpbpaaDoor
open Go.RowKit
attribute [local go_sem] ext_eq app_eq get_eq
namespace Ok
/-- A key that lies at block 'b'. -/
structure Kq (b : Nat) (x y z : Int) (W : World) : Prop where
  lt : b < W.heap.size
  c0 : W.cell? ⟨b, 0, none⟩ = some (.int .i64 x)
  c1 : W.cell? ⟨b, 1, none⟩ = some (.int .i64 y)
  c2 : W.cell? ⟨b, 2, none⟩ = some (.int .i64 0)
  c3 : W.cell? ⟨b, 3, none⟩ = some (.int .i64 0)
  c4 : W.cell? ⟨b, 4, none⟩ = some (.int .i64 z)
  fr : ∀ o, W.frozen? ⟨b, o, none⟩ = false
theorem Kq.grow {b : Nat} {x y z : Int} {W W' : World} (h : Kq b x y z W) (d : Below W.heap.size W W') : Kq b x y z W' where
  lt := Nat.lt_of_lt_of_le h.lt d.size
  c0 := (d.cell (p := ⟨b, 0, none⟩) h.lt).trans h.c0
  c1 := (d.cell (p := ⟨b, 1, none⟩) h.lt).trans h.c1
  c2 := (d.cell (p := ⟨b, 2, none⟩) h.lt).trans h.c2
  c3 := (d.cell (p := ⟨b, 3, none⟩) h.lt).trans h.c3
  c4 := (d.cell (p := ⟨b, 4, none⟩) h.lt).trans h.c4
  fr := fun o => (d.frozen (p := ⟨b, o, none⟩) h.lt).trans (h.fr o)
theorem Kq.made (W : World) (x y z : Int) (T : TypeId) : Kq W.heap.size x y z (W.alloc (.cells #[.int .i64 x, .int .i64 y, .int .i64 0, .int .i64 0, .int .i64 z] T)) where
  lt := by simp
  c0 := World.cell?_alloc_at _ _ _ _ rfl
  c1 := World.cell?_alloc_at _ _ _ _ rfl
  c2 := World.cell?_alloc_at _ _ _ _ rfl
  c3 := World.cell?_alloc_at _ _ _ _ rfl
  c4 := World.cell?_alloc_at _ _ _ _ rfl
  fr := fun o => World.frozen?_alloc_at _ _ _ _ rfl
end Ok
local macro "k1" : tactic => `(tactic| first | go_values | go_skip | go_guarded | go_step | go_upon | go_back | (simp only [Int.not_lt, Int.not_le] at *; go_simp) | (go_values <;> (try go_simp)))
set_option maxRecDepth 100000 in
set_option maxHeartbeats 16000000 in
theorem rPK (s : List UInt8) (hs : s.length ≤ 2 ^ 60) (w : World) : Calls Tryd.prog 5 #[.string ⟨s.toArray⟩] w fun e w' => e = .returned (.tuple #[Ok.kv (Ok.PKr s).1, .int .i64 (Ok.PKr s).2]) ∧ Below w.heap.size w w' := by
  have HA := hidA (fun W => rHF s hs W)
  have hR : Ok.PKr s = Ok.PKr s := rfl
  conv at hR => rhs; unfold Ok.PKr
  have hle := Ok.HF_le s
  rcases hp : Ok.HF s with ⟨f, c, F, n⟩
  rw [hp] at HA hR hle
  clear hp
  dsimp only at HA hR hle
  by_cases h0 : n = 0
  · rw [if_pos (.inl h0)] at hR
    rw [hR]
    subst h0
    clear hR
    go_enter Tryd.func5, Tryd.ntmps5
    go_wp2_with fail
    refine (HA.out _).mono ?_
    rintro e w2 ⟨rfl, b1⟩
    have HK := hidA ((Ok.Ky.made w _).grow b1)
    clear b1
    have hsz := HK.out.lt
    have r0 := HK.out.c0
    have r1 := HK.out.c1
    have r2 := HK.out.c2
    have r3 := HK.out.c3
    have r4 := HK.out.c4
    have fr := HK.out.fr
    go_wp2_with fail
    (try simp only [Exit.inBlock, Exit.then])
    refine bodyPost_ret (by simp [results, Tryd.results5, go_sem, r0, r1, r2, r3, r4]; rfl) rfl ?_
    refine ⟨rfl, ?_⟩
    have hbel := HK.out.bel
    clear HA
    repeat first
      | with_reducible exact hbel
      | (with_reducible refine Below.setCell ?_ ?_ _)
      | (with_reducible refine Below.alloc ?_ ?_ _)
    all_goals first
      | exact Nat.le_refl _
      | (show _ ≤ _; simp; done)
      | (show _ ≤ _; simp; omega)
  have e0 : ((n : Int) == 0) = false := by rw [beq_eq_false_iff_ne]; omega
  by_cases hc : c = 0
  · rw [if_pos (.inr hc)] at hR
    rw [hR]
    subst hc
    clear hR
    go_enter Tryd.func5, Tryd.ntmps5
    go_wp2_with fail
    refine (HA.out _).mono ?_
    rintro e w2 ⟨rfl, b1⟩
    have HK := hidA ((Ok.Ky.made w _).grow b1)
    clear b1
    have hsz := HK.out.lt
    have r0 := HK.out.c0
    have r1 := HK.out.c1
    have r2 := HK.out.c2
    have r3 := HK.out.c3
    have r4 := HK.out.c4
    have fr := HK.out.fr
    go_wp2_with fail
    (try simp only [Exit.inBlock, Exit.then])
    refine bodyPost_ret (by simp [results, Tryd.results5, go_sem, r0, r1, r2, r3, r4]; rfl) rfl ?_
    refine ⟨rfl, ?_⟩
    have hbel := HK.out.bel
    clear HA
    repeat first
      | with_reducible exact hbel
      | (with_reducible refine Below.setCell ?_ ?_ _)
      | (with_reducible refine Below.alloc ?_ ?_ _)
    all_goals first
      | exact Nat.le_refl _
      | (show _ ≤ _; simp; done)
      | (show _ ≤ _; simp; omega)
  have ec : (c == 0) = false := by rw [beq_eq_false_iff_ne]; exact hc
  rw [if_neg (fun h => h.elim h0 hc)] at hR
  clear h0 hc
  by_cases hneg : c < 0
  · rw [show Ok.ch c 1 = 1 from if_pos hneg] at hR
    by_cases hn : n = s.length
    · rw [if_pos hn] at hR
      rw [hR]
      clear hR
      subst hn
      go_enter Tryd.func5, Tryd.ntmps5
      go_wp2_with fail
      refine (HA.out _).mono ?_
      rintro e w2 ⟨rfl, b1⟩
      have HK := hidA ((Ok.Ky.made w _).grow b1)
      clear b1
      have hsz := HK.out.lt
      have r0 := HK.out.c0
      have r1 := HK.out.c1
      have r2 := HK.out.c2
      have r3 := HK.out.c3
      have r4 := HK.out.c4
      have fr := HK.out.fr
      iterate 104 k1
      have HK0 := HK
      clear HK r0 r1 r2 r3 r4 fr
      have HK := hidA (HK0.out.grow ((Below.refl _ _).alloc (Nat.le_refl _) (.cells #[.int .i64 f, .int .i64 1, .int .i64 0, .int .i64 0, .int .i64 F] 23)))
      have HQ := hidA (Ok.Kq.made w2 f 1 F 23)
      generalize w2.alloc (.cells #[.int .i64 f, .int .i64 1, .int .i64 0, .int .i64 0, .int .i64 F] 23) = W3 at HK HQ ⊢
      have hsz3 := HK.out.lt
      have hsz4 := HQ.out.lt
      have r0 := HK.out.c0
      have r1 := HK.out.c1
      have r2 := HK.out.c2
      have r3 := HK.out.c3
      have r4 := HK.out.c4
      have fr := HK.out.fr
      have q0 := HQ.out.c0
      have q1 := HQ.out.c1
      have q2 := HQ.out.c2
      have q3 := HQ.out.c3
      have q4 := HQ.out.c4
      have fq := HQ.out.fr
      go_wp2_with fail
      (try simp only [Exit.inBlock, Exit.then])
      refine bodyPost_ret (by simp [results, Tryd.results5, go_sem, r0, r1, r2, r3, r4]; rfl) rfl ?_
      refine ⟨rfl, ?_⟩
      have hbel := HK.out.bel
      clear HA
      repeat first
        | with_reducible exact hbel
        | (with_reducible refine Below.setCell ?_ ?_ _)
        | (with_reducible refine Below.alloc ?_ ?_ _)
      all_goals first
        | exact Nat.le_refl _
        | (show _ ≤ _; simp; done)
        | (show _ ≤ _; simp; omega)
    rw [if_neg hn] at hR
    have e3 : ((n : Int) == (s.length : Int)) = false := by rw [beq_eq_false_iff_ne]; omega
    have hlt : n < s.length := by omega
    have hltI : (n : Int) < (s.length : Int) := by omega
    rw [List.getElem?_eq_getElem hlt] at hR
    by_cases h44 : s[n] = 44
    · rw [if_pos (by rw [h44])] at hR
      have hw1 : IntKind.i64.wrap ((n : Int) + 1) = ((n + 1 : Nat) : Int) := by rw [IntKind.wrap_i64]; omega
      have hq1 : n + 1 ≤ s.length := hlt
      have hq1I : ((n + 1 : Nat) : Int) ≤ (s.length : Int) := by omega
      have HA2 := hidA (fun W => rHF (s.drop (n + 1)) (by rw [List.length_drop]; omega) W)
      have hle2 := Ok.HF_le (s.drop (n + 1))
      rw [List.length_drop] at hle2
      rcases hp : Ok.HF (s.drop (n + 1)) with ⟨g, d, G, m⟩
      rw [hp] at HA2 hR hle2
      clear hp
      dsimp only at HA2 hR hle2
      by_cases hm : m = 0
      · rw [if_pos (.inl hm)] at hR
        rw [hR]
        subst hm
        clear hR
        go_enter Tryd.func5, Tryd.ntmps5
        go_wp2_with fail
        refine (HA.out _).mono ?_
        rintro e w2 ⟨rfl, b1⟩
        have HK := hidA ((Ok.Ky.made w _).grow b1)
        clear b1
        have hsz := HK.out.lt
        have r0 := HK.out.c0
        have r1 := HK.out.c1
        have r2 := HK.out.c2
        have r3 := HK.out.c3
        have r4 := HK.out.c4
        have fr := HK.out.fr
        go_wp2_with fail
        refine (HA2.out _).mono ?_
        rintro e w3 ⟨rfl, b1⟩
        have HK0 := HK
        clear HK r0 r1 r2 r3 r4 fr
        have HK := hidA ((HK0.out.grow ((Below.refl _ _).alloc (Nat.le_refl _) _)).grow b1)
        have HQ := hidA ((Ok.Kq.made w2 f 1 F _).grow b1)
        clear b1
        have hsz3 := HK.out.lt
        have hsz4 := HQ.out.lt
        have r0 := HK.out.c0
        have r1 := HK.out.c1
        have r2 := HK.out.c2
        have r3 := HK.out.c3
        have r4 := HK.out.c4
        have fr := HK.out.fr
        have q0 := HQ.out.c0
        have q1 := HQ.out.c1
        have q2 := HQ.out.c2
        have q3 := HQ.out.c3
        have q4 := HQ.out.c4
        have fq := HQ.out.fr
        go_wp2_with fail
        (try simp only [Exit.inBlock, Exit.then])
        refine bodyPost_ret (by simp [results, Tryd.results5, go_sem, r0, r1, r2, r3, r4]; rfl) rfl ?_
        refine ⟨rfl, ?_⟩
        have hbel := HK.out.bel
        clear HA
        repeat first
          | with_reducible exact hbel
          | (with_reducible refine Below.setCell ?_ ?_ _)
          | (with_reducible refine Below.alloc ?_ ?_ _)
        all_goals first
          | exact Nat.le_refl _
          | (show _ ≤ _; simp; done)
          | (show _ ≤ _; simp; omega)
      have e4 : ((m : Int) == 0) = false := by rw [beq_eq_false_iff_ne]; omega
      obtain ⟨k2, Hk2⟩ : ∃ k : Nat, Hid (k = n + 1 + m) := ⟨_, hidA rfl⟩
      have hw2 : IntKind.i64.wrap (((n + 1 : Nat) : Int) + (m : Int)) = (k2 : Int) := by have := Hk2.out; rw [IntKind.wrap_i64]; omega
      have hw3 : IntKind.i64.wrap ((n : Int) + 1 + (m : Int)) = (k2 : Int) := by have := Hk2.out; rw [IntKind.wrap_i64]; omega
      rw [← Hk2.out] at hR
      by_cases hk : k2 = s.length
      · rw [if_neg (fun h => h.elim hm (fun h => h hk))] at hR
        have e5 : ((k2 : Int) == (s.length : Int)) = true := by rw [beq_iff_eq]; omega
        by_cases hd : d < 0
        · rw [show Ok.ch d 0 = 0 from if_pos hd] at hR
          rw [hR]
          clear hR
          go_enter Tryd.func5, Tryd.ntmps5
          go_wp2_with fail
          refine (HA.out _).mono ?_
          rintro e w2 ⟨rfl, b1⟩
          have HK := hidA ((Ok.Ky.made w _).grow b1)
          clear b1
          have hsz := HK.out.lt
          have r0 := HK.out.c0
          have r1 := HK.out.c1
          have r2 := HK.out.c2
          have r3 := HK.out.c3
          have r4 := HK.out.c4
          have fr := HK.out.fr
          go_wp2_with fail
          refine (HA2.out _).mono ?_
          rintro e w3 ⟨rfl, b1⟩
          have HK0 := HK
          clear HK r0 r1 r2 r3 r4 fr
          have HK := hidA ((HK0.out.grow ((Below.refl _ _).alloc (Nat.le_refl _) _)).grow b1)
          have HQ := hidA ((Ok.Kq.made w2 f 1 F _).grow b1)
          clear b1
          have hsz3 := HK.out.lt
          have hsz4 := HQ.out.lt
          have r0 := HK.out.c0
          have r1 := HK.out.c1
          have r2 := HK.out.c2
          have r3 := HK.out.c3
          have r4 := HK.out.c4
          have fr := HK.out.fr
          have q0 := HQ.out.c0
          have q1 := HQ.out.c1
          have q2 := HQ.out.c2
          have q3 := HQ.out.c3
          have q4 := HQ.out.c4
          have fq := HQ.out.fr
          go_wp2_with fail
          (try simp only [Exit.inBlock, Exit.then])
          refine bodyPost_ret (by simp [results, Tryd.results5, go_sem, r0, r1, r2, r3, r4]; rfl) rfl ?_
          refine ⟨rfl, ?_⟩
          have hbel := HK.out.bel
          clear HA
          repeat first
            | with_reducible exact hbel
            | (with_reducible refine Below.setCell ?_ ?_ _)
            | (with_reducible refine Below.alloc ?_ ?_ _)
          all_goals first
            | exact Nat.le_refl _
            | (show _ ≤ _; simp; done)
            | (show _ ≤ _; simp; omega)
        · rw [show Ok.ch d 0 = d from if_neg hd] at hR
          rw [hR]
          clear hR
          go_enter Tryd.func5, Tryd.ntmps5
          go_wp2_with fail
          refine (HA.out _).mono ?_
          rintro e w2 ⟨rfl, b1⟩
          have HK := hidA ((Ok.Ky.made w _).grow b1)
          clear b1
          have hsz := HK.out.lt
          have r0 := HK.out.c0
          have r1 := HK.out.c1
          have r2 := HK.out.c2
          have r3 := HK.out.c3
          have r4 := HK.out.c4
          have fr := HK.out.fr
          go_wp2_with fail
          refine (HA2.out _).mono ?_
          rintro e w3 ⟨rfl, b1⟩
          have HK0 := HK
          clear HK r0 r1 r2 r3 r4 fr
          have HK := hidA ((HK0.out.grow ((Below.refl _ _).alloc (Nat.le_refl _) _)).grow b1)
          have HQ := hidA ((Ok.Kq.made w2 f 1 F _).grow b1)
          clear b1
          have hsz3 := HK.out.lt
          have hsz4 := HQ.out.lt
          have r0 := HK.out.c0
          have r1 := HK.out.c1
          have r2 := HK.out.c2
          have r3 := HK.out.c3
          have r4 := HK.out.c4
          have fr := HK.out.fr
          have q0 := HQ.out.c0
          have q1 := HQ.out.c1
          have q2 := HQ.out.c2
          have q3 := HQ.out.c3
          have q4 := HQ.out.c4
          have fq := HQ.out.fr
          go_wp2_with fail
          (try simp only [Exit.inBlock, Exit.then])
          refine bodyPost_ret (by simp [results, Tryd.results5, go_sem, r0, r1, r2, r3, r4]; rfl) rfl ?_
          refine ⟨rfl, ?_⟩
          have hbel := HK.out.bel
          clear HA
          repeat first
            | with_reducible exact hbel
            | (with_reducible refine Below.setCell ?_ ?_ _)
            | (with_reducible refine Below.alloc ?_ ?_ _)
          all_goals first
            | exact Nat.le_refl _
            | (show _ ≤ _; simp; done)
            | (show _ ≤ _; simp; omega)
      · rw [if_pos (.inr hk)] at hR
        have e5 : ((k2 : Int) == (s.length : Int)) = false := by rw [beq_eq_false_iff_ne]; omega
        rw [hR]
        clear hR
        go_enter Tryd.func5, Tryd.ntmps5
        go_wp2_with fail
        refine (HA.out _).mono ?_
        rintro e w2 ⟨rfl, b1⟩
        have HK := hidA ((Ok.Ky.made w _).grow b1)
        clear b1
        have hsz := HK.out.lt
        have r0 := HK.out.c0
        have r1 := HK.out.c1
        have r2 := HK.out.c2
        have r3 := HK.out.c3
        have r4 := HK.out.c4
        have fr := HK.out.fr
        go_wp2_with fail
        refine (HA2.out _).mono ?_
        rintro e w3 ⟨rfl, b1⟩
        have HK0 := HK
        clear HK r0 r1 r2 r3 r4 fr
        have HK := hidA ((HK0.out.grow ((Below.refl _ _).alloc (Nat.le_refl _) _)).grow b1)
        have HQ := hidA ((Ok.Kq.made w2 f 1 F _).grow b1)
        clear b1
        have hsz3 := HK.out.lt
        have hsz4 := HQ.out.lt
        have r0 := HK.out.c0
        have r1 := HK.out.c1
        have r2 := HK.out.c2
        have r3 := HK.out.c3
        have r4 := HK.out.c4
        have fr := HK.out.fr
        have q0 := HQ.out.c0
        have q1 := HQ.out.c1
        have q2 := HQ.out.c2
        have q3 := HQ.out.c3
        have q4 := HQ.out.c4
        have fq := HQ.out.fr
        go_wp2_with fail
        (try simp only [Exit.inBlock, Exit.then])
        refine bodyPost_ret (by simp [results, Tryd.results5, go_sem, r0, r1, r2, r3, r4]; rfl) rfl ?_
        refine ⟨rfl, ?_⟩
        have hbel := HK.out.bel
        clear HA
        repeat first
          | with_reducible exact hbel
          | (with_reducible refine Below.setCell ?_ ?_ _)
          | (with_reducible refine Below.alloc ?_ ?_ _)
        all_goals first
          | exact Nat.le_refl _
          | (show _ ≤ _; simp; done)
          | (show _ ≤ _; simp; omega)
    · rw [if_neg (fun h => h44 (Option.some.inj h))] at hR
      have eb := byte_no s[n] 44 44 rfl h44
      rw [hR]
      clear hR
      go_enter Tryd.func5, Tryd.ntmps5
      go_wp2_with fail
      refine (HA.out _).mono ?_
      rintro e w2 ⟨rfl, b1⟩
      have HK := hidA ((Ok.Ky.made w _).grow b1)
      clear b1
      have hsz := HK.out.lt
      have r0 := HK.out.c0
      have r1 := HK.out.c1
      have r2 := HK.out.c2
      have r3 := HK.out.c3
      have r4 := HK.out.c4
      have fr := HK.out.fr
      iterate 104 k1
      have HK0 := HK
      clear HK r0 r1 r2 r3 r4 fr
      have HK := hidA (HK0.out.grow ((Below.refl _ _).alloc (Nat.le_refl _) (.cells #[.int .i64 f, .int .i64 1, .int .i64 0, .int .i64 0, .int .i64 F] 23)))
      have HQ := hidA (Ok.Kq.made w2 f 1 F 23)
      generalize w2.alloc (.cells #[.int .i64 f, .int .i64 1, .int .i64 0, .int .i64 0, .int .i64 F] 23) = W3 at HK HQ ⊢
      have hsz3 := HK.out.lt
      have hsz4 := HQ.out.lt
      have r0 := HK.out.c0
      have r1 := HK.out.c1
      have r2 := HK.out.c2
      have r3 := HK.out.c3
      have r4 := HK.out.c4
      have fr := HK.out.fr
      have q0 := HQ.out.c0
      have q1 := HQ.out.c1
      have q2 := HQ.out.c2
      have q3 := HQ.out.c3
      have q4 := HQ.out.c4
      have fq := HQ.out.fr
      go_wp2_with fail
      (try simp only [Exit.inBlock, Exit.then])
      refine bodyPost_ret (by simp [results, Tryd.results5, go_sem, r0, r1, r2, r3, r4]; rfl) rfl ?_
      refine ⟨rfl, ?_⟩
      have hbel := HK.out.bel
      clear HA
      repeat first
        | with_reducible exact hbel
        | (with_reducible refine Below.setCell ?_ ?_ _)
        | (with_reducible refine Below.alloc ?_ ?_ _)
      all_goals first
        | exact Nat.le_refl _
        | (show _ ≤ _; simp; done)
        | (show _ ≤ _; simp; omega)
  · rw [show Ok.ch c 1 = c from if_neg hneg] at hR
    by_cases hn : n = s.length
    · rw [if_pos hn] at hR
      rw [hR]
      clear hR
      subst hn
      go_enter Tryd.func5, Tryd.ntmps5
      go_wp2_with fail
      refine (HA.out _).mono ?_
      rintro e w2 ⟨rfl, b1⟩
      have HK := hidA ((Ok.Ky.made w _).grow b1)
      clear b1
      have hsz := HK.out.lt
      have r0 := HK.out.c0
      have r1 := HK.out.c1
      have r2 := HK.out.c2
      have r3 := HK.out.c3
      have r4 := HK.out.c4
      have fr := HK.out.fr
      iterate 104 k1
      have HK0 := HK
      clear HK r0 r1 r2 r3 r4 fr
      have HK := hidA (HK0.out.grow ((Below.refl _ _).alloc (Nat.le_refl _) (.cells #[.int .i64 f, .int .i64 c, .int .i64 0, .int .i64 0, .int .i64 F] 23)))
      have HQ := hidA (Ok.Kq.made w2 f c F 23)
      generalize w2.alloc (.cells #[.int .i64 f, .int .i64 c, .int .i64 0, .int .i64 0, .int .i64 F] 23) = W3 at HK HQ ⊢
      have hsz3 := HK.out.lt
      have hsz4 := HQ.out.lt
      have r0 := HK.out.c0
      have r1 := HK.out.c1
      have r2 := HK.out.c2
      have r3 := HK.out.c3
      have r4 := HK.out.c4
      have fr := HK.out.fr
      have q0 := HQ.out.c0
      have q1 := HQ.out.c1
      have q2 := HQ.out.c2
      have q3 := HQ.out.c3
      have q4 := HQ.out.c4
      have fq := HQ.out.fr
      go_wp2_with fail
      (try simp only [Exit.inBlock, Exit.then])
      refine bodyPost_ret (by simp [results, Tryd.results5, go_sem, r0, r1, r2, r3, r4]; rfl) rfl ?_
      refine ⟨rfl, ?_⟩
      have hbel := HK.out.bel
      clear HA
      repeat first
        | with_reducible exact hbel
        | (with_reducible refine Below.setCell ?_ ?_ _)
        | (with_reducible refine Below.alloc ?_ ?_ _)
      all_goals first
        | exact Nat.le_refl _
        | (show _ ≤ _; simp; done)
        | (show _ ≤ _; simp; omega)
    rw [if_neg hn] at hR
    have e3 : ((n : Int) == (s.length : Int)) = false := by rw [beq_eq_false_iff_ne]; omega
    have hlt : n < s.length := by omega
    have hltI : (n : Int) < (s.length : Int) := by omega
    rw [List.getElem?_eq_getElem hlt] at hR
    by_cases h44 : s[n] = 44
    · rw [if_pos (by rw [h44])] at hR
      have hw1 : IntKind.i64.wrap ((n : Int) + 1) = ((n + 1 : Nat) : Int) := by rw [IntKind.wrap_i64]; omega
      have hq1 : n + 1 ≤ s.length := hlt
      have hq1I : ((n + 1 : Nat) : Int) ≤ (s.length : Int) := by omega
      have HA2 := hidA (fun W => rHF (s.drop (n + 1)) (by rw [List.length_drop]; omega) W)
      have hle2 := Ok.HF_le (s.drop (n + 1))
      rw [List.length_drop] at hle2
      rcases hp : Ok.HF (s.drop (n + 1)) with ⟨g, d, G, m⟩
      rw [hp] at HA2 hR hle2
      clear hp
      dsimp only at HA2 hR hle2
      by_cases hm : m = 0
      · rw [if_pos (.inl hm)] at hR
        rw [hR]
        subst hm
        clear hR
        go_enter Tryd.func5, Tryd.ntmps5
        go_wp2_with fail
        refine (HA.out _).mono ?_
        rintro e w2 ⟨rfl, b1⟩
        have HK := hidA ((Ok.Ky.made w _).grow b1)
        clear b1
        have hsz := HK.out.lt
        have r0 := HK.out.c0
        have r1 := HK.out.c1
        have r2 := HK.out.c2
        have r3 := HK.out.c3
        have r4 := HK.out.c4
        have fr := HK.out.fr
        go_wp2_with fail
        refine (HA2.out _).mono ?_
        rintro e w3 ⟨rfl, b1⟩
        have HK0 := HK
        clear HK r0 r1 r2 r3 r4 fr
        have HK := hidA ((HK0.out.grow ((Below.refl _ _).alloc (Nat.le_refl _) _)).grow b1)
        have HQ := hidA ((Ok.Kq.made w2 f c F _).grow b1)
        clear b1
        have hsz3 := HK.out.lt
        have hsz4 := HQ.out.lt
        have r0 := HK.out.c0
        have r1 := HK.out.c1
        have r2 := HK.out.c2
        have r3 := HK.out.c3
        have r4 := HK.out.c4
        have fr := HK.out.fr
        have q0 := HQ.out.c0
        have q1 := HQ.out.c1
        have q2 := HQ.out.c2
        have q3 := HQ.out.c3
        have q4 := HQ.out.c4
        have fq := HQ.out.fr
        go_wp2_with fail
        (try simp only [Exit.inBlock, Exit.then])
        refine bodyPost_ret (by simp [results, Tryd.results5, go_sem, r0, r1, r2, r3, r4]; rfl) rfl ?_
        refine ⟨rfl, ?_⟩
        have hbel := HK.out.bel
        clear HA
        repeat first
          | with_reducible exact hbel
          | (with_reducible refine Below.setCell ?_ ?_ _)
          | (with_reducible refine Below.alloc ?_ ?_ _)
        all_goals first
          | exact Nat.le_refl _
          | (show _ ≤ _; simp; done)
          | (show _ ≤ _; simp; omega)
      have e4 : ((m : Int) == 0) = false := by rw [beq_eq_false_iff_ne]; omega
      obtain ⟨k2, Hk2⟩ : ∃ k : Nat, Hid (k = n + 1 + m) := ⟨_, hidA rfl⟩
      have hw2 : IntKind.i64.wrap (((n + 1 : Nat) : Int) + (m : Int)) = (k2 : Int) := by have := Hk2.out; rw [IntKind.wrap_i64]; omega
      have hw3 : IntKind.i64.wrap ((n : Int) + 1 + (m : Int)) = (k2 : Int) := by have := Hk2.out; rw [IntKind.wrap_i64]; omega
      rw [← Hk2.out] at hR
      by_cases hk : k2 = s.length
      · rw [if_neg (fun h => h.elim hm (fun h => h hk))] at hR
        have e5 : ((k2 : Int) == (s.length : Int)) = true := by rw [beq_iff_eq]; omega
        by_cases hd : d < 0
        · rw [show Ok.ch d 0 = 0 from if_pos hd] at hR
          rw [hR]
          clear hR
          go_enter Tryd.func5, Tryd.ntmps5
          go_wp2_with fail
          refine (HA.out _).mono ?_
          rintro e w2 ⟨rfl, b1⟩
          have HK := hidA ((Ok.Ky.made w _).grow b1)
          clear b1
          have hsz := HK.out.lt
          have r0 := HK.out.c0
          have r1 := HK.out.c1
          have r2 := HK.out.c2
          have r3 := HK.out.c3
          have r4 := HK.out.c4
          have fr := HK.out.fr
          go_wp2_with fail
          refine (HA2.out _).mono ?_
          rintro e w3 ⟨rfl, b1⟩
          have HK0 := HK
          clear HK r0 r1 r2 r3 r4 fr
          have HK := hidA ((HK0.out.grow ((Below.refl _ _).alloc (Nat.le_refl _) _)).grow b1)
          have HQ := hidA ((Ok.Kq.made w2 f c F _).grow b1)
          clear b1
          have hsz3 := HK.out.lt
          have hsz4 := HQ.out.lt
          have r0 := HK.out.c0
          have r1 := HK.out.c1
          have r2 := HK.out.c2
          have r3 := HK.out.c3
          have r4 := HK.out.c4
          have fr := HK.out.fr
          have q0 := HQ.out.c0
          have q1 := HQ.out.c1
          have q2 := HQ.out.c2
          have q3 := HQ.out.c3
          have q4 := HQ.out.c4
          have fq := HQ.out.fr
          go_wp2_with fail
          (try simp only [Exit.inBlock, Exit.then])
          refine bodyPost_ret (by simp [results, Tryd.results5, go_sem, r0, r1, r2, r3, r4]; rfl) rfl ?_
          refine ⟨rfl, ?_⟩
          have hbel := HK.out.bel
          clear HA
          repeat first
            | with_reducible exact hbel
            | (with_reducible refine Below.setCell ?_ ?_ _)
            | (with_reducible refine Below.alloc ?_ ?_ _)
          all_goals first
            | exact Nat.le_refl _
            | (show _ ≤ _; simp; done)
            | (show _ ≤ _; simp; omega)
        · rw [show Ok.ch d 0 = d from if_neg hd] at hR
          rw [hR]
          clear hR
          go_enter Tryd.func5, Tryd.ntmps5
          go_wp2_with fail
          refine (HA.out _).mono ?_
          rintro e w2 ⟨rfl, b1⟩
          have HK := hidA ((Ok.Ky.made w _).grow b1)
          clear b1
          have hsz := HK.out.lt
          have r0 := HK.out.c0
          have r1 := HK.out.c1
          have r2 := HK.out.c2
          have r3 := HK.out.c3
          have r4 := HK.out.c4
          have fr := HK.out.fr
          go_wp2_with fail
          refine (HA2.out _).mono ?_
          rintro e w3 ⟨rfl, b1⟩
          have HK0 := HK
          clear HK r0 r1 r2 r3 r4 fr
          have HK := hidA ((HK0.out.grow ((Below.refl _ _).alloc (Nat.le_refl _) _)).grow b1)
          have HQ := hidA ((Ok.Kq.made w2 f c F _).grow b1)
          clear b1
          have hsz3 := HK.out.lt
          have hsz4 := HQ.out.lt
          have r0 := HK.out.c0
          have r1 := HK.out.c1
          have r2 := HK.out.c2
          have r3 := HK.out.c3
          have r4 := HK.out.c4
          have fr := HK.out.fr
          have q0 := HQ.out.c0
          have q1 := HQ.out.c1
          have q2 := HQ.out.c2
          have q3 := HQ.out.c3
          have q4 := HQ.out.c4
          have fq := HQ.out.fr
          go_wp2_with fail
          (try simp only [Exit.inBlock, Exit.then])
          refine bodyPost_ret (by simp [results, Tryd.results5, go_sem, r0, r1, r2, r3, r4]; rfl) rfl ?_
          refine ⟨rfl, ?_⟩
          have hbel := HK.out.bel
          clear HA
          repeat first
            | with_reducible exact hbel
            | (with_reducible refine Below.setCell ?_ ?_ _)
            | (with_reducible refine Below.alloc ?_ ?_ _)
          all_goals first
            | exact Nat.le_refl _
            | (show _ ≤ _; simp; done)
            | (show _ ≤ _; simp; omega)
      · rw [if_pos (.inr hk)] at hR
        have e5 : ((k2 : Int) == (s.length : Int)) = false := by rw [beq_eq_false_iff_ne]; omega
        rw [hR]
        clear hR
        go_enter Tryd.func5, Tryd.ntmps5
        go_wp2_with fail
        refine (HA.out _).mono ?_
        rintro e w2 ⟨rfl, b1⟩
        have HK := hidA ((Ok.Ky.made w _).grow b1)
        clear b1
        have hsz := HK.out.lt
        have r0 := HK.out.c0
        have r1 := HK.out.c1
        have r2 := HK.out.c2
        have r3 := HK.out.c3
        have r4 := HK.out.c4
        have fr := HK.out.fr
        go_wp2_with fail
        refine (HA2.out _).mono ?_
        rintro e w3 ⟨rfl, b1⟩
        have HK0 := HK
        clear HK r0 r1 r2 r3 r4 fr
        have HK := hidA ((HK0.out.grow ((Below.refl _ _).alloc (Nat.le_refl _) _)).grow b1)
        have HQ := hidA ((Ok.Kq.made w2 f c F _).grow b1)
        clear b1
        have hsz3 := HK.out.lt
        have hsz4 := HQ.out.lt
        have r0 := HK.out.c0
        have r1 := HK.out.c1
        have r2 := HK.out.c2
        have r3 := HK.out.c3
        have r4 := HK.out.c4
        have fr := HK.out.fr
        have q0 := HQ.out.c0
        have q1 := HQ.out.c1
        have q2 := HQ.out.c2
        have q3 := HQ.out.c3
        have q4 := HQ.out.c4
        have fq := HQ.out.fr
        go_wp2_with fail
        (try simp only [Exit.inBlock, Exit.then])
        refine bodyPost_ret (by simp [results, Tryd.results5, go_sem, r0, r1, r2, r3, r4]; rfl) rfl ?_
        refine ⟨rfl, ?_⟩
        have hbel := HK.out.bel
        clear HA
        repeat first
          | with_reducible exact hbel
          | (with_reducible refine Below.setCell ?_ ?_ _)
          | (with_reducible refine Below.alloc ?_ ?_ _)
        all_goals first
          | exact Nat.le_refl _
          | (show _ ≤ _; simp; done)
          | (show _ ≤ _; simp; omega)
    · rw [if_neg (fun h => h44 (Option.some.inj h))] at hR
      have eb := byte_no s[n] 44 44 rfl h44
      rw [hR]
      clear hR
      go_enter Tryd.func5, Tryd.ntmps5
      go_wp2_with fail
      refine (HA.out _).mono ?_
      rintro e w2 ⟨rfl, b1⟩
      have HK := hidA ((Ok.Ky.made w _).grow b1)
      clear b1
      have hsz := HK.out.lt
      have r0 := HK.out.c0
      have r1 := HK.out.c1
      have r2 := HK.out.c2
      have r3 := HK.out.c3
      have r4 := HK.out.c4
      have fr := HK.out.fr
      iterate 104 k1
      have HK0 := HK
      clear HK r0 r1 r2 r3 r4 fr
      have HK := hidA (HK0.out.grow ((Below.refl _ _).alloc (Nat.le_refl _) (.cells #[.int .i64 f, .int .i64 c, .int .i64 0, .int .i64 0, .int .i64 F] 23)))
      have HQ := hidA (Ok.Kq.made w2 f c F 23)
      generalize w2.alloc (.cells #[.int .i64 f, .int .i64 c, .int .i64 0, .int .i64 0, .int .i64 F] 23) = W3 at HK HQ ⊢
      have hsz3 := HK.out.lt
      have hsz4 := HQ.out.lt
      have r0 := HK.out.c0
      have r1 := HK.out.c1
      have r2 := HK.out.c2
      have r3 := HK.out.c3
      have r4 := HK.out.c4
      have fr := HK.out.fr
      have q0 := HQ.out.c0
      have q1 := HQ.out.c1
      have q2 := HQ.out.c2
      have q3 := HQ.out.c3
      have q4 := HQ.out.c4
      have fq := HQ.out.fr
      go_wp2_with fail
      (try simp only [Exit.inBlock, Exit.then])
      refine bodyPost_ret (by simp [results, Tryd.results5, go_sem, r0, r1, r2, r3, r4]; rfl) rfl ?_
      refine ⟨rfl, ?_⟩
      have hbel := HK.out.bel
      clear HA
      repeat first
        | with_reducible exact hbel
        | (with_reducible refine Below.setCell ?_ ?_ _)
        | (with_reducible refine Below.alloc ?_ ?_ _)
      all_goals first
        | exact Nat.le_refl _
        | (show _ ≤ _; simp; done)
        | (show _ ≤ _; simp; omega)
end Go.Proofs.YtladflfdpfpbpaaDoor
