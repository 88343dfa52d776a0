/- Access, Member and Remove, of the program and of the plain answer. Condition: the groups lie where the slice says. -/
import Derived.Test.YtmminmdmhefefaaProg
import Derived.Test.YtmminmdmhefefaaPm0
namespace Go.Proofs.Ytmminmdmhefefaa
open Go.RowKit
def Ints (w : World) (a : Option Addr) (xs : List Int) : Prop := ∀ i (h : i < xs.length), ∃ bk o, a = some ⟨bk, o, none⟩ ∧ bk < w.heap.size ∧ w.cell? ⟨bk, o + i, none⟩ = some (.int .i64 xs[i])
theorem Ints.grow {w w' : World} {a : Option Addr} {xs : List Int} (h : Ints w a xs) (b : Below w.heap.size w w') : Ints w' a xs := by
  intro i hi
  obtain ⟨bk, o, h1, h2, h3⟩ := h i hi
  exact ⟨bk, o, h1, Nat.lt_of_lt_of_le h2 b.size, by rw [b.cell h2]; exact h3⟩
theorem Ints.alloc {w : World} {a : Option Addr} {xs : List Int} (h : Ints w a xs) (o : Obj) : Ints (w.alloc o) a xs := h.grow ((Below.refl _ _).alloc (Nat.le_refl _) _)
theorem ret_bool {a b : Bool} (h : a = b) : Ending.returned (.bool a) = .returned (.bool b) := by rw [h]
def hasB (xs : List Int) (g : Int) : Bool := xs.contains g
theorem take_no (xs : List Int) (k : Nat) (g : Int) (h : k < xs.length) (hb : hasB (xs.take k) g = false) (hg : ¬ g = xs[k]) : hasB (xs.take (k + 1)) g = false := by
  unfold hasB at *
  rw [List.take_succ_eq_append_getElem h]
  simp only [List.contains_eq_mem, decide_eq_false_iff_not, List.mem_append, List.mem_singleton, not_or] at *
  exact ⟨hb, hg⟩
set_option maxRecDepth 100000 in
set_option maxHeartbeats 1000000 in
theorem sIndex (a : Option Addr) (c : Nat) (xs : List Int) (g : Int) (w : World) (hI : Ints w a xs) (hn : xs.length ≤ 9223372036854775807) :
    Calls Try.prog 44 #[.slice a xs.length c, .int .i64 g] w fun e w' => ∃ r : Int, e = .returned (.int .i64 r) ∧ Hid (0 ≤ r ↔ hasB xs g = true) ∧ w' = w := by
  have HI : Hid (Ints w a xs) := hI
  clear hI
  go_enter Try.func44, Try.ntmps44
  go_wp2
  go_loop [8] (fun t => ∃ k : Nat, k ≤ xs.length ∧ t = .int .i64 k ∧ Hid (hasB (xs.take k) g = false)) (fun t => xs.length - (intOf t).toNat)
  case atStart => exact ⟨0, by omega, rfl, by show _ = _; simp [hasB]⟩
  case round =>
    obtain ⟨k, hk, rfl, hb⟩ := hrel
    by_cases hlt : k < xs.length
    · obtain ⟨bk, o, rfl, -, hc⟩ := HI.out k hlt
      by_cases he : g = xs[k]
      · have he' : (g == xs[k]) = true := by simpa using he
        have HE : Hid (g = xs[k]) := he
        clear he
        go_wp2
        go_ret
        refine ⟨_, rfl, ?_, rfl⟩
        refine (iff_of_true (Int.natCast_nonneg k) ?_ : _ ↔ _)
        unfold hasB
        rw [List.contains_iff_mem, HE.out]
        exact List.getElem_mem hlt
      · have he' : (g == xs[k]) = false := by simpa using he
        have HE : Hid (¬ g = xs[k]) := he
        clear he
        go_wp2
        exact ⟨⟨k + 1, by omega, by go_num, take_no xs k g hlt hb.out HE.out⟩, by simp [intOf]; omega⟩
    · go_wp2
      go_ret
      refine ⟨_, rfl, ?_, rfl⟩
      have := hb.out
      rw [List.take_of_length_le (by omega)] at this
      show (0 : Int) ≤ -1 ↔ hasB xs g = true
      rw [this]
      decide
set_option maxRecDepth 100000 in
set_option maxHeartbeats 1000000 in
theorem sContains (a : Option Addr) (c : Nat) (xs : List Int) (g : Int) (w : World) (hI : Ints w a xs) (hn : xs.length ≤ 9223372036854775807) :
    Calls Try.prog 37 #[.slice a xs.length c, .int .i64 g] w fun e w' => e = .returned (.bool (hasB xs g)) ∧ w' = w := by
  go_enter Try.func37, Try.ntmps37
  go_wp2_with fail
  refine (sIndex a c xs g w hI hn).mono ?_
  rintro e w' ⟨r, rfl, hr, rfl⟩
  go_wp2
  go_ret
  exact ⟨ret_bool (by rw [Bool.eq_iff_iff]; simpa using hr.out), rfl⟩
def memB (g : Int) (xs : List Int) (gid : Int) : Bool := g == gid || hasB xs gid
set_option maxRecDepth 100000 in
set_option maxHeartbeats 1000000 in
theorem pMember (u g : Int) (a : Option Addr) (c : Nat) (xs : List Int) (um cw gid : Int) (w : World) (hI : Ints w a xs) (hn : xs.length ≤ 9223372036854775807) :
    Calls Try.prog 18 #[.agg #[.int .i64 u, .int .i64 g, .slice a xs.length c, .int .i64 um, .int .i64 cw], .int .i64 gid] w fun e w' => e = .returned (.bool (memB g xs gid)) ∧ Below w.heap.size w w' := by
  have HI : Hid (Ints w a xs) := hI
  clear hI
  by_cases hg : g = gid
  · have hg' : (g == gid) = true := by simpa using hg
    have HM : Hid (memB g xs gid = true) := by show _ = _; simp [memB, hg]
    clear hg
    go_enter Try.func18, Try.ntmps18
    go_wp2
    go_ret
    exact ⟨ret_bool HM.out.symm, (Below.refl _ _).alloc (Nat.le_refl _) _⟩
  · have hg' : (g == gid) = false := by simpa using hg
    have HM : Hid (memB g xs gid = hasB xs gid) := by show _ = _; simp [memB, hg]
    clear hg
    go_enter Try.func18, Try.ntmps18
    go_wp2_with fail
    refine (sContains a c xs gid _ (HI.out.alloc _) hn).mono ?_
    rintro e w' ⟨rfl, rfl⟩
    go_wp2
    go_ret
    exact ⟨ret_bool HM.out.symm, (Below.refl _ _).alloc (Nat.le_refl _) _⟩
set_option maxRecDepth 100000 in
set_option maxHeartbeats 1000000 in
theorem rMember (u g : Int) (a : Option Addr) (c : Nat) (xs : List Int) (um cw gid : Int) (w : World) (hI : Ints w a xs) (hn : xs.length ≤ 9223372036854775807) :
    Calls Try.prog 19 #[.agg #[.int .i64 u, .int .i64 g, .slice a xs.length c, .int .i64 um, .int .i64 cw], .int .i64 gid] w fun e w' => e = .returned (.bool (memB g xs gid)) ∧ Below w.heap.size w w' := by
  by_cases hg : g = gid
  · have hg' : (g == gid) = true := by simpa using hg
    have HM : Hid (memB g xs gid = true) := by show _ = _; simp [memB, hg]
    clear hg hI
    go_enter Try.func19, Try.ntmps19
    go_wp2
    go_ret
    exact ⟨ret_bool HM.out.symm, (Below.refl _ _).alloc (Nat.le_refl _) _⟩
  · have hg' : (g == gid) = false := by simpa using hg
    have HM : Hid (memB g xs gid = hasB xs gid) := by show _ = _; simp [memB, hg]
    clear hg
    have HI : Hid (Ints w a xs) := hI
    clear hI
    go_enter Try.func19, Try.ntmps19
    go_wp2
    go_loop [14] (fun t => ∃ k : Nat, k ≤ xs.length ∧ t = .int .i64 k ∧ Hid (hasB (xs.take k) gid = false)) (fun t => xs.length - (intOf t).toNat)
    case atStart => exact ⟨0, by omega, rfl, by show _ = _; simp [hasB]⟩
    case round =>
      obtain ⟨k, hk, rfl, hb⟩ := hrel
      by_cases hlt : k < xs.length
      · obtain ⟨bk, o, rfl, hbk, hc0⟩ := HI.out k hlt
        have hc : ∀ ob, (w.alloc ob).cell? ⟨bk, o + k, none⟩ = some (.int .i64 xs[k]) := fun ob => by rw [World.cell?_alloc_past _ _ _ hbk]; exact hc0
        clear hc0
        by_cases he : gid = xs[k]
        · have he' : (xs[k] == gid) = true := by simpa using he.symm
          have HE : Hid (gid = xs[k]) := he
          clear he
          go_wp2
          go_ret
          refine ⟨ret_bool ?_, (Below.refl _ _).alloc (Nat.le_refl _) _⟩
          rw [HM.out]
          unfold hasB
          symm
          rw [List.contains_iff_mem, HE.out]
          exact List.getElem_mem hlt
        · have he' : (xs[k] == gid) = false := by simpa using fun h => he h.symm
          have HE : Hid (¬ gid = xs[k]) := he
          clear he
          go_wp2
          exact ⟨⟨k + 1, by omega, by go_num, take_no xs k gid hlt hb.out HE.out⟩, by simp [intOf]; omega⟩
      · go_wp2
        go_ret
        have := hb.out
        rw [List.take_of_length_le (by omega)] at this
        exact ⟨ret_bool (by rw [HM.out, this]), (Below.refl _ _).alloc (Nat.le_refl _) _⟩
def accB (m uid u : Int) (mem : Bool) (want : Int) : Bool :=
  let need := bits .and .i64 want 7
  if u = 0 then bits .and .i64 need 1 == 0 || bits .and .i64 m 61440 == 16384 || bits .and .i64 m 73 != 0
  else if u = uid then bits .and .i64 (m / 64) need == need
  else if mem then bits .and .i64 (m / 8) need == need
  else bits .and .i64 m need == need
set_option maxRecDepth 100000 in
set_option maxHeartbeats 1000000 in
theorem pAccess (m uid gid u g : Int) (a : Option Addr) (c : Nat) (xs : List Int) (um cw want : Int) (w : World) (hI : Ints w a xs) (hn : xs.length ≤ 9223372036854775807) :
    Calls Try.prog 16 #[.int .i64 m, .int .i64 uid, .int .i64 gid, .agg #[.int .i64 u, .int .i64 g, .slice a xs.length c, .int .i64 um, .int .i64 cw], .int .i64 want] w fun e w' => e = .returned (.bool (accB m uid u (memB g xs gid) want)) ∧ Below w.heap.size w w' := by
  have hB := fun o => (Below.refl w.heap.size w).alloc (Nat.le_refl _) o
  have HB : Hid (∀ o, Below w.heap.size w (w.alloc o)) := hB
  clear hB
  by_cases h0 : u = 0
  · have h0' : (u == 0) = true := by simpa using h0
    have HM : Hid (accB m uid u (memB g xs gid) want = (bits .and .i64 (bits .and .i64 want 7) 1 == 0 || bits .and .i64 m 61440 == 16384 || bits .and .i64 m 73 != 0)) := by show _ = _; simp [accB, h0]
    clear h0 hI
    cases h1 : (bits .and .i64 (bits .and .i64 want 7) 1 == 0) <;> cases h2 : (bits .and .i64 m 61440 == 16384) <;> cases h3 : (bits .and .i64 m 73 != 0)
    all_goals
      have HH := HM.out
      rw [h1, h2, h3] at HH
      have HK : Hid (accB m uid u (memB g xs gid) want = _) := HH
      clear HH HM
      go_enter Try.func16, Try.ntmps16
      go_wp2
      go_ret
      exact ⟨ret_bool HK.out.symm, HB.out _⟩
  · have h0' : (u == 0) = false := by simpa using h0
    by_cases h1 : u = uid
    · have h1' : (u == uid) = true := by simpa using h1
      have HM : Hid (accB m uid u (memB g xs gid) want = (bits .and .i64 (m / 64) (bits .and .i64 want 7) == bits .and .i64 want 7)) := by show _ = _; subst h1; simp [accB, h0]
      clear h0 hI h1
      go_enter Try.func16, Try.ntmps16
      go_wp2
      go_ret
      exact ⟨ret_bool (by rw [HM.out]; exact Pm.sub_two _ (Pm.in_and _ _)), HB.out _⟩
    · have h1' : (u == uid) = false := by simpa using h1
      have HM : Hid (accB m uid u (memB g xs gid) want = if memB g xs gid then (bits .and .i64 (m / 8) (bits .and .i64 want 7) == bits .and .i64 want 7) else (bits .and .i64 m (bits .and .i64 want 7) == bits .and .i64 want 7)) := by show _ = _; simp [accB, h0, h1]
      have HI : Hid (∀ o, Ints (w.alloc o) a xs) := fun o => hI.alloc o
      clear hI h0 h1
      go_enter Try.func16, Try.ntmps16
      go_wp2_with fail
      refine (pMember u g a c xs um cw gid _ (HI.out _) hn).mono ?_
      rintro e w' ⟨rfl, hb⟩
      have HW : Hid (Below w.heap.size w w') := (HB.out _).trans (hb.mono (by simp))
      clear hb
      cases hm : memB g xs gid
      · have HK := HM.out
        rw [hm] at HK
        have HN : Hid (accB m uid u false want = _) := HK
        clear HK HM
        go_wp2
        go_ret
        exact ⟨ret_bool (by rw [hm, HN.out]; exact Pm.sub_two _ (Pm.in_and _ _)), HW⟩
      · have HK := HM.out
        rw [hm] at HK
        have HN : Hid (accB m uid u true want = _) := HK
        clear HK HM
        go_wp2
        go_ret
        exact ⟨ret_bool (by rw [hm, HN.out]; exact Pm.sub_two _ (Pm.in_and _ _)), HW⟩
set_option maxRecDepth 100000 in
set_option maxHeartbeats 1000000 in
theorem rAccess (m uid gid u g : Int) (a : Option Addr) (c : Nat) (xs : List Int) (um cw want : Int) (w : World) (hI : Ints w a xs) (hn : xs.length ≤ 9223372036854775807) :
    Calls Try.prog 17 #[.int .i64 m, .int .i64 uid, .int .i64 gid, .agg #[.int .i64 u, .int .i64 g, .slice a xs.length c, .int .i64 um, .int .i64 cw], .int .i64 want] w fun e w' => e = .returned (.bool (accB m uid u (memB g xs gid) want)) ∧ Below w.heap.size w w' := by
  have hB := fun o => (Below.refl w.heap.size w).alloc (Nat.le_refl _) o
  have HB : Hid (∀ o, Below w.heap.size w (w.alloc o)) := hB
  clear hB
  by_cases h0 : u = 0
  · have h0' : (u == 0) = true := by simpa using h0
    have HM : Hid (accB m uid u (memB g xs gid) want = (bits .and .i64 (bits .and .i64 want 7) 1 == 0 || bits .and .i64 m 61440 == 16384 || bits .and .i64 m 73 != 0)) := by show _ = _; simp [accB, h0]
    clear h0 hI
    cases h1 : (bits .and .i64 (bits .and .i64 want 7) 1 == 0) <;> cases h2 : (bits .and .i64 m 61440 == 16384) <;> cases h3 : (bits .and .i64 m 73 != 0)
    all_goals
      have HH := HM.out
      rw [h1, h2, h3] at HH
      have HK : Hid (accB m uid u (memB g xs gid) want = _) := HH
      clear HH HM
      go_enter Try.func17, Try.ntmps17
      go_wp2
      go_ret
      exact ⟨ret_bool HK.out.symm, HB.out _⟩
  · have h0' : (u == 0) = false := by simpa using h0
    by_cases h1 : u = uid
    · have h1' : (u == uid) = true := by simpa using h1
      have HM : Hid (accB m uid u (memB g xs gid) want = (bits .and .i64 (m / 64) (bits .and .i64 want 7) == bits .and .i64 want 7)) := by show _ = _; subst h1; simp [accB, h0]
      clear h0 hI h1
      go_enter Try.func17, Try.ntmps17
      go_wp2
      go_ret
      exact ⟨ret_bool (by rw [HM.out]), HB.out _⟩
    · have h1' : (u == uid) = false := by simpa using h1
      have HM : Hid (accB m uid u (memB g xs gid) want = if memB g xs gid then (bits .and .i64 (m / 8) (bits .and .i64 want 7) == bits .and .i64 want 7) else (bits .and .i64 m (bits .and .i64 want 7) == bits .and .i64 want 7)) := by show _ = _; simp [accB, h0, h1]
      have HI : Hid (∀ o, Ints (w.alloc o) a xs) := fun o => hI.alloc o
      clear hI h0 h1
      go_enter Try.func17, Try.ntmps17
      go_wp2_with fail
      refine (rMember u g a c xs um cw gid _ (HI.out _) hn).mono ?_
      rintro e w' ⟨rfl, hb⟩
      have HW : Hid (Below w.heap.size w w') := (HB.out _).trans (hb.mono (by simp))
      clear hb
      cases hm : memB g xs gid
      · have HK := HM.out
        rw [hm] at HK
        have HN : Hid (accB m uid u false want = _) := HK
        clear HK HM
        go_wp2
        go_ret
        exact ⟨ret_bool (by rw [hm, HN.out]; rfl), HW⟩
      · have HK := HM.out
        rw [hm] at HK
        have HN : Hid (accB m uid u true want = _) := HK
        clear HK HM
        go_wp2
        go_ret
        exact ⟨ret_bool (by rw [hm, HN.out]; rfl), HW⟩
set_option maxRecDepth 100000 in
set_option maxHeartbeats 1000000 in
theorem pRemove (d0 d1 d2 d3 d4 d5 d6 d7 d8 d9 f0 f1 f2 f3 f4 f5 f6 f7 f8 f9 u g : Int) (a : Option Addr) (n c : Nat) (um cw : Int) (w : World) :
    Calls Try.prog 20 #[.agg #[.int .i64 d0, .int .i64 d1, .int .i64 d2, .int .i64 d3, .int .i64 d4, .int .i64 d5, .int .i64 d6, .int .i64 d7, .int .i64 d8, .int .i64 d9], .agg #[.int .i64 f0, .int .i64 f1, .int .i64 f2, .int .i64 f3, .int .i64 f4, .int .i64 f5, .int .i64 f6, .int .i64 f7, .int .i64 f8, .int .i64 f9], .agg #[.int .i64 u, .int .i64 g, .slice a n c, .int .i64 um, .int .i64 cw]] w fun e w' => e = .returned (.bool (bits .and .i64 d6 512 == 0 || u == 0 || u == f2 || u == d2)) ∧ Below w.heap.size w w' := by
  have HB : Hid (∀ o o1 o2, Below w.heap.size w (((w.alloc o).alloc o1).alloc o2)) := fun o o1 o2 => (((Below.refl w.heap.size w).alloc (Nat.le_refl _) o).alloc (by simp) _).alloc (by simp; omega) _
  cases h1 : (bits .and .i64 d6 512 == 0) <;> cases h2 : (u == 0) <;> cases h3 : (u == f2) <;> cases h4 : (u == d2)
  all_goals
    go_enter Try.func20, Try.ntmps20
    go_wp2
    go_ret
    exact ⟨rfl, HB.out _ _ _⟩
set_option maxRecDepth 100000 in
set_option maxHeartbeats 1000000 in
theorem rRemove (d0 d1 d2 d3 d4 d5 d6 d7 d8 d9 f0 f1 f2 f3 f4 f5 f6 f7 f8 f9 u g : Int) (a : Option Addr) (n c : Nat) (um cw : Int) (w : World) :
    Calls Try.prog 21 #[.agg #[.int .i64 d0, .int .i64 d1, .int .i64 d2, .int .i64 d3, .int .i64 d4, .int .i64 d5, .int .i64 d6, .int .i64 d7, .int .i64 d8, .int .i64 d9], .agg #[.int .i64 f0, .int .i64 f1, .int .i64 f2, .int .i64 f3, .int .i64 f4, .int .i64 f5, .int .i64 f6, .int .i64 f7, .int .i64 f8, .int .i64 f9], .agg #[.int .i64 u, .int .i64 g, .slice a n c, .int .i64 um, .int .i64 cw]] w fun e w' => e = .returned (.bool (bits .and .i64 d6 512 == 0 || u == 0 || u == f2 || u == d2)) ∧ Below w.heap.size w w' := by
  have HB : Hid (∀ o o1 o2, Below w.heap.size w (((w.alloc o).alloc o1).alloc o2)) := fun o o1 o2 => (((Below.refl w.heap.size w).alloc (Nat.le_refl _) o).alloc (by simp) _).alloc (by simp; omega) _
  cases h1 : (bits .and .i64 d6 512 == 0) <;> cases h2 : (u == 0) <;> cases h3 : (u == f2) <;> cases h4 : (u == d2)
  all_goals
    go_enter Try.func21, Try.ntmps21
    go_wp2
    go_ret
    exact ⟨rfl, HB.out _ _ _⟩
end Go.Proofs.Ytmminmdmhefefaa
