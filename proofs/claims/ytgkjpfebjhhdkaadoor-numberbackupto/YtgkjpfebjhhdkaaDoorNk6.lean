/- What Ranges tells, for the law; n64. -/
import Derived.Test.YtgkjpfebjhhdkaaDoorNk4
import Derived.Test.YtgkjpfebjhhdkaaDoorNk5
import Derived.Test.YtgkjpfebjhhdkaaDoorNr8
import Derived.Test.YtgkjpfebjhhdkaaDoorNl1
namespace Go.Proofs.YtgkjpfebjhhdkaaDoor
open Go.RowKit Go.Sort
namespace Na
theorem jn_len : ∀ (t : List Rg) (c : Rg), (jn c t).length ≤ t.length + 1 ∧ 0 < (jn c t).length
  | [], c => by simp [jn]
  | r :: t, c => by
    have h1 := jn_len t r
    have h2 := jn_len t (c.1, r.2)
    have h3 := jn_len t c
    rw [jn]
    split
    · simp
    · split
      · simp only [List.length_cons]; omega
      · split
        · simp only [List.length_cons]; omega
        · simp only [List.length_cons]; omega
theorem join_len {ds : List Rg} (h : 0 < ds.length) : (join ds).length ≤ ds.length ∧ 0 < (join ds).length := by
  cases ds with
  | nil => simp at h
  | cons c t => exact jn_len t c
theorem parts_len (l : List UInt8) : (parts l).length ≤ l.length + 1 ∧ 0 < (parts l).length := by
  generalize hn : l.length = n
  induction n using Nat.strongRecOn generalizing l with
  | _ n ih =>
    cases hh : has 44 l with
    | false => rw [parts_no hh]; simp
    | true =>
      have hlt := has_split hh
      have := ih _ (by omega) (behind 44 l) rfl
      rw [parts_yes hh, List.length_cons]
      omega
theorem rs_len {l : List UInt8} {rs : List Rg} (h : rsOf l = some rs) : rs.length ≤ l.length + 1 ∧ 0 < rs.length := by
  have h1 := Lib.mapM_length h
  have h2 := parts_len l
  omega
end Na
theorem ranges_told (l : List UInt8) (w : World) (hl : l.length ≤ 1048575) : Calls Tryd.prog 19 #[.string ⟨l.toArray⟩] w fun e w' =>
    ((∃ ec : Int, (ec == 0) = false ∧ e = .returned (.tuple #[.slice none 0 0, .int .i64 ec])) ∨ (∃ (L : List Na.Rg) (a : Option Addr) (c : Nat), Na.Can L ∧ 0 < L.length ∧ L.length ≤ 1048576 ∧ e = .returned (.tuple #[.slice a L.length c, .int .i64 0]) ∧ Rgs w' a L)) ∧ Below w.heap.size w w' := by
  refine (nRangesB l w (by omega)).mono ?_
  rintro e w' ⟨ho, hb⟩
  refine ⟨?_, hb⟩
  unfold OutR at ho
  by_cases ha : Na.allI l = true
  · rw [if_pos ha] at ho
    cases hr : Na.rsOf l with
    | none => rw [hr] at ho; exact .inl ⟨34, by decide, ho⟩
    | some rs =>
      rw [hr] at ho
      obtain ⟨ds, v, h1, h2, he, hv⟩ := ho
      have hw := Na.rs_wf ha hr
      have hln := Na.rs_len hr
      have hdl : ds.length = rs.length := h1.length_eq
      have hj := Na.join_len (ds := ds) (by omega)
      obtain ⟨-, a, c, rfl, -, -, hrg⟩ := own_rgs hv
      exact .inr ⟨Na.join ds, a, c, Na.join_can (fun r hr2 => hw r (h1.mem_iff.1 hr2)) h2, hj.2, by omega, he, hrg⟩
  · rw [if_neg ha] at ho
    exact .inl ⟨22, by decide, ho⟩
theorem ranges_again (L : List Na.Rg) (w : World) (hc : Na.Can L) (h0 : 0 < L.length) (h1 : L.length ≤ 1048576) : Calls Tryd.prog 19 #[.string ⟨(Na.printP L).toArray⟩] w fun e w' =>
    (∃ (a : Option Addr) (c : Nat), e = .returned (.tuple #[.slice a L.length c, .int .i64 0]) ∧ Rgs w' a L) ∧ Below w.heap.size w w' := by
  have hne : L ≠ [] := fun e => by rw [e] at h0; simp at h0
  obtain ⟨p1, p2⟩ := Na.print_read hne hc.1
  have hi : ∀ x ∈ L, i64 x.1 ∧ i64 x.2 := fun x hx => by
    obtain ⟨a1, a2, a3⟩ := hc.1 x hx
    have hm : Na.mx = 999999999999999999 := rfl
    refine ⟨⟨by omega, by omega⟩, ?_⟩
    rcases a3 with e | e
    · exact ⟨by omega, by omega⟩
    · exact ⟨by omega, by omega⟩
  have hlen := printP_len L hi
  refine (nRangesB (Na.printP L) w (by omega)).mono ?_
  rintro e w' ⟨ho, hb⟩
  refine ⟨?_, hb⟩
  unfold OutR at ho
  rw [if_pos p1, p2] at ho
  obtain ⟨ds, v, q1, q2, he, hv⟩ := ho
  have e1 := Na.perm_self hc q1 q2
  subst e1
  rw [Na.join_self hc] at hv
  obtain ⟨-, a, c, rfl, -, -, hrg⟩ := own_rgs hv
  exact ⟨a, c, he, hrg⟩
theorem lN64 (n : Int) (h0 : -9223372036854775808 ≤ n) (h1 : n ≤ 9223372036854775807) (w : World) : Calls Tryd.prog 31 #[.int .i64 n] w fun e w' => e = .returned (.int .i64 n) ∧ w' = w := by
  have hw : IntKind.i64.wrap n = n := by rw [IntKind.wrap_i64]; omega
  go_enter Tryd.func31, Tryd.ntmps31
  go_wp2
  go_ret
  exact ⟨rfl, rfl⟩
end Go.Proofs.YtgkjpfebjhhdkaaDoor
