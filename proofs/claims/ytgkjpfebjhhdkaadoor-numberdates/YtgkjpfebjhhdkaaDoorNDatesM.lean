/- NumberDates, its tied card: for whatever text and second the statement's function answers true and leaves them as they were. Condition (the row's own): the four tables start as the program's text lays them. -/
import Derived.Test.YtgkjpfebjhhdkaaDoorNec
import Derived.Test.YtgkjpfebjhhdkaaDoorNe4
import Derived.Test.YtgkjpfebjhhdkaaDoorNl1
import Derived.Test.YtgkjpfebjhhdkaaDoorNd7
import Derived.Test.YtgkjpfebjhhdkaaDoorNe8B12
import Derived.Test.YtgkjpfebjhhdkaaDoorNe8B10a
import Derived.Test.YtgkjpfebjhhdkaaDoorNe8B10b
import Derived.Test.YtgkjpfebjhhdkaaDoorNe8D12
import Derived.Test.YtgkjpfebjhhdkaaDoorNe8D10a
import Derived.Test.YtgkjpfebjhhdkaaDoorNe8D10b
import Derived.Test.YtgkjpfebjhhdkaaDoorNe8B8
import Derived.Test.YtgkjpfebjhhdkaaDoorNe8D8
import Derived.Test.YtgkjpfebjhhdkaaDoorNlB
import Derived.ChangeMaps5
namespace Go.Proofs.YtgkjpfebjhhdkaaDoor
open Go.RowKit
theorem list8 : ∀ {A : List UInt8}, A.length = 8 → ∃ c0 c1 c2 c3 c4 c5 c6 c7, A = [c0, c1, c2, c3, c4, c5, c6, c7]
  | [c0, c1, c2, c3, c4, c5, c6, c7], _ => ⟨c0, c1, c2, c3, c4, c5, c6, c7, rfl⟩
theorem list10 : ∀ {A : List UInt8}, A.length = 10 → ∃ c0 c1 c2 c3 c4 c5 c6 c7 c8 c9, A = [c0, c1, c2, c3, c4, c5, c6, c7, c8, c9]
  | [c0, c1, c2, c3, c4, c5, c6, c7, c8, c9], _ => ⟨c0, c1, c2, c3, c4, c5, c6, c7, c8, c9, rfl⟩
theorem list12 : ∀ {A : List UInt8}, A.length = 12 → ∃ c0 c1 c2 c3 c4 c5 c6 c7 c8 c9 c10 c11, A = [c0, c1, c2, c3, c4, c5, c6, c7, c8, c9, c10, c11]
  | [c0, c1, c2, c3, c4, c5, c6, c7, c8, c9, c10, c11], _ => ⟨c0, c1, c2, c3, c4, c5, c6, c7, c8, c9, c10, c11, rfl⟩
theorem dot_split {l : List UInt8} (h : 3 ≤ l.length ∧ l[l.length - 3]? = some 46) : ∃ A a b, l = A ++ 46 :: [a, b] := by
  obtain ⟨h3, hg⟩ := h
  have e : l = l.take (l.length - 3) ++ l.drop (l.length - 3) := (List.take_append_drop _ _).symm
  have hl : (l.drop (l.length - 3)).length = 3 := by rw [List.length_drop]; omega
  have h0 : (l.drop (l.length - 3))[0]? = some 46 := by rw [List.getElem?_drop]; simpa using hg
  match hd : l.drop (l.length - 3), hl, h0 with
  | [x, a, b], _, h0 =>
    have hx : x = 46 := by simpa using h0
    rw [hd, hx] at e
    exact ⟨_, a, b, e⟩
theorem rDate (l : List UInt8) (now : Int) (n0 : -9223372036854775808 ≤ now) (n1 : now ≤ 9223372036854775807) (w : World) (hl : l.length ≤ 2 ^ 47) :
    Calls Tryd.prog 27 #[.string ⟨l.toArray⟩, .int .i64 now] w fun e w' => (∃ v, DtR l now v ∧ e = .returned (.tuple #[.int .i64 v.1, .int .i64 v.2])) ∧ Below w.heap.size w w' := by
  by_cases hdot : 3 ≤ l.length ∧ l[l.length - 3]? = some 46
  · obtain ⟨A, a, b, rfl⟩ := dot_split hdot
    have hA : A.length ≤ 2 ^ 47 := by simp at hl; omega
    by_cases hbad : Na.pl 10 [a, b] = false ∨ (Na.pl 10 A = false ∨ (A.length ≠ 8 ∧ A.length ≠ 10 ∧ A.length ≠ 12))
    · exact rDateD0 A a b now w hA hbad
    · have hq : Na.pl 10 [a, b] = true := by cases h : Na.pl 10 [a, b] with | true => rfl | false => exact absurd (.inl h) hbad
      have hp : Na.pl 10 A = true := by cases h : Na.pl 10 A with | true => rfl | false => exact absurd (.inr (.inl h)) hbad
      have hlen : A.length = 8 ∨ A.length = 10 ∨ A.length = 12 := by
        rcases Decidable.em (A.length = 8) with h | h8
        · exact .inl h
        · rcases Decidable.em (A.length = 10) with h | h10
          · exact .inr (.inl h)
          · rcases Decidable.em (A.length = 12) with h | h12
            · exact .inr (.inr h)
            · exact absurd (.inr (.inr ⟨h8, h10, h12⟩)) hbad
      have hall := pl_all hp
      have da : Na.dig 10 a = true ∧ Na.dig 10 b = true := by have := pl_all hq; simpa using this
      clear hbad hdot
      rcases hlen with h | h | h
      · obtain ⟨c0, c1, c2, c3, c4, c5, c6, c7, rfl⟩ := list8 h
        by_cases hn : now < -62167219200 ∨ 253402300800 ≤ now
        · exact rDateD8n _ _ _ _ _ _ _ _ a b now hall da.1 da.2 n0 n1 hn w
        · exact rDateD8 _ _ _ _ _ _ _ _ a b now hall da.1 da.2 n0 n1 hn w
      · obtain ⟨c0, c1, c2, c3, c4, c5, c6, c7, c8, c9, rfl⟩ := list10 h
        by_cases h69 : Na.tw [c0, c1] < 69
        · exact rDateD10a _ _ _ _ _ _ _ _ _ _ a b now hall da.1 da.2 h69 w
        · exact rDateD10b _ _ _ _ _ _ _ _ _ _ a b now hall da.1 da.2 h69 w
      · obtain ⟨c0, c1, c2, c3, c4, c5, c6, c7, c8, c9, c10, c11, rfl⟩ := list12 h
        exact rDateD12 _ _ _ _ _ _ _ _ _ _ _ _ a b now hall da.1 da.2 w
  · by_cases hbad : Na.pl 10 l = false ∨ (l.length ≠ 8 ∧ l.length ≠ 10 ∧ l.length ≠ 12)
    · exact rDateB0 l now w (by omega) hdot hbad
    · have hp : Na.pl 10 l = true := by cases h : Na.pl 10 l with | true => rfl | false => exact absurd (.inl h) hbad
      have hlen : l.length = 8 ∨ l.length = 10 ∨ l.length = 12 := by
        rcases Decidable.em (l.length = 8) with h | h8
        · exact .inl h
        · rcases Decidable.em (l.length = 10) with h | h10
          · exact .inr (.inl h)
          · rcases Decidable.em (l.length = 12) with h | h12
            · exact .inr (.inr h)
            · exact absurd (.inr ⟨h8, h10, h12⟩) hbad
      have hall := pl_all hp
      clear hbad hdot
      rcases hlen with h | h | h
      · obtain ⟨c0, c1, c2, c3, c4, c5, c6, c7, rfl⟩ := list8 h
        by_cases hn : now < -62167219200 ∨ 253402300800 ≤ now
        · exact rDateB8n _ _ _ _ _ _ _ _ now hall n0 n1 hn w
        · exact rDateB8 _ _ _ _ _ _ _ _ now hall n0 n1 hn w
      · obtain ⟨c0, c1, c2, c3, c4, c5, c6, c7, c8, c9, rfl⟩ := list10 h
        by_cases h69 : Na.tw [c0, c1] < 69
        · exact rDateB10a _ _ _ _ _ _ _ _ _ _ now hall h69 w
        · exact rDateB10b _ _ _ _ _ _ _ _ _ _ now hall h69 w
      · obtain ⟨c0, c1, c2, c3, c4, c5, c6, c7, c8, c9, c10, c11, rfl⟩ := list12 h
        exact rDateB12 _ _ _ _ _ _ _ _ _ _ _ _ now hall w
theorem outS_str {t : Int} {e : Ending} (h : OutS t e) : ∃ st : List UInt8, e = .returned (.string ⟨st.toArray⟩) := by
  unfold OutS at h
  split at h
  · exact ⟨[63], h⟩
  · obtain ⟨y, j, -, he⟩ := h
    exact ⟨_, he⟩
theorem stamp_one {t : Int} {a b : List UInt8} (h : OutS t (.returned (.string ⟨a.toArray⟩))) (h' : OutS t (.returned (.string ⟨b.toArray⟩))) : b = a := by
  have := h'.one h
  injection this with this
  injection this with this
  injection this with this
  exact List.toArray_inj this
set_option maxRecDepth 100000 in
set_option maxHeartbeats 4000000 in
theorem dates_walk (l : List UInt8) (now : Int) (n0 : -9223372036854775808 ≤ now) (n1 : now ≤ 9223372036854775807) (w : World) (hl : l.length ≤ 2 ^ 47) (hd : DT w) (hp : P10 w) :
    Calls Tryd.prog 6 #[.string ⟨l.toArray⟩, .int .i64 now] w fun e w' => e = .returned (.bool true) ∧ Below w.heap.size w w' := by
  have H1 : Hid (Calls Tryd.prog 26 #[.string ⟨l.toArray⟩, .int .i64 now] w fun e w' => (∃ p q : Int, Hid (DtR l now (p, q)) ∧ e = .returned (.tuple #[.int .i64 p, .int .i64 q])) ∧ Below w.heap.size w w') := (nDate l now n0 n1 w hd (by omega)).mono fun e w' ⟨⟨v, hv, he⟩, b⟩ => ⟨⟨v.1, v.2, hv, he⟩, b⟩
  have R1 : Hid (∀ (p q : Int), DtR l now (p, q) → ∀ W, Calls Tryd.prog 27 #[.string ⟨l.toArray⟩, .int .i64 now] W fun e w' => e = .returned (.tuple #[.int .i64 p, .int .i64 q]) ∧ Below W.heap.size W w') := fun p q hpq W => (rDate l now n0 n1 W hl).mono fun e w' ⟨⟨v, hv, he⟩, b⟩ => ⟨by rw [he, hv.one hpq], b⟩
  have H2 : Hid (∀ W, Below w.heap.size w W → Calls Tryd.prog 28 #[.int .i64 now] W fun e w' => (∃ st : List UInt8, e = .returned (.string ⟨st.toArray⟩) ∧ Hid (OutS now (.returned (.string ⟨st.toArray⟩)))) ∧ Below w.heap.size w w') := fun W b => (nStamp now n0 n1 W (hd.on b) (hp.on b)).mono fun e w' ⟨ho, b2⟩ => by
    obtain ⟨st, rfl⟩ := outS_str ho
    exact ⟨⟨st, rfl, ho⟩, bl2 b b2⟩
  have R2 : Hid (∀ (st : List UInt8), OutS now (.returned (.string ⟨st.toArray⟩)) → ∀ W, Below w.heap.size w W → Calls Tryd.prog 29 #[.int .i64 now] W fun e w' => e = .returned (.string ⟨st.toArray⟩) ∧ Below w.heap.size w w') := fun st hst W b => (rStamp now n0 n1 W).mono fun e w' ⟨ho, b2⟩ => ⟨ho.one hst, bl2 b b2⟩
  have HL := hidA (fun w' (b : Below w.heap.size w w') => lives11 w' (hd.on b) (hp.on b))
  clear hd hp hl n0 n1
  go_enter Tryd.func6, Tryd.ntmps6
  go_wp2_with (first | (go_at_call 26; refine H1.out.mono ?_; rintro e w1 ⟨⟨p, q, HV, rfl⟩, b1⟩) | (go_at_call 27; refine (R1.out p q HV.out _).mono ?_; rintro e w2 ⟨rfl, b2⟩; have B2 := hidA (bl2 b1 b2); clear b1 b2) | (go_at_call 28; refine (H2.out _ B2.out).mono ?_; rintro e w3 ⟨⟨st, rfl, HO⟩, b3⟩; have B3 := hidA b3; clear b3) | (go_at_call 29; refine (R2.out st HO.out _ B3.out).mono ?_; rintro e w4 ⟨rfl, b4⟩; have B4 := hidA b4; clear b4) | (go_at_call 16; refine (HL.out _ B4.out).mono ?_; rintro e w9 ⟨rfl, b9⟩))
  go_ret
  exact ⟨rfl, bl2 B4.out b9⟩
end Go.Proofs.YtgkjpfebjhhdkaaDoor
namespace Go.Proofs.YtgkjpfebjhhdkaaDoor
theorem i64_range {x : Int} (h : (Lit.int .i64 x).wf = true) : -9223372036854775808 ≤ x ∧ x ≤ 9223372036854775807 := by
  simp only [Lit.wf, Bool.and_eq_true, decide_eq_true_eq] at h
  exact ⟨h.1, h.2⟩
end Go.Proofs.YtgkjpfebjhhdkaaDoor
namespace Go.Proofs.YtgkjpfebjhhdkaaDoor
open Go.ChangeShapes Go.WideShapes Go.ChangeAt Go.RowKit
open Go.ChangeMaps (open_string shut_string)
set_option maxRecDepth 100000 in
theorem dates_lifted (os : Os) (started : os.Started) (H : Type) (enc : TypeId × Value → H) :
    ReturnsInHanded {} Tryd.checked os 6 .any (fun w args => (Rows.numberDatesSpec.pre enc Tryd.prog Tryd.f6 [] false w args ∧ laidMetH Tryd.prog laidL w) ∧ sizedMet enc Tryd.prog Tryd.f6 (OpenSpec.ofChange Rows.numberDatesSpec) false w args)
      (Rows.numberDatesSpec.post enc Tryd.prog Tryd.f6 false true false false) := by
  refine returnsInHanded_of_change_and (C := Tryd.checked) (X := fun w _ => laidMetH Tryd.prog laidL w) (fun _ _ _ hh h => h.of_heap hh) own started (by kernel_rfl) Tryd.func6
    (ChangeSpec.witness_shaped (enc := enc) (C := Tryd.checked) (os := os) (X := fun w _ => laidMetH Tryd.prog laidL w) false (World.laidAll Tryd.prog os laidL) #[.string ⟨#[]⟩, .int .i64 0] 8 (World.laidAll_os _ _ _) (World.shaped_of_ZipB (by kernel_rfl) (by kernel_rfl)) (by kernel_rfl) (by kernel_rfl) (by kernel_rfl) (start_met os _)) ?_
  intro W base args ds gs before hval0 hW _ hsz hL _
  have hval : ∀ (j : Nat) t v, Tryd.f6.params[j]? = some t → args[j]? = some v → Value.okWide Tryd.prog W .any base t v := hval0
  have hW' := hW
  obtain ⟨p, q, hA0, hV, rfl, hfz, hnd⟩ := hW
  have hA : DataW.TrodAll enc Tryd.prog W 0 (fun _ => true) true Tryd.f6.params.toList args.toList ds p := hA0
  rw [Tryd.params6] at hA hval hsz
  obtain ⟨v0, v1, d0, d1, p0, p1, rfl, rfl, rfl, h0, h1⟩ := trodAll_two hA
  obtain ⟨rfl, rfl⟩ := trodVars_none hV
  obtain ⟨x, rfl, rfl, rfl, wx⟩ := open_string Tryd.underlying9 (hval 0 9 v0 rfl rfl) h0
  obtain ⟨y, rfl, rfl, rfl, wy⟩ := open_int Tryd.underlying2 (hval 1 2 v1 rfl rfl) h1
  have ry := i64_range wy
  have bx := sized_string hsz (j := 0) (t := 9) rfl rfl
  have hr : reachBytes < 2 ^ 47 := reachBytes_lt
  clear hA0 hval0
  obtain ⟨hdt, hp10⟩ := of_laid hL
  refine (dates_walk x.data.toList y ry.1 ry.2 W (by omega) hdt hp10).mono fun e W' ⟨he, bel⟩ => ?_
  subst he
  exact ⟨_, rfl, _, _, _, [], _, [], hW', trodAll_mk1 (shut_bool Tryd.underlying4 _), trodAll_mk2 (shut_string Tryd.underlying9 wx) (shut_int Tryd.underlying2 wy), rfl, bel.frame _, fun h => by cases h⟩
theorem numberDates_holds : Rows.NumberDatesSaid :=
  OpenClaim.holds_of_wide 6 Tryd.f6 rfl rfl rfl rfl rfl rfl rfl ⟨rfl, rfl, rfl, rfl, rfl⟩ rfl rfl rfl rfl rfl (by kernel_rfl) Tryd.func6 (by kernel_rfl)
    (of_decide_eq_true (by kernel_rfl)) (by unfold Func.isWrapper; first | (rw [if_pos (by decide +kernel)]; kernel_rfl) | (rw [if_neg (by decide +kernel)]; exact ⟨rfl, rfl⟩))
    (fun os started H enc _ => dates_lifted os started H enc)
theorem numberDates_card : Rows.NumberDatesCardSaid :=
  Claim7.holds_tied_plain_at .later [] [.data, .data, .data, .data] true (true, "507b3b648839789197b8c6610139f168ad9dcb0b9246fefb4ae9be92f9b0c843") false
    numberDates_holds (fun _ h => by cases h) (by kernel_rfl) (fun _ h => by cases h) numberDates_row_tie rfl ⟨rfl, rfl⟩ (by kernel_rfl) rfl
    (fun f fn hf hfn => by
      obtain rfl : f = 6 := Option.some.inj ((show Tryd.prog.funcNamed "tinsel/tinsellaw11.NumberDates" = some 6 by kernel_rfl).symm.trans hf) |>.symm
      obtain rfl : fn = Tryd.f6 := (Option.some.inj (Tryd.func6.symm.trans hfn)).symm
      exact ⟨by kernel_rfl, fun j t ht => by
        rw [Tryd.params6] at ht
        have hm : t ∈ [9, 2] := by simpa using Array.mem_of_getElem? ht
        have hall : ([9, 2].all fun u => !Tryd.prog.wantsStandIn u) = true := by kernel_rfl
        exact (show Tryd.prog.wantsStandIn t = false by simpa using List.all_eq_true.1 hall t hm)⟩)
    (by kernel_rfl)
#print axioms numberDates_card
end Go.Proofs.YtgkjpfebjhhdkaaDoor
