/- The document's examples, in plain numbers. -/
import Derived.Test.YtgkjpfebjhhdkaaDoorNd4
import Derived.Test.YtgkjpfebjhhdkaaDoorNp2
import Derived.Test.YtgkjpfebjhhdkaaDoorNh4
import Derived.Test.YtgkjpfebjhhdkaaDoorNa2
namespace Go.Proofs.YtgkjpfebjhhdkaaDoor
open Go.RowKit Go.Sort
theorem live_int : Na.intP [45, 48, 48, 55] = (-7, 0) := by decide +kernel
theorem live_parts : Na.parts [55, 45, 44, 51, 45, 52, 44, 49, 44, 53] = [[55, 45], [51, 45, 52], [49], [53]] := by
  rw [Na.parts_yes (by decide)]
  show [55, 45] :: Na.parts [51, 45, 52, 44, 49, 44, 53] = _
  rw [Na.parts_yes (by decide)]
  show [55, 45] :: [51, 45, 52] :: Na.parts [49, 44, 53] = _
  rw [Na.parts_yes (by decide)]
  show [55, 45] :: [51, 45, 52] :: [49] :: Na.parts [53] = _
  rw [Na.parts_no (by decide)]
theorem live_all : Na.allI [55, 45, 44, 51, 45, 52, 44, 49, 44, 53] = true := by
  unfold Na.allI
  rw [live_parts]
  decide +kernel
theorem live_rs : Na.rsOf [55, 45, 44, 51, 45, 52, 44, 49, 44, 53] = some [(7, -1), (3, 4), (1, 1), (5, 5)] := by
  unfold Na.rsOf
  rw [live_parts]
  decide +kernel
theorem live_sort (ds : List Na.Rg) (hp : ds.Perm [(7, -1), (3, 4), (1, 1), (5, 5)]) (hs : ds.Pairwise (fun a b => a.1 ≤ b.1)) : Na.join ds = [(1, 1), (3, 5), (7, -1)] := by
  have h2 : ([(1, 1), (3, 4), (5, 5), (7, -1)] : List Na.Rg).Pairwise (fun a b => a.1 ≤ b.1) := by decide
  have hq : ds.Perm [(1, 1), (3, 4), (5, 5), (7, -1)] := hp.trans (by decide)
  have e : ds = [(1, 1), (3, 4), (5, 5), (7, -1)] := by
    refine List.Perm.eq_of_pairwise (fun a b ha hb h1 h2 => ?_) hs h2 hq
    have hm : ∀ x ∈ ([(1, 1), (3, 4), (5, 5), (7, -1)] : List Na.Rg), ∀ z ∈ ([(1, 1), (3, 4), (5, 5), (7, -1)] : List Na.Rg), x.1 ≤ z.1 → z.1 ≤ x.1 → x = z := by decide
    exact hm a (hq.mem_iff.1 ha) b hb h1 h2
  rw [e]
  decide +kernel
theorem dd_one (u : Nat) (h : u < 10) : Lib.decDigits u = [UInt8.ofNat (48 + u)] := by rw [Lib.decDigits, dif_pos h]
theorem itoa_one (n : Int) (h0 : 0 ≤ n) (h : n < 10) : Lib.itoa n = [UInt8.ofNat (48 + n.toNat)] := by
  unfold Lib.itoa
  rw [if_neg (by omega), dd_one _ (by omega)]
theorem live_print : Na.printP [(1, 1), (3, 5), (7, -1)] = [49, 44, 51, 45, 53, 44, 55, 45] := by
  have h1 := itoa_one 1 (by decide) (by decide)
  have h3 := itoa_one 3 (by decide) (by decide)
  have h5 := itoa_one 5 (by decide) (by decide)
  have h7 := itoa_one 7 (by decide) (by decide)
  simp only [Na.printP, Na.itemP, List.flatMap_cons, List.flatMap_nil, h1, h3, h5, h7]
  decide +kernel
theorem live_human : Na.humanP 1536 = [49, 46, 53, 75] := by
  have e1 : Na.uI 1536 = 1 := by decide +kernel
  have e2 : Na.tu 1536 1024 = 15 := by decide +kernel
  show (if (1536 : Int) < 0 then _ else Na.shortP 1536) = _
  rw [if_neg (by decide)]
  unfold Na.shortP
  rw [if_neg (by decide), e1]
  show (if Na.tu 1536 1024 < 100 then Lib.decDigits (Na.tu 1536 1024 / 10).toNat ++ [46] ++ Lib.decDigits (Na.tu 1536 1024 % 10).toNat ++ [75] else _) = _
  rw [e2, if_pos (by decide)]
  show Lib.decDigits 1 ++ [46] ++ Lib.decDigits 5 ++ [75] = _
  rw [dd_one 1 (by decide), dd_one 5 (by decide)]
  rfl
theorem live_cv (y : Int) (j : Nat) (h : Na.Cv 719528 y j) : y = 1970 ∧ j = 0 := by
  have h1 := h.lo
  have h2 := h.hi
  have hy : y = 1970 := by unfold Na.yb at h1 h2; omega
  subst hy
  refine ⟨rfl, ?_⟩
  have h3 := h.ml
  have h4 := h.j1
  have e : Na.yb 1970 = 719528 := by decide +kernel
  rw [e] at h3
  obtain ⟨k, rfl⟩ | rfl : (∃ k, j = k + 1) ∨ j = 0 := by cases j with
    | zero => exact .inr rfl
    | succ k => exact .inl ⟨k, rfl⟩
  · exfalso
    have hd : ∀ k : Fin 11, 1 ≤ Na.mb 1970 (k.val + 1) := by decide +kernel
    have := hd ⟨k, by omega⟩
    simp only at this
    omega
  · rfl
theorem live_stamp {e : Ending} (h : OutS 86399 e) : e = .returned (.string ⟨#[49, 57, 55, 48, 45, 48, 49, 45, 48, 49, 32, 50, 51, 58, 53, 57, 58, 53, 57]⟩) := by
  unfold OutS at h
  rw [if_neg (by decide)] at h
  obtain ⟨y, j, hc, he⟩ := h
  have hD : ((86399 : Int) + 62167219200) / 86400 = 719528 := by decide
  have hR : ((86399 : Int) + 62167219200) % 86400 = 86399 := by decide
  rw [hD] at hc he
  rw [hR] at he
  obtain ⟨rfl, rfl⟩ := live_cv y j hc
  have hX : Na.stampT 1970 (((0 : Nat) : Int) + 1) (719528 - Na.yb 1970 - Na.mb 1970 0 + 1) (86399 / 3600) (86399 / 60 % 60) (86399 % 60) = [49, 57, 55, 48, 45, 48, 49, 45, 48, 49, 32, 50, 51, 58, 53, 57, 58, 53, 57] := by decide +kernel
  rw [he, hX]
end Go.Proofs.YtgkjpfebjhhdkaaDoor
