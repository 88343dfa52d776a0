/- A row of bytes that grows; the walks of the program's and the plain answer's Magic and Quote, of Match over read. Conditions: texts that fit. -/
import Derived.Test.YtncnmeidciailaaDoorLa7
import Derived.Test.YtncnmeidciailaaDoorShelf
namespace Go.Proofs.YtncnmeidciailaaDoor
open Go.RowKit
attribute [local go_sem] ext_eq app_eq get_eq
theorem infoB : ∃ i, Tryd.prog.info? 5 = some i ∧ i.zero = some (.int .u8 0) ∧ i.size = 1 ∧ i.bytes = 1 := info_of (by kernel_rfl)
def bCs (l : List UInt8) : List Value := l.map fun c => .int .u8 c.toNat
theorem bCs_append (a b : List UInt8) : bCs (a ++ b) = bCs a ++ bCs b := List.map_append
theorem bCs_len (a : List UInt8) : (bCs a).length = a.length := by simp [bCs]
/-- A row of bytes of one's own. -/
def By (B : Nat) (W : World) (v : Value) (bs : List UInt8) : Prop := W.ownsRow B 5 1 v bs.length (bCs bs)
theorem By.nil (B : Nat) (W : World) : By B W (.slice none 0 0) [] := World.ownsRow_nil _ _ _ _
theorem By.kind {B : Nat} {W : World} {v : Value} {bs : List UInt8} (h : By B W v bs) : ∀ g, v.ownBlock = some g → ∃ c fz, W.heap[g]? = some (.cells c 5 fz) := own_kind h
theorem By.on {B : Nat} {W W' : World} {v : Value} {bs : List UInt8} (h : By B W v bs) (e : ∀ (g : Nat) (c : Array Value), W.heap[g]? = some (Obj.cells c 5 (0, 0)) → W'.heap[g]? = W.heap[g]?) : By B W' v bs := own_on h e
theorem By.grow {B : Nat} {W W' : World} {v : Value} {bs : List UInt8} (h : By B W v bs) (hB : Below W.heap.size W W') : By B W' v bs := own_on h (fun g _ hg => hB.block g (heap_lt hg))
theorem By.slice {B : Nat} {W : World} {v : Value} {bs : List UInt8} (h : By B W v bs) : ∃ a c, v = .slice a bs.length c := own_slice h
theorem By.add {B : Nat} {w W w' : World} {v v' : Value} {bs : List UInt8} {c : UInt8} (h : By B W v bs) (hB : Below B w W) (hs : B ≤ W.heap.size) (o : Obj) (hown : w'.ownsRow B 5 1 v' (bs.length + 1) (bCs bs ++ [.int .u8 c.toNat])) (hg : (W.alloc o).grownBy w' v.ownBlock) :
    By B w' v' (bs ++ [c]) ∧ Below B w w' ∧ Lib.OthersKept 5 none W w' := by
  refine ⟨?_, (hB.alloc hs o).grown hg (by simp; omega) (fun k hk => (h.lt k hk).1), ?_⟩
  · unfold By
    rw [bCs_append, List.length_append]; exact hown
  · refine ((Lib.OthersKept.refl _ _ _).alloc o).grown hg (fun g hgg => ?_)
    obtain ⟨cc, fz, hc⟩ := h.kind g hgg
    exact ⟨cc, fz, (Lib.alloc_old W o g (heap_lt hc)).trans hc⟩
theorem one_u8 (x : Int) : ∀ u ∈ [Value.int .u8 x], u.oneCell' = true := by intro u hu; simp at hu; subst hu; rfl
/-- The text of a row. -/
theorem By.text {B : Nat} {W : World} {v : Value} {bs : List UInt8} (h : By B W v bs) : (convert 32 9 v).run Tryd.prog W = .ok (.string ⟨bs.toArray⟩) W := by
  rcases h.2 with ⟨rfl, h0⟩ | ⟨g, cap, cur, rfl, -, -, -, -, -, -⟩
  · have : bs = [] := List.length_eq_zero_iff.1 h0
    subst this
    simp [convert, go_sem, Conv.bytesToString]; rfl
  · exact run_convert_bytes_back (P := Tryd.prog) W 32 9 5 ⟨g, 0, none⟩ cap bs Tryd.underlying32 Tryd.underlying5 Tryd.underlying9 (fun j hj => h.cells (g := g) rfl j _ (by simp [bCs, hj]))
namespace Gl
def spc (c : UInt8) : Bool := decide (c = 42) || decide (c = 63) || decide (c = 91)
/-- Is there magic in a pattern? -/
def mgc : List UInt8 → Bool
  | [] => false
  | [c] => spc c
  | c :: d :: r => if spc c then true else if c = 92 then mgc r else mgc (d :: r)
/-- A text quoted. -/
def qt (l : List UInt8) : List UInt8 := l.flatMap fun c => if spc c || decide (c = 92) then [92, c] else [c]
theorem mgc_yes (l : List UInt8) (k : Nat) (h : k < l.length) (hc : spc l[k] = true) : mgc (l.drop k) = true := by
  rw [List.drop_eq_getElem_cons h]
  cases hr : l.drop (k + 1) with
  | nil => exact hc
  | cons d r => show (if spc l[k] then true else _) = _; rw [if_pos hc]
theorem mgc_no (l : List UInt8) (k : Nat) (h : k < l.length) (hc : spc l[k] = false) (h2 : l[k] ≠ 92) : mgc (l.drop k) = mgc (l.drop (k + 1)) := by
  rw [List.drop_eq_getElem_cons h]
  cases hr : l.drop (k + 1) with
  | nil => show spc l[k] = _; rw [hc]; rfl
  | cons d r => show (if spc l[k] then true else if l[k] = 92 then mgc r else mgc (d :: r)) = _; rw [if_neg (by simp [hc]), if_neg h2]
theorem mgc_bs (l : List UInt8) (k : Nat) (h : k < l.length) (h2 : l[k] = 92) : mgc (l.drop k) = mgc (l.drop (k + 2)) := by
  rw [List.drop_eq_getElem_cons h, show k + 2 = (k + 1) + 1 by omega, ← List.drop_drop (i := 1) (j := k + 1)]
  cases hr : l.drop (k + 1) with
  | nil => show spc l[k] = _; rw [h2]; rfl
  | cons d r => show (if spc l[k] then true else if l[k] = 92 then mgc r else mgc (d :: r)) = _; rw [if_neg (by rw [h2]; decide), if_pos h2]; rfl
theorem mgc_qt : ∀ l : List UInt8, mgc (qt l) = false
  | [] => rfl
  | c :: r => by
    have e : qt (c :: r) = (if spc c || decide (c = 92) then [92, c] else [c]) ++ qt r := rfl
    rw [e]
    have ih := mgc_qt r
    split
    · show (if spc 92 then true else if (92 : UInt8) = 92 then mgc (qt r) else _) = _
      rw [if_neg (by decide), if_pos rfl, ih]
    · rename_i h
      simp only [Bool.or_eq_true, decide_eq_true_eq, not_or] at h
      have h1 : spc c = false := by simpa using h.1
      cases hq : qt r with
      | nil => exact h1
      | cons d t => show (if spc c then true else if c = 92 then mgc t else mgc (d :: t)) = _; rw [if_neg (by simp [h1]), if_neg h.2, ← hq, ih]
theorem qt_snoc (l : List UInt8) (c : UInt8) : qt (l ++ [c]) = qt l ++ (if spc c || decide (c = 92) then [92, c] else [c]) := by simp [qt]
theorem qt_len (l : List UInt8) : (qt l).length ≤ 2 * l.length := by
  induction l with
  | nil => simp [qt]
  | cons c r ih =>
    have e : qt (c :: r) = (if spc c || decide (c = 92) then [92, c] else [c]) ++ qt r := rfl
    rw [e, List.length_append, List.length_cons]
    split <;> simp <;> omega
theorem idx_qt (c : UInt8) : (0 : Int) ≤ Lib.indexByte [42, 63, 91, 92] c ↔ (spc c || decide (c = 92)) = true := by
  have h : ∀ c : Fin 256, decide ((0 : Int) ≤ Lib.indexByte [42, 63, 91, 92] (UInt8.ofNat c.val)) = (spc (UInt8.ofNat c.val) || decide (UInt8.ofNat c.val = 92)) := by decide +kernel
  have h2 := h ⟨c.toNat, c.toNat_lt⟩
  simp only [UInt8.ofNat_toNat] at h2
  rw [← h2]; simp
end Gl
set_option maxHeartbeats 1000000 in
theorem gMagic (l : List UInt8) (hl : l.length ≤ 2 ^ 48) (w : World) : Calls Tryd.prog 14 #[.string ⟨l.toArray⟩] w fun e w' => e = .returned (.bool (Gl.mgc l)) ∧ w' = w := by
  have hs : (⟨l.toArray⟩ : ByteArray).size = l.length := str_size l
  go_enter Tryd.func14, Tryd.ntmps14
  go_wp2
  go_loop [3] (fun s3 => ∃ k : Nat, s3 = .int .i64 k ∧ k ≤ l.length + 1 ∧ Hid (Gl.mgc (l.drop k) = Gl.mgc l)) (fun s3 => l.length + 1 - (intOf s3).toNat)
  case atStart => exact ⟨0, rfl, by omega, rfl⟩
  case round =>
    obtain ⟨k, rfl, hk, HK⟩ := hrel
    have hw1 : IntKind.i64.wrap ((k : Int) + 1) = ((k + 1 : Nat) : Int) := by rw [IntKind.wrap_i64]; omega
    have hw2 : IntKind.i64.wrap (((k + 1 : Nat) : Int) + 1) = ((k + 2 : Nat) : Int) := by rw [IntKind.wrap_i64]; omega
    by_cases hlt : k < l.length
    · by_cases c1 : l[k] = 42
      · have HE : Hid (Gl.mgc l = true) := HK.out.symm.trans (Gl.mgc_yes l k hlt (by rw [c1]; rfl))
        have hc1 := byte_yes _ 42 42 rfl c1
        clear c1
        go_wp2
        go_ret
        exact ⟨by rw [HE.out]; rfl, rfl⟩
      have hc1 := byte_no _ 42 42 rfl c1
      by_cases c2 : l[k] = 63
      · have HE : Hid (Gl.mgc l = true) := HK.out.symm.trans (Gl.mgc_yes l k hlt (by rw [c2]; rfl))
        have hc2 := byte_yes _ 63 63 rfl c2
        clear c2 c1
        go_wp2
        go_ret
        exact ⟨by rw [HE.out]; rfl, rfl⟩
      have hc2 := byte_no _ 63 63 rfl c2
      by_cases c3 : l[k] = 91
      · have HE : Hid (Gl.mgc l = true) := HK.out.symm.trans (Gl.mgc_yes l k hlt (by rw [c3]; rfl))
        have hc3 := byte_yes _ 91 91 rfl c3
        clear c2 c1 c3
        go_wp2
        go_ret
        exact ⟨by rw [HE.out]; rfl, rfl⟩
      have hc3 := byte_no _ 91 91 rfl c3
      by_cases c4 : l[k] = 92
      · have HE : Hid (Gl.mgc (l.drop (k + 2)) = Gl.mgc l) := (Gl.mgc_bs l k hlt c4).symm.trans HK.out
        have hc4 := byte_yes _ 92 92 rfl c4
        clear c2 c1 c3 c4
        go_wp2
        exact ⟨⟨k + 2, by first | rfl | (go_num), by omega, HE⟩, by simp [intOf]; omega⟩
      · have HE : Hid (Gl.mgc (l.drop (k + 1)) = Gl.mgc l) := (Gl.mgc_no l k hlt (by simp [Gl.spc, c1, c2, c3]) c4).symm.trans HK.out
        have hc4 := byte_no _ 92 92 rfl c4
        clear c2 c1 c3 c4
        go_wp2
        exact ⟨⟨k + 1, by first | rfl | (go_num), by omega, HE⟩, by simp [intOf]; omega⟩
    · have HE : Hid (Gl.mgc l = false) := HK.out.symm.trans (by rw [List.drop_eq_nil_of_le (by omega)]; rfl)
      go_wp2
      go_ret
      exact ⟨by rw [HE.out]; rfl, rfl⟩
end Go.Proofs.YtncnmeidciailaaDoor
