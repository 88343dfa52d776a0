/- The walks of NumberReads and NumberHuman. Conditions: a length that fits; the tables read as their texts lay them. -/
import Derived.Test.YtgkjpfebjhhdkaaDoorNl1
import Derived.Test.YtgkjpfebjhhdkaaDoorNa4
import Derived.Test.YtgkjpfebjhhdkaaDoorNb2
import Derived.Test.YtgkjpfebjhhdkaaDoorNb3
import Derived.Test.YtgkjpfebjhhdkaaDoorNh6
namespace Go.Proofs.YtgkjpfebjhhdkaaDoor
open Go.RowKit Go.Sort
set_option maxRecDepth 100000 in
set_option maxHeartbeats 4000000 in
theorem reads_walk (l : List UInt8) (w : World) (hl : l.length ≤ 2 ^ 47) (hd : DT w) (hp : P10 w) : Calls Tryd.prog 3 #[.string ⟨l.toArray⟩] w fun e w' => e = .returned (.bool true) ∧ Below w.heap.size w w' := by
  have H1 := hidA (fun W => nInt l W hl)
  have H2 := hidA (fun W => nSize l W hl)
  have H3 := hidA (fun W => nOctal l W)
  have H4 := hidA (fun W => nOwner l W hl)
  have R1 := hidA (fun W => rInt l W hl)
  have R2 := hidA (fun W => rSize l W hl)
  have R3 := hidA (fun W => rOctal l W hl)
  have R4 := hidA (fun W => rOwner l W hl)
  have HL := hidA (fun w' (b : Below w.heap.size w w') => lives11 w' (hd.on b) (hp.on b))
  clear hd hp hl
  generalize Na.intP l = P1 at *
  generalize Na.sizeP l = P2 at *
  generalize Na.octP l = P3 at *
  generalize Na.ownP l = P4 at *
  go_enter Tryd.func3, Tryd.ntmps3
  go_wp2_with (first | (go_at_call 8; refine (H1.out _).mono ?_; rintro e w1 ⟨rfl, b1⟩) | (go_at_call 9; refine (H2.out _).mono ?_; rintro e w2 ⟨rfl, b2⟩) | (go_at_call 10; refine (H3.out _).mono ?_; rintro e w3 ⟨rfl, b3⟩) | (go_at_call 11; refine (H4.out _).mono ?_; rintro e w4 ⟨rfl, b4⟩; have B4 := hidA (bl2 (bl2 (bl2 b1 b2) b3) b4); clear b1 b2 b3 b4) | (go_at_call 12; refine (R1.out _).mono ?_; rintro e w5 ⟨rfl, h5⟩; rw [h5]; clear h5 w5) | (go_at_call 13; refine (R2.out _).mono ?_; rintro e w6 ⟨rfl, h6⟩; rw [h6]; clear h6 w6) | (go_at_call 14; refine (R3.out _).mono ?_; rintro e w7 ⟨rfl, h7⟩; rw [h7]; clear h7 w7) | (go_at_call 15; refine (R4.out _).mono ?_; rintro e w8 ⟨rfl, h8⟩; rw [h8]; clear h8 w8) | (go_at_call 16; refine (HL.out _ B4.out).mono ?_; rintro e w9 ⟨rfl, b9⟩))
  go_ret
  exact ⟨rfl, bl2 B4.out b9⟩
set_option maxRecDepth 100000 in
set_option maxHeartbeats 2000000 in
theorem human_walk (n : Int) (h0 : -9223372036854775808 ≤ n) (h1 : n ≤ 9223372036854775807) (w : World) (hd : DT w) (hp : P10 w) : Calls Tryd.prog 4 #[.int .i64 n] w fun e w' => e = .returned (.bool true) ∧ Below w.heap.size w w' := by
  have H1 := hidA (nHuman n h0 h1 w hp)
  have R1 := hidA (fun W => rHuman n h0 h1 W)
  have HL := hidA (fun w' (b : Below w.heap.size w w') => lives11 w' (hd.on b) (hp.on b))
  clear hd hp
  generalize Na.humanP n = P1 at *
  go_enter Tryd.func4, Tryd.ntmps4
  go_wp2_with (first | (go_at_call 17; refine H1.out.mono ?_; rintro e w1 ⟨rfl, b1⟩) | (go_at_call 18; refine (R1.out _).mono ?_; rintro e w2 ⟨rfl, b2⟩; have B2 := hidA (bl2 b1 b2); clear b1 b2) | (go_at_call 16; refine (HL.out _ B2.out).mono ?_; rintro e w9 ⟨rfl, b9⟩))
  go_ret
  exact ⟨rfl, bl2 B2.out b9⟩
end Go.Proofs.YtgkjpfebjhhdkaaDoor
