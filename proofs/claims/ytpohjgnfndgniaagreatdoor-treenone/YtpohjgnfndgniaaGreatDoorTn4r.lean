/- TreeNone's list of fourteen answers: the region that makes it, by itself. Conditions: the frame holds the call's words and the file system; a file system that no call made. -/
import Derived.Test.YtpohjgnfndgniaaGreatDoorTn3
import Derived.Deep.RegionHeld3
namespace Go.Proofs.YtpohjgnfndgniaaGreatDoor
open Go.RowKit
/-- The region's operations. -/
def ops11 : Array Oper := #[{ dst := some 133, op := Op.move (Operand.tmp 4), type := 29, pos := "law.go:292", after := #[], guard := none },
  { dst := some 134, op := Op.fieldAddr 28 (Operand.tmp 1) 1, type := 0, pos := "law.go:292", after := #[], guard := none },
  { dst := some 135, op := Op.load 24 (Operand.tmp 134), type := 24, pos := "law.go:292", after := #[{ on := 1, ground := Ground.data }], guard := none },
  { dst := some 136, op := Op.fieldAddr 28 (Operand.tmp 1) 2, type := 0, pos := "law.go:292", after := #[], guard := none },
  { dst := some 137, op := Op.load 9 (Operand.tmp 136), type := 9, pos := "law.go:292", after := #[{ on := 3, ground := Ground.data }], guard := none },
  { dst := some 138, op := Op.fieldAddr 28 (Operand.tmp 1) 4, type := 0, pos := "law.go:292", after := #[], guard := none },
  { dst := some 139, op := Op.load 3 (Operand.tmp 138), type := 3, pos := "law.go:292", after := #[{ on := 5, ground := Ground.data }], guard := none },
  { dst := some 140, op := Op.call { callee := Callee.value (Operand.func 10), args := #[Operand.tmp 133, Operand.tmp 135, Operand.tmp 137, Operand.tmp 139], argTypes := #[29, 24, 9, 3] }, type := 34, pos := "law.go:292", after := #[{ on := 0, ground := Ground.data }, { on := 2, ground := Ground.data }, { on := 4, ground := Ground.data }, { on := 6, ground := Ground.data }], guard := none },
  { dst := some 141, op := Op.move (Operand.tmp 4), type := 29, pos := "law.go:292", after := #[], guard := none },
  { dst := some 142, op := Op.fieldAddr 28 (Operand.tmp 1) 1, type := 0, pos := "law.go:292", after := #[], guard := none },
  { dst := some 143, op := Op.load 24 (Operand.tmp 142), type := 24, pos := "law.go:292", after := #[{ on := 9, ground := Ground.data }], guard := none },
  { dst := some 144, op := Op.fieldAddr 28 (Operand.tmp 1) 2, type := 0, pos := "law.go:292", after := #[], guard := none },
  { dst := some 145, op := Op.load 9 (Operand.tmp 144), type := 9, pos := "law.go:292", after := #[{ on := 11, ground := Ground.data }], guard := none },
  { dst := some 146, op := Op.fieldAddr 28 (Operand.tmp 1) 6, type := 0, pos := "law.go:292", after := #[], guard := none },
  { dst := some 147, op := Op.load 25 (Operand.tmp 146), type := 25, pos := "law.go:292", after := #[{ on := 13, ground := Ground.data }], guard := none },
  { dst := some 148, op := Op.call { callee := Callee.value (Operand.func 11), args := #[Operand.tmp 141, Operand.tmp 143, Operand.tmp 145, Operand.tmp 147], argTypes := #[29, 24, 9, 25] }, type := 34, pos := "law.go:292", after := #[{ on := 8, ground := Ground.data }, { on := 10, ground := Ground.data }, { on := 12, ground := Ground.data }, { on := 14, ground := Ground.data }, { on := 7, ground := Ground.chain }], guard := none },
  { dst := some 149, op := Op.move (Operand.tmp 4), type := 29, pos := "law.go:292", after := #[], guard := none },
  { dst := some 150, op := Op.fieldAddr 28 (Operand.tmp 1) 1, type := 0, pos := "law.go:292", after := #[], guard := none },
  { dst := some 151, op := Op.load 24 (Operand.tmp 150), type := 24, pos := "law.go:292", after := #[{ on := 17, ground := Ground.data }], guard := none },
  { dst := some 152, op := Op.fieldAddr 28 (Operand.tmp 1) 2, type := 0, pos := "law.go:292", after := #[], guard := none },
  { dst := some 153, op := Op.load 9 (Operand.tmp 152), type := 9, pos := "law.go:292", after := #[{ on := 19, ground := Ground.data }], guard := none },
  { dst := some 154, op := Op.call { callee := Callee.value (Operand.func 12), args := #[Operand.tmp 149, Operand.tmp 151, Operand.tmp 153], argTypes := #[29, 24, 9] }, type := 34, pos := "law.go:292", after := #[{ on := 16, ground := Ground.data }, { on := 18, ground := Ground.data }, { on := 20, ground := Ground.data }, { on := 15, ground := Ground.chain }], guard := none },
  { dst := some 155, op := Op.move (Operand.tmp 4), type := 29, pos := "law.go:292", after := #[], guard := none },
  { dst := some 156, op := Op.fieldAddr 28 (Operand.tmp 1) 1, type := 0, pos := "law.go:292", after := #[], guard := none },
  { dst := some 157, op := Op.load 24 (Operand.tmp 156), type := 24, pos := "law.go:292", after := #[{ on := 23, ground := Ground.data }], guard := none },
  { dst := some 158, op := Op.fieldAddr 28 (Operand.tmp 1) 3, type := 0, pos := "law.go:292", after := #[], guard := none },
  { dst := some 159, op := Op.load 9 (Operand.tmp 158), type := 9, pos := "law.go:292", after := #[{ on := 25, ground := Ground.data }], guard := none },
  { dst := some 160, op := Op.fieldAddr 28 (Operand.tmp 1) 2, type := 0, pos := "law.go:292", after := #[], guard := none },
  { dst := some 161, op := Op.load 9 (Operand.tmp 160), type := 9, pos := "law.go:292", after := #[{ on := 27, ground := Ground.data }], guard := none },
  { dst := some 162, op := Op.call { callee := Callee.value (Operand.func 13), args := #[Operand.tmp 155, Operand.tmp 157, Operand.tmp 159, Operand.tmp 161], argTypes := #[29, 24, 9, 9] }, type := 34, pos := "law.go:292", after := #[{ on := 22, ground := Ground.data }, { on := 24, ground := Ground.data }, { on := 26, ground := Ground.data }, { on := 28, ground := Ground.data }, { on := 21, ground := Ground.chain }], guard := none },
  { dst := some 163, op := Op.move (Operand.tmp 4), type := 29, pos := "law.go:292", after := #[], guard := none },
  { dst := some 164, op := Op.fieldAddr 28 (Operand.tmp 1) 1, type := 0, pos := "law.go:292", after := #[], guard := none },
  { dst := some 165, op := Op.load 24 (Operand.tmp 164), type := 24, pos := "law.go:292", after := #[{ on := 31, ground := Ground.data }], guard := none },
  { dst := some 166, op := Op.fieldAddr 28 (Operand.tmp 1) 3, type := 0, pos := "law.go:292", after := #[], guard := none },
  { dst := some 167, op := Op.load 9 (Operand.tmp 166), type := 9, pos := "law.go:292", after := #[{ on := 33, ground := Ground.data }], guard := none },
  { dst := some 168, op := Op.fieldAddr 28 (Operand.tmp 1) 2, type := 0, pos := "law.go:292", after := #[], guard := none },
  { dst := some 169, op := Op.load 9 (Operand.tmp 168), type := 9, pos := "law.go:292", after := #[{ on := 35, ground := Ground.data }], guard := none },
  { dst := some 170, op := Op.call { callee := Callee.value (Operand.func 14), args := #[Operand.tmp 163, Operand.tmp 165, Operand.tmp 167, Operand.tmp 169], argTypes := #[29, 24, 9, 9] }, type := 34, pos := "law.go:292", after := #[{ on := 30, ground := Ground.data }, { on := 32, ground := Ground.data }, { on := 34, ground := Ground.data }, { on := 36, ground := Ground.data }, { on := 29, ground := Ground.chain }], guard := none },
  { dst := some 171, op := Op.move (Operand.tmp 4), type := 29, pos := "law.go:292", after := #[], guard := none },
  { dst := some 172, op := Op.fieldAddr 28 (Operand.tmp 1) 1, type := 0, pos := "law.go:292", after := #[], guard := none },
  { dst := some 173, op := Op.load 24 (Operand.tmp 172), type := 24, pos := "law.go:292", after := #[{ on := 39, ground := Ground.data }], guard := none },
  { dst := some 174, op := Op.fieldAddr 28 (Operand.tmp 1) 2, type := 0, pos := "law.go:292", after := #[], guard := none },
  { dst := some 175, op := Op.load 9 (Operand.tmp 174), type := 9, pos := "law.go:292", after := #[{ on := 41, ground := Ground.data }], guard := none },
  { dst := some 176, op := Op.call { callee := Callee.value (Operand.func 15), args := #[Operand.tmp 171, Operand.tmp 173, Operand.tmp 175], argTypes := #[29, 24, 9] }, type := 34, pos := "law.go:292", after := #[{ on := 38, ground := Ground.data }, { on := 40, ground := Ground.data }, { on := 42, ground := Ground.data }, { on := 37, ground := Ground.chain }], guard := none },
  { dst := some 177, op := Op.move (Operand.tmp 4), type := 29, pos := "law.go:292", after := #[], guard := none },
  { dst := some 178, op := Op.fieldAddr 28 (Operand.tmp 1) 1, type := 0, pos := "law.go:292", after := #[], guard := none },
  { dst := some 179, op := Op.load 24 (Operand.tmp 178), type := 24, pos := "law.go:292", after := #[{ on := 45, ground := Ground.data }], guard := none },
  { dst := some 180, op := Op.fieldAddr 28 (Operand.tmp 1) 3, type := 0, pos := "law.go:292", after := #[], guard := none },
  { dst := some 181, op := Op.load 9 (Operand.tmp 180), type := 9, pos := "law.go:292", after := #[{ on := 47, ground := Ground.data }], guard := none },
  { dst := some 182, op := Op.fieldAddr 28 (Operand.tmp 1) 2, type := 0, pos := "law.go:292", after := #[], guard := none },
  { dst := some 183, op := Op.load 9 (Operand.tmp 182), type := 9, pos := "law.go:292", after := #[{ on := 49, ground := Ground.data }], guard := none },
  { dst := some 184, op := Op.call { callee := Callee.value (Operand.func 16), args := #[Operand.tmp 177, Operand.tmp 179, Operand.tmp 181, Operand.tmp 183], argTypes := #[29, 24, 9, 9] }, type := 34, pos := "law.go:292", after := #[{ on := 44, ground := Ground.data }, { on := 46, ground := Ground.data }, { on := 48, ground := Ground.data }, { on := 50, ground := Ground.data }, { on := 43, ground := Ground.chain }], guard := none },
  { dst := some 185, op := Op.move (Operand.tmp 4), type := 29, pos := "law.go:292", after := #[], guard := none },
  { dst := some 186, op := Op.fieldAddr 28 (Operand.tmp 1) 1, type := 0, pos := "law.go:292", after := #[], guard := none },
  { dst := some 187, op := Op.load 24 (Operand.tmp 186), type := 24, pos := "law.go:292", after := #[{ on := 53, ground := Ground.data }], guard := none },
  { dst := some 188, op := Op.fieldAddr 28 (Operand.tmp 1) 2, type := 0, pos := "law.go:292", after := #[], guard := none },
  { dst := some 189, op := Op.load 9 (Operand.tmp 188), type := 9, pos := "law.go:292", after := #[{ on := 55, ground := Ground.data }], guard := none },
  { dst := some 190, op := Op.fieldAddr 28 (Operand.tmp 1) 6, type := 0, pos := "law.go:292", after := #[], guard := none },
  { dst := some 191, op := Op.load 25 (Operand.tmp 190), type := 25, pos := "law.go:292", after := #[{ on := 57, ground := Ground.data }], guard := none },
  { dst := some 192, op := Op.call { callee := Callee.value (Operand.func 17), args := #[Operand.tmp 185, Operand.tmp 187, Operand.tmp 189, Operand.tmp 191], argTypes := #[29, 24, 9, 25] }, type := 34, pos := "law.go:292", after := #[{ on := 52, ground := Ground.data }, { on := 54, ground := Ground.data }, { on := 56, ground := Ground.data }, { on := 58, ground := Ground.data }, { on := 51, ground := Ground.chain }], guard := none },
  { dst := some 193, op := Op.move (Operand.tmp 4), type := 29, pos := "law.go:292", after := #[], guard := none },
  { dst := some 194, op := Op.fieldAddr 28 (Operand.tmp 1) 1, type := 0, pos := "law.go:292", after := #[], guard := none },
  { dst := some 195, op := Op.load 24 (Operand.tmp 194), type := 24, pos := "law.go:292", after := #[{ on := 61, ground := Ground.data }], guard := none },
  { dst := some 196, op := Op.fieldAddr 28 (Operand.tmp 1) 2, type := 0, pos := "law.go:292", after := #[], guard := none },
  { dst := some 197, op := Op.load 9 (Operand.tmp 196), type := 9, pos := "law.go:292", after := #[{ on := 63, ground := Ground.data }], guard := none },
  { dst := some 198, op := Op.fieldAddr 28 (Operand.tmp 1) 4, type := 0, pos := "law.go:292", after := #[], guard := none },
  { dst := some 199, op := Op.load 3 (Operand.tmp 198), type := 3, pos := "law.go:292", after := #[{ on := 65, ground := Ground.data }], guard := none },
  { dst := some 200, op := Op.fieldAddr 28 (Operand.tmp 1) 5, type := 0, pos := "law.go:292", after := #[], guard := none },
  { dst := some 201, op := Op.load 3 (Operand.tmp 200), type := 3, pos := "law.go:292", after := #[{ on := 67, ground := Ground.data }], guard := none },
  { dst := some 202, op := Op.fieldAddr 28 (Operand.tmp 1) 10, type := 0, pos := "law.go:292", after := #[], guard := none },
  { dst := some 203, op := Op.load 4 (Operand.tmp 202), type := 4, pos := "law.go:292", after := #[{ on := 69, ground := Ground.data }], guard := none },
  { dst := some 204, op := Op.call { callee := Callee.value (Operand.func 18), args := #[Operand.tmp 193, Operand.tmp 195, Operand.tmp 197, Operand.tmp 199, Operand.tmp 201, Operand.tmp 203], argTypes := #[29, 24, 9, 3, 3, 4] }, type := 34, pos := "law.go:292", after := #[{ on := 60, ground := Ground.data }, { on := 62, ground := Ground.data }, { on := 64, ground := Ground.data }, { on := 66, ground := Ground.data }, { on := 68, ground := Ground.data }, { on := 70, ground := Ground.data }, { on := 59, ground := Ground.chain }], guard := none },
  { dst := some 205, op := Op.move (Operand.tmp 4), type := 29, pos := "law.go:292", after := #[], guard := none },
  { dst := some 206, op := Op.fieldAddr 28 (Operand.tmp 1) 1, type := 0, pos := "law.go:292", after := #[], guard := none },
  { dst := some 207, op := Op.load 24 (Operand.tmp 206), type := 24, pos := "law.go:292", after := #[{ on := 73, ground := Ground.data }], guard := none },
  { dst := some 208, op := Op.fieldAddr 28 (Operand.tmp 1) 2, type := 0, pos := "law.go:292", after := #[], guard := none },
  { dst := some 209, op := Op.load 9 (Operand.tmp 208), type := 9, pos := "law.go:292", after := #[{ on := 75, ground := Ground.data }], guard := none },
  { dst := some 210, op := Op.fieldAddr 28 (Operand.tmp 1) 8, type := 0, pos := "law.go:292", after := #[], guard := none },
  { dst := some 211, op := Op.load 2 (Operand.tmp 210), type := 2, pos := "law.go:292", after := #[{ on := 77, ground := Ground.data }], guard := none },
  { dst := some 212, op := Op.fieldAddr 28 (Operand.tmp 1) 9, type := 0, pos := "law.go:292", after := #[], guard := none },
  { dst := some 213, op := Op.load 2 (Operand.tmp 212), type := 2, pos := "law.go:292", after := #[{ on := 79, ground := Ground.data }], guard := none },
  { dst := some 214, op := Op.fieldAddr 28 (Operand.tmp 1) 10, type := 0, pos := "law.go:292", after := #[], guard := none },
  { dst := some 215, op := Op.load 4 (Operand.tmp 214), type := 4, pos := "law.go:292", after := #[{ on := 81, ground := Ground.data }], guard := none },
  { dst := some 216, op := Op.call { callee := Callee.value (Operand.func 19), args := #[Operand.tmp 205, Operand.tmp 207, Operand.tmp 209, Operand.tmp 211, Operand.tmp 213, Operand.tmp 215], argTypes := #[29, 24, 9, 2, 2, 4] }, type := 34, pos := "law.go:292", after := #[{ on := 72, ground := Ground.data }, { on := 74, ground := Ground.data }, { on := 76, ground := Ground.data }, { on := 78, ground := Ground.data }, { on := 80, ground := Ground.data }, { on := 82, ground := Ground.data }, { on := 71, ground := Ground.chain }], guard := none },
  { dst := some 217, op := Op.move (Operand.tmp 4), type := 29, pos := "law.go:292", after := #[], guard := none },
  { dst := some 218, op := Op.fieldAddr 28 (Operand.tmp 1) 1, type := 0, pos := "law.go:292", after := #[], guard := none },
  { dst := some 219, op := Op.load 24 (Operand.tmp 218), type := 24, pos := "law.go:292", after := #[{ on := 85, ground := Ground.data }], guard := none },
  { dst := some 220, op := Op.fieldAddr 28 (Operand.tmp 1) 2, type := 0, pos := "law.go:292", after := #[], guard := none },
  { dst := some 221, op := Op.load 9 (Operand.tmp 220), type := 9, pos := "law.go:292", after := #[{ on := 87, ground := Ground.data }], guard := none },
  { dst := some 222, op := Op.fieldAddr 28 (Operand.tmp 1) 4, type := 0, pos := "law.go:292", after := #[], guard := none },
  { dst := some 223, op := Op.load 3 (Operand.tmp 222), type := 3, pos := "law.go:292", after := #[{ on := 89, ground := Ground.data }], guard := none },
  { dst := some 224, op := Op.call { callee := Callee.value (Operand.func 20), args := #[Operand.tmp 217, Operand.tmp 219, Operand.tmp 221, Operand.tmp 223], argTypes := #[29, 24, 9, 3] }, type := 34, pos := "law.go:292", after := #[{ on := 84, ground := Ground.data }, { on := 86, ground := Ground.data }, { on := 88, ground := Ground.data }, { on := 90, ground := Ground.data }, { on := 83, ground := Ground.chain }], guard := none },
  { dst := some 225, op := Op.move (Operand.tmp 4), type := 29, pos := "law.go:292", after := #[], guard := none },
  { dst := some 226, op := Op.fieldAddr 28 (Operand.tmp 1) 4, type := 0, pos := "law.go:292", after := #[], guard := none },
  { dst := some 227, op := Op.load 3 (Operand.tmp 226), type := 3, pos := "law.go:292", after := #[{ on := 93, ground := Ground.data }], guard := none },
  { dst := some 228, op := Op.call { callee := Callee.value (Operand.func 21), args := #[Operand.tmp 225, Operand.tmp 227], argTypes := #[29, 3] }, type := 34, pos := "law.go:292", after := #[{ on := 92, ground := Ground.data }, { on := 94, ground := Ground.data }, { on := 91, ground := Ground.chain }], guard := none },
  { dst := some 229, op := Op.move (Operand.tmp 4), type := 29, pos := "law.go:292", after := #[], guard := none },
  { dst := some 230, op := Op.fieldAddr 28 (Operand.tmp 1) 4, type := 0, pos := "law.go:292", after := #[], guard := none },
  { dst := some 231, op := Op.load 3 (Operand.tmp 230), type := 3, pos := "law.go:292", after := #[{ on := 97, ground := Ground.data }], guard := none },
  { dst := some 232, op := Op.call { callee := Callee.value (Operand.func 22), args := #[Operand.tmp 229, Operand.tmp 231], argTypes := #[29, 3] }, type := 34, pos := "law.go:292", after := #[{ on := 96, ground := Ground.data }, { on := 98, ground := Ground.data }, { on := 95, ground := Ground.chain }], guard := none },
  { dst := some 233, op := Op.move (Operand.tmp 4), type := 29, pos := "law.go:292", after := #[], guard := none },
  { dst := some 234, op := Op.fieldAddr 28 (Operand.tmp 1) 4, type := 0, pos := "law.go:292", after := #[], guard := none },
  { dst := some 235, op := Op.load 3 (Operand.tmp 234), type := 3, pos := "law.go:292", after := #[{ on := 101, ground := Ground.data }], guard := none },
  { dst := some 236, op := Op.fieldAddr 28 (Operand.tmp 1) 5, type := 0, pos := "law.go:292", after := #[], guard := none },
  { dst := some 237, op := Op.load 3 (Operand.tmp 236), type := 3, pos := "law.go:292", after := #[{ on := 103, ground := Ground.data }], guard := none },
  { dst := some 238, op := Op.call { callee := Callee.value (Operand.func 23), args := #[Operand.tmp 233, Operand.tmp 235, Operand.tmp 237], argTypes := #[29, 3, 3] }, type := 34, pos := "law.go:292", after := #[{ on := 100, ground := Ground.data }, { on := 102, ground := Ground.data }, { on := 104, ground := Ground.data }, { on := 99, ground := Ground.chain }], guard := none },
  { dst := some 239, op := Op.buildSlice 54 14 #[(0, Operand.tmp 140), (1, Operand.tmp 148), (2, Operand.tmp 154), (3, Operand.tmp 162), (4, Operand.tmp 170), (5, Operand.tmp 176), (6, Operand.tmp 184), (7, Operand.tmp 192), (8, Operand.tmp 204), (9, Operand.tmp 216), (10, Operand.tmp 224), (11, Operand.tmp 228), (12, Operand.tmp 232), (13, Operand.tmp 238)], type := 54, pos := "law.go:292", after := #[{ on := 7, ground := Ground.data }, { on := 15, ground := Ground.data }, { on := 21, ground := Ground.data }, { on := 29, ground := Ground.data }, { on := 37, ground := Ground.data }, { on := 43, ground := Ground.data }, { on := 51, ground := Ground.data }, { on := 59, ground := Ground.data }, { on := 71, ground := Ground.data }, { on := 83, ground := Ground.data }, { on := 91, ground := Ground.data }, { on := 95, ground := Ground.data }, { on := 99, ground := Ground.data }, { on := 105, ground := Ground.data }], guard := none },
  { dst := some 240, op := Op.call { callee := Callee.builtin Builtin.len, args := #[Operand.tmp 239], argTypes := #[54] }, type := 3, pos := "law.go:292", after := #[{ on := 106, ground := Ground.data }], guard := none },
  { dst := some 241, op := Op.move (Operand.const (Value.int IntKind.i64 0)), type := 3, pos := "law.go:292", after := #[], guard := none }]
/-- What a frame of 396 slots holds. -/
def Ev (a : Act) (f : Nat → Value) : Prop := a.tmps.size = 396 ∧ ∀ k : Nat, a.tmps[k]?.getD undef = f k
theorem Ev.put {a : Act} {f : Nat → Value} (h : Ev a f) (d : Nat) (v : Value) (hd : d < 396) : Ev (a.put (some d) v) (fun k => if k = d then v else f k) := by
  refine ⟨by simp [Act.put, h.1], fun k => ?_⟩
  have h2 := h.2 k
  simp only [Act.put]
  by_cases hk : k = d
  · subst hk
    rw [if_pos rfl, Array.getElem?_setIfInBounds_self_of_lt (by rw [h.1]; exact hd)]
    rfl
  · rw [if_neg hk, Array.getElem?_setIfInBounds_ne (fun e => hk e.symm)]
    exact h2
/-- The order in which they are taken, and what is done behind k of them. -/
def taken11 : List Nat := [0, 1, 2, 3, 4, 5, 6, 8, 9, 10, 11, 12, 13, 14, 16, 17, 18, 19, 20, 22, 23, 24, 25, 26, 27, 28, 30, 31, 32, 33, 34, 35, 36, 38, 39, 40, 41, 42, 44, 45, 46, 47, 48, 49, 50, 52, 53, 54, 55, 56, 57, 58, 60, 61, 62, 63, 64, 65, 66, 67, 68, 69, 70, 72, 73, 74, 75, 76, 77, 78, 79, 80, 81, 82, 84, 85, 86, 87, 88, 89, 90, 92, 93, 94, 96, 97, 98, 100, 101, 102, 103, 104, 108, 7, 15, 21, 29, 37, 43, 51, 59, 71, 83, 91, 95, 99, 105, 106, 107]
def lsts (k : Nat) : Array Bool := ((List.range 109).map fun i => (taken11.take k).contains i).toArray
theorem hns : Region.noSelect ops11 = true := by kernel_rfl
theorem op_0 : ops11[0]? = some { dst := some 133, op := Op.move (Operand.tmp 4), type := 29, pos := "law.go:292", after := #[], guard := none } := by kernel_rfl
theorem fr_0 : Region.free .any ops11 (lsts 0) 0 = true := by kernel_rfl
theorem rdy_0 : (Region.ready .any ops11 (lsts 0)).contains 0 = true := by kernel_rfl
theorem ls_0 : (lsts 0).setIfInBounds 0 true = lsts 1 := by kernel_rfl
theorem op_1 : ops11[1]? = some { dst := some 134, op := Op.fieldAddr 28 (Operand.tmp 1) 1, type := 0, pos := "law.go:292", after := #[], guard := none } := by kernel_rfl
theorem fr_1 : Region.free .any ops11 (lsts 1) 1 = true := by kernel_rfl
theorem rdy_1 : (Region.ready .any ops11 (lsts 1)).contains 1 = true := by kernel_rfl
theorem ls_1 : (lsts 1).setIfInBounds 1 true = lsts 2 := by kernel_rfl
theorem op_2 : ops11[2]? = some { dst := some 135, op := Op.load 24 (Operand.tmp 134), type := 24, pos := "law.go:292", after := #[{ on := 1, ground := Ground.data }], guard := none } := by kernel_rfl
theorem fr_2 : Region.free .any ops11 (lsts 2) 2 = true := by kernel_rfl
theorem rdy_2 : (Region.ready .any ops11 (lsts 2)).contains 2 = true := by kernel_rfl
theorem ls_2 : (lsts 2).setIfInBounds 2 true = lsts 3 := by kernel_rfl
theorem op_3 : ops11[3]? = some { dst := some 136, op := Op.fieldAddr 28 (Operand.tmp 1) 2, type := 0, pos := "law.go:292", after := #[], guard := none } := by kernel_rfl
theorem fr_3 : Region.free .any ops11 (lsts 3) 3 = true := by kernel_rfl
theorem rdy_3 : (Region.ready .any ops11 (lsts 3)).contains 3 = true := by kernel_rfl
theorem ls_3 : (lsts 3).setIfInBounds 3 true = lsts 4 := by kernel_rfl
theorem op_4 : ops11[4]? = some { dst := some 137, op := Op.load 9 (Operand.tmp 136), type := 9, pos := "law.go:292", after := #[{ on := 3, ground := Ground.data }], guard := none } := by kernel_rfl
theorem fr_4 : Region.free .any ops11 (lsts 4) 4 = true := by kernel_rfl
theorem rdy_4 : (Region.ready .any ops11 (lsts 4)).contains 4 = true := by kernel_rfl
theorem ls_4 : (lsts 4).setIfInBounds 4 true = lsts 5 := by kernel_rfl
theorem op_5 : ops11[5]? = some { dst := some 138, op := Op.fieldAddr 28 (Operand.tmp 1) 4, type := 0, pos := "law.go:292", after := #[], guard := none } := by kernel_rfl
theorem fr_5 : Region.free .any ops11 (lsts 5) 5 = true := by kernel_rfl
theorem rdy_5 : (Region.ready .any ops11 (lsts 5)).contains 5 = true := by kernel_rfl
theorem ls_5 : (lsts 5).setIfInBounds 5 true = lsts 6 := by kernel_rfl
theorem op_6 : ops11[6]? = some { dst := some 139, op := Op.load 3 (Operand.tmp 138), type := 3, pos := "law.go:292", after := #[{ on := 5, ground := Ground.data }], guard := none } := by kernel_rfl
theorem fr_6 : Region.free .any ops11 (lsts 6) 6 = true := by kernel_rfl
theorem rdy_6 : (Region.ready .any ops11 (lsts 6)).contains 6 = true := by kernel_rfl
theorem ls_6 : (lsts 6).setIfInBounds 6 true = lsts 7 := by kernel_rfl
theorem op_8 : ops11[8]? = some { dst := some 141, op := Op.move (Operand.tmp 4), type := 29, pos := "law.go:292", after := #[], guard := none } := by kernel_rfl
theorem fr_8 : Region.free .any ops11 (lsts 7) 8 = true := by kernel_rfl
theorem rdy_8 : (Region.ready .any ops11 (lsts 7)).contains 8 = true := by kernel_rfl
theorem ls_7 : (lsts 7).setIfInBounds 8 true = lsts 8 := by kernel_rfl
theorem op_9 : ops11[9]? = some { dst := some 142, op := Op.fieldAddr 28 (Operand.tmp 1) 1, type := 0, pos := "law.go:292", after := #[], guard := none } := by kernel_rfl
theorem fr_9 : Region.free .any ops11 (lsts 8) 9 = true := by kernel_rfl
theorem rdy_9 : (Region.ready .any ops11 (lsts 8)).contains 9 = true := by kernel_rfl
theorem ls_8 : (lsts 8).setIfInBounds 9 true = lsts 9 := by kernel_rfl
theorem op_10 : ops11[10]? = some { dst := some 143, op := Op.load 24 (Operand.tmp 142), type := 24, pos := "law.go:292", after := #[{ on := 9, ground := Ground.data }], guard := none } := by kernel_rfl
theorem fr_10 : Region.free .any ops11 (lsts 9) 10 = true := by kernel_rfl
theorem rdy_10 : (Region.ready .any ops11 (lsts 9)).contains 10 = true := by kernel_rfl
theorem ls_9 : (lsts 9).setIfInBounds 10 true = lsts 10 := by kernel_rfl
theorem op_11 : ops11[11]? = some { dst := some 144, op := Op.fieldAddr 28 (Operand.tmp 1) 2, type := 0, pos := "law.go:292", after := #[], guard := none } := by kernel_rfl
theorem fr_11 : Region.free .any ops11 (lsts 10) 11 = true := by kernel_rfl
theorem rdy_11 : (Region.ready .any ops11 (lsts 10)).contains 11 = true := by kernel_rfl
theorem ls_10 : (lsts 10).setIfInBounds 11 true = lsts 11 := by kernel_rfl
theorem op_12 : ops11[12]? = some { dst := some 145, op := Op.load 9 (Operand.tmp 144), type := 9, pos := "law.go:292", after := #[{ on := 11, ground := Ground.data }], guard := none } := by kernel_rfl
theorem fr_12 : Region.free .any ops11 (lsts 11) 12 = true := by kernel_rfl
theorem rdy_12 : (Region.ready .any ops11 (lsts 11)).contains 12 = true := by kernel_rfl
theorem ls_11 : (lsts 11).setIfInBounds 12 true = lsts 12 := by kernel_rfl
theorem op_13 : ops11[13]? = some { dst := some 146, op := Op.fieldAddr 28 (Operand.tmp 1) 6, type := 0, pos := "law.go:292", after := #[], guard := none } := by kernel_rfl
theorem fr_13 : Region.free .any ops11 (lsts 12) 13 = true := by kernel_rfl
theorem rdy_13 : (Region.ready .any ops11 (lsts 12)).contains 13 = true := by kernel_rfl
theorem ls_12 : (lsts 12).setIfInBounds 13 true = lsts 13 := by kernel_rfl
theorem op_14 : ops11[14]? = some { dst := some 147, op := Op.load 25 (Operand.tmp 146), type := 25, pos := "law.go:292", after := #[{ on := 13, ground := Ground.data }], guard := none } := by kernel_rfl
theorem fr_14 : Region.free .any ops11 (lsts 13) 14 = true := by kernel_rfl
theorem rdy_14 : (Region.ready .any ops11 (lsts 13)).contains 14 = true := by kernel_rfl
theorem ls_13 : (lsts 13).setIfInBounds 14 true = lsts 14 := by kernel_rfl
theorem op_16 : ops11[16]? = some { dst := some 149, op := Op.move (Operand.tmp 4), type := 29, pos := "law.go:292", after := #[], guard := none } := by kernel_rfl
theorem fr_16 : Region.free .any ops11 (lsts 14) 16 = true := by kernel_rfl
theorem rdy_16 : (Region.ready .any ops11 (lsts 14)).contains 16 = true := by kernel_rfl
theorem ls_14 : (lsts 14).setIfInBounds 16 true = lsts 15 := by kernel_rfl
theorem op_17 : ops11[17]? = some { dst := some 150, op := Op.fieldAddr 28 (Operand.tmp 1) 1, type := 0, pos := "law.go:292", after := #[], guard := none } := by kernel_rfl
theorem fr_17 : Region.free .any ops11 (lsts 15) 17 = true := by kernel_rfl
theorem rdy_17 : (Region.ready .any ops11 (lsts 15)).contains 17 = true := by kernel_rfl
theorem ls_15 : (lsts 15).setIfInBounds 17 true = lsts 16 := by kernel_rfl
theorem op_18 : ops11[18]? = some { dst := some 151, op := Op.load 24 (Operand.tmp 150), type := 24, pos := "law.go:292", after := #[{ on := 17, ground := Ground.data }], guard := none } := by kernel_rfl
theorem fr_18 : Region.free .any ops11 (lsts 16) 18 = true := by kernel_rfl
theorem rdy_18 : (Region.ready .any ops11 (lsts 16)).contains 18 = true := by kernel_rfl
theorem ls_16 : (lsts 16).setIfInBounds 18 true = lsts 17 := by kernel_rfl
theorem op_19 : ops11[19]? = some { dst := some 152, op := Op.fieldAddr 28 (Operand.tmp 1) 2, type := 0, pos := "law.go:292", after := #[], guard := none } := by kernel_rfl
theorem fr_19 : Region.free .any ops11 (lsts 17) 19 = true := by kernel_rfl
theorem rdy_19 : (Region.ready .any ops11 (lsts 17)).contains 19 = true := by kernel_rfl
theorem ls_17 : (lsts 17).setIfInBounds 19 true = lsts 18 := by kernel_rfl
theorem op_20 : ops11[20]? = some { dst := some 153, op := Op.load 9 (Operand.tmp 152), type := 9, pos := "law.go:292", after := #[{ on := 19, ground := Ground.data }], guard := none } := by kernel_rfl
theorem fr_20 : Region.free .any ops11 (lsts 18) 20 = true := by kernel_rfl
theorem rdy_20 : (Region.ready .any ops11 (lsts 18)).contains 20 = true := by kernel_rfl
theorem ls_18 : (lsts 18).setIfInBounds 20 true = lsts 19 := by kernel_rfl
theorem op_22 : ops11[22]? = some { dst := some 155, op := Op.move (Operand.tmp 4), type := 29, pos := "law.go:292", after := #[], guard := none } := by kernel_rfl
theorem fr_22 : Region.free .any ops11 (lsts 19) 22 = true := by kernel_rfl
theorem rdy_22 : (Region.ready .any ops11 (lsts 19)).contains 22 = true := by kernel_rfl
theorem ls_19 : (lsts 19).setIfInBounds 22 true = lsts 20 := by kernel_rfl
theorem op_23 : ops11[23]? = some { dst := some 156, op := Op.fieldAddr 28 (Operand.tmp 1) 1, type := 0, pos := "law.go:292", after := #[], guard := none } := by kernel_rfl
theorem fr_23 : Region.free .any ops11 (lsts 20) 23 = true := by kernel_rfl
theorem rdy_23 : (Region.ready .any ops11 (lsts 20)).contains 23 = true := by kernel_rfl
theorem ls_20 : (lsts 20).setIfInBounds 23 true = lsts 21 := by kernel_rfl
theorem op_24 : ops11[24]? = some { dst := some 157, op := Op.load 24 (Operand.tmp 156), type := 24, pos := "law.go:292", after := #[{ on := 23, ground := Ground.data }], guard := none } := by kernel_rfl
theorem fr_24 : Region.free .any ops11 (lsts 21) 24 = true := by kernel_rfl
theorem rdy_24 : (Region.ready .any ops11 (lsts 21)).contains 24 = true := by kernel_rfl
theorem ls_21 : (lsts 21).setIfInBounds 24 true = lsts 22 := by kernel_rfl
theorem op_25 : ops11[25]? = some { dst := some 158, op := Op.fieldAddr 28 (Operand.tmp 1) 3, type := 0, pos := "law.go:292", after := #[], guard := none } := by kernel_rfl
theorem fr_25 : Region.free .any ops11 (lsts 22) 25 = true := by kernel_rfl
theorem rdy_25 : (Region.ready .any ops11 (lsts 22)).contains 25 = true := by kernel_rfl
theorem ls_22 : (lsts 22).setIfInBounds 25 true = lsts 23 := by kernel_rfl
theorem op_26 : ops11[26]? = some { dst := some 159, op := Op.load 9 (Operand.tmp 158), type := 9, pos := "law.go:292", after := #[{ on := 25, ground := Ground.data }], guard := none } := by kernel_rfl
theorem fr_26 : Region.free .any ops11 (lsts 23) 26 = true := by kernel_rfl
theorem rdy_26 : (Region.ready .any ops11 (lsts 23)).contains 26 = true := by kernel_rfl
theorem ls_23 : (lsts 23).setIfInBounds 26 true = lsts 24 := by kernel_rfl
theorem op_27 : ops11[27]? = some { dst := some 160, op := Op.fieldAddr 28 (Operand.tmp 1) 2, type := 0, pos := "law.go:292", after := #[], guard := none } := by kernel_rfl
theorem fr_27 : Region.free .any ops11 (lsts 24) 27 = true := by kernel_rfl
theorem rdy_27 : (Region.ready .any ops11 (lsts 24)).contains 27 = true := by kernel_rfl
theorem ls_24 : (lsts 24).setIfInBounds 27 true = lsts 25 := by kernel_rfl
theorem op_28 : ops11[28]? = some { dst := some 161, op := Op.load 9 (Operand.tmp 160), type := 9, pos := "law.go:292", after := #[{ on := 27, ground := Ground.data }], guard := none } := by kernel_rfl
theorem fr_28 : Region.free .any ops11 (lsts 25) 28 = true := by kernel_rfl
theorem rdy_28 : (Region.ready .any ops11 (lsts 25)).contains 28 = true := by kernel_rfl
theorem ls_25 : (lsts 25).setIfInBounds 28 true = lsts 26 := by kernel_rfl
theorem op_30 : ops11[30]? = some { dst := some 163, op := Op.move (Operand.tmp 4), type := 29, pos := "law.go:292", after := #[], guard := none } := by kernel_rfl
theorem fr_30 : Region.free .any ops11 (lsts 26) 30 = true := by kernel_rfl
theorem rdy_30 : (Region.ready .any ops11 (lsts 26)).contains 30 = true := by kernel_rfl
theorem ls_26 : (lsts 26).setIfInBounds 30 true = lsts 27 := by kernel_rfl
theorem op_31 : ops11[31]? = some { dst := some 164, op := Op.fieldAddr 28 (Operand.tmp 1) 1, type := 0, pos := "law.go:292", after := #[], guard := none } := by kernel_rfl
theorem fr_31 : Region.free .any ops11 (lsts 27) 31 = true := by kernel_rfl
theorem rdy_31 : (Region.ready .any ops11 (lsts 27)).contains 31 = true := by kernel_rfl
theorem ls_27 : (lsts 27).setIfInBounds 31 true = lsts 28 := by kernel_rfl
theorem op_32 : ops11[32]? = some { dst := some 165, op := Op.load 24 (Operand.tmp 164), type := 24, pos := "law.go:292", after := #[{ on := 31, ground := Ground.data }], guard := none } := by kernel_rfl
theorem fr_32 : Region.free .any ops11 (lsts 28) 32 = true := by kernel_rfl
theorem rdy_32 : (Region.ready .any ops11 (lsts 28)).contains 32 = true := by kernel_rfl
theorem ls_28 : (lsts 28).setIfInBounds 32 true = lsts 29 := by kernel_rfl
theorem op_33 : ops11[33]? = some { dst := some 166, op := Op.fieldAddr 28 (Operand.tmp 1) 3, type := 0, pos := "law.go:292", after := #[], guard := none } := by kernel_rfl
theorem fr_33 : Region.free .any ops11 (lsts 29) 33 = true := by kernel_rfl
theorem rdy_33 : (Region.ready .any ops11 (lsts 29)).contains 33 = true := by kernel_rfl
theorem ls_29 : (lsts 29).setIfInBounds 33 true = lsts 30 := by kernel_rfl
theorem op_34 : ops11[34]? = some { dst := some 167, op := Op.load 9 (Operand.tmp 166), type := 9, pos := "law.go:292", after := #[{ on := 33, ground := Ground.data }], guard := none } := by kernel_rfl
theorem fr_34 : Region.free .any ops11 (lsts 30) 34 = true := by kernel_rfl
theorem rdy_34 : (Region.ready .any ops11 (lsts 30)).contains 34 = true := by kernel_rfl
theorem ls_30 : (lsts 30).setIfInBounds 34 true = lsts 31 := by kernel_rfl
theorem op_35 : ops11[35]? = some { dst := some 168, op := Op.fieldAddr 28 (Operand.tmp 1) 2, type := 0, pos := "law.go:292", after := #[], guard := none } := by kernel_rfl
theorem fr_35 : Region.free .any ops11 (lsts 31) 35 = true := by kernel_rfl
theorem rdy_35 : (Region.ready .any ops11 (lsts 31)).contains 35 = true := by kernel_rfl
theorem ls_31 : (lsts 31).setIfInBounds 35 true = lsts 32 := by kernel_rfl
theorem op_36 : ops11[36]? = some { dst := some 169, op := Op.load 9 (Operand.tmp 168), type := 9, pos := "law.go:292", after := #[{ on := 35, ground := Ground.data }], guard := none } := by kernel_rfl
theorem fr_36 : Region.free .any ops11 (lsts 32) 36 = true := by kernel_rfl
theorem rdy_36 : (Region.ready .any ops11 (lsts 32)).contains 36 = true := by kernel_rfl
theorem ls_32 : (lsts 32).setIfInBounds 36 true = lsts 33 := by kernel_rfl
theorem op_38 : ops11[38]? = some { dst := some 171, op := Op.move (Operand.tmp 4), type := 29, pos := "law.go:292", after := #[], guard := none } := by kernel_rfl
theorem fr_38 : Region.free .any ops11 (lsts 33) 38 = true := by kernel_rfl
theorem rdy_38 : (Region.ready .any ops11 (lsts 33)).contains 38 = true := by kernel_rfl
theorem ls_33 : (lsts 33).setIfInBounds 38 true = lsts 34 := by kernel_rfl
theorem op_39 : ops11[39]? = some { dst := some 172, op := Op.fieldAddr 28 (Operand.tmp 1) 1, type := 0, pos := "law.go:292", after := #[], guard := none } := by kernel_rfl
theorem fr_39 : Region.free .any ops11 (lsts 34) 39 = true := by kernel_rfl
theorem rdy_39 : (Region.ready .any ops11 (lsts 34)).contains 39 = true := by kernel_rfl
theorem ls_34 : (lsts 34).setIfInBounds 39 true = lsts 35 := by kernel_rfl
theorem op_40 : ops11[40]? = some { dst := some 173, op := Op.load 24 (Operand.tmp 172), type := 24, pos := "law.go:292", after := #[{ on := 39, ground := Ground.data }], guard := none } := by kernel_rfl
theorem fr_40 : Region.free .any ops11 (lsts 35) 40 = true := by kernel_rfl
theorem rdy_40 : (Region.ready .any ops11 (lsts 35)).contains 40 = true := by kernel_rfl
theorem ls_35 : (lsts 35).setIfInBounds 40 true = lsts 36 := by kernel_rfl
theorem op_41 : ops11[41]? = some { dst := some 174, op := Op.fieldAddr 28 (Operand.tmp 1) 2, type := 0, pos := "law.go:292", after := #[], guard := none } := by kernel_rfl
theorem fr_41 : Region.free .any ops11 (lsts 36) 41 = true := by kernel_rfl
theorem rdy_41 : (Region.ready .any ops11 (lsts 36)).contains 41 = true := by kernel_rfl
theorem ls_36 : (lsts 36).setIfInBounds 41 true = lsts 37 := by kernel_rfl
theorem op_42 : ops11[42]? = some { dst := some 175, op := Op.load 9 (Operand.tmp 174), type := 9, pos := "law.go:292", after := #[{ on := 41, ground := Ground.data }], guard := none } := by kernel_rfl
theorem fr_42 : Region.free .any ops11 (lsts 37) 42 = true := by kernel_rfl
theorem rdy_42 : (Region.ready .any ops11 (lsts 37)).contains 42 = true := by kernel_rfl
theorem ls_37 : (lsts 37).setIfInBounds 42 true = lsts 38 := by kernel_rfl
theorem op_44 : ops11[44]? = some { dst := some 177, op := Op.move (Operand.tmp 4), type := 29, pos := "law.go:292", after := #[], guard := none } := by kernel_rfl
theorem fr_44 : Region.free .any ops11 (lsts 38) 44 = true := by kernel_rfl
theorem rdy_44 : (Region.ready .any ops11 (lsts 38)).contains 44 = true := by kernel_rfl
theorem ls_38 : (lsts 38).setIfInBounds 44 true = lsts 39 := by kernel_rfl
theorem op_45 : ops11[45]? = some { dst := some 178, op := Op.fieldAddr 28 (Operand.tmp 1) 1, type := 0, pos := "law.go:292", after := #[], guard := none } := by kernel_rfl
theorem fr_45 : Region.free .any ops11 (lsts 39) 45 = true := by kernel_rfl
theorem rdy_45 : (Region.ready .any ops11 (lsts 39)).contains 45 = true := by kernel_rfl
theorem ls_39 : (lsts 39).setIfInBounds 45 true = lsts 40 := by kernel_rfl
theorem op_46 : ops11[46]? = some { dst := some 179, op := Op.load 24 (Operand.tmp 178), type := 24, pos := "law.go:292", after := #[{ on := 45, ground := Ground.data }], guard := none } := by kernel_rfl
theorem fr_46 : Region.free .any ops11 (lsts 40) 46 = true := by kernel_rfl
theorem rdy_46 : (Region.ready .any ops11 (lsts 40)).contains 46 = true := by kernel_rfl
theorem ls_40 : (lsts 40).setIfInBounds 46 true = lsts 41 := by kernel_rfl
theorem op_47 : ops11[47]? = some { dst := some 180, op := Op.fieldAddr 28 (Operand.tmp 1) 3, type := 0, pos := "law.go:292", after := #[], guard := none } := by kernel_rfl
theorem fr_47 : Region.free .any ops11 (lsts 41) 47 = true := by kernel_rfl
theorem rdy_47 : (Region.ready .any ops11 (lsts 41)).contains 47 = true := by kernel_rfl
theorem ls_41 : (lsts 41).setIfInBounds 47 true = lsts 42 := by kernel_rfl
theorem op_48 : ops11[48]? = some { dst := some 181, op := Op.load 9 (Operand.tmp 180), type := 9, pos := "law.go:292", after := #[{ on := 47, ground := Ground.data }], guard := none } := by kernel_rfl
theorem fr_48 : Region.free .any ops11 (lsts 42) 48 = true := by kernel_rfl
theorem rdy_48 : (Region.ready .any ops11 (lsts 42)).contains 48 = true := by kernel_rfl
theorem ls_42 : (lsts 42).setIfInBounds 48 true = lsts 43 := by kernel_rfl
theorem op_49 : ops11[49]? = some { dst := some 182, op := Op.fieldAddr 28 (Operand.tmp 1) 2, type := 0, pos := "law.go:292", after := #[], guard := none } := by kernel_rfl
theorem fr_49 : Region.free .any ops11 (lsts 43) 49 = true := by kernel_rfl
theorem rdy_49 : (Region.ready .any ops11 (lsts 43)).contains 49 = true := by kernel_rfl
theorem ls_43 : (lsts 43).setIfInBounds 49 true = lsts 44 := by kernel_rfl
theorem op_50 : ops11[50]? = some { dst := some 183, op := Op.load 9 (Operand.tmp 182), type := 9, pos := "law.go:292", after := #[{ on := 49, ground := Ground.data }], guard := none } := by kernel_rfl
theorem fr_50 : Region.free .any ops11 (lsts 44) 50 = true := by kernel_rfl
theorem rdy_50 : (Region.ready .any ops11 (lsts 44)).contains 50 = true := by kernel_rfl
theorem ls_44 : (lsts 44).setIfInBounds 50 true = lsts 45 := by kernel_rfl
theorem op_52 : ops11[52]? = some { dst := some 185, op := Op.move (Operand.tmp 4), type := 29, pos := "law.go:292", after := #[], guard := none } := by kernel_rfl
theorem fr_52 : Region.free .any ops11 (lsts 45) 52 = true := by kernel_rfl
theorem rdy_52 : (Region.ready .any ops11 (lsts 45)).contains 52 = true := by kernel_rfl
theorem ls_45 : (lsts 45).setIfInBounds 52 true = lsts 46 := by kernel_rfl
theorem op_53 : ops11[53]? = some { dst := some 186, op := Op.fieldAddr 28 (Operand.tmp 1) 1, type := 0, pos := "law.go:292", after := #[], guard := none } := by kernel_rfl
theorem fr_53 : Region.free .any ops11 (lsts 46) 53 = true := by kernel_rfl
theorem rdy_53 : (Region.ready .any ops11 (lsts 46)).contains 53 = true := by kernel_rfl
theorem ls_46 : (lsts 46).setIfInBounds 53 true = lsts 47 := by kernel_rfl
theorem op_54 : ops11[54]? = some { dst := some 187, op := Op.load 24 (Operand.tmp 186), type := 24, pos := "law.go:292", after := #[{ on := 53, ground := Ground.data }], guard := none } := by kernel_rfl
theorem fr_54 : Region.free .any ops11 (lsts 47) 54 = true := by kernel_rfl
theorem rdy_54 : (Region.ready .any ops11 (lsts 47)).contains 54 = true := by kernel_rfl
theorem ls_47 : (lsts 47).setIfInBounds 54 true = lsts 48 := by kernel_rfl
theorem op_55 : ops11[55]? = some { dst := some 188, op := Op.fieldAddr 28 (Operand.tmp 1) 2, type := 0, pos := "law.go:292", after := #[], guard := none } := by kernel_rfl
theorem fr_55 : Region.free .any ops11 (lsts 48) 55 = true := by kernel_rfl
theorem rdy_55 : (Region.ready .any ops11 (lsts 48)).contains 55 = true := by kernel_rfl
theorem ls_48 : (lsts 48).setIfInBounds 55 true = lsts 49 := by kernel_rfl
theorem op_56 : ops11[56]? = some { dst := some 189, op := Op.load 9 (Operand.tmp 188), type := 9, pos := "law.go:292", after := #[{ on := 55, ground := Ground.data }], guard := none } := by kernel_rfl
theorem fr_56 : Region.free .any ops11 (lsts 49) 56 = true := by kernel_rfl
theorem rdy_56 : (Region.ready .any ops11 (lsts 49)).contains 56 = true := by kernel_rfl
theorem ls_49 : (lsts 49).setIfInBounds 56 true = lsts 50 := by kernel_rfl
theorem op_57 : ops11[57]? = some { dst := some 190, op := Op.fieldAddr 28 (Operand.tmp 1) 6, type := 0, pos := "law.go:292", after := #[], guard := none } := by kernel_rfl
theorem fr_57 : Region.free .any ops11 (lsts 50) 57 = true := by kernel_rfl
theorem rdy_57 : (Region.ready .any ops11 (lsts 50)).contains 57 = true := by kernel_rfl
theorem ls_50 : (lsts 50).setIfInBounds 57 true = lsts 51 := by kernel_rfl
theorem op_58 : ops11[58]? = some { dst := some 191, op := Op.load 25 (Operand.tmp 190), type := 25, pos := "law.go:292", after := #[{ on := 57, ground := Ground.data }], guard := none } := by kernel_rfl
theorem fr_58 : Region.free .any ops11 (lsts 51) 58 = true := by kernel_rfl
theorem rdy_58 : (Region.ready .any ops11 (lsts 51)).contains 58 = true := by kernel_rfl
theorem ls_51 : (lsts 51).setIfInBounds 58 true = lsts 52 := by kernel_rfl
theorem op_60 : ops11[60]? = some { dst := some 193, op := Op.move (Operand.tmp 4), type := 29, pos := "law.go:292", after := #[], guard := none } := by kernel_rfl
theorem fr_60 : Region.free .any ops11 (lsts 52) 60 = true := by kernel_rfl
theorem rdy_60 : (Region.ready .any ops11 (lsts 52)).contains 60 = true := by kernel_rfl
theorem ls_52 : (lsts 52).setIfInBounds 60 true = lsts 53 := by kernel_rfl
theorem op_61 : ops11[61]? = some { dst := some 194, op := Op.fieldAddr 28 (Operand.tmp 1) 1, type := 0, pos := "law.go:292", after := #[], guard := none } := by kernel_rfl
theorem fr_61 : Region.free .any ops11 (lsts 53) 61 = true := by kernel_rfl
theorem rdy_61 : (Region.ready .any ops11 (lsts 53)).contains 61 = true := by kernel_rfl
theorem ls_53 : (lsts 53).setIfInBounds 61 true = lsts 54 := by kernel_rfl
theorem op_62 : ops11[62]? = some { dst := some 195, op := Op.load 24 (Operand.tmp 194), type := 24, pos := "law.go:292", after := #[{ on := 61, ground := Ground.data }], guard := none } := by kernel_rfl
theorem fr_62 : Region.free .any ops11 (lsts 54) 62 = true := by kernel_rfl
theorem rdy_62 : (Region.ready .any ops11 (lsts 54)).contains 62 = true := by kernel_rfl
theorem ls_54 : (lsts 54).setIfInBounds 62 true = lsts 55 := by kernel_rfl
theorem op_63 : ops11[63]? = some { dst := some 196, op := Op.fieldAddr 28 (Operand.tmp 1) 2, type := 0, pos := "law.go:292", after := #[], guard := none } := by kernel_rfl
theorem fr_63 : Region.free .any ops11 (lsts 55) 63 = true := by kernel_rfl
theorem rdy_63 : (Region.ready .any ops11 (lsts 55)).contains 63 = true := by kernel_rfl
theorem ls_55 : (lsts 55).setIfInBounds 63 true = lsts 56 := by kernel_rfl
theorem op_64 : ops11[64]? = some { dst := some 197, op := Op.load 9 (Operand.tmp 196), type := 9, pos := "law.go:292", after := #[{ on := 63, ground := Ground.data }], guard := none } := by kernel_rfl
theorem fr_64 : Region.free .any ops11 (lsts 56) 64 = true := by kernel_rfl
theorem rdy_64 : (Region.ready .any ops11 (lsts 56)).contains 64 = true := by kernel_rfl
theorem ls_56 : (lsts 56).setIfInBounds 64 true = lsts 57 := by kernel_rfl
theorem op_65 : ops11[65]? = some { dst := some 198, op := Op.fieldAddr 28 (Operand.tmp 1) 4, type := 0, pos := "law.go:292", after := #[], guard := none } := by kernel_rfl
theorem fr_65 : Region.free .any ops11 (lsts 57) 65 = true := by kernel_rfl
theorem rdy_65 : (Region.ready .any ops11 (lsts 57)).contains 65 = true := by kernel_rfl
theorem ls_57 : (lsts 57).setIfInBounds 65 true = lsts 58 := by kernel_rfl
theorem op_66 : ops11[66]? = some { dst := some 199, op := Op.load 3 (Operand.tmp 198), type := 3, pos := "law.go:292", after := #[{ on := 65, ground := Ground.data }], guard := none } := by kernel_rfl
theorem fr_66 : Region.free .any ops11 (lsts 58) 66 = true := by kernel_rfl
theorem rdy_66 : (Region.ready .any ops11 (lsts 58)).contains 66 = true := by kernel_rfl
theorem ls_58 : (lsts 58).setIfInBounds 66 true = lsts 59 := by kernel_rfl
theorem op_67 : ops11[67]? = some { dst := some 200, op := Op.fieldAddr 28 (Operand.tmp 1) 5, type := 0, pos := "law.go:292", after := #[], guard := none } := by kernel_rfl
theorem fr_67 : Region.free .any ops11 (lsts 59) 67 = true := by kernel_rfl
theorem rdy_67 : (Region.ready .any ops11 (lsts 59)).contains 67 = true := by kernel_rfl
theorem ls_59 : (lsts 59).setIfInBounds 67 true = lsts 60 := by kernel_rfl
theorem op_68 : ops11[68]? = some { dst := some 201, op := Op.load 3 (Operand.tmp 200), type := 3, pos := "law.go:292", after := #[{ on := 67, ground := Ground.data }], guard := none } := by kernel_rfl
theorem fr_68 : Region.free .any ops11 (lsts 60) 68 = true := by kernel_rfl
theorem rdy_68 : (Region.ready .any ops11 (lsts 60)).contains 68 = true := by kernel_rfl
theorem ls_60 : (lsts 60).setIfInBounds 68 true = lsts 61 := by kernel_rfl
theorem op_69 : ops11[69]? = some { dst := some 202, op := Op.fieldAddr 28 (Operand.tmp 1) 10, type := 0, pos := "law.go:292", after := #[], guard := none } := by kernel_rfl
theorem fr_69 : Region.free .any ops11 (lsts 61) 69 = true := by kernel_rfl
theorem rdy_69 : (Region.ready .any ops11 (lsts 61)).contains 69 = true := by kernel_rfl
theorem ls_61 : (lsts 61).setIfInBounds 69 true = lsts 62 := by kernel_rfl
theorem op_70 : ops11[70]? = some { dst := some 203, op := Op.load 4 (Operand.tmp 202), type := 4, pos := "law.go:292", after := #[{ on := 69, ground := Ground.data }], guard := none } := by kernel_rfl
theorem fr_70 : Region.free .any ops11 (lsts 62) 70 = true := by kernel_rfl
theorem rdy_70 : (Region.ready .any ops11 (lsts 62)).contains 70 = true := by kernel_rfl
theorem ls_62 : (lsts 62).setIfInBounds 70 true = lsts 63 := by kernel_rfl
theorem op_72 : ops11[72]? = some { dst := some 205, op := Op.move (Operand.tmp 4), type := 29, pos := "law.go:292", after := #[], guard := none } := by kernel_rfl
theorem fr_72 : Region.free .any ops11 (lsts 63) 72 = true := by kernel_rfl
theorem rdy_72 : (Region.ready .any ops11 (lsts 63)).contains 72 = true := by kernel_rfl
theorem ls_63 : (lsts 63).setIfInBounds 72 true = lsts 64 := by kernel_rfl
theorem op_73 : ops11[73]? = some { dst := some 206, op := Op.fieldAddr 28 (Operand.tmp 1) 1, type := 0, pos := "law.go:292", after := #[], guard := none } := by kernel_rfl
theorem fr_73 : Region.free .any ops11 (lsts 64) 73 = true := by kernel_rfl
theorem rdy_73 : (Region.ready .any ops11 (lsts 64)).contains 73 = true := by kernel_rfl
theorem ls_64 : (lsts 64).setIfInBounds 73 true = lsts 65 := by kernel_rfl
theorem op_74 : ops11[74]? = some { dst := some 207, op := Op.load 24 (Operand.tmp 206), type := 24, pos := "law.go:292", after := #[{ on := 73, ground := Ground.data }], guard := none } := by kernel_rfl
theorem fr_74 : Region.free .any ops11 (lsts 65) 74 = true := by kernel_rfl
theorem rdy_74 : (Region.ready .any ops11 (lsts 65)).contains 74 = true := by kernel_rfl
theorem ls_65 : (lsts 65).setIfInBounds 74 true = lsts 66 := by kernel_rfl
theorem op_75 : ops11[75]? = some { dst := some 208, op := Op.fieldAddr 28 (Operand.tmp 1) 2, type := 0, pos := "law.go:292", after := #[], guard := none } := by kernel_rfl
theorem fr_75 : Region.free .any ops11 (lsts 66) 75 = true := by kernel_rfl
theorem rdy_75 : (Region.ready .any ops11 (lsts 66)).contains 75 = true := by kernel_rfl
theorem ls_66 : (lsts 66).setIfInBounds 75 true = lsts 67 := by kernel_rfl
theorem op_76 : ops11[76]? = some { dst := some 209, op := Op.load 9 (Operand.tmp 208), type := 9, pos := "law.go:292", after := #[{ on := 75, ground := Ground.data }], guard := none } := by kernel_rfl
theorem fr_76 : Region.free .any ops11 (lsts 67) 76 = true := by kernel_rfl
theorem rdy_76 : (Region.ready .any ops11 (lsts 67)).contains 76 = true := by kernel_rfl
theorem ls_67 : (lsts 67).setIfInBounds 76 true = lsts 68 := by kernel_rfl
theorem op_77 : ops11[77]? = some { dst := some 210, op := Op.fieldAddr 28 (Operand.tmp 1) 8, type := 0, pos := "law.go:292", after := #[], guard := none } := by kernel_rfl
theorem fr_77 : Region.free .any ops11 (lsts 68) 77 = true := by kernel_rfl
theorem rdy_77 : (Region.ready .any ops11 (lsts 68)).contains 77 = true := by kernel_rfl
theorem ls_68 : (lsts 68).setIfInBounds 77 true = lsts 69 := by kernel_rfl
theorem op_78 : ops11[78]? = some { dst := some 211, op := Op.load 2 (Operand.tmp 210), type := 2, pos := "law.go:292", after := #[{ on := 77, ground := Ground.data }], guard := none } := by kernel_rfl
theorem fr_78 : Region.free .any ops11 (lsts 69) 78 = true := by kernel_rfl
theorem rdy_78 : (Region.ready .any ops11 (lsts 69)).contains 78 = true := by kernel_rfl
theorem ls_69 : (lsts 69).setIfInBounds 78 true = lsts 70 := by kernel_rfl
theorem op_79 : ops11[79]? = some { dst := some 212, op := Op.fieldAddr 28 (Operand.tmp 1) 9, type := 0, pos := "law.go:292", after := #[], guard := none } := by kernel_rfl
theorem fr_79 : Region.free .any ops11 (lsts 70) 79 = true := by kernel_rfl
theorem rdy_79 : (Region.ready .any ops11 (lsts 70)).contains 79 = true := by kernel_rfl
theorem ls_70 : (lsts 70).setIfInBounds 79 true = lsts 71 := by kernel_rfl
theorem op_80 : ops11[80]? = some { dst := some 213, op := Op.load 2 (Operand.tmp 212), type := 2, pos := "law.go:292", after := #[{ on := 79, ground := Ground.data }], guard := none } := by kernel_rfl
theorem fr_80 : Region.free .any ops11 (lsts 71) 80 = true := by kernel_rfl
theorem rdy_80 : (Region.ready .any ops11 (lsts 71)).contains 80 = true := by kernel_rfl
theorem ls_71 : (lsts 71).setIfInBounds 80 true = lsts 72 := by kernel_rfl
theorem op_81 : ops11[81]? = some { dst := some 214, op := Op.fieldAddr 28 (Operand.tmp 1) 10, type := 0, pos := "law.go:292", after := #[], guard := none } := by kernel_rfl
theorem fr_81 : Region.free .any ops11 (lsts 72) 81 = true := by kernel_rfl
theorem rdy_81 : (Region.ready .any ops11 (lsts 72)).contains 81 = true := by kernel_rfl
theorem ls_72 : (lsts 72).setIfInBounds 81 true = lsts 73 := by kernel_rfl
theorem op_82 : ops11[82]? = some { dst := some 215, op := Op.load 4 (Operand.tmp 214), type := 4, pos := "law.go:292", after := #[{ on := 81, ground := Ground.data }], guard := none } := by kernel_rfl
theorem fr_82 : Region.free .any ops11 (lsts 73) 82 = true := by kernel_rfl
theorem rdy_82 : (Region.ready .any ops11 (lsts 73)).contains 82 = true := by kernel_rfl
theorem ls_73 : (lsts 73).setIfInBounds 82 true = lsts 74 := by kernel_rfl
theorem op_84 : ops11[84]? = some { dst := some 217, op := Op.move (Operand.tmp 4), type := 29, pos := "law.go:292", after := #[], guard := none } := by kernel_rfl
theorem fr_84 : Region.free .any ops11 (lsts 74) 84 = true := by kernel_rfl
theorem rdy_84 : (Region.ready .any ops11 (lsts 74)).contains 84 = true := by kernel_rfl
theorem ls_74 : (lsts 74).setIfInBounds 84 true = lsts 75 := by kernel_rfl
theorem op_85 : ops11[85]? = some { dst := some 218, op := Op.fieldAddr 28 (Operand.tmp 1) 1, type := 0, pos := "law.go:292", after := #[], guard := none } := by kernel_rfl
theorem fr_85 : Region.free .any ops11 (lsts 75) 85 = true := by kernel_rfl
theorem rdy_85 : (Region.ready .any ops11 (lsts 75)).contains 85 = true := by kernel_rfl
theorem ls_75 : (lsts 75).setIfInBounds 85 true = lsts 76 := by kernel_rfl
theorem op_86 : ops11[86]? = some { dst := some 219, op := Op.load 24 (Operand.tmp 218), type := 24, pos := "law.go:292", after := #[{ on := 85, ground := Ground.data }], guard := none } := by kernel_rfl
theorem fr_86 : Region.free .any ops11 (lsts 76) 86 = true := by kernel_rfl
theorem rdy_86 : (Region.ready .any ops11 (lsts 76)).contains 86 = true := by kernel_rfl
theorem ls_76 : (lsts 76).setIfInBounds 86 true = lsts 77 := by kernel_rfl
theorem op_87 : ops11[87]? = some { dst := some 220, op := Op.fieldAddr 28 (Operand.tmp 1) 2, type := 0, pos := "law.go:292", after := #[], guard := none } := by kernel_rfl
theorem fr_87 : Region.free .any ops11 (lsts 77) 87 = true := by kernel_rfl
theorem rdy_87 : (Region.ready .any ops11 (lsts 77)).contains 87 = true := by kernel_rfl
theorem ls_77 : (lsts 77).setIfInBounds 87 true = lsts 78 := by kernel_rfl
theorem op_88 : ops11[88]? = some { dst := some 221, op := Op.load 9 (Operand.tmp 220), type := 9, pos := "law.go:292", after := #[{ on := 87, ground := Ground.data }], guard := none } := by kernel_rfl
theorem fr_88 : Region.free .any ops11 (lsts 78) 88 = true := by kernel_rfl
theorem rdy_88 : (Region.ready .any ops11 (lsts 78)).contains 88 = true := by kernel_rfl
theorem ls_78 : (lsts 78).setIfInBounds 88 true = lsts 79 := by kernel_rfl
theorem op_89 : ops11[89]? = some { dst := some 222, op := Op.fieldAddr 28 (Operand.tmp 1) 4, type := 0, pos := "law.go:292", after := #[], guard := none } := by kernel_rfl
theorem fr_89 : Region.free .any ops11 (lsts 79) 89 = true := by kernel_rfl
theorem rdy_89 : (Region.ready .any ops11 (lsts 79)).contains 89 = true := by kernel_rfl
theorem ls_79 : (lsts 79).setIfInBounds 89 true = lsts 80 := by kernel_rfl
theorem op_90 : ops11[90]? = some { dst := some 223, op := Op.load 3 (Operand.tmp 222), type := 3, pos := "law.go:292", after := #[{ on := 89, ground := Ground.data }], guard := none } := by kernel_rfl
theorem fr_90 : Region.free .any ops11 (lsts 80) 90 = true := by kernel_rfl
theorem rdy_90 : (Region.ready .any ops11 (lsts 80)).contains 90 = true := by kernel_rfl
theorem ls_80 : (lsts 80).setIfInBounds 90 true = lsts 81 := by kernel_rfl
theorem op_92 : ops11[92]? = some { dst := some 225, op := Op.move (Operand.tmp 4), type := 29, pos := "law.go:292", after := #[], guard := none } := by kernel_rfl
theorem fr_92 : Region.free .any ops11 (lsts 81) 92 = true := by kernel_rfl
theorem rdy_92 : (Region.ready .any ops11 (lsts 81)).contains 92 = true := by kernel_rfl
theorem ls_81 : (lsts 81).setIfInBounds 92 true = lsts 82 := by kernel_rfl
theorem op_93 : ops11[93]? = some { dst := some 226, op := Op.fieldAddr 28 (Operand.tmp 1) 4, type := 0, pos := "law.go:292", after := #[], guard := none } := by kernel_rfl
theorem fr_93 : Region.free .any ops11 (lsts 82) 93 = true := by kernel_rfl
theorem rdy_93 : (Region.ready .any ops11 (lsts 82)).contains 93 = true := by kernel_rfl
theorem ls_82 : (lsts 82).setIfInBounds 93 true = lsts 83 := by kernel_rfl
theorem op_94 : ops11[94]? = some { dst := some 227, op := Op.load 3 (Operand.tmp 226), type := 3, pos := "law.go:292", after := #[{ on := 93, ground := Ground.data }], guard := none } := by kernel_rfl
theorem fr_94 : Region.free .any ops11 (lsts 83) 94 = true := by kernel_rfl
theorem rdy_94 : (Region.ready .any ops11 (lsts 83)).contains 94 = true := by kernel_rfl
theorem ls_83 : (lsts 83).setIfInBounds 94 true = lsts 84 := by kernel_rfl
theorem op_96 : ops11[96]? = some { dst := some 229, op := Op.move (Operand.tmp 4), type := 29, pos := "law.go:292", after := #[], guard := none } := by kernel_rfl
theorem fr_96 : Region.free .any ops11 (lsts 84) 96 = true := by kernel_rfl
theorem rdy_96 : (Region.ready .any ops11 (lsts 84)).contains 96 = true := by kernel_rfl
theorem ls_84 : (lsts 84).setIfInBounds 96 true = lsts 85 := by kernel_rfl
theorem op_97 : ops11[97]? = some { dst := some 230, op := Op.fieldAddr 28 (Operand.tmp 1) 4, type := 0, pos := "law.go:292", after := #[], guard := none } := by kernel_rfl
theorem fr_97 : Region.free .any ops11 (lsts 85) 97 = true := by kernel_rfl
theorem rdy_97 : (Region.ready .any ops11 (lsts 85)).contains 97 = true := by kernel_rfl
theorem ls_85 : (lsts 85).setIfInBounds 97 true = lsts 86 := by kernel_rfl
theorem op_98 : ops11[98]? = some { dst := some 231, op := Op.load 3 (Operand.tmp 230), type := 3, pos := "law.go:292", after := #[{ on := 97, ground := Ground.data }], guard := none } := by kernel_rfl
theorem fr_98 : Region.free .any ops11 (lsts 86) 98 = true := by kernel_rfl
theorem rdy_98 : (Region.ready .any ops11 (lsts 86)).contains 98 = true := by kernel_rfl
theorem ls_86 : (lsts 86).setIfInBounds 98 true = lsts 87 := by kernel_rfl
theorem op_100 : ops11[100]? = some { dst := some 233, op := Op.move (Operand.tmp 4), type := 29, pos := "law.go:292", after := #[], guard := none } := by kernel_rfl
theorem fr_100 : Region.free .any ops11 (lsts 87) 100 = true := by kernel_rfl
theorem rdy_100 : (Region.ready .any ops11 (lsts 87)).contains 100 = true := by kernel_rfl
theorem ls_87 : (lsts 87).setIfInBounds 100 true = lsts 88 := by kernel_rfl
theorem op_101 : ops11[101]? = some { dst := some 234, op := Op.fieldAddr 28 (Operand.tmp 1) 4, type := 0, pos := "law.go:292", after := #[], guard := none } := by kernel_rfl
theorem fr_101 : Region.free .any ops11 (lsts 88) 101 = true := by kernel_rfl
theorem rdy_101 : (Region.ready .any ops11 (lsts 88)).contains 101 = true := by kernel_rfl
theorem ls_88 : (lsts 88).setIfInBounds 101 true = lsts 89 := by kernel_rfl
theorem op_102 : ops11[102]? = some { dst := some 235, op := Op.load 3 (Operand.tmp 234), type := 3, pos := "law.go:292", after := #[{ on := 101, ground := Ground.data }], guard := none } := by kernel_rfl
theorem fr_102 : Region.free .any ops11 (lsts 89) 102 = true := by kernel_rfl
theorem rdy_102 : (Region.ready .any ops11 (lsts 89)).contains 102 = true := by kernel_rfl
theorem ls_89 : (lsts 89).setIfInBounds 102 true = lsts 90 := by kernel_rfl
theorem op_103 : ops11[103]? = some { dst := some 236, op := Op.fieldAddr 28 (Operand.tmp 1) 5, type := 0, pos := "law.go:292", after := #[], guard := none } := by kernel_rfl
theorem fr_103 : Region.free .any ops11 (lsts 90) 103 = true := by kernel_rfl
theorem rdy_103 : (Region.ready .any ops11 (lsts 90)).contains 103 = true := by kernel_rfl
theorem ls_90 : (lsts 90).setIfInBounds 103 true = lsts 91 := by kernel_rfl
theorem op_104 : ops11[104]? = some { dst := some 237, op := Op.load 3 (Operand.tmp 236), type := 3, pos := "law.go:292", after := #[{ on := 103, ground := Ground.data }], guard := none } := by kernel_rfl
theorem fr_104 : Region.free .any ops11 (lsts 91) 104 = true := by kernel_rfl
theorem rdy_104 : (Region.ready .any ops11 (lsts 91)).contains 104 = true := by kernel_rfl
theorem ls_91 : (lsts 91).setIfInBounds 104 true = lsts 92 := by kernel_rfl
theorem op_108 : ops11[108]? = some { dst := some 241, op := Op.move (Operand.const (Value.int IntKind.i64 0)), type := 3, pos := "law.go:292", after := #[], guard := none } := by kernel_rfl
theorem fr_108 : Region.free .any ops11 (lsts 92) 108 = true := by kernel_rfl
theorem rdy_108 : (Region.ready .any ops11 (lsts 92)).contains 108 = true := by kernel_rfl
theorem ls_92 : (lsts 92).setIfInBounds 108 true = lsts 93 := by kernel_rfl
theorem op_7 : ops11[7]? = some { dst := some 140, op := Op.call { callee := Callee.value (Operand.func 10), args := #[Operand.tmp 133, Operand.tmp 135, Operand.tmp 137, Operand.tmp 139], argTypes := #[29, 24, 9, 3] }, type := 34, pos := "law.go:292", after := #[{ on := 0, ground := Ground.data }, { on := 2, ground := Ground.data }, { on := 4, ground := Ground.data }, { on := 6, ground := Ground.data }], guard := none } := by kernel_rfl
theorem al_7 : Region.ready .any ops11 (lsts 93) = [7] := by kernel_rfl
theorem ls_93 : (lsts 93).setIfInBounds 7 true = lsts 94 := by kernel_rfl
theorem op_15 : ops11[15]? = some { dst := some 148, op := Op.call { callee := Callee.value (Operand.func 11), args := #[Operand.tmp 141, Operand.tmp 143, Operand.tmp 145, Operand.tmp 147], argTypes := #[29, 24, 9, 25] }, type := 34, pos := "law.go:292", after := #[{ on := 8, ground := Ground.data }, { on := 10, ground := Ground.data }, { on := 12, ground := Ground.data }, { on := 14, ground := Ground.data }, { on := 7, ground := Ground.chain }], guard := none } := by kernel_rfl
theorem al_15 : Region.ready .any ops11 (lsts 94) = [15] := by kernel_rfl
theorem ls_94 : (lsts 94).setIfInBounds 15 true = lsts 95 := by kernel_rfl
theorem op_21 : ops11[21]? = some { dst := some 154, op := Op.call { callee := Callee.value (Operand.func 12), args := #[Operand.tmp 149, Operand.tmp 151, Operand.tmp 153], argTypes := #[29, 24, 9] }, type := 34, pos := "law.go:292", after := #[{ on := 16, ground := Ground.data }, { on := 18, ground := Ground.data }, { on := 20, ground := Ground.data }, { on := 15, ground := Ground.chain }], guard := none } := by kernel_rfl
theorem al_21 : Region.ready .any ops11 (lsts 95) = [21] := by kernel_rfl
theorem ls_95 : (lsts 95).setIfInBounds 21 true = lsts 96 := by kernel_rfl
theorem op_29 : ops11[29]? = some { dst := some 162, op := Op.call { callee := Callee.value (Operand.func 13), args := #[Operand.tmp 155, Operand.tmp 157, Operand.tmp 159, Operand.tmp 161], argTypes := #[29, 24, 9, 9] }, type := 34, pos := "law.go:292", after := #[{ on := 22, ground := Ground.data }, { on := 24, ground := Ground.data }, { on := 26, ground := Ground.data }, { on := 28, ground := Ground.data }, { on := 21, ground := Ground.chain }], guard := none } := by kernel_rfl
theorem al_29 : Region.ready .any ops11 (lsts 96) = [29] := by kernel_rfl
theorem ls_96 : (lsts 96).setIfInBounds 29 true = lsts 97 := by kernel_rfl
theorem op_37 : ops11[37]? = some { dst := some 170, op := Op.call { callee := Callee.value (Operand.func 14), args := #[Operand.tmp 163, Operand.tmp 165, Operand.tmp 167, Operand.tmp 169], argTypes := #[29, 24, 9, 9] }, type := 34, pos := "law.go:292", after := #[{ on := 30, ground := Ground.data }, { on := 32, ground := Ground.data }, { on := 34, ground := Ground.data }, { on := 36, ground := Ground.data }, { on := 29, ground := Ground.chain }], guard := none } := by kernel_rfl
theorem al_37 : Region.ready .any ops11 (lsts 97) = [37] := by kernel_rfl
theorem ls_97 : (lsts 97).setIfInBounds 37 true = lsts 98 := by kernel_rfl
theorem op_43 : ops11[43]? = some { dst := some 176, op := Op.call { callee := Callee.value (Operand.func 15), args := #[Operand.tmp 171, Operand.tmp 173, Operand.tmp 175], argTypes := #[29, 24, 9] }, type := 34, pos := "law.go:292", after := #[{ on := 38, ground := Ground.data }, { on := 40, ground := Ground.data }, { on := 42, ground := Ground.data }, { on := 37, ground := Ground.chain }], guard := none } := by kernel_rfl
theorem al_43 : Region.ready .any ops11 (lsts 98) = [43] := by kernel_rfl
theorem ls_98 : (lsts 98).setIfInBounds 43 true = lsts 99 := by kernel_rfl
theorem op_51 : ops11[51]? = some { dst := some 184, op := Op.call { callee := Callee.value (Operand.func 16), args := #[Operand.tmp 177, Operand.tmp 179, Operand.tmp 181, Operand.tmp 183], argTypes := #[29, 24, 9, 9] }, type := 34, pos := "law.go:292", after := #[{ on := 44, ground := Ground.data }, { on := 46, ground := Ground.data }, { on := 48, ground := Ground.data }, { on := 50, ground := Ground.data }, { on := 43, ground := Ground.chain }], guard := none } := by kernel_rfl
theorem al_51 : Region.ready .any ops11 (lsts 99) = [51] := by kernel_rfl
theorem ls_99 : (lsts 99).setIfInBounds 51 true = lsts 100 := by kernel_rfl
theorem op_59 : ops11[59]? = some { dst := some 192, op := Op.call { callee := Callee.value (Operand.func 17), args := #[Operand.tmp 185, Operand.tmp 187, Operand.tmp 189, Operand.tmp 191], argTypes := #[29, 24, 9, 25] }, type := 34, pos := "law.go:292", after := #[{ on := 52, ground := Ground.data }, { on := 54, ground := Ground.data }, { on := 56, ground := Ground.data }, { on := 58, ground := Ground.data }, { on := 51, ground := Ground.chain }], guard := none } := by kernel_rfl
theorem al_59 : Region.ready .any ops11 (lsts 100) = [59] := by kernel_rfl
theorem ls_100 : (lsts 100).setIfInBounds 59 true = lsts 101 := by kernel_rfl
theorem op_71 : ops11[71]? = some { dst := some 204, op := Op.call { callee := Callee.value (Operand.func 18), args := #[Operand.tmp 193, Operand.tmp 195, Operand.tmp 197, Operand.tmp 199, Operand.tmp 201, Operand.tmp 203], argTypes := #[29, 24, 9, 3, 3, 4] }, type := 34, pos := "law.go:292", after := #[{ on := 60, ground := Ground.data }, { on := 62, ground := Ground.data }, { on := 64, ground := Ground.data }, { on := 66, ground := Ground.data }, { on := 68, ground := Ground.data }, { on := 70, ground := Ground.data }, { on := 59, ground := Ground.chain }], guard := none } := by kernel_rfl
theorem al_71 : Region.ready .any ops11 (lsts 101) = [71] := by kernel_rfl
theorem ls_101 : (lsts 101).setIfInBounds 71 true = lsts 102 := by kernel_rfl
theorem op_83 : ops11[83]? = some { dst := some 216, op := Op.call { callee := Callee.value (Operand.func 19), args := #[Operand.tmp 205, Operand.tmp 207, Operand.tmp 209, Operand.tmp 211, Operand.tmp 213, Operand.tmp 215], argTypes := #[29, 24, 9, 2, 2, 4] }, type := 34, pos := "law.go:292", after := #[{ on := 72, ground := Ground.data }, { on := 74, ground := Ground.data }, { on := 76, ground := Ground.data }, { on := 78, ground := Ground.data }, { on := 80, ground := Ground.data }, { on := 82, ground := Ground.data }, { on := 71, ground := Ground.chain }], guard := none } := by kernel_rfl
theorem al_83 : Region.ready .any ops11 (lsts 102) = [83] := by kernel_rfl
theorem ls_102 : (lsts 102).setIfInBounds 83 true = lsts 103 := by kernel_rfl
theorem op_91 : ops11[91]? = some { dst := some 224, op := Op.call { callee := Callee.value (Operand.func 20), args := #[Operand.tmp 217, Operand.tmp 219, Operand.tmp 221, Operand.tmp 223], argTypes := #[29, 24, 9, 3] }, type := 34, pos := "law.go:292", after := #[{ on := 84, ground := Ground.data }, { on := 86, ground := Ground.data }, { on := 88, ground := Ground.data }, { on := 90, ground := Ground.data }, { on := 83, ground := Ground.chain }], guard := none } := by kernel_rfl
theorem al_91 : Region.ready .any ops11 (lsts 103) = [91] := by kernel_rfl
theorem ls_103 : (lsts 103).setIfInBounds 91 true = lsts 104 := by kernel_rfl
theorem op_95 : ops11[95]? = some { dst := some 228, op := Op.call { callee := Callee.value (Operand.func 21), args := #[Operand.tmp 225, Operand.tmp 227], argTypes := #[29, 3] }, type := 34, pos := "law.go:292", after := #[{ on := 92, ground := Ground.data }, { on := 94, ground := Ground.data }, { on := 91, ground := Ground.chain }], guard := none } := by kernel_rfl
theorem al_95 : Region.ready .any ops11 (lsts 104) = [95] := by kernel_rfl
theorem ls_104 : (lsts 104).setIfInBounds 95 true = lsts 105 := by kernel_rfl
theorem op_99 : ops11[99]? = some { dst := some 232, op := Op.call { callee := Callee.value (Operand.func 22), args := #[Operand.tmp 229, Operand.tmp 231], argTypes := #[29, 3] }, type := 34, pos := "law.go:292", after := #[{ on := 96, ground := Ground.data }, { on := 98, ground := Ground.data }, { on := 95, ground := Ground.chain }], guard := none } := by kernel_rfl
theorem al_99 : Region.ready .any ops11 (lsts 105) = [99] := by kernel_rfl
theorem ls_105 : (lsts 105).setIfInBounds 99 true = lsts 106 := by kernel_rfl
theorem op_105 : ops11[105]? = some { dst := some 238, op := Op.call { callee := Callee.value (Operand.func 23), args := #[Operand.tmp 233, Operand.tmp 235, Operand.tmp 237], argTypes := #[29, 3, 3] }, type := 34, pos := "law.go:292", after := #[{ on := 100, ground := Ground.data }, { on := 102, ground := Ground.data }, { on := 104, ground := Ground.data }, { on := 99, ground := Ground.chain }], guard := none } := by kernel_rfl
theorem al_105 : Region.ready .any ops11 (lsts 106) = [105] := by kernel_rfl
theorem ls_106 : (lsts 106).setIfInBounds 105 true = lsts 107 := by kernel_rfl
theorem op_106 : ops11[106]? = some { dst := some 239, op := Op.buildSlice 54 14 #[(0, Operand.tmp 140), (1, Operand.tmp 148), (2, Operand.tmp 154), (3, Operand.tmp 162), (4, Operand.tmp 170), (5, Operand.tmp 176), (6, Operand.tmp 184), (7, Operand.tmp 192), (8, Operand.tmp 204), (9, Operand.tmp 216), (10, Operand.tmp 224), (11, Operand.tmp 228), (12, Operand.tmp 232), (13, Operand.tmp 238)], type := 54, pos := "law.go:292", after := #[{ on := 7, ground := Ground.data }, { on := 15, ground := Ground.data }, { on := 21, ground := Ground.data }, { on := 29, ground := Ground.data }, { on := 37, ground := Ground.data }, { on := 43, ground := Ground.data }, { on := 51, ground := Ground.data }, { on := 59, ground := Ground.data }, { on := 71, ground := Ground.data }, { on := 83, ground := Ground.data }, { on := 91, ground := Ground.data }, { on := 95, ground := Ground.data }, { on := 99, ground := Ground.data }, { on := 105, ground := Ground.data }], guard := none } := by kernel_rfl
theorem al_106 : Region.ready .any ops11 (lsts 107) = [106] := by kernel_rfl
theorem ls_107 : (lsts 107).setIfInBounds 106 true = lsts 108 := by kernel_rfl
theorem op_107 : ops11[107]? = some { dst := some 240, op := Op.call { callee := Callee.builtin Builtin.len, args := #[Operand.tmp 239], argTypes := #[54] }, type := 3, pos := "law.go:292", after := #[{ on := 106, ground := Ground.data }], guard := none } := by kernel_rfl
theorem fr_107 : Region.free .any ops11 (lsts 108) 107 = true := by kernel_rfl
theorem rdy_107 : (Region.ready .any ops11 (lsts 108)).contains 107 = true := by kernel_rfl
theorem ls_108 : (lsts 108).setIfInBounds 107 true = lsts 109 := by kernel_rfl
theorem al_end : Region.ready .any ops11 (lsts 109) = [] := by kernel_rfl
set_option maxRecDepth 100000 in
set_option maxHeartbeats 16000000 in
theorem reg11 {Q : Exit → Act → World → Prop} {W0 w9 : World} {B : Nat} {pv : Option Addr} {u g : Int} {ga : Option Addr} {gn gc : Nat} {um cw : Int} {sp sq : ByteArray} {za zb zm : Int} {ta : Option Addr} {tn tc : Nat} {ta1 tb1 : Int} {fo : Bool} (a0 : Act) (hsz : a0.tmps.size = 396) (h1 : a0.tmps[1]?.getD undef = .pointer (some ⟨B, 0, none⟩)) (h4 : a0.tmps[4]?.getD undef = .pointer pv)
    (HD : Hid (∀ W, Mod (fun _ => False) W0 W → (W.cell? ⟨B, 1, none⟩ = some (.int .i64 u) ∧ W.cell? ⟨B, 2, none⟩ = some (.int .i64 g) ∧ W.cell? ⟨B, 3, none⟩ = some (.slice ga gn gc) ∧ W.cell? ⟨B, 4, none⟩ = some (.int .i64 um) ∧ W.cell? ⟨B, 5, none⟩ = some (.int .i64 cw) ∧ W.cell? ⟨B, 6, none⟩ = some (.string sp) ∧ W.cell? ⟨B, 7, none⟩ = some (.string sq) ∧ W.cell? ⟨B, 8, none⟩ = some (.int .i64 za) ∧ W.cell? ⟨B, 9, none⟩ = some (.int .i64 zb) ∧ W.cell? ⟨B, 10, none⟩ = some (.int .i64 zm) ∧ W.cell? ⟨B, 11, none⟩ = some (.slice ta tn tc) ∧ W.cell? ⟨B, 12, none⟩ = some (.int .i64 ta1) ∧ W.cell? ⟨B, 13, none⟩ = some (.int .i64 tb1) ∧ W.cell? ⟨B, 14, none⟩ = some (.bool fo)))) (HP : Hid (∀ W, Mod (fun _ => False) W0 W → NoF (.pointer pv) W)) (HMc : Hid (Mod (fun _ => False) W0 w9))
    (hend : ∀ (gb : Nat) (wc : World), (∀ j : Nat, j < 14 → wc.cell? ⟨gb, j, none⟩ = some (.int .i64 14)) → Mod (fun _ => False) W0 wc → Q .normal (((((((((((((((((((((((((((((((((((((((((((((((((((((((((((((((((((((((((((((((((((((((((((((((((((((((((((((a0.put (some 133) (.pointer pv)).put (some 134) (.pointer (some ⟨B, 1, none⟩))).put (some 135) (.agg #[.int .i64 u, .int .i64 g, .slice ga gn gc, .int .i64 um, .int .i64 cw])).put (some 136) (.pointer (some ⟨B, 6, none⟩))).put (some 137) (.string sp)).put (some 138) (.pointer (some ⟨B, 8, none⟩))).put (some 139) (.int .i64 za)).put (some 141) (.pointer pv)).put (some 142) (.pointer (some ⟨B, 1, none⟩))).put (some 143) (.agg #[.int .i64 u, .int .i64 g, .slice ga gn gc, .int .i64 um, .int .i64 cw])).put (some 144) (.pointer (some ⟨B, 6, none⟩))).put (some 145) (.string sp)).put (some 146) (.pointer (some ⟨B, 10, none⟩))).put (some 147) (.int .i64 zm)).put (some 149) (.pointer pv)).put (some 150) (.pointer (some ⟨B, 1, none⟩))).put (some 151) (.agg #[.int .i64 u, .int .i64 g, .slice ga gn gc, .int .i64 um, .int .i64 cw])).put (some 152) (.pointer (some ⟨B, 6, none⟩))).put (some 153) (.string sp)).put (some 155) (.pointer pv)).put (some 156) (.pointer (some ⟨B, 1, none⟩))).put (some 157) (.agg #[.int .i64 u, .int .i64 g, .slice ga gn gc, .int .i64 um, .int .i64 cw])).put (some 158) (.pointer (some ⟨B, 7, none⟩))).put (some 159) (.string sq)).put (some 160) (.pointer (some ⟨B, 6, none⟩))).put (some 161) (.string sp)).put (some 163) (.pointer pv)).put (some 164) (.pointer (some ⟨B, 1, none⟩))).put (some 165) (.agg #[.int .i64 u, .int .i64 g, .slice ga gn gc, .int .i64 um, .int .i64 cw])).put (some 166) (.pointer (some ⟨B, 7, none⟩))).put (some 167) (.string sq)).put (some 168) (.pointer (some ⟨B, 6, none⟩))).put (some 169) (.string sp)).put (some 171) (.pointer pv)).put (some 172) (.pointer (some ⟨B, 1, none⟩))).put (some 173) (.agg #[.int .i64 u, .int .i64 g, .slice ga gn gc, .int .i64 um, .int .i64 cw])).put (some 174) (.pointer (some ⟨B, 6, none⟩))).put (some 175) (.string sp)).put (some 177) (.pointer pv)).put (some 178) (.pointer (some ⟨B, 1, none⟩))).put (some 179) (.agg #[.int .i64 u, .int .i64 g, .slice ga gn gc, .int .i64 um, .int .i64 cw])).put (some 180) (.pointer (some ⟨B, 7, none⟩))).put (some 181) (.string sq)).put (some 182) (.pointer (some ⟨B, 6, none⟩))).put (some 183) (.string sp)).put (some 185) (.pointer pv)).put (some 186) (.pointer (some ⟨B, 1, none⟩))).put (some 187) (.agg #[.int .i64 u, .int .i64 g, .slice ga gn gc, .int .i64 um, .int .i64 cw])).put (some 188) (.pointer (some ⟨B, 6, none⟩))).put (some 189) (.string sp)).put (some 190) (.pointer (some ⟨B, 10, none⟩))).put (some 191) (.int .i64 zm)).put (some 193) (.pointer pv)).put (some 194) (.pointer (some ⟨B, 1, none⟩))).put (some 195) (.agg #[.int .i64 u, .int .i64 g, .slice ga gn gc, .int .i64 um, .int .i64 cw])).put (some 196) (.pointer (some ⟨B, 6, none⟩))).put (some 197) (.string sp)).put (some 198) (.pointer (some ⟨B, 8, none⟩))).put (some 199) (.int .i64 za)).put (some 200) (.pointer (some ⟨B, 9, none⟩))).put (some 201) (.int .i64 zb)).put (some 202) (.pointer (some ⟨B, 14, none⟩))).put (some 203) (.bool fo)).put (some 205) (.pointer pv)).put (some 206) (.pointer (some ⟨B, 1, none⟩))).put (some 207) (.agg #[.int .i64 u, .int .i64 g, .slice ga gn gc, .int .i64 um, .int .i64 cw])).put (some 208) (.pointer (some ⟨B, 6, none⟩))).put (some 209) (.string sp)).put (some 210) (.pointer (some ⟨B, 12, none⟩))).put (some 211) (.int .i64 ta1)).put (some 212) (.pointer (some ⟨B, 13, none⟩))).put (some 213) (.int .i64 tb1)).put (some 214) (.pointer (some ⟨B, 14, none⟩))).put (some 215) (.bool fo)).put (some 217) (.pointer pv)).put (some 218) (.pointer (some ⟨B, 1, none⟩))).put (some 219) (.agg #[.int .i64 u, .int .i64 g, .slice ga gn gc, .int .i64 um, .int .i64 cw])).put (some 220) (.pointer (some ⟨B, 6, none⟩))).put (some 221) (.string sp)).put (some 222) (.pointer (some ⟨B, 8, none⟩))).put (some 223) (.int .i64 za)).put (some 225) (.pointer pv)).put (some 226) (.pointer (some ⟨B, 8, none⟩))).put (some 227) (.int .i64 za)).put (some 229) (.pointer pv)).put (some 230) (.pointer (some ⟨B, 8, none⟩))).put (some 231) (.int .i64 za)).put (some 233) (.pointer pv)).put (some 234) (.pointer (some ⟨B, 8, none⟩))).put (some 235) (.int .i64 za)).put (some 236) (.pointer (some ⟨B, 9, none⟩))).put (some 237) (.int .i64 zb)).put (some 241) (.int .i64 0)).put (some 140) (.int .i64 14)).put (some 148) (.int .i64 14)).put (some 154) (.int .i64 14)).put (some 162) (.int .i64 14)).put (some 170) (.int .i64 14)).put (some 176) (.int .i64 14)).put (some 184) (.int .i64 14)).put (some 192) (.int .i64 14)).put (some 204) (.int .i64 14)).put (some 216) (.int .i64 14)).put (some 224) (.int .i64 14)).put (some 228) (.int .i64 14)).put (some 232) (.int .i64 14)).put (some 238) (.int .i64 14)).put (some 239) (.slice (some ⟨gb, 0, none⟩) 14 14)).put (some 240) (.int .i64 14)) wc) :
    (Code.region 11 ops11 true).wp Tryz.prog (OnlyN6 Q) a0 w9 := by
  have E : Ev a0 (fun k => a0.tmps[k]?.getD undef) := ⟨hsz, fun _ => rfl⟩
  refine wp_region_held_drew (S := fun W => W.cell? ⟨B, 1, none⟩ = some (.int .i64 u) ∧ W.cell? ⟨B, 2, none⟩ = some (.int .i64 g) ∧ W.cell? ⟨B, 3, none⟩ = some (.slice ga gn gc) ∧ W.cell? ⟨B, 4, none⟩ = some (.int .i64 um) ∧ W.cell? ⟨B, 5, none⟩ = some (.int .i64 cw) ∧ W.cell? ⟨B, 6, none⟩ = some (.string sp) ∧ W.cell? ⟨B, 7, none⟩ = some (.string sq) ∧ W.cell? ⟨B, 8, none⟩ = some (.int .i64 za) ∧ W.cell? ⟨B, 9, none⟩ = some (.int .i64 zb) ∧ W.cell? ⟨B, 10, none⟩ = some (.int .i64 zm) ∧ W.cell? ⟨B, 11, none⟩ = some (.slice ta tn tc) ∧ W.cell? ⟨B, 12, none⟩ = some (.int .i64 ta1) ∧ W.cell? ⟨B, 13, none⟩ = some (.int .i64 tb1) ∧ W.cell? ⟨B, 14, none⟩ = some (.bool fo)) (by kernel_rfl) (HD.out w9.drew (HMc.out.drewN 1)) (fun hS => ?_)
  replace HMc := hid6 (show Mod (fun _ => False) W0 w9.drew from HMc.out.drewN 1)
  rw [show Array.replicate ops11.size false = lsts 0 from by kernel_rfl, show ops11.size = 109 from rfl]
  refine wpAnyH_take (i := 0) (oi := { dst := some 133, op := Op.move (Operand.tmp 4), type := 29, pos := "law.go:292", after := #[], guard := none }) (v := .pointer pv) op_0 hns fr_0 rdy_0 (fun _ _ _ h => h) (Or.inl ⟨by rfl, ?_⟩) hS ?_
  · intro w8 hSw
    have ex4 : a0.tmps[4]?.getD undef = .pointer pv := (E.2 4).trans h4
    simp [execOp, ex4, go_sem]
  rw [ls_0]
  show wpAnyH _ _ _ _ _ _ _ (Act.put a0 (some 133) (.pointer pv)) _
  obtain ⟨b133, hb133⟩ : ∃ x, x = Act.put a0 (some 133) (.pointer pv) := ⟨_, rfl⟩
  rw [← hb133]
  replace E := E.put 133 (.pointer pv) (by decide)
  rw [← hb133] at E
  refine wpAnyH_take (i := 1) (oi := { dst := some 134, op := Op.fieldAddr 28 (Operand.tmp 1) 1, type := 0, pos := "law.go:292", after := #[], guard := none }) (v := .pointer (some ⟨B, 1, none⟩)) op_1 hns fr_1 rdy_1 (fun _ _ _ h => h) (Or.inl ⟨by rfl, ?_⟩) hS ?_
  · intro w8 hSw
    have ex1 : b133.tmps[1]?.getD undef = .pointer (some ⟨B, 0, none⟩) := (E.2 1).trans h1
    simp [execOp, ex1, go_sem]
  rw [ls_1]
  show wpAnyH _ _ _ _ _ _ _ (Act.put b133 (some 134) (.pointer (some ⟨B, 1, none⟩))) _
  obtain ⟨b134, hb134⟩ : ∃ x, x = Act.put b133 (some 134) (.pointer (some ⟨B, 1, none⟩)) := ⟨_, rfl⟩
  rw [← hb134]
  replace E := E.put 134 (.pointer (some ⟨B, 1, none⟩)) (by decide)
  rw [← hb134] at E
  refine wpAnyH_take (i := 2) (oi := { dst := some 135, op := Op.load 24 (Operand.tmp 134), type := 24, pos := "law.go:292", after := #[{ on := 1, ground := Ground.data }], guard := none }) (v := .agg #[.int .i64 u, .int .i64 g, .slice ga gn gc, .int .i64 um, .int .i64 cw]) op_2 hns fr_2 rdy_2 (fun _ _ _ h => h) (Or.inl ⟨by rfl, ?_⟩) hS ?_
  · intro w8 hSw
    have ex134 : b134.tmps[134]?.getD undef = .pointer (some ⟨B, 1, none⟩) := (E.2 134).trans rfl
    obtain ⟨d1, d2, d3, d4, d5, d6, d7, d8, d9, d10, d11, d12, d13, d14⟩ := hSw
    simp [execOp, ex134, go_sem, d1, d2, d3, d4, d5]
  rw [ls_2]
  show wpAnyH _ _ _ _ _ _ _ (Act.put b134 (some 135) (.agg #[.int .i64 u, .int .i64 g, .slice ga gn gc, .int .i64 um, .int .i64 cw])) _
  obtain ⟨b135, hb135⟩ : ∃ x, x = Act.put b134 (some 135) (.agg #[.int .i64 u, .int .i64 g, .slice ga gn gc, .int .i64 um, .int .i64 cw]) := ⟨_, rfl⟩
  rw [← hb135]
  replace E := E.put 135 (.agg #[.int .i64 u, .int .i64 g, .slice ga gn gc, .int .i64 um, .int .i64 cw]) (by decide)
  rw [← hb135] at E
  refine wpAnyH_take (i := 3) (oi := { dst := some 136, op := Op.fieldAddr 28 (Operand.tmp 1) 2, type := 0, pos := "law.go:292", after := #[], guard := none }) (v := .pointer (some ⟨B, 6, none⟩)) op_3 hns fr_3 rdy_3 (fun _ _ _ h => h) (Or.inl ⟨by rfl, ?_⟩) hS ?_
  · intro w8 hSw
    have ex1 : b135.tmps[1]?.getD undef = .pointer (some ⟨B, 0, none⟩) := (E.2 1).trans h1
    simp [execOp, ex1, go_sem]
  rw [ls_3]
  show wpAnyH _ _ _ _ _ _ _ (Act.put b135 (some 136) (.pointer (some ⟨B, 6, none⟩))) _
  obtain ⟨b136, hb136⟩ : ∃ x, x = Act.put b135 (some 136) (.pointer (some ⟨B, 6, none⟩)) := ⟨_, rfl⟩
  rw [← hb136]
  replace E := E.put 136 (.pointer (some ⟨B, 6, none⟩)) (by decide)
  rw [← hb136] at E
  refine wpAnyH_take (i := 4) (oi := { dst := some 137, op := Op.load 9 (Operand.tmp 136), type := 9, pos := "law.go:292", after := #[{ on := 3, ground := Ground.data }], guard := none }) (v := .string sp) op_4 hns fr_4 rdy_4 (fun _ _ _ h => h) (Or.inl ⟨by rfl, ?_⟩) hS ?_
  · intro w8 hSw
    have ex136 : b136.tmps[136]?.getD undef = .pointer (some ⟨B, 6, none⟩) := (E.2 136).trans rfl
    obtain ⟨d1, d2, d3, d4, d5, d6, d7, d8, d9, d10, d11, d12, d13, d14⟩ := hSw
    simp [execOp, ex136, go_sem, d6]
  rw [ls_4]
  show wpAnyH _ _ _ _ _ _ _ (Act.put b136 (some 137) (.string sp)) _
  obtain ⟨b137, hb137⟩ : ∃ x, x = Act.put b136 (some 137) (.string sp) := ⟨_, rfl⟩
  rw [← hb137]
  replace E := E.put 137 (.string sp) (by decide)
  rw [← hb137] at E
  refine wpAnyH_take (i := 5) (oi := { dst := some 138, op := Op.fieldAddr 28 (Operand.tmp 1) 4, type := 0, pos := "law.go:292", after := #[], guard := none }) (v := .pointer (some ⟨B, 8, none⟩)) op_5 hns fr_5 rdy_5 (fun _ _ _ h => h) (Or.inl ⟨by rfl, ?_⟩) hS ?_
  · intro w8 hSw
    have ex1 : b137.tmps[1]?.getD undef = .pointer (some ⟨B, 0, none⟩) := (E.2 1).trans h1
    simp [execOp, ex1, go_sem]
  rw [ls_5]
  show wpAnyH _ _ _ _ _ _ _ (Act.put b137 (some 138) (.pointer (some ⟨B, 8, none⟩))) _
  obtain ⟨b138, hb138⟩ : ∃ x, x = Act.put b137 (some 138) (.pointer (some ⟨B, 8, none⟩)) := ⟨_, rfl⟩
  rw [← hb138]
  replace E := E.put 138 (.pointer (some ⟨B, 8, none⟩)) (by decide)
  rw [← hb138] at E
  refine wpAnyH_take (i := 6) (oi := { dst := some 139, op := Op.load 3 (Operand.tmp 138), type := 3, pos := "law.go:292", after := #[{ on := 5, ground := Ground.data }], guard := none }) (v := .int .i64 za) op_6 hns fr_6 rdy_6 (fun _ _ _ h => h) (Or.inl ⟨by rfl, ?_⟩) hS ?_
  · intro w8 hSw
    have ex138 : b138.tmps[138]?.getD undef = .pointer (some ⟨B, 8, none⟩) := (E.2 138).trans rfl
    obtain ⟨d1, d2, d3, d4, d5, d6, d7, d8, d9, d10, d11, d12, d13, d14⟩ := hSw
    simp [execOp, ex138, go_sem, d8]
  rw [ls_6]
  show wpAnyH _ _ _ _ _ _ _ (Act.put b138 (some 139) (.int .i64 za)) _
  obtain ⟨b139, hb139⟩ : ∃ x, x = Act.put b138 (some 139) (.int .i64 za) := ⟨_, rfl⟩
  rw [← hb139]
  replace E := E.put 139 (.int .i64 za) (by decide)
  rw [← hb139] at E
  refine wpAnyH_take (i := 8) (oi := { dst := some 141, op := Op.move (Operand.tmp 4), type := 29, pos := "law.go:292", after := #[], guard := none }) (v := .pointer pv) op_8 hns fr_8 rdy_8 (fun _ _ _ h => h) (Or.inl ⟨by rfl, ?_⟩) hS ?_
  · intro w8 hSw
    have ex4 : b139.tmps[4]?.getD undef = .pointer pv := (E.2 4).trans h4
    simp [execOp, ex4, go_sem]
  rw [ls_7]
  show wpAnyH _ _ _ _ _ _ _ (Act.put b139 (some 141) (.pointer pv)) _
  obtain ⟨b141, hb141⟩ : ∃ x, x = Act.put b139 (some 141) (.pointer pv) := ⟨_, rfl⟩
  rw [← hb141]
  replace E := E.put 141 (.pointer pv) (by decide)
  rw [← hb141] at E
  refine wpAnyH_take (i := 9) (oi := { dst := some 142, op := Op.fieldAddr 28 (Operand.tmp 1) 1, type := 0, pos := "law.go:292", after := #[], guard := none }) (v := .pointer (some ⟨B, 1, none⟩)) op_9 hns fr_9 rdy_9 (fun _ _ _ h => h) (Or.inl ⟨by rfl, ?_⟩) hS ?_
  · intro w8 hSw
    have ex1 : b141.tmps[1]?.getD undef = .pointer (some ⟨B, 0, none⟩) := (E.2 1).trans h1
    simp [execOp, ex1, go_sem]
  rw [ls_8]
  show wpAnyH _ _ _ _ _ _ _ (Act.put b141 (some 142) (.pointer (some ⟨B, 1, none⟩))) _
  obtain ⟨b142, hb142⟩ : ∃ x, x = Act.put b141 (some 142) (.pointer (some ⟨B, 1, none⟩)) := ⟨_, rfl⟩
  rw [← hb142]
  replace E := E.put 142 (.pointer (some ⟨B, 1, none⟩)) (by decide)
  rw [← hb142] at E
  refine wpAnyH_take (i := 10) (oi := { dst := some 143, op := Op.load 24 (Operand.tmp 142), type := 24, pos := "law.go:292", after := #[{ on := 9, ground := Ground.data }], guard := none }) (v := .agg #[.int .i64 u, .int .i64 g, .slice ga gn gc, .int .i64 um, .int .i64 cw]) op_10 hns fr_10 rdy_10 (fun _ _ _ h => h) (Or.inl ⟨by rfl, ?_⟩) hS ?_
  · intro w8 hSw
    have ex142 : b142.tmps[142]?.getD undef = .pointer (some ⟨B, 1, none⟩) := (E.2 142).trans rfl
    obtain ⟨d1, d2, d3, d4, d5, d6, d7, d8, d9, d10, d11, d12, d13, d14⟩ := hSw
    simp [execOp, ex142, go_sem, d1, d2, d3, d4, d5]
  rw [ls_9]
  show wpAnyH _ _ _ _ _ _ _ (Act.put b142 (some 143) (.agg #[.int .i64 u, .int .i64 g, .slice ga gn gc, .int .i64 um, .int .i64 cw])) _
  obtain ⟨b143, hb143⟩ : ∃ x, x = Act.put b142 (some 143) (.agg #[.int .i64 u, .int .i64 g, .slice ga gn gc, .int .i64 um, .int .i64 cw]) := ⟨_, rfl⟩
  rw [← hb143]
  replace E := E.put 143 (.agg #[.int .i64 u, .int .i64 g, .slice ga gn gc, .int .i64 um, .int .i64 cw]) (by decide)
  rw [← hb143] at E
  refine wpAnyH_take (i := 11) (oi := { dst := some 144, op := Op.fieldAddr 28 (Operand.tmp 1) 2, type := 0, pos := "law.go:292", after := #[], guard := none }) (v := .pointer (some ⟨B, 6, none⟩)) op_11 hns fr_11 rdy_11 (fun _ _ _ h => h) (Or.inl ⟨by rfl, ?_⟩) hS ?_
  · intro w8 hSw
    have ex1 : b143.tmps[1]?.getD undef = .pointer (some ⟨B, 0, none⟩) := (E.2 1).trans h1
    simp [execOp, ex1, go_sem]
  rw [ls_10]
  show wpAnyH _ _ _ _ _ _ _ (Act.put b143 (some 144) (.pointer (some ⟨B, 6, none⟩))) _
  obtain ⟨b144, hb144⟩ : ∃ x, x = Act.put b143 (some 144) (.pointer (some ⟨B, 6, none⟩)) := ⟨_, rfl⟩
  rw [← hb144]
  replace E := E.put 144 (.pointer (some ⟨B, 6, none⟩)) (by decide)
  rw [← hb144] at E
  refine wpAnyH_take (i := 12) (oi := { dst := some 145, op := Op.load 9 (Operand.tmp 144), type := 9, pos := "law.go:292", after := #[{ on := 11, ground := Ground.data }], guard := none }) (v := .string sp) op_12 hns fr_12 rdy_12 (fun _ _ _ h => h) (Or.inl ⟨by rfl, ?_⟩) hS ?_
  · intro w8 hSw
    have ex144 : b144.tmps[144]?.getD undef = .pointer (some ⟨B, 6, none⟩) := (E.2 144).trans rfl
    obtain ⟨d1, d2, d3, d4, d5, d6, d7, d8, d9, d10, d11, d12, d13, d14⟩ := hSw
    simp [execOp, ex144, go_sem, d6]
  rw [ls_11]
  show wpAnyH _ _ _ _ _ _ _ (Act.put b144 (some 145) (.string sp)) _
  obtain ⟨b145, hb145⟩ : ∃ x, x = Act.put b144 (some 145) (.string sp) := ⟨_, rfl⟩
  rw [← hb145]
  replace E := E.put 145 (.string sp) (by decide)
  rw [← hb145] at E
  refine wpAnyH_take (i := 13) (oi := { dst := some 146, op := Op.fieldAddr 28 (Operand.tmp 1) 6, type := 0, pos := "law.go:292", after := #[], guard := none }) (v := .pointer (some ⟨B, 10, none⟩)) op_13 hns fr_13 rdy_13 (fun _ _ _ h => h) (Or.inl ⟨by rfl, ?_⟩) hS ?_
  · intro w8 hSw
    have ex1 : b145.tmps[1]?.getD undef = .pointer (some ⟨B, 0, none⟩) := (E.2 1).trans h1
    simp [execOp, ex1, go_sem]
  rw [ls_12]
  show wpAnyH _ _ _ _ _ _ _ (Act.put b145 (some 146) (.pointer (some ⟨B, 10, none⟩))) _
  obtain ⟨b146, hb146⟩ : ∃ x, x = Act.put b145 (some 146) (.pointer (some ⟨B, 10, none⟩)) := ⟨_, rfl⟩
  rw [← hb146]
  replace E := E.put 146 (.pointer (some ⟨B, 10, none⟩)) (by decide)
  rw [← hb146] at E
  refine wpAnyH_take (i := 14) (oi := { dst := some 147, op := Op.load 25 (Operand.tmp 146), type := 25, pos := "law.go:292", after := #[{ on := 13, ground := Ground.data }], guard := none }) (v := .int .i64 zm) op_14 hns fr_14 rdy_14 (fun _ _ _ h => h) (Or.inl ⟨by rfl, ?_⟩) hS ?_
  · intro w8 hSw
    have ex146 : b146.tmps[146]?.getD undef = .pointer (some ⟨B, 10, none⟩) := (E.2 146).trans rfl
    obtain ⟨d1, d2, d3, d4, d5, d6, d7, d8, d9, d10, d11, d12, d13, d14⟩ := hSw
    simp [execOp, ex146, go_sem, d10]
  rw [ls_13]
  show wpAnyH _ _ _ _ _ _ _ (Act.put b146 (some 147) (.int .i64 zm)) _
  obtain ⟨b147, hb147⟩ : ∃ x, x = Act.put b146 (some 147) (.int .i64 zm) := ⟨_, rfl⟩
  rw [← hb147]
  replace E := E.put 147 (.int .i64 zm) (by decide)
  rw [← hb147] at E
  refine wpAnyH_take (i := 16) (oi := { dst := some 149, op := Op.move (Operand.tmp 4), type := 29, pos := "law.go:292", after := #[], guard := none }) (v := .pointer pv) op_16 hns fr_16 rdy_16 (fun _ _ _ h => h) (Or.inl ⟨by rfl, ?_⟩) hS ?_
  · intro w8 hSw
    have ex4 : b147.tmps[4]?.getD undef = .pointer pv := (E.2 4).trans h4
    simp [execOp, ex4, go_sem]
  rw [ls_14]
  show wpAnyH _ _ _ _ _ _ _ (Act.put b147 (some 149) (.pointer pv)) _
  obtain ⟨b149, hb149⟩ : ∃ x, x = Act.put b147 (some 149) (.pointer pv) := ⟨_, rfl⟩
  rw [← hb149]
  replace E := E.put 149 (.pointer pv) (by decide)
  rw [← hb149] at E
  refine wpAnyH_take (i := 17) (oi := { dst := some 150, op := Op.fieldAddr 28 (Operand.tmp 1) 1, type := 0, pos := "law.go:292", after := #[], guard := none }) (v := .pointer (some ⟨B, 1, none⟩)) op_17 hns fr_17 rdy_17 (fun _ _ _ h => h) (Or.inl ⟨by rfl, ?_⟩) hS ?_
  · intro w8 hSw
    have ex1 : b149.tmps[1]?.getD undef = .pointer (some ⟨B, 0, none⟩) := (E.2 1).trans h1
    simp [execOp, ex1, go_sem]
  rw [ls_15]
  show wpAnyH _ _ _ _ _ _ _ (Act.put b149 (some 150) (.pointer (some ⟨B, 1, none⟩))) _
  obtain ⟨b150, hb150⟩ : ∃ x, x = Act.put b149 (some 150) (.pointer (some ⟨B, 1, none⟩)) := ⟨_, rfl⟩
  rw [← hb150]
  replace E := E.put 150 (.pointer (some ⟨B, 1, none⟩)) (by decide)
  rw [← hb150] at E
  refine wpAnyH_take (i := 18) (oi := { dst := some 151, op := Op.load 24 (Operand.tmp 150), type := 24, pos := "law.go:292", after := #[{ on := 17, ground := Ground.data }], guard := none }) (v := .agg #[.int .i64 u, .int .i64 g, .slice ga gn gc, .int .i64 um, .int .i64 cw]) op_18 hns fr_18 rdy_18 (fun _ _ _ h => h) (Or.inl ⟨by rfl, ?_⟩) hS ?_
  · intro w8 hSw
    have ex150 : b150.tmps[150]?.getD undef = .pointer (some ⟨B, 1, none⟩) := (E.2 150).trans rfl
    obtain ⟨d1, d2, d3, d4, d5, d6, d7, d8, d9, d10, d11, d12, d13, d14⟩ := hSw
    simp [execOp, ex150, go_sem, d1, d2, d3, d4, d5]
  rw [ls_16]
  show wpAnyH _ _ _ _ _ _ _ (Act.put b150 (some 151) (.agg #[.int .i64 u, .int .i64 g, .slice ga gn gc, .int .i64 um, .int .i64 cw])) _
  obtain ⟨b151, hb151⟩ : ∃ x, x = Act.put b150 (some 151) (.agg #[.int .i64 u, .int .i64 g, .slice ga gn gc, .int .i64 um, .int .i64 cw]) := ⟨_, rfl⟩
  rw [← hb151]
  replace E := E.put 151 (.agg #[.int .i64 u, .int .i64 g, .slice ga gn gc, .int .i64 um, .int .i64 cw]) (by decide)
  rw [← hb151] at E
  refine wpAnyH_take (i := 19) (oi := { dst := some 152, op := Op.fieldAddr 28 (Operand.tmp 1) 2, type := 0, pos := "law.go:292", after := #[], guard := none }) (v := .pointer (some ⟨B, 6, none⟩)) op_19 hns fr_19 rdy_19 (fun _ _ _ h => h) (Or.inl ⟨by rfl, ?_⟩) hS ?_
  · intro w8 hSw
    have ex1 : b151.tmps[1]?.getD undef = .pointer (some ⟨B, 0, none⟩) := (E.2 1).trans h1
    simp [execOp, ex1, go_sem]
  rw [ls_17]
  show wpAnyH _ _ _ _ _ _ _ (Act.put b151 (some 152) (.pointer (some ⟨B, 6, none⟩))) _
  obtain ⟨b152, hb152⟩ : ∃ x, x = Act.put b151 (some 152) (.pointer (some ⟨B, 6, none⟩)) := ⟨_, rfl⟩
  rw [← hb152]
  replace E := E.put 152 (.pointer (some ⟨B, 6, none⟩)) (by decide)
  rw [← hb152] at E
  refine wpAnyH_take (i := 20) (oi := { dst := some 153, op := Op.load 9 (Operand.tmp 152), type := 9, pos := "law.go:292", after := #[{ on := 19, ground := Ground.data }], guard := none }) (v := .string sp) op_20 hns fr_20 rdy_20 (fun _ _ _ h => h) (Or.inl ⟨by rfl, ?_⟩) hS ?_
  · intro w8 hSw
    have ex152 : b152.tmps[152]?.getD undef = .pointer (some ⟨B, 6, none⟩) := (E.2 152).trans rfl
    obtain ⟨d1, d2, d3, d4, d5, d6, d7, d8, d9, d10, d11, d12, d13, d14⟩ := hSw
    simp [execOp, ex152, go_sem, d6]
  rw [ls_18]
  show wpAnyH _ _ _ _ _ _ _ (Act.put b152 (some 153) (.string sp)) _
  obtain ⟨b153, hb153⟩ : ∃ x, x = Act.put b152 (some 153) (.string sp) := ⟨_, rfl⟩
  rw [← hb153]
  replace E := E.put 153 (.string sp) (by decide)
  rw [← hb153] at E
  refine wpAnyH_take (i := 22) (oi := { dst := some 155, op := Op.move (Operand.tmp 4), type := 29, pos := "law.go:292", after := #[], guard := none }) (v := .pointer pv) op_22 hns fr_22 rdy_22 (fun _ _ _ h => h) (Or.inl ⟨by rfl, ?_⟩) hS ?_
  · intro w8 hSw
    have ex4 : b153.tmps[4]?.getD undef = .pointer pv := (E.2 4).trans h4
    simp [execOp, ex4, go_sem]
  rw [ls_19]
  show wpAnyH _ _ _ _ _ _ _ (Act.put b153 (some 155) (.pointer pv)) _
  obtain ⟨b155, hb155⟩ : ∃ x, x = Act.put b153 (some 155) (.pointer pv) := ⟨_, rfl⟩
  rw [← hb155]
  replace E := E.put 155 (.pointer pv) (by decide)
  rw [← hb155] at E
  refine wpAnyH_take (i := 23) (oi := { dst := some 156, op := Op.fieldAddr 28 (Operand.tmp 1) 1, type := 0, pos := "law.go:292", after := #[], guard := none }) (v := .pointer (some ⟨B, 1, none⟩)) op_23 hns fr_23 rdy_23 (fun _ _ _ h => h) (Or.inl ⟨by rfl, ?_⟩) hS ?_
  · intro w8 hSw
    have ex1 : b155.tmps[1]?.getD undef = .pointer (some ⟨B, 0, none⟩) := (E.2 1).trans h1
    simp [execOp, ex1, go_sem]
  rw [ls_20]
  show wpAnyH _ _ _ _ _ _ _ (Act.put b155 (some 156) (.pointer (some ⟨B, 1, none⟩))) _
  obtain ⟨b156, hb156⟩ : ∃ x, x = Act.put b155 (some 156) (.pointer (some ⟨B, 1, none⟩)) := ⟨_, rfl⟩
  rw [← hb156]
  replace E := E.put 156 (.pointer (some ⟨B, 1, none⟩)) (by decide)
  rw [← hb156] at E
  refine wpAnyH_take (i := 24) (oi := { dst := some 157, op := Op.load 24 (Operand.tmp 156), type := 24, pos := "law.go:292", after := #[{ on := 23, ground := Ground.data }], guard := none }) (v := .agg #[.int .i64 u, .int .i64 g, .slice ga gn gc, .int .i64 um, .int .i64 cw]) op_24 hns fr_24 rdy_24 (fun _ _ _ h => h) (Or.inl ⟨by rfl, ?_⟩) hS ?_
  · intro w8 hSw
    have ex156 : b156.tmps[156]?.getD undef = .pointer (some ⟨B, 1, none⟩) := (E.2 156).trans rfl
    obtain ⟨d1, d2, d3, d4, d5, d6, d7, d8, d9, d10, d11, d12, d13, d14⟩ := hSw
    simp [execOp, ex156, go_sem, d1, d2, d3, d4, d5]
  rw [ls_21]
  show wpAnyH _ _ _ _ _ _ _ (Act.put b156 (some 157) (.agg #[.int .i64 u, .int .i64 g, .slice ga gn gc, .int .i64 um, .int .i64 cw])) _
  obtain ⟨b157, hb157⟩ : ∃ x, x = Act.put b156 (some 157) (.agg #[.int .i64 u, .int .i64 g, .slice ga gn gc, .int .i64 um, .int .i64 cw]) := ⟨_, rfl⟩
  rw [← hb157]
  replace E := E.put 157 (.agg #[.int .i64 u, .int .i64 g, .slice ga gn gc, .int .i64 um, .int .i64 cw]) (by decide)
  rw [← hb157] at E
  refine wpAnyH_take (i := 25) (oi := { dst := some 158, op := Op.fieldAddr 28 (Operand.tmp 1) 3, type := 0, pos := "law.go:292", after := #[], guard := none }) (v := .pointer (some ⟨B, 7, none⟩)) op_25 hns fr_25 rdy_25 (fun _ _ _ h => h) (Or.inl ⟨by rfl, ?_⟩) hS ?_
  · intro w8 hSw
    have ex1 : b157.tmps[1]?.getD undef = .pointer (some ⟨B, 0, none⟩) := (E.2 1).trans h1
    simp [execOp, ex1, go_sem]
  rw [ls_22]
  show wpAnyH _ _ _ _ _ _ _ (Act.put b157 (some 158) (.pointer (some ⟨B, 7, none⟩))) _
  obtain ⟨b158, hb158⟩ : ∃ x, x = Act.put b157 (some 158) (.pointer (some ⟨B, 7, none⟩)) := ⟨_, rfl⟩
  rw [← hb158]
  replace E := E.put 158 (.pointer (some ⟨B, 7, none⟩)) (by decide)
  rw [← hb158] at E
  refine wpAnyH_take (i := 26) (oi := { dst := some 159, op := Op.load 9 (Operand.tmp 158), type := 9, pos := "law.go:292", after := #[{ on := 25, ground := Ground.data }], guard := none }) (v := .string sq) op_26 hns fr_26 rdy_26 (fun _ _ _ h => h) (Or.inl ⟨by rfl, ?_⟩) hS ?_
  · intro w8 hSw
    have ex158 : b158.tmps[158]?.getD undef = .pointer (some ⟨B, 7, none⟩) := (E.2 158).trans rfl
    obtain ⟨d1, d2, d3, d4, d5, d6, d7, d8, d9, d10, d11, d12, d13, d14⟩ := hSw
    simp [execOp, ex158, go_sem, d7]
  rw [ls_23]
  show wpAnyH _ _ _ _ _ _ _ (Act.put b158 (some 159) (.string sq)) _
  obtain ⟨b159, hb159⟩ : ∃ x, x = Act.put b158 (some 159) (.string sq) := ⟨_, rfl⟩
  rw [← hb159]
  replace E := E.put 159 (.string sq) (by decide)
  rw [← hb159] at E
  refine wpAnyH_take (i := 27) (oi := { dst := some 160, op := Op.fieldAddr 28 (Operand.tmp 1) 2, type := 0, pos := "law.go:292", after := #[], guard := none }) (v := .pointer (some ⟨B, 6, none⟩)) op_27 hns fr_27 rdy_27 (fun _ _ _ h => h) (Or.inl ⟨by rfl, ?_⟩) hS ?_
  · intro w8 hSw
    have ex1 : b159.tmps[1]?.getD undef = .pointer (some ⟨B, 0, none⟩) := (E.2 1).trans h1
    simp [execOp, ex1, go_sem]
  rw [ls_24]
  show wpAnyH _ _ _ _ _ _ _ (Act.put b159 (some 160) (.pointer (some ⟨B, 6, none⟩))) _
  obtain ⟨b160, hb160⟩ : ∃ x, x = Act.put b159 (some 160) (.pointer (some ⟨B, 6, none⟩)) := ⟨_, rfl⟩
  rw [← hb160]
  replace E := E.put 160 (.pointer (some ⟨B, 6, none⟩)) (by decide)
  rw [← hb160] at E
  refine wpAnyH_take (i := 28) (oi := { dst := some 161, op := Op.load 9 (Operand.tmp 160), type := 9, pos := "law.go:292", after := #[{ on := 27, ground := Ground.data }], guard := none }) (v := .string sp) op_28 hns fr_28 rdy_28 (fun _ _ _ h => h) (Or.inl ⟨by rfl, ?_⟩) hS ?_
  · intro w8 hSw
    have ex160 : b160.tmps[160]?.getD undef = .pointer (some ⟨B, 6, none⟩) := (E.2 160).trans rfl
    obtain ⟨d1, d2, d3, d4, d5, d6, d7, d8, d9, d10, d11, d12, d13, d14⟩ := hSw
    simp [execOp, ex160, go_sem, d6]
  rw [ls_25]
  show wpAnyH _ _ _ _ _ _ _ (Act.put b160 (some 161) (.string sp)) _
  obtain ⟨b161, hb161⟩ : ∃ x, x = Act.put b160 (some 161) (.string sp) := ⟨_, rfl⟩
  rw [← hb161]
  replace E := E.put 161 (.string sp) (by decide)
  rw [← hb161] at E
  refine wpAnyH_take (i := 30) (oi := { dst := some 163, op := Op.move (Operand.tmp 4), type := 29, pos := "law.go:292", after := #[], guard := none }) (v := .pointer pv) op_30 hns fr_30 rdy_30 (fun _ _ _ h => h) (Or.inl ⟨by rfl, ?_⟩) hS ?_
  · intro w8 hSw
    have ex4 : b161.tmps[4]?.getD undef = .pointer pv := (E.2 4).trans h4
    simp [execOp, ex4, go_sem]
  rw [ls_26]
  show wpAnyH _ _ _ _ _ _ _ (Act.put b161 (some 163) (.pointer pv)) _
  obtain ⟨b163, hb163⟩ : ∃ x, x = Act.put b161 (some 163) (.pointer pv) := ⟨_, rfl⟩
  rw [← hb163]
  replace E := E.put 163 (.pointer pv) (by decide)
  rw [← hb163] at E
  refine wpAnyH_take (i := 31) (oi := { dst := some 164, op := Op.fieldAddr 28 (Operand.tmp 1) 1, type := 0, pos := "law.go:292", after := #[], guard := none }) (v := .pointer (some ⟨B, 1, none⟩)) op_31 hns fr_31 rdy_31 (fun _ _ _ h => h) (Or.inl ⟨by rfl, ?_⟩) hS ?_
  · intro w8 hSw
    have ex1 : b163.tmps[1]?.getD undef = .pointer (some ⟨B, 0, none⟩) := (E.2 1).trans h1
    simp [execOp, ex1, go_sem]
  rw [ls_27]
  show wpAnyH _ _ _ _ _ _ _ (Act.put b163 (some 164) (.pointer (some ⟨B, 1, none⟩))) _
  obtain ⟨b164, hb164⟩ : ∃ x, x = Act.put b163 (some 164) (.pointer (some ⟨B, 1, none⟩)) := ⟨_, rfl⟩
  rw [← hb164]
  replace E := E.put 164 (.pointer (some ⟨B, 1, none⟩)) (by decide)
  rw [← hb164] at E
  refine wpAnyH_take (i := 32) (oi := { dst := some 165, op := Op.load 24 (Operand.tmp 164), type := 24, pos := "law.go:292", after := #[{ on := 31, ground := Ground.data }], guard := none }) (v := .agg #[.int .i64 u, .int .i64 g, .slice ga gn gc, .int .i64 um, .int .i64 cw]) op_32 hns fr_32 rdy_32 (fun _ _ _ h => h) (Or.inl ⟨by rfl, ?_⟩) hS ?_
  · intro w8 hSw
    have ex164 : b164.tmps[164]?.getD undef = .pointer (some ⟨B, 1, none⟩) := (E.2 164).trans rfl
    obtain ⟨d1, d2, d3, d4, d5, d6, d7, d8, d9, d10, d11, d12, d13, d14⟩ := hSw
    simp [execOp, ex164, go_sem, d1, d2, d3, d4, d5]
  rw [ls_28]
  show wpAnyH _ _ _ _ _ _ _ (Act.put b164 (some 165) (.agg #[.int .i64 u, .int .i64 g, .slice ga gn gc, .int .i64 um, .int .i64 cw])) _
  obtain ⟨b165, hb165⟩ : ∃ x, x = Act.put b164 (some 165) (.agg #[.int .i64 u, .int .i64 g, .slice ga gn gc, .int .i64 um, .int .i64 cw]) := ⟨_, rfl⟩
  rw [← hb165]
  replace E := E.put 165 (.agg #[.int .i64 u, .int .i64 g, .slice ga gn gc, .int .i64 um, .int .i64 cw]) (by decide)
  rw [← hb165] at E
  refine wpAnyH_take (i := 33) (oi := { dst := some 166, op := Op.fieldAddr 28 (Operand.tmp 1) 3, type := 0, pos := "law.go:292", after := #[], guard := none }) (v := .pointer (some ⟨B, 7, none⟩)) op_33 hns fr_33 rdy_33 (fun _ _ _ h => h) (Or.inl ⟨by rfl, ?_⟩) hS ?_
  · intro w8 hSw
    have ex1 : b165.tmps[1]?.getD undef = .pointer (some ⟨B, 0, none⟩) := (E.2 1).trans h1
    simp [execOp, ex1, go_sem]
  rw [ls_29]
  show wpAnyH _ _ _ _ _ _ _ (Act.put b165 (some 166) (.pointer (some ⟨B, 7, none⟩))) _
  obtain ⟨b166, hb166⟩ : ∃ x, x = Act.put b165 (some 166) (.pointer (some ⟨B, 7, none⟩)) := ⟨_, rfl⟩
  rw [← hb166]
  replace E := E.put 166 (.pointer (some ⟨B, 7, none⟩)) (by decide)
  rw [← hb166] at E
  refine wpAnyH_take (i := 34) (oi := { dst := some 167, op := Op.load 9 (Operand.tmp 166), type := 9, pos := "law.go:292", after := #[{ on := 33, ground := Ground.data }], guard := none }) (v := .string sq) op_34 hns fr_34 rdy_34 (fun _ _ _ h => h) (Or.inl ⟨by rfl, ?_⟩) hS ?_
  · intro w8 hSw
    have ex166 : b166.tmps[166]?.getD undef = .pointer (some ⟨B, 7, none⟩) := (E.2 166).trans rfl
    obtain ⟨d1, d2, d3, d4, d5, d6, d7, d8, d9, d10, d11, d12, d13, d14⟩ := hSw
    simp [execOp, ex166, go_sem, d7]
  rw [ls_30]
  show wpAnyH _ _ _ _ _ _ _ (Act.put b166 (some 167) (.string sq)) _
  obtain ⟨b167, hb167⟩ : ∃ x, x = Act.put b166 (some 167) (.string sq) := ⟨_, rfl⟩
  rw [← hb167]
  replace E := E.put 167 (.string sq) (by decide)
  rw [← hb167] at E
  refine wpAnyH_take (i := 35) (oi := { dst := some 168, op := Op.fieldAddr 28 (Operand.tmp 1) 2, type := 0, pos := "law.go:292", after := #[], guard := none }) (v := .pointer (some ⟨B, 6, none⟩)) op_35 hns fr_35 rdy_35 (fun _ _ _ h => h) (Or.inl ⟨by rfl, ?_⟩) hS ?_
  · intro w8 hSw
    have ex1 : b167.tmps[1]?.getD undef = .pointer (some ⟨B, 0, none⟩) := (E.2 1).trans h1
    simp [execOp, ex1, go_sem]
  rw [ls_31]
  show wpAnyH _ _ _ _ _ _ _ (Act.put b167 (some 168) (.pointer (some ⟨B, 6, none⟩))) _
  obtain ⟨b168, hb168⟩ : ∃ x, x = Act.put b167 (some 168) (.pointer (some ⟨B, 6, none⟩)) := ⟨_, rfl⟩
  rw [← hb168]
  replace E := E.put 168 (.pointer (some ⟨B, 6, none⟩)) (by decide)
  rw [← hb168] at E
  refine wpAnyH_take (i := 36) (oi := { dst := some 169, op := Op.load 9 (Operand.tmp 168), type := 9, pos := "law.go:292", after := #[{ on := 35, ground := Ground.data }], guard := none }) (v := .string sp) op_36 hns fr_36 rdy_36 (fun _ _ _ h => h) (Or.inl ⟨by rfl, ?_⟩) hS ?_
  · intro w8 hSw
    have ex168 : b168.tmps[168]?.getD undef = .pointer (some ⟨B, 6, none⟩) := (E.2 168).trans rfl
    obtain ⟨d1, d2, d3, d4, d5, d6, d7, d8, d9, d10, d11, d12, d13, d14⟩ := hSw
    simp [execOp, ex168, go_sem, d6]
  rw [ls_32]
  show wpAnyH _ _ _ _ _ _ _ (Act.put b168 (some 169) (.string sp)) _
  obtain ⟨b169, hb169⟩ : ∃ x, x = Act.put b168 (some 169) (.string sp) := ⟨_, rfl⟩
  rw [← hb169]
  replace E := E.put 169 (.string sp) (by decide)
  rw [← hb169] at E
  refine wpAnyH_take (i := 38) (oi := { dst := some 171, op := Op.move (Operand.tmp 4), type := 29, pos := "law.go:292", after := #[], guard := none }) (v := .pointer pv) op_38 hns fr_38 rdy_38 (fun _ _ _ h => h) (Or.inl ⟨by rfl, ?_⟩) hS ?_
  · intro w8 hSw
    have ex4 : b169.tmps[4]?.getD undef = .pointer pv := (E.2 4).trans h4
    simp [execOp, ex4, go_sem]
  rw [ls_33]
  show wpAnyH _ _ _ _ _ _ _ (Act.put b169 (some 171) (.pointer pv)) _
  obtain ⟨b171, hb171⟩ : ∃ x, x = Act.put b169 (some 171) (.pointer pv) := ⟨_, rfl⟩
  rw [← hb171]
  replace E := E.put 171 (.pointer pv) (by decide)
  rw [← hb171] at E
  refine wpAnyH_take (i := 39) (oi := { dst := some 172, op := Op.fieldAddr 28 (Operand.tmp 1) 1, type := 0, pos := "law.go:292", after := #[], guard := none }) (v := .pointer (some ⟨B, 1, none⟩)) op_39 hns fr_39 rdy_39 (fun _ _ _ h => h) (Or.inl ⟨by rfl, ?_⟩) hS ?_
  · intro w8 hSw
    have ex1 : b171.tmps[1]?.getD undef = .pointer (some ⟨B, 0, none⟩) := (E.2 1).trans h1
    simp [execOp, ex1, go_sem]
  rw [ls_34]
  show wpAnyH _ _ _ _ _ _ _ (Act.put b171 (some 172) (.pointer (some ⟨B, 1, none⟩))) _
  obtain ⟨b172, hb172⟩ : ∃ x, x = Act.put b171 (some 172) (.pointer (some ⟨B, 1, none⟩)) := ⟨_, rfl⟩
  rw [← hb172]
  replace E := E.put 172 (.pointer (some ⟨B, 1, none⟩)) (by decide)
  rw [← hb172] at E
  refine wpAnyH_take (i := 40) (oi := { dst := some 173, op := Op.load 24 (Operand.tmp 172), type := 24, pos := "law.go:292", after := #[{ on := 39, ground := Ground.data }], guard := none }) (v := .agg #[.int .i64 u, .int .i64 g, .slice ga gn gc, .int .i64 um, .int .i64 cw]) op_40 hns fr_40 rdy_40 (fun _ _ _ h => h) (Or.inl ⟨by rfl, ?_⟩) hS ?_
  · intro w8 hSw
    have ex172 : b172.tmps[172]?.getD undef = .pointer (some ⟨B, 1, none⟩) := (E.2 172).trans rfl
    obtain ⟨d1, d2, d3, d4, d5, d6, d7, d8, d9, d10, d11, d12, d13, d14⟩ := hSw
    simp [execOp, ex172, go_sem, d1, d2, d3, d4, d5]
  rw [ls_35]
  show wpAnyH _ _ _ _ _ _ _ (Act.put b172 (some 173) (.agg #[.int .i64 u, .int .i64 g, .slice ga gn gc, .int .i64 um, .int .i64 cw])) _
  obtain ⟨b173, hb173⟩ : ∃ x, x = Act.put b172 (some 173) (.agg #[.int .i64 u, .int .i64 g, .slice ga gn gc, .int .i64 um, .int .i64 cw]) := ⟨_, rfl⟩
  rw [← hb173]
  replace E := E.put 173 (.agg #[.int .i64 u, .int .i64 g, .slice ga gn gc, .int .i64 um, .int .i64 cw]) (by decide)
  rw [← hb173] at E
  refine wpAnyH_take (i := 41) (oi := { dst := some 174, op := Op.fieldAddr 28 (Operand.tmp 1) 2, type := 0, pos := "law.go:292", after := #[], guard := none }) (v := .pointer (some ⟨B, 6, none⟩)) op_41 hns fr_41 rdy_41 (fun _ _ _ h => h) (Or.inl ⟨by rfl, ?_⟩) hS ?_
  · intro w8 hSw
    have ex1 : b173.tmps[1]?.getD undef = .pointer (some ⟨B, 0, none⟩) := (E.2 1).trans h1
    simp [execOp, ex1, go_sem]
  rw [ls_36]
  show wpAnyH _ _ _ _ _ _ _ (Act.put b173 (some 174) (.pointer (some ⟨B, 6, none⟩))) _
  obtain ⟨b174, hb174⟩ : ∃ x, x = Act.put b173 (some 174) (.pointer (some ⟨B, 6, none⟩)) := ⟨_, rfl⟩
  rw [← hb174]
  replace E := E.put 174 (.pointer (some ⟨B, 6, none⟩)) (by decide)
  rw [← hb174] at E
  refine wpAnyH_take (i := 42) (oi := { dst := some 175, op := Op.load 9 (Operand.tmp 174), type := 9, pos := "law.go:292", after := #[{ on := 41, ground := Ground.data }], guard := none }) (v := .string sp) op_42 hns fr_42 rdy_42 (fun _ _ _ h => h) (Or.inl ⟨by rfl, ?_⟩) hS ?_
  · intro w8 hSw
    have ex174 : b174.tmps[174]?.getD undef = .pointer (some ⟨B, 6, none⟩) := (E.2 174).trans rfl
    obtain ⟨d1, d2, d3, d4, d5, d6, d7, d8, d9, d10, d11, d12, d13, d14⟩ := hSw
    simp [execOp, ex174, go_sem, d6]
  rw [ls_37]
  show wpAnyH _ _ _ _ _ _ _ (Act.put b174 (some 175) (.string sp)) _
  obtain ⟨b175, hb175⟩ : ∃ x, x = Act.put b174 (some 175) (.string sp) := ⟨_, rfl⟩
  rw [← hb175]
  replace E := E.put 175 (.string sp) (by decide)
  rw [← hb175] at E
  refine wpAnyH_take (i := 44) (oi := { dst := some 177, op := Op.move (Operand.tmp 4), type := 29, pos := "law.go:292", after := #[], guard := none }) (v := .pointer pv) op_44 hns fr_44 rdy_44 (fun _ _ _ h => h) (Or.inl ⟨by rfl, ?_⟩) hS ?_
  · intro w8 hSw
    have ex4 : b175.tmps[4]?.getD undef = .pointer pv := (E.2 4).trans h4
    simp [execOp, ex4, go_sem]
  rw [ls_38]
  show wpAnyH _ _ _ _ _ _ _ (Act.put b175 (some 177) (.pointer pv)) _
  obtain ⟨b177, hb177⟩ : ∃ x, x = Act.put b175 (some 177) (.pointer pv) := ⟨_, rfl⟩
  rw [← hb177]
  replace E := E.put 177 (.pointer pv) (by decide)
  rw [← hb177] at E
  refine wpAnyH_take (i := 45) (oi := { dst := some 178, op := Op.fieldAddr 28 (Operand.tmp 1) 1, type := 0, pos := "law.go:292", after := #[], guard := none }) (v := .pointer (some ⟨B, 1, none⟩)) op_45 hns fr_45 rdy_45 (fun _ _ _ h => h) (Or.inl ⟨by rfl, ?_⟩) hS ?_
  · intro w8 hSw
    have ex1 : b177.tmps[1]?.getD undef = .pointer (some ⟨B, 0, none⟩) := (E.2 1).trans h1
    simp [execOp, ex1, go_sem]
  rw [ls_39]
  show wpAnyH _ _ _ _ _ _ _ (Act.put b177 (some 178) (.pointer (some ⟨B, 1, none⟩))) _
  obtain ⟨b178, hb178⟩ : ∃ x, x = Act.put b177 (some 178) (.pointer (some ⟨B, 1, none⟩)) := ⟨_, rfl⟩
  rw [← hb178]
  replace E := E.put 178 (.pointer (some ⟨B, 1, none⟩)) (by decide)
  rw [← hb178] at E
  refine wpAnyH_take (i := 46) (oi := { dst := some 179, op := Op.load 24 (Operand.tmp 178), type := 24, pos := "law.go:292", after := #[{ on := 45, ground := Ground.data }], guard := none }) (v := .agg #[.int .i64 u, .int .i64 g, .slice ga gn gc, .int .i64 um, .int .i64 cw]) op_46 hns fr_46 rdy_46 (fun _ _ _ h => h) (Or.inl ⟨by rfl, ?_⟩) hS ?_
  · intro w8 hSw
    have ex178 : b178.tmps[178]?.getD undef = .pointer (some ⟨B, 1, none⟩) := (E.2 178).trans rfl
    obtain ⟨d1, d2, d3, d4, d5, d6, d7, d8, d9, d10, d11, d12, d13, d14⟩ := hSw
    simp [execOp, ex178, go_sem, d1, d2, d3, d4, d5]
  rw [ls_40]
  show wpAnyH _ _ _ _ _ _ _ (Act.put b178 (some 179) (.agg #[.int .i64 u, .int .i64 g, .slice ga gn gc, .int .i64 um, .int .i64 cw])) _
  obtain ⟨b179, hb179⟩ : ∃ x, x = Act.put b178 (some 179) (.agg #[.int .i64 u, .int .i64 g, .slice ga gn gc, .int .i64 um, .int .i64 cw]) := ⟨_, rfl⟩
  rw [← hb179]
  replace E := E.put 179 (.agg #[.int .i64 u, .int .i64 g, .slice ga gn gc, .int .i64 um, .int .i64 cw]) (by decide)
  rw [← hb179] at E
  refine wpAnyH_take (i := 47) (oi := { dst := some 180, op := Op.fieldAddr 28 (Operand.tmp 1) 3, type := 0, pos := "law.go:292", after := #[], guard := none }) (v := .pointer (some ⟨B, 7, none⟩)) op_47 hns fr_47 rdy_47 (fun _ _ _ h => h) (Or.inl ⟨by rfl, ?_⟩) hS ?_
  · intro w8 hSw
    have ex1 : b179.tmps[1]?.getD undef = .pointer (some ⟨B, 0, none⟩) := (E.2 1).trans h1
    simp [execOp, ex1, go_sem]
  rw [ls_41]
  show wpAnyH _ _ _ _ _ _ _ (Act.put b179 (some 180) (.pointer (some ⟨B, 7, none⟩))) _
  obtain ⟨b180, hb180⟩ : ∃ x, x = Act.put b179 (some 180) (.pointer (some ⟨B, 7, none⟩)) := ⟨_, rfl⟩
  rw [← hb180]
  replace E := E.put 180 (.pointer (some ⟨B, 7, none⟩)) (by decide)
  rw [← hb180] at E
  refine wpAnyH_take (i := 48) (oi := { dst := some 181, op := Op.load 9 (Operand.tmp 180), type := 9, pos := "law.go:292", after := #[{ on := 47, ground := Ground.data }], guard := none }) (v := .string sq) op_48 hns fr_48 rdy_48 (fun _ _ _ h => h) (Or.inl ⟨by rfl, ?_⟩) hS ?_
  · intro w8 hSw
    have ex180 : b180.tmps[180]?.getD undef = .pointer (some ⟨B, 7, none⟩) := (E.2 180).trans rfl
    obtain ⟨d1, d2, d3, d4, d5, d6, d7, d8, d9, d10, d11, d12, d13, d14⟩ := hSw
    simp [execOp, ex180, go_sem, d7]
  rw [ls_42]
  show wpAnyH _ _ _ _ _ _ _ (Act.put b180 (some 181) (.string sq)) _
  obtain ⟨b181, hb181⟩ : ∃ x, x = Act.put b180 (some 181) (.string sq) := ⟨_, rfl⟩
  rw [← hb181]
  replace E := E.put 181 (.string sq) (by decide)
  rw [← hb181] at E
  refine wpAnyH_take (i := 49) (oi := { dst := some 182, op := Op.fieldAddr 28 (Operand.tmp 1) 2, type := 0, pos := "law.go:292", after := #[], guard := none }) (v := .pointer (some ⟨B, 6, none⟩)) op_49 hns fr_49 rdy_49 (fun _ _ _ h => h) (Or.inl ⟨by rfl, ?_⟩) hS ?_
  · intro w8 hSw
    have ex1 : b181.tmps[1]?.getD undef = .pointer (some ⟨B, 0, none⟩) := (E.2 1).trans h1
    simp [execOp, ex1, go_sem]
  rw [ls_43]
  show wpAnyH _ _ _ _ _ _ _ (Act.put b181 (some 182) (.pointer (some ⟨B, 6, none⟩))) _
  obtain ⟨b182, hb182⟩ : ∃ x, x = Act.put b181 (some 182) (.pointer (some ⟨B, 6, none⟩)) := ⟨_, rfl⟩
  rw [← hb182]
  replace E := E.put 182 (.pointer (some ⟨B, 6, none⟩)) (by decide)
  rw [← hb182] at E
  refine wpAnyH_take (i := 50) (oi := { dst := some 183, op := Op.load 9 (Operand.tmp 182), type := 9, pos := "law.go:292", after := #[{ on := 49, ground := Ground.data }], guard := none }) (v := .string sp) op_50 hns fr_50 rdy_50 (fun _ _ _ h => h) (Or.inl ⟨by rfl, ?_⟩) hS ?_
  · intro w8 hSw
    have ex182 : b182.tmps[182]?.getD undef = .pointer (some ⟨B, 6, none⟩) := (E.2 182).trans rfl
    obtain ⟨d1, d2, d3, d4, d5, d6, d7, d8, d9, d10, d11, d12, d13, d14⟩ := hSw
    simp [execOp, ex182, go_sem, d6]
  rw [ls_44]
  show wpAnyH _ _ _ _ _ _ _ (Act.put b182 (some 183) (.string sp)) _
  obtain ⟨b183, hb183⟩ : ∃ x, x = Act.put b182 (some 183) (.string sp) := ⟨_, rfl⟩
  rw [← hb183]
  replace E := E.put 183 (.string sp) (by decide)
  rw [← hb183] at E
  refine wpAnyH_take (i := 52) (oi := { dst := some 185, op := Op.move (Operand.tmp 4), type := 29, pos := "law.go:292", after := #[], guard := none }) (v := .pointer pv) op_52 hns fr_52 rdy_52 (fun _ _ _ h => h) (Or.inl ⟨by rfl, ?_⟩) hS ?_
  · intro w8 hSw
    have ex4 : b183.tmps[4]?.getD undef = .pointer pv := (E.2 4).trans h4
    simp [execOp, ex4, go_sem]
  rw [ls_45]
  show wpAnyH _ _ _ _ _ _ _ (Act.put b183 (some 185) (.pointer pv)) _
  obtain ⟨b185, hb185⟩ : ∃ x, x = Act.put b183 (some 185) (.pointer pv) := ⟨_, rfl⟩
  rw [← hb185]
  replace E := E.put 185 (.pointer pv) (by decide)
  rw [← hb185] at E
  refine wpAnyH_take (i := 53) (oi := { dst := some 186, op := Op.fieldAddr 28 (Operand.tmp 1) 1, type := 0, pos := "law.go:292", after := #[], guard := none }) (v := .pointer (some ⟨B, 1, none⟩)) op_53 hns fr_53 rdy_53 (fun _ _ _ h => h) (Or.inl ⟨by rfl, ?_⟩) hS ?_
  · intro w8 hSw
    have ex1 : b185.tmps[1]?.getD undef = .pointer (some ⟨B, 0, none⟩) := (E.2 1).trans h1
    simp [execOp, ex1, go_sem]
  rw [ls_46]
  show wpAnyH _ _ _ _ _ _ _ (Act.put b185 (some 186) (.pointer (some ⟨B, 1, none⟩))) _
  obtain ⟨b186, hb186⟩ : ∃ x, x = Act.put b185 (some 186) (.pointer (some ⟨B, 1, none⟩)) := ⟨_, rfl⟩
  rw [← hb186]
  replace E := E.put 186 (.pointer (some ⟨B, 1, none⟩)) (by decide)
  rw [← hb186] at E
  refine wpAnyH_take (i := 54) (oi := { dst := some 187, op := Op.load 24 (Operand.tmp 186), type := 24, pos := "law.go:292", after := #[{ on := 53, ground := Ground.data }], guard := none }) (v := .agg #[.int .i64 u, .int .i64 g, .slice ga gn gc, .int .i64 um, .int .i64 cw]) op_54 hns fr_54 rdy_54 (fun _ _ _ h => h) (Or.inl ⟨by rfl, ?_⟩) hS ?_
  · intro w8 hSw
    have ex186 : b186.tmps[186]?.getD undef = .pointer (some ⟨B, 1, none⟩) := (E.2 186).trans rfl
    obtain ⟨d1, d2, d3, d4, d5, d6, d7, d8, d9, d10, d11, d12, d13, d14⟩ := hSw
    simp [execOp, ex186, go_sem, d1, d2, d3, d4, d5]
  rw [ls_47]
  show wpAnyH _ _ _ _ _ _ _ (Act.put b186 (some 187) (.agg #[.int .i64 u, .int .i64 g, .slice ga gn gc, .int .i64 um, .int .i64 cw])) _
  obtain ⟨b187, hb187⟩ : ∃ x, x = Act.put b186 (some 187) (.agg #[.int .i64 u, .int .i64 g, .slice ga gn gc, .int .i64 um, .int .i64 cw]) := ⟨_, rfl⟩
  rw [← hb187]
  replace E := E.put 187 (.agg #[.int .i64 u, .int .i64 g, .slice ga gn gc, .int .i64 um, .int .i64 cw]) (by decide)
  rw [← hb187] at E
  refine wpAnyH_take (i := 55) (oi := { dst := some 188, op := Op.fieldAddr 28 (Operand.tmp 1) 2, type := 0, pos := "law.go:292", after := #[], guard := none }) (v := .pointer (some ⟨B, 6, none⟩)) op_55 hns fr_55 rdy_55 (fun _ _ _ h => h) (Or.inl ⟨by rfl, ?_⟩) hS ?_
  · intro w8 hSw
    have ex1 : b187.tmps[1]?.getD undef = .pointer (some ⟨B, 0, none⟩) := (E.2 1).trans h1
    simp [execOp, ex1, go_sem]
  rw [ls_48]
  show wpAnyH _ _ _ _ _ _ _ (Act.put b187 (some 188) (.pointer (some ⟨B, 6, none⟩))) _
  obtain ⟨b188, hb188⟩ : ∃ x, x = Act.put b187 (some 188) (.pointer (some ⟨B, 6, none⟩)) := ⟨_, rfl⟩
  rw [← hb188]
  replace E := E.put 188 (.pointer (some ⟨B, 6, none⟩)) (by decide)
  rw [← hb188] at E
  refine wpAnyH_take (i := 56) (oi := { dst := some 189, op := Op.load 9 (Operand.tmp 188), type := 9, pos := "law.go:292", after := #[{ on := 55, ground := Ground.data }], guard := none }) (v := .string sp) op_56 hns fr_56 rdy_56 (fun _ _ _ h => h) (Or.inl ⟨by rfl, ?_⟩) hS ?_
  · intro w8 hSw
    have ex188 : b188.tmps[188]?.getD undef = .pointer (some ⟨B, 6, none⟩) := (E.2 188).trans rfl
    obtain ⟨d1, d2, d3, d4, d5, d6, d7, d8, d9, d10, d11, d12, d13, d14⟩ := hSw
    simp [execOp, ex188, go_sem, d6]
  rw [ls_49]
  show wpAnyH _ _ _ _ _ _ _ (Act.put b188 (some 189) (.string sp)) _
  obtain ⟨b189, hb189⟩ : ∃ x, x = Act.put b188 (some 189) (.string sp) := ⟨_, rfl⟩
  rw [← hb189]
  replace E := E.put 189 (.string sp) (by decide)
  rw [← hb189] at E
  refine wpAnyH_take (i := 57) (oi := { dst := some 190, op := Op.fieldAddr 28 (Operand.tmp 1) 6, type := 0, pos := "law.go:292", after := #[], guard := none }) (v := .pointer (some ⟨B, 10, none⟩)) op_57 hns fr_57 rdy_57 (fun _ _ _ h => h) (Or.inl ⟨by rfl, ?_⟩) hS ?_
  · intro w8 hSw
    have ex1 : b189.tmps[1]?.getD undef = .pointer (some ⟨B, 0, none⟩) := (E.2 1).trans h1
    simp [execOp, ex1, go_sem]
  rw [ls_50]
  show wpAnyH _ _ _ _ _ _ _ (Act.put b189 (some 190) (.pointer (some ⟨B, 10, none⟩))) _
  obtain ⟨b190, hb190⟩ : ∃ x, x = Act.put b189 (some 190) (.pointer (some ⟨B, 10, none⟩)) := ⟨_, rfl⟩
  rw [← hb190]
  replace E := E.put 190 (.pointer (some ⟨B, 10, none⟩)) (by decide)
  rw [← hb190] at E
  refine wpAnyH_take (i := 58) (oi := { dst := some 191, op := Op.load 25 (Operand.tmp 190), type := 25, pos := "law.go:292", after := #[{ on := 57, ground := Ground.data }], guard := none }) (v := .int .i64 zm) op_58 hns fr_58 rdy_58 (fun _ _ _ h => h) (Or.inl ⟨by rfl, ?_⟩) hS ?_
  · intro w8 hSw
    have ex190 : b190.tmps[190]?.getD undef = .pointer (some ⟨B, 10, none⟩) := (E.2 190).trans rfl
    obtain ⟨d1, d2, d3, d4, d5, d6, d7, d8, d9, d10, d11, d12, d13, d14⟩ := hSw
    simp [execOp, ex190, go_sem, d10]
  rw [ls_51]
  show wpAnyH _ _ _ _ _ _ _ (Act.put b190 (some 191) (.int .i64 zm)) _
  obtain ⟨b191, hb191⟩ : ∃ x, x = Act.put b190 (some 191) (.int .i64 zm) := ⟨_, rfl⟩
  rw [← hb191]
  replace E := E.put 191 (.int .i64 zm) (by decide)
  rw [← hb191] at E
  refine wpAnyH_take (i := 60) (oi := { dst := some 193, op := Op.move (Operand.tmp 4), type := 29, pos := "law.go:292", after := #[], guard := none }) (v := .pointer pv) op_60 hns fr_60 rdy_60 (fun _ _ _ h => h) (Or.inl ⟨by rfl, ?_⟩) hS ?_
  · intro w8 hSw
    have ex4 : b191.tmps[4]?.getD undef = .pointer pv := (E.2 4).trans h4
    simp [execOp, ex4, go_sem]
  rw [ls_52]
  show wpAnyH _ _ _ _ _ _ _ (Act.put b191 (some 193) (.pointer pv)) _
  obtain ⟨b193, hb193⟩ : ∃ x, x = Act.put b191 (some 193) (.pointer pv) := ⟨_, rfl⟩
  rw [← hb193]
  replace E := E.put 193 (.pointer pv) (by decide)
  rw [← hb193] at E
  refine wpAnyH_take (i := 61) (oi := { dst := some 194, op := Op.fieldAddr 28 (Operand.tmp 1) 1, type := 0, pos := "law.go:292", after := #[], guard := none }) (v := .pointer (some ⟨B, 1, none⟩)) op_61 hns fr_61 rdy_61 (fun _ _ _ h => h) (Or.inl ⟨by rfl, ?_⟩) hS ?_
  · intro w8 hSw
    have ex1 : b193.tmps[1]?.getD undef = .pointer (some ⟨B, 0, none⟩) := (E.2 1).trans h1
    simp [execOp, ex1, go_sem]
  rw [ls_53]
  show wpAnyH _ _ _ _ _ _ _ (Act.put b193 (some 194) (.pointer (some ⟨B, 1, none⟩))) _
  obtain ⟨b194, hb194⟩ : ∃ x, x = Act.put b193 (some 194) (.pointer (some ⟨B, 1, none⟩)) := ⟨_, rfl⟩
  rw [← hb194]
  replace E := E.put 194 (.pointer (some ⟨B, 1, none⟩)) (by decide)
  rw [← hb194] at E
  refine wpAnyH_take (i := 62) (oi := { dst := some 195, op := Op.load 24 (Operand.tmp 194), type := 24, pos := "law.go:292", after := #[{ on := 61, ground := Ground.data }], guard := none }) (v := .agg #[.int .i64 u, .int .i64 g, .slice ga gn gc, .int .i64 um, .int .i64 cw]) op_62 hns fr_62 rdy_62 (fun _ _ _ h => h) (Or.inl ⟨by rfl, ?_⟩) hS ?_
  · intro w8 hSw
    have ex194 : b194.tmps[194]?.getD undef = .pointer (some ⟨B, 1, none⟩) := (E.2 194).trans rfl
    obtain ⟨d1, d2, d3, d4, d5, d6, d7, d8, d9, d10, d11, d12, d13, d14⟩ := hSw
    simp [execOp, ex194, go_sem, d1, d2, d3, d4, d5]
  rw [ls_54]
  show wpAnyH _ _ _ _ _ _ _ (Act.put b194 (some 195) (.agg #[.int .i64 u, .int .i64 g, .slice ga gn gc, .int .i64 um, .int .i64 cw])) _
  obtain ⟨b195, hb195⟩ : ∃ x, x = Act.put b194 (some 195) (.agg #[.int .i64 u, .int .i64 g, .slice ga gn gc, .int .i64 um, .int .i64 cw]) := ⟨_, rfl⟩
  rw [← hb195]
  replace E := E.put 195 (.agg #[.int .i64 u, .int .i64 g, .slice ga gn gc, .int .i64 um, .int .i64 cw]) (by decide)
  rw [← hb195] at E
  refine wpAnyH_take (i := 63) (oi := { dst := some 196, op := Op.fieldAddr 28 (Operand.tmp 1) 2, type := 0, pos := "law.go:292", after := #[], guard := none }) (v := .pointer (some ⟨B, 6, none⟩)) op_63 hns fr_63 rdy_63 (fun _ _ _ h => h) (Or.inl ⟨by rfl, ?_⟩) hS ?_
  · intro w8 hSw
    have ex1 : b195.tmps[1]?.getD undef = .pointer (some ⟨B, 0, none⟩) := (E.2 1).trans h1
    simp [execOp, ex1, go_sem]
  rw [ls_55]
  show wpAnyH _ _ _ _ _ _ _ (Act.put b195 (some 196) (.pointer (some ⟨B, 6, none⟩))) _
  obtain ⟨b196, hb196⟩ : ∃ x, x = Act.put b195 (some 196) (.pointer (some ⟨B, 6, none⟩)) := ⟨_, rfl⟩
  rw [← hb196]
  replace E := E.put 196 (.pointer (some ⟨B, 6, none⟩)) (by decide)
  rw [← hb196] at E
  refine wpAnyH_take (i := 64) (oi := { dst := some 197, op := Op.load 9 (Operand.tmp 196), type := 9, pos := "law.go:292", after := #[{ on := 63, ground := Ground.data }], guard := none }) (v := .string sp) op_64 hns fr_64 rdy_64 (fun _ _ _ h => h) (Or.inl ⟨by rfl, ?_⟩) hS ?_
  · intro w8 hSw
    have ex196 : b196.tmps[196]?.getD undef = .pointer (some ⟨B, 6, none⟩) := (E.2 196).trans rfl
    obtain ⟨d1, d2, d3, d4, d5, d6, d7, d8, d9, d10, d11, d12, d13, d14⟩ := hSw
    simp [execOp, ex196, go_sem, d6]
  rw [ls_56]
  show wpAnyH _ _ _ _ _ _ _ (Act.put b196 (some 197) (.string sp)) _
  obtain ⟨b197, hb197⟩ : ∃ x, x = Act.put b196 (some 197) (.string sp) := ⟨_, rfl⟩
  rw [← hb197]
  replace E := E.put 197 (.string sp) (by decide)
  rw [← hb197] at E
  refine wpAnyH_take (i := 65) (oi := { dst := some 198, op := Op.fieldAddr 28 (Operand.tmp 1) 4, type := 0, pos := "law.go:292", after := #[], guard := none }) (v := .pointer (some ⟨B, 8, none⟩)) op_65 hns fr_65 rdy_65 (fun _ _ _ h => h) (Or.inl ⟨by rfl, ?_⟩) hS ?_
  · intro w8 hSw
    have ex1 : b197.tmps[1]?.getD undef = .pointer (some ⟨B, 0, none⟩) := (E.2 1).trans h1
    simp [execOp, ex1, go_sem]
  rw [ls_57]
  show wpAnyH _ _ _ _ _ _ _ (Act.put b197 (some 198) (.pointer (some ⟨B, 8, none⟩))) _
  obtain ⟨b198, hb198⟩ : ∃ x, x = Act.put b197 (some 198) (.pointer (some ⟨B, 8, none⟩)) := ⟨_, rfl⟩
  rw [← hb198]
  replace E := E.put 198 (.pointer (some ⟨B, 8, none⟩)) (by decide)
  rw [← hb198] at E
  refine wpAnyH_take (i := 66) (oi := { dst := some 199, op := Op.load 3 (Operand.tmp 198), type := 3, pos := "law.go:292", after := #[{ on := 65, ground := Ground.data }], guard := none }) (v := .int .i64 za) op_66 hns fr_66 rdy_66 (fun _ _ _ h => h) (Or.inl ⟨by rfl, ?_⟩) hS ?_
  · intro w8 hSw
    have ex198 : b198.tmps[198]?.getD undef = .pointer (some ⟨B, 8, none⟩) := (E.2 198).trans rfl
    obtain ⟨d1, d2, d3, d4, d5, d6, d7, d8, d9, d10, d11, d12, d13, d14⟩ := hSw
    simp [execOp, ex198, go_sem, d8]
  rw [ls_58]
  show wpAnyH _ _ _ _ _ _ _ (Act.put b198 (some 199) (.int .i64 za)) _
  obtain ⟨b199, hb199⟩ : ∃ x, x = Act.put b198 (some 199) (.int .i64 za) := ⟨_, rfl⟩
  rw [← hb199]
  replace E := E.put 199 (.int .i64 za) (by decide)
  rw [← hb199] at E
  refine wpAnyH_take (i := 67) (oi := { dst := some 200, op := Op.fieldAddr 28 (Operand.tmp 1) 5, type := 0, pos := "law.go:292", after := #[], guard := none }) (v := .pointer (some ⟨B, 9, none⟩)) op_67 hns fr_67 rdy_67 (fun _ _ _ h => h) (Or.inl ⟨by rfl, ?_⟩) hS ?_
  · intro w8 hSw
    have ex1 : b199.tmps[1]?.getD undef = .pointer (some ⟨B, 0, none⟩) := (E.2 1).trans h1
    simp [execOp, ex1, go_sem]
  rw [ls_59]
  show wpAnyH _ _ _ _ _ _ _ (Act.put b199 (some 200) (.pointer (some ⟨B, 9, none⟩))) _
  obtain ⟨b200, hb200⟩ : ∃ x, x = Act.put b199 (some 200) (.pointer (some ⟨B, 9, none⟩)) := ⟨_, rfl⟩
  rw [← hb200]
  replace E := E.put 200 (.pointer (some ⟨B, 9, none⟩)) (by decide)
  rw [← hb200] at E
  refine wpAnyH_take (i := 68) (oi := { dst := some 201, op := Op.load 3 (Operand.tmp 200), type := 3, pos := "law.go:292", after := #[{ on := 67, ground := Ground.data }], guard := none }) (v := .int .i64 zb) op_68 hns fr_68 rdy_68 (fun _ _ _ h => h) (Or.inl ⟨by rfl, ?_⟩) hS ?_
  · intro w8 hSw
    have ex200 : b200.tmps[200]?.getD undef = .pointer (some ⟨B, 9, none⟩) := (E.2 200).trans rfl
    obtain ⟨d1, d2, d3, d4, d5, d6, d7, d8, d9, d10, d11, d12, d13, d14⟩ := hSw
    simp [execOp, ex200, go_sem, d9]
  rw [ls_60]
  show wpAnyH _ _ _ _ _ _ _ (Act.put b200 (some 201) (.int .i64 zb)) _
  obtain ⟨b201, hb201⟩ : ∃ x, x = Act.put b200 (some 201) (.int .i64 zb) := ⟨_, rfl⟩
  rw [← hb201]
  replace E := E.put 201 (.int .i64 zb) (by decide)
  rw [← hb201] at E
  refine wpAnyH_take (i := 69) (oi := { dst := some 202, op := Op.fieldAddr 28 (Operand.tmp 1) 10, type := 0, pos := "law.go:292", after := #[], guard := none }) (v := .pointer (some ⟨B, 14, none⟩)) op_69 hns fr_69 rdy_69 (fun _ _ _ h => h) (Or.inl ⟨by rfl, ?_⟩) hS ?_
  · intro w8 hSw
    have ex1 : b201.tmps[1]?.getD undef = .pointer (some ⟨B, 0, none⟩) := (E.2 1).trans h1
    simp [execOp, ex1, go_sem]
  rw [ls_61]
  show wpAnyH _ _ _ _ _ _ _ (Act.put b201 (some 202) (.pointer (some ⟨B, 14, none⟩))) _
  obtain ⟨b202, hb202⟩ : ∃ x, x = Act.put b201 (some 202) (.pointer (some ⟨B, 14, none⟩)) := ⟨_, rfl⟩
  rw [← hb202]
  replace E := E.put 202 (.pointer (some ⟨B, 14, none⟩)) (by decide)
  rw [← hb202] at E
  refine wpAnyH_take (i := 70) (oi := { dst := some 203, op := Op.load 4 (Operand.tmp 202), type := 4, pos := "law.go:292", after := #[{ on := 69, ground := Ground.data }], guard := none }) (v := .bool fo) op_70 hns fr_70 rdy_70 (fun _ _ _ h => h) (Or.inl ⟨by rfl, ?_⟩) hS ?_
  · intro w8 hSw
    have ex202 : b202.tmps[202]?.getD undef = .pointer (some ⟨B, 14, none⟩) := (E.2 202).trans rfl
    obtain ⟨d1, d2, d3, d4, d5, d6, d7, d8, d9, d10, d11, d12, d13, d14⟩ := hSw
    simp [execOp, ex202, go_sem, d14]
  rw [ls_62]
  show wpAnyH _ _ _ _ _ _ _ (Act.put b202 (some 203) (.bool fo)) _
  obtain ⟨b203, hb203⟩ : ∃ x, x = Act.put b202 (some 203) (.bool fo) := ⟨_, rfl⟩
  rw [← hb203]
  replace E := E.put 203 (.bool fo) (by decide)
  rw [← hb203] at E
  refine wpAnyH_take (i := 72) (oi := { dst := some 205, op := Op.move (Operand.tmp 4), type := 29, pos := "law.go:292", after := #[], guard := none }) (v := .pointer pv) op_72 hns fr_72 rdy_72 (fun _ _ _ h => h) (Or.inl ⟨by rfl, ?_⟩) hS ?_
  · intro w8 hSw
    have ex4 : b203.tmps[4]?.getD undef = .pointer pv := (E.2 4).trans h4
    simp [execOp, ex4, go_sem]
  rw [ls_63]
  show wpAnyH _ _ _ _ _ _ _ (Act.put b203 (some 205) (.pointer pv)) _
  obtain ⟨b205, hb205⟩ : ∃ x, x = Act.put b203 (some 205) (.pointer pv) := ⟨_, rfl⟩
  rw [← hb205]
  replace E := E.put 205 (.pointer pv) (by decide)
  rw [← hb205] at E
  refine wpAnyH_take (i := 73) (oi := { dst := some 206, op := Op.fieldAddr 28 (Operand.tmp 1) 1, type := 0, pos := "law.go:292", after := #[], guard := none }) (v := .pointer (some ⟨B, 1, none⟩)) op_73 hns fr_73 rdy_73 (fun _ _ _ h => h) (Or.inl ⟨by rfl, ?_⟩) hS ?_
  · intro w8 hSw
    have ex1 : b205.tmps[1]?.getD undef = .pointer (some ⟨B, 0, none⟩) := (E.2 1).trans h1
    simp [execOp, ex1, go_sem]
  rw [ls_64]
  show wpAnyH _ _ _ _ _ _ _ (Act.put b205 (some 206) (.pointer (some ⟨B, 1, none⟩))) _
  obtain ⟨b206, hb206⟩ : ∃ x, x = Act.put b205 (some 206) (.pointer (some ⟨B, 1, none⟩)) := ⟨_, rfl⟩
  rw [← hb206]
  replace E := E.put 206 (.pointer (some ⟨B, 1, none⟩)) (by decide)
  rw [← hb206] at E
  refine wpAnyH_take (i := 74) (oi := { dst := some 207, op := Op.load 24 (Operand.tmp 206), type := 24, pos := "law.go:292", after := #[{ on := 73, ground := Ground.data }], guard := none }) (v := .agg #[.int .i64 u, .int .i64 g, .slice ga gn gc, .int .i64 um, .int .i64 cw]) op_74 hns fr_74 rdy_74 (fun _ _ _ h => h) (Or.inl ⟨by rfl, ?_⟩) hS ?_
  · intro w8 hSw
    have ex206 : b206.tmps[206]?.getD undef = .pointer (some ⟨B, 1, none⟩) := (E.2 206).trans rfl
    obtain ⟨d1, d2, d3, d4, d5, d6, d7, d8, d9, d10, d11, d12, d13, d14⟩ := hSw
    simp [execOp, ex206, go_sem, d1, d2, d3, d4, d5]
  rw [ls_65]
  show wpAnyH _ _ _ _ _ _ _ (Act.put b206 (some 207) (.agg #[.int .i64 u, .int .i64 g, .slice ga gn gc, .int .i64 um, .int .i64 cw])) _
  obtain ⟨b207, hb207⟩ : ∃ x, x = Act.put b206 (some 207) (.agg #[.int .i64 u, .int .i64 g, .slice ga gn gc, .int .i64 um, .int .i64 cw]) := ⟨_, rfl⟩
  rw [← hb207]
  replace E := E.put 207 (.agg #[.int .i64 u, .int .i64 g, .slice ga gn gc, .int .i64 um, .int .i64 cw]) (by decide)
  rw [← hb207] at E
  refine wpAnyH_take (i := 75) (oi := { dst := some 208, op := Op.fieldAddr 28 (Operand.tmp 1) 2, type := 0, pos := "law.go:292", after := #[], guard := none }) (v := .pointer (some ⟨B, 6, none⟩)) op_75 hns fr_75 rdy_75 (fun _ _ _ h => h) (Or.inl ⟨by rfl, ?_⟩) hS ?_
  · intro w8 hSw
    have ex1 : b207.tmps[1]?.getD undef = .pointer (some ⟨B, 0, none⟩) := (E.2 1).trans h1
    simp [execOp, ex1, go_sem]
  rw [ls_66]
  show wpAnyH _ _ _ _ _ _ _ (Act.put b207 (some 208) (.pointer (some ⟨B, 6, none⟩))) _
  obtain ⟨b208, hb208⟩ : ∃ x, x = Act.put b207 (some 208) (.pointer (some ⟨B, 6, none⟩)) := ⟨_, rfl⟩
  rw [← hb208]
  replace E := E.put 208 (.pointer (some ⟨B, 6, none⟩)) (by decide)
  rw [← hb208] at E
  refine wpAnyH_take (i := 76) (oi := { dst := some 209, op := Op.load 9 (Operand.tmp 208), type := 9, pos := "law.go:292", after := #[{ on := 75, ground := Ground.data }], guard := none }) (v := .string sp) op_76 hns fr_76 rdy_76 (fun _ _ _ h => h) (Or.inl ⟨by rfl, ?_⟩) hS ?_
  · intro w8 hSw
    have ex208 : b208.tmps[208]?.getD undef = .pointer (some ⟨B, 6, none⟩) := (E.2 208).trans rfl
    obtain ⟨d1, d2, d3, d4, d5, d6, d7, d8, d9, d10, d11, d12, d13, d14⟩ := hSw
    simp [execOp, ex208, go_sem, d6]
  rw [ls_67]
  show wpAnyH _ _ _ _ _ _ _ (Act.put b208 (some 209) (.string sp)) _
  obtain ⟨b209, hb209⟩ : ∃ x, x = Act.put b208 (some 209) (.string sp) := ⟨_, rfl⟩
  rw [← hb209]
  replace E := E.put 209 (.string sp) (by decide)
  rw [← hb209] at E
  refine wpAnyH_take (i := 77) (oi := { dst := some 210, op := Op.fieldAddr 28 (Operand.tmp 1) 8, type := 0, pos := "law.go:292", after := #[], guard := none }) (v := .pointer (some ⟨B, 12, none⟩)) op_77 hns fr_77 rdy_77 (fun _ _ _ h => h) (Or.inl ⟨by rfl, ?_⟩) hS ?_
  · intro w8 hSw
    have ex1 : b209.tmps[1]?.getD undef = .pointer (some ⟨B, 0, none⟩) := (E.2 1).trans h1
    simp [execOp, ex1, go_sem]
  rw [ls_68]
  show wpAnyH _ _ _ _ _ _ _ (Act.put b209 (some 210) (.pointer (some ⟨B, 12, none⟩))) _
  obtain ⟨b210, hb210⟩ : ∃ x, x = Act.put b209 (some 210) (.pointer (some ⟨B, 12, none⟩)) := ⟨_, rfl⟩
  rw [← hb210]
  replace E := E.put 210 (.pointer (some ⟨B, 12, none⟩)) (by decide)
  rw [← hb210] at E
  refine wpAnyH_take (i := 78) (oi := { dst := some 211, op := Op.load 2 (Operand.tmp 210), type := 2, pos := "law.go:292", after := #[{ on := 77, ground := Ground.data }], guard := none }) (v := .int .i64 ta1) op_78 hns fr_78 rdy_78 (fun _ _ _ h => h) (Or.inl ⟨by rfl, ?_⟩) hS ?_
  · intro w8 hSw
    have ex210 : b210.tmps[210]?.getD undef = .pointer (some ⟨B, 12, none⟩) := (E.2 210).trans rfl
    obtain ⟨d1, d2, d3, d4, d5, d6, d7, d8, d9, d10, d11, d12, d13, d14⟩ := hSw
    simp [execOp, ex210, go_sem, d12]
  rw [ls_69]
  show wpAnyH _ _ _ _ _ _ _ (Act.put b210 (some 211) (.int .i64 ta1)) _
  obtain ⟨b211, hb211⟩ : ∃ x, x = Act.put b210 (some 211) (.int .i64 ta1) := ⟨_, rfl⟩
  rw [← hb211]
  replace E := E.put 211 (.int .i64 ta1) (by decide)
  rw [← hb211] at E
  refine wpAnyH_take (i := 79) (oi := { dst := some 212, op := Op.fieldAddr 28 (Operand.tmp 1) 9, type := 0, pos := "law.go:292", after := #[], guard := none }) (v := .pointer (some ⟨B, 13, none⟩)) op_79 hns fr_79 rdy_79 (fun _ _ _ h => h) (Or.inl ⟨by rfl, ?_⟩) hS ?_
  · intro w8 hSw
    have ex1 : b211.tmps[1]?.getD undef = .pointer (some ⟨B, 0, none⟩) := (E.2 1).trans h1
    simp [execOp, ex1, go_sem]
  rw [ls_70]
  show wpAnyH _ _ _ _ _ _ _ (Act.put b211 (some 212) (.pointer (some ⟨B, 13, none⟩))) _
  obtain ⟨b212, hb212⟩ : ∃ x, x = Act.put b211 (some 212) (.pointer (some ⟨B, 13, none⟩)) := ⟨_, rfl⟩
  rw [← hb212]
  replace E := E.put 212 (.pointer (some ⟨B, 13, none⟩)) (by decide)
  rw [← hb212] at E
  refine wpAnyH_take (i := 80) (oi := { dst := some 213, op := Op.load 2 (Operand.tmp 212), type := 2, pos := "law.go:292", after := #[{ on := 79, ground := Ground.data }], guard := none }) (v := .int .i64 tb1) op_80 hns fr_80 rdy_80 (fun _ _ _ h => h) (Or.inl ⟨by rfl, ?_⟩) hS ?_
  · intro w8 hSw
    have ex212 : b212.tmps[212]?.getD undef = .pointer (some ⟨B, 13, none⟩) := (E.2 212).trans rfl
    obtain ⟨d1, d2, d3, d4, d5, d6, d7, d8, d9, d10, d11, d12, d13, d14⟩ := hSw
    simp [execOp, ex212, go_sem, d13]
  rw [ls_71]
  show wpAnyH _ _ _ _ _ _ _ (Act.put b212 (some 213) (.int .i64 tb1)) _
  obtain ⟨b213, hb213⟩ : ∃ x, x = Act.put b212 (some 213) (.int .i64 tb1) := ⟨_, rfl⟩
  rw [← hb213]
  replace E := E.put 213 (.int .i64 tb1) (by decide)
  rw [← hb213] at E
  refine wpAnyH_take (i := 81) (oi := { dst := some 214, op := Op.fieldAddr 28 (Operand.tmp 1) 10, type := 0, pos := "law.go:292", after := #[], guard := none }) (v := .pointer (some ⟨B, 14, none⟩)) op_81 hns fr_81 rdy_81 (fun _ _ _ h => h) (Or.inl ⟨by rfl, ?_⟩) hS ?_
  · intro w8 hSw
    have ex1 : b213.tmps[1]?.getD undef = .pointer (some ⟨B, 0, none⟩) := (E.2 1).trans h1
    simp [execOp, ex1, go_sem]
  rw [ls_72]
  show wpAnyH _ _ _ _ _ _ _ (Act.put b213 (some 214) (.pointer (some ⟨B, 14, none⟩))) _
  obtain ⟨b214, hb214⟩ : ∃ x, x = Act.put b213 (some 214) (.pointer (some ⟨B, 14, none⟩)) := ⟨_, rfl⟩
  rw [← hb214]
  replace E := E.put 214 (.pointer (some ⟨B, 14, none⟩)) (by decide)
  rw [← hb214] at E
  refine wpAnyH_take (i := 82) (oi := { dst := some 215, op := Op.load 4 (Operand.tmp 214), type := 4, pos := "law.go:292", after := #[{ on := 81, ground := Ground.data }], guard := none }) (v := .bool fo) op_82 hns fr_82 rdy_82 (fun _ _ _ h => h) (Or.inl ⟨by rfl, ?_⟩) hS ?_
  · intro w8 hSw
    have ex214 : b214.tmps[214]?.getD undef = .pointer (some ⟨B, 14, none⟩) := (E.2 214).trans rfl
    obtain ⟨d1, d2, d3, d4, d5, d6, d7, d8, d9, d10, d11, d12, d13, d14⟩ := hSw
    simp [execOp, ex214, go_sem, d14]
  rw [ls_73]
  show wpAnyH _ _ _ _ _ _ _ (Act.put b214 (some 215) (.bool fo)) _
  obtain ⟨b215, hb215⟩ : ∃ x, x = Act.put b214 (some 215) (.bool fo) := ⟨_, rfl⟩
  rw [← hb215]
  replace E := E.put 215 (.bool fo) (by decide)
  rw [← hb215] at E
  refine wpAnyH_take (i := 84) (oi := { dst := some 217, op := Op.move (Operand.tmp 4), type := 29, pos := "law.go:292", after := #[], guard := none }) (v := .pointer pv) op_84 hns fr_84 rdy_84 (fun _ _ _ h => h) (Or.inl ⟨by rfl, ?_⟩) hS ?_
  · intro w8 hSw
    have ex4 : b215.tmps[4]?.getD undef = .pointer pv := (E.2 4).trans h4
    simp [execOp, ex4, go_sem]
  rw [ls_74]
  show wpAnyH _ _ _ _ _ _ _ (Act.put b215 (some 217) (.pointer pv)) _
  obtain ⟨b217, hb217⟩ : ∃ x, x = Act.put b215 (some 217) (.pointer pv) := ⟨_, rfl⟩
  rw [← hb217]
  replace E := E.put 217 (.pointer pv) (by decide)
  rw [← hb217] at E
  refine wpAnyH_take (i := 85) (oi := { dst := some 218, op := Op.fieldAddr 28 (Operand.tmp 1) 1, type := 0, pos := "law.go:292", after := #[], guard := none }) (v := .pointer (some ⟨B, 1, none⟩)) op_85 hns fr_85 rdy_85 (fun _ _ _ h => h) (Or.inl ⟨by rfl, ?_⟩) hS ?_
  · intro w8 hSw
    have ex1 : b217.tmps[1]?.getD undef = .pointer (some ⟨B, 0, none⟩) := (E.2 1).trans h1
    simp [execOp, ex1, go_sem]
  rw [ls_75]
  show wpAnyH _ _ _ _ _ _ _ (Act.put b217 (some 218) (.pointer (some ⟨B, 1, none⟩))) _
  obtain ⟨b218, hb218⟩ : ∃ x, x = Act.put b217 (some 218) (.pointer (some ⟨B, 1, none⟩)) := ⟨_, rfl⟩
  rw [← hb218]
  replace E := E.put 218 (.pointer (some ⟨B, 1, none⟩)) (by decide)
  rw [← hb218] at E
  refine wpAnyH_take (i := 86) (oi := { dst := some 219, op := Op.load 24 (Operand.tmp 218), type := 24, pos := "law.go:292", after := #[{ on := 85, ground := Ground.data }], guard := none }) (v := .agg #[.int .i64 u, .int .i64 g, .slice ga gn gc, .int .i64 um, .int .i64 cw]) op_86 hns fr_86 rdy_86 (fun _ _ _ h => h) (Or.inl ⟨by rfl, ?_⟩) hS ?_
  · intro w8 hSw
    have ex218 : b218.tmps[218]?.getD undef = .pointer (some ⟨B, 1, none⟩) := (E.2 218).trans rfl
    obtain ⟨d1, d2, d3, d4, d5, d6, d7, d8, d9, d10, d11, d12, d13, d14⟩ := hSw
    simp [execOp, ex218, go_sem, d1, d2, d3, d4, d5]
  rw [ls_76]
  show wpAnyH _ _ _ _ _ _ _ (Act.put b218 (some 219) (.agg #[.int .i64 u, .int .i64 g, .slice ga gn gc, .int .i64 um, .int .i64 cw])) _
  obtain ⟨b219, hb219⟩ : ∃ x, x = Act.put b218 (some 219) (.agg #[.int .i64 u, .int .i64 g, .slice ga gn gc, .int .i64 um, .int .i64 cw]) := ⟨_, rfl⟩
  rw [← hb219]
  replace E := E.put 219 (.agg #[.int .i64 u, .int .i64 g, .slice ga gn gc, .int .i64 um, .int .i64 cw]) (by decide)
  rw [← hb219] at E
  refine wpAnyH_take (i := 87) (oi := { dst := some 220, op := Op.fieldAddr 28 (Operand.tmp 1) 2, type := 0, pos := "law.go:292", after := #[], guard := none }) (v := .pointer (some ⟨B, 6, none⟩)) op_87 hns fr_87 rdy_87 (fun _ _ _ h => h) (Or.inl ⟨by rfl, ?_⟩) hS ?_
  · intro w8 hSw
    have ex1 : b219.tmps[1]?.getD undef = .pointer (some ⟨B, 0, none⟩) := (E.2 1).trans h1
    simp [execOp, ex1, go_sem]
  rw [ls_77]
  show wpAnyH _ _ _ _ _ _ _ (Act.put b219 (some 220) (.pointer (some ⟨B, 6, none⟩))) _
  obtain ⟨b220, hb220⟩ : ∃ x, x = Act.put b219 (some 220) (.pointer (some ⟨B, 6, none⟩)) := ⟨_, rfl⟩
  rw [← hb220]
  replace E := E.put 220 (.pointer (some ⟨B, 6, none⟩)) (by decide)
  rw [← hb220] at E
  refine wpAnyH_take (i := 88) (oi := { dst := some 221, op := Op.load 9 (Operand.tmp 220), type := 9, pos := "law.go:292", after := #[{ on := 87, ground := Ground.data }], guard := none }) (v := .string sp) op_88 hns fr_88 rdy_88 (fun _ _ _ h => h) (Or.inl ⟨by rfl, ?_⟩) hS ?_
  · intro w8 hSw
    have ex220 : b220.tmps[220]?.getD undef = .pointer (some ⟨B, 6, none⟩) := (E.2 220).trans rfl
    obtain ⟨d1, d2, d3, d4, d5, d6, d7, d8, d9, d10, d11, d12, d13, d14⟩ := hSw
    simp [execOp, ex220, go_sem, d6]
  rw [ls_78]
  show wpAnyH _ _ _ _ _ _ _ (Act.put b220 (some 221) (.string sp)) _
  obtain ⟨b221, hb221⟩ : ∃ x, x = Act.put b220 (some 221) (.string sp) := ⟨_, rfl⟩
  rw [← hb221]
  replace E := E.put 221 (.string sp) (by decide)
  rw [← hb221] at E
  refine wpAnyH_take (i := 89) (oi := { dst := some 222, op := Op.fieldAddr 28 (Operand.tmp 1) 4, type := 0, pos := "law.go:292", after := #[], guard := none }) (v := .pointer (some ⟨B, 8, none⟩)) op_89 hns fr_89 rdy_89 (fun _ _ _ h => h) (Or.inl ⟨by rfl, ?_⟩) hS ?_
  · intro w8 hSw
    have ex1 : b221.tmps[1]?.getD undef = .pointer (some ⟨B, 0, none⟩) := (E.2 1).trans h1
    simp [execOp, ex1, go_sem]
  rw [ls_79]
  show wpAnyH _ _ _ _ _ _ _ (Act.put b221 (some 222) (.pointer (some ⟨B, 8, none⟩))) _
  obtain ⟨b222, hb222⟩ : ∃ x, x = Act.put b221 (some 222) (.pointer (some ⟨B, 8, none⟩)) := ⟨_, rfl⟩
  rw [← hb222]
  replace E := E.put 222 (.pointer (some ⟨B, 8, none⟩)) (by decide)
  rw [← hb222] at E
  refine wpAnyH_take (i := 90) (oi := { dst := some 223, op := Op.load 3 (Operand.tmp 222), type := 3, pos := "law.go:292", after := #[{ on := 89, ground := Ground.data }], guard := none }) (v := .int .i64 za) op_90 hns fr_90 rdy_90 (fun _ _ _ h => h) (Or.inl ⟨by rfl, ?_⟩) hS ?_
  · intro w8 hSw
    have ex222 : b222.tmps[222]?.getD undef = .pointer (some ⟨B, 8, none⟩) := (E.2 222).trans rfl
    obtain ⟨d1, d2, d3, d4, d5, d6, d7, d8, d9, d10, d11, d12, d13, d14⟩ := hSw
    simp [execOp, ex222, go_sem, d8]
  rw [ls_80]
  show wpAnyH _ _ _ _ _ _ _ (Act.put b222 (some 223) (.int .i64 za)) _
  obtain ⟨b223, hb223⟩ : ∃ x, x = Act.put b222 (some 223) (.int .i64 za) := ⟨_, rfl⟩
  rw [← hb223]
  replace E := E.put 223 (.int .i64 za) (by decide)
  rw [← hb223] at E
  refine wpAnyH_take (i := 92) (oi := { dst := some 225, op := Op.move (Operand.tmp 4), type := 29, pos := "law.go:292", after := #[], guard := none }) (v := .pointer pv) op_92 hns fr_92 rdy_92 (fun _ _ _ h => h) (Or.inl ⟨by rfl, ?_⟩) hS ?_
  · intro w8 hSw
    have ex4 : b223.tmps[4]?.getD undef = .pointer pv := (E.2 4).trans h4
    simp [execOp, ex4, go_sem]
  rw [ls_81]
  show wpAnyH _ _ _ _ _ _ _ (Act.put b223 (some 225) (.pointer pv)) _
  obtain ⟨b225, hb225⟩ : ∃ x, x = Act.put b223 (some 225) (.pointer pv) := ⟨_, rfl⟩
  rw [← hb225]
  replace E := E.put 225 (.pointer pv) (by decide)
  rw [← hb225] at E
  refine wpAnyH_take (i := 93) (oi := { dst := some 226, op := Op.fieldAddr 28 (Operand.tmp 1) 4, type := 0, pos := "law.go:292", after := #[], guard := none }) (v := .pointer (some ⟨B, 8, none⟩)) op_93 hns fr_93 rdy_93 (fun _ _ _ h => h) (Or.inl ⟨by rfl, ?_⟩) hS ?_
  · intro w8 hSw
    have ex1 : b225.tmps[1]?.getD undef = .pointer (some ⟨B, 0, none⟩) := (E.2 1).trans h1
    simp [execOp, ex1, go_sem]
  rw [ls_82]
  show wpAnyH _ _ _ _ _ _ _ (Act.put b225 (some 226) (.pointer (some ⟨B, 8, none⟩))) _
  obtain ⟨b226, hb226⟩ : ∃ x, x = Act.put b225 (some 226) (.pointer (some ⟨B, 8, none⟩)) := ⟨_, rfl⟩
  rw [← hb226]
  replace E := E.put 226 (.pointer (some ⟨B, 8, none⟩)) (by decide)
  rw [← hb226] at E
  refine wpAnyH_take (i := 94) (oi := { dst := some 227, op := Op.load 3 (Operand.tmp 226), type := 3, pos := "law.go:292", after := #[{ on := 93, ground := Ground.data }], guard := none }) (v := .int .i64 za) op_94 hns fr_94 rdy_94 (fun _ _ _ h => h) (Or.inl ⟨by rfl, ?_⟩) hS ?_
  · intro w8 hSw
    have ex226 : b226.tmps[226]?.getD undef = .pointer (some ⟨B, 8, none⟩) := (E.2 226).trans rfl
    obtain ⟨d1, d2, d3, d4, d5, d6, d7, d8, d9, d10, d11, d12, d13, d14⟩ := hSw
    simp [execOp, ex226, go_sem, d8]
  rw [ls_83]
  show wpAnyH _ _ _ _ _ _ _ (Act.put b226 (some 227) (.int .i64 za)) _
  obtain ⟨b227, hb227⟩ : ∃ x, x = Act.put b226 (some 227) (.int .i64 za) := ⟨_, rfl⟩
  rw [← hb227]
  replace E := E.put 227 (.int .i64 za) (by decide)
  rw [← hb227] at E
  refine wpAnyH_take (i := 96) (oi := { dst := some 229, op := Op.move (Operand.tmp 4), type := 29, pos := "law.go:292", after := #[], guard := none }) (v := .pointer pv) op_96 hns fr_96 rdy_96 (fun _ _ _ h => h) (Or.inl ⟨by rfl, ?_⟩) hS ?_
  · intro w8 hSw
    have ex4 : b227.tmps[4]?.getD undef = .pointer pv := (E.2 4).trans h4
    simp [execOp, ex4, go_sem]
  rw [ls_84]
  show wpAnyH _ _ _ _ _ _ _ (Act.put b227 (some 229) (.pointer pv)) _
  obtain ⟨b229, hb229⟩ : ∃ x, x = Act.put b227 (some 229) (.pointer pv) := ⟨_, rfl⟩
  rw [← hb229]
  replace E := E.put 229 (.pointer pv) (by decide)
  rw [← hb229] at E
  refine wpAnyH_take (i := 97) (oi := { dst := some 230, op := Op.fieldAddr 28 (Operand.tmp 1) 4, type := 0, pos := "law.go:292", after := #[], guard := none }) (v := .pointer (some ⟨B, 8, none⟩)) op_97 hns fr_97 rdy_97 (fun _ _ _ h => h) (Or.inl ⟨by rfl, ?_⟩) hS ?_
  · intro w8 hSw
    have ex1 : b229.tmps[1]?.getD undef = .pointer (some ⟨B, 0, none⟩) := (E.2 1).trans h1
    simp [execOp, ex1, go_sem]
  rw [ls_85]
  show wpAnyH _ _ _ _ _ _ _ (Act.put b229 (some 230) (.pointer (some ⟨B, 8, none⟩))) _
  obtain ⟨b230, hb230⟩ : ∃ x, x = Act.put b229 (some 230) (.pointer (some ⟨B, 8, none⟩)) := ⟨_, rfl⟩
  rw [← hb230]
  replace E := E.put 230 (.pointer (some ⟨B, 8, none⟩)) (by decide)
  rw [← hb230] at E
  refine wpAnyH_take (i := 98) (oi := { dst := some 231, op := Op.load 3 (Operand.tmp 230), type := 3, pos := "law.go:292", after := #[{ on := 97, ground := Ground.data }], guard := none }) (v := .int .i64 za) op_98 hns fr_98 rdy_98 (fun _ _ _ h => h) (Or.inl ⟨by rfl, ?_⟩) hS ?_
  · intro w8 hSw
    have ex230 : b230.tmps[230]?.getD undef = .pointer (some ⟨B, 8, none⟩) := (E.2 230).trans rfl
    obtain ⟨d1, d2, d3, d4, d5, d6, d7, d8, d9, d10, d11, d12, d13, d14⟩ := hSw
    simp [execOp, ex230, go_sem, d8]
  rw [ls_86]
  show wpAnyH _ _ _ _ _ _ _ (Act.put b230 (some 231) (.int .i64 za)) _
  obtain ⟨b231, hb231⟩ : ∃ x, x = Act.put b230 (some 231) (.int .i64 za) := ⟨_, rfl⟩
  rw [← hb231]
  replace E := E.put 231 (.int .i64 za) (by decide)
  rw [← hb231] at E
  refine wpAnyH_take (i := 100) (oi := { dst := some 233, op := Op.move (Operand.tmp 4), type := 29, pos := "law.go:292", after := #[], guard := none }) (v := .pointer pv) op_100 hns fr_100 rdy_100 (fun _ _ _ h => h) (Or.inl ⟨by rfl, ?_⟩) hS ?_
  · intro w8 hSw
    have ex4 : b231.tmps[4]?.getD undef = .pointer pv := (E.2 4).trans h4
    simp [execOp, ex4, go_sem]
  rw [ls_87]
  show wpAnyH _ _ _ _ _ _ _ (Act.put b231 (some 233) (.pointer pv)) _
  obtain ⟨b233, hb233⟩ : ∃ x, x = Act.put b231 (some 233) (.pointer pv) := ⟨_, rfl⟩
  rw [← hb233]
  replace E := E.put 233 (.pointer pv) (by decide)
  rw [← hb233] at E
  refine wpAnyH_take (i := 101) (oi := { dst := some 234, op := Op.fieldAddr 28 (Operand.tmp 1) 4, type := 0, pos := "law.go:292", after := #[], guard := none }) (v := .pointer (some ⟨B, 8, none⟩)) op_101 hns fr_101 rdy_101 (fun _ _ _ h => h) (Or.inl ⟨by rfl, ?_⟩) hS ?_
  · intro w8 hSw
    have ex1 : b233.tmps[1]?.getD undef = .pointer (some ⟨B, 0, none⟩) := (E.2 1).trans h1
    simp [execOp, ex1, go_sem]
  rw [ls_88]
  show wpAnyH _ _ _ _ _ _ _ (Act.put b233 (some 234) (.pointer (some ⟨B, 8, none⟩))) _
  obtain ⟨b234, hb234⟩ : ∃ x, x = Act.put b233 (some 234) (.pointer (some ⟨B, 8, none⟩)) := ⟨_, rfl⟩
  rw [← hb234]
  replace E := E.put 234 (.pointer (some ⟨B, 8, none⟩)) (by decide)
  rw [← hb234] at E
  refine wpAnyH_take (i := 102) (oi := { dst := some 235, op := Op.load 3 (Operand.tmp 234), type := 3, pos := "law.go:292", after := #[{ on := 101, ground := Ground.data }], guard := none }) (v := .int .i64 za) op_102 hns fr_102 rdy_102 (fun _ _ _ h => h) (Or.inl ⟨by rfl, ?_⟩) hS ?_
  · intro w8 hSw
    have ex234 : b234.tmps[234]?.getD undef = .pointer (some ⟨B, 8, none⟩) := (E.2 234).trans rfl
    obtain ⟨d1, d2, d3, d4, d5, d6, d7, d8, d9, d10, d11, d12, d13, d14⟩ := hSw
    simp [execOp, ex234, go_sem, d8]
  rw [ls_89]
  show wpAnyH _ _ _ _ _ _ _ (Act.put b234 (some 235) (.int .i64 za)) _
  obtain ⟨b235, hb235⟩ : ∃ x, x = Act.put b234 (some 235) (.int .i64 za) := ⟨_, rfl⟩
  rw [← hb235]
  replace E := E.put 235 (.int .i64 za) (by decide)
  rw [← hb235] at E
  refine wpAnyH_take (i := 103) (oi := { dst := some 236, op := Op.fieldAddr 28 (Operand.tmp 1) 5, type := 0, pos := "law.go:292", after := #[], guard := none }) (v := .pointer (some ⟨B, 9, none⟩)) op_103 hns fr_103 rdy_103 (fun _ _ _ h => h) (Or.inl ⟨by rfl, ?_⟩) hS ?_
  · intro w8 hSw
    have ex1 : b235.tmps[1]?.getD undef = .pointer (some ⟨B, 0, none⟩) := (E.2 1).trans h1
    simp [execOp, ex1, go_sem]
  rw [ls_90]
  show wpAnyH _ _ _ _ _ _ _ (Act.put b235 (some 236) (.pointer (some ⟨B, 9, none⟩))) _
  obtain ⟨b236, hb236⟩ : ∃ x, x = Act.put b235 (some 236) (.pointer (some ⟨B, 9, none⟩)) := ⟨_, rfl⟩
  rw [← hb236]
  replace E := E.put 236 (.pointer (some ⟨B, 9, none⟩)) (by decide)
  rw [← hb236] at E
  refine wpAnyH_take (i := 104) (oi := { dst := some 237, op := Op.load 3 (Operand.tmp 236), type := 3, pos := "law.go:292", after := #[{ on := 103, ground := Ground.data }], guard := none }) (v := .int .i64 zb) op_104 hns fr_104 rdy_104 (fun _ _ _ h => h) (Or.inl ⟨by rfl, ?_⟩) hS ?_
  · intro w8 hSw
    have ex236 : b236.tmps[236]?.getD undef = .pointer (some ⟨B, 9, none⟩) := (E.2 236).trans rfl
    obtain ⟨d1, d2, d3, d4, d5, d6, d7, d8, d9, d10, d11, d12, d13, d14⟩ := hSw
    simp [execOp, ex236, go_sem, d9]
  rw [ls_91]
  show wpAnyH _ _ _ _ _ _ _ (Act.put b236 (some 237) (.int .i64 zb)) _
  obtain ⟨b237, hb237⟩ : ∃ x, x = Act.put b236 (some 237) (.int .i64 zb) := ⟨_, rfl⟩
  rw [← hb237]
  replace E := E.put 237 (.int .i64 zb) (by decide)
  rw [← hb237] at E
  refine wpAnyH_take (i := 108) (oi := { dst := some 241, op := Op.move (Operand.const (Value.int IntKind.i64 0)), type := 3, pos := "law.go:292", after := #[], guard := none }) (v := .int .i64 0) op_108 hns fr_108 rdy_108 (fun _ _ _ h => h) (Or.inl ⟨by rfl, ?_⟩) hS ?_
  · intro w8 hSw
    simp [execOp, Act.eval, go_sem]
  rw [ls_92]
  show wpAnyH _ _ _ _ _ _ _ (Act.put b237 (some 241) (.int .i64 0)) _
  obtain ⟨b241, hb241⟩ : ∃ x, x = Act.put b237 (some 241) (.int .i64 0) := ⟨_, rfl⟩
  rw [← hb241]
  replace E := E.put 241 (.int .i64 0) (by decide)
  rw [← hb241] at E
  refine wpAnyH_ready (rs := [7]) al_7 (by simp) ?_
  refine AllReadyH.cons (o := { dst := some 140, op := Op.call { callee := Callee.value (Operand.func 10), args := #[Operand.tmp 133, Operand.tmp 135, Operand.tmp 137, Operand.tmp 139], argTypes := #[29, 24, 9, 3] }, type := 34, pos := "law.go:292", after := #[{ on := 0, ground := Ground.data }, { on := 2, ground := Ground.data }, { on := 4, ground := Ground.data }, { on := 6, ground := Ground.data }], guard := none }) op_7 (fun K hK => ?_) AllReadyH.nil
  have ex133 : b241.tmps[133]?.getD undef = .pointer pv := (E.2 133).trans rfl
  have ex135 : b241.tmps[135]?.getD undef = .agg #[.int .i64 u, .int .i64 g, .slice ga gn gc, .int .i64 um, .int .i64 cw] := (E.2 135).trans rfl
  have ex137 : b241.tmps[137]?.getD undef = .string sp := (E.2 137).trans rfl
  have ex139 : b241.tmps[139]?.getD undef = .int .i64 za := (E.2 139).trans rfl
  simp [Region.wanted, Oper.wp, ex133, ex135, ex137, ex139, go_sem]
  refine Calls.mono (nfAccess (.pointer pv) _ (HP.out _ HMc.out) _ _ _ _ _ _ _ _ _) ?_
  rintro e w9 ⟨rfl, M9⟩
  replace HMc := hid6 (HMc.out.trans M9)
  clear M9 hS
  refine hK.out _ _ (HD.out _ HMc.out) (fun hS => ?_)
  clear hK ex133 ex135 ex137 ex139
  rw [ls_93]
  show wpAnyH _ _ _ _ _ _ _ (Act.put b241 (some 140) (.int .i64 14)) _
  obtain ⟨b140, hb140⟩ : ∃ x, x = Act.put b241 (some 140) (.int .i64 14) := ⟨_, rfl⟩
  rw [← hb140]
  replace E := E.put 140 (.int .i64 14) (by decide)
  rw [← hb140] at E
  refine wpAnyH_ready (rs := [15]) al_15 (by simp) ?_
  refine AllReadyH.cons (o := { dst := some 148, op := Op.call { callee := Callee.value (Operand.func 11), args := #[Operand.tmp 141, Operand.tmp 143, Operand.tmp 145, Operand.tmp 147], argTypes := #[29, 24, 9, 25] }, type := 34, pos := "law.go:292", after := #[{ on := 8, ground := Ground.data }, { on := 10, ground := Ground.data }, { on := 12, ground := Ground.data }, { on := 14, ground := Ground.data }, { on := 7, ground := Ground.chain }], guard := none }) op_15 (fun K hK => ?_) AllReadyH.nil
  have ex141 : b140.tmps[141]?.getD undef = .pointer pv := (E.2 141).trans rfl
  have ex143 : b140.tmps[143]?.getD undef = .agg #[.int .i64 u, .int .i64 g, .slice ga gn gc, .int .i64 um, .int .i64 cw] := (E.2 143).trans rfl
  have ex145 : b140.tmps[145]?.getD undef = .string sp := (E.2 145).trans rfl
  have ex147 : b140.tmps[147]?.getD undef = .int .i64 zm := (E.2 147).trans rfl
  simp [Region.wanted, Oper.wp, ex141, ex143, ex145, ex147, go_sem]
  refine Calls.mono (nfMkdir (.pointer pv) _ (HP.out _ HMc.out) _ _ _ _ _ _ _ _ _) ?_
  rintro e w9 ⟨rfl, M9⟩
  replace HMc := hid6 (HMc.out.trans M9)
  clear M9 hS
  refine hK.out _ _ (HD.out _ HMc.out) (fun hS => ?_)
  clear hK ex141 ex143 ex145 ex147
  rw [ls_94]
  show wpAnyH _ _ _ _ _ _ _ (Act.put b140 (some 148) (.int .i64 14)) _
  obtain ⟨b148, hb148⟩ : ∃ x, x = Act.put b140 (some 148) (.int .i64 14) := ⟨_, rfl⟩
  rw [← hb148]
  replace E := E.put 148 (.int .i64 14) (by decide)
  rw [← hb148] at E
  refine wpAnyH_ready (rs := [21]) al_21 (by simp) ?_
  refine AllReadyH.cons (o := { dst := some 154, op := Op.call { callee := Callee.value (Operand.func 12), args := #[Operand.tmp 149, Operand.tmp 151, Operand.tmp 153], argTypes := #[29, 24, 9] }, type := 34, pos := "law.go:292", after := #[{ on := 16, ground := Ground.data }, { on := 18, ground := Ground.data }, { on := 20, ground := Ground.data }, { on := 15, ground := Ground.chain }], guard := none }) op_21 (fun K hK => ?_) AllReadyH.nil
  have ex149 : b148.tmps[149]?.getD undef = .pointer pv := (E.2 149).trans rfl
  have ex151 : b148.tmps[151]?.getD undef = .agg #[.int .i64 u, .int .i64 g, .slice ga gn gc, .int .i64 um, .int .i64 cw] := (E.2 151).trans rfl
  have ex153 : b148.tmps[153]?.getD undef = .string sp := (E.2 153).trans rfl
  simp [Region.wanted, Oper.wp, ex149, ex151, ex153, go_sem]
  refine Calls.mono (nfRmdir (.pointer pv) _ (HP.out _ HMc.out) _ _ _ _ _ _ _ _) ?_
  rintro e w9 ⟨rfl, M9⟩
  replace HMc := hid6 (HMc.out.trans M9)
  clear M9 hS
  refine hK.out _ _ (HD.out _ HMc.out) (fun hS => ?_)
  clear hK ex149 ex151 ex153
  rw [ls_95]
  show wpAnyH _ _ _ _ _ _ _ (Act.put b148 (some 154) (.int .i64 14)) _
  obtain ⟨b154, hb154⟩ : ∃ x, x = Act.put b148 (some 154) (.int .i64 14) := ⟨_, rfl⟩
  rw [← hb154]
  replace E := E.put 154 (.int .i64 14) (by decide)
  rw [← hb154] at E
  refine wpAnyH_ready (rs := [29]) al_29 (by simp) ?_
  refine AllReadyH.cons (o := { dst := some 162, op := Op.call { callee := Callee.value (Operand.func 13), args := #[Operand.tmp 155, Operand.tmp 157, Operand.tmp 159, Operand.tmp 161], argTypes := #[29, 24, 9, 9] }, type := 34, pos := "law.go:292", after := #[{ on := 22, ground := Ground.data }, { on := 24, ground := Ground.data }, { on := 26, ground := Ground.data }, { on := 28, ground := Ground.data }, { on := 21, ground := Ground.chain }], guard := none }) op_29 (fun K hK => ?_) AllReadyH.nil
  have ex155 : b154.tmps[155]?.getD undef = .pointer pv := (E.2 155).trans rfl
  have ex157 : b154.tmps[157]?.getD undef = .agg #[.int .i64 u, .int .i64 g, .slice ga gn gc, .int .i64 um, .int .i64 cw] := (E.2 157).trans rfl
  have ex159 : b154.tmps[159]?.getD undef = .string sq := (E.2 159).trans rfl
  have ex161 : b154.tmps[161]?.getD undef = .string sp := (E.2 161).trans rfl
  simp [Region.wanted, Oper.wp, ex155, ex157, ex159, ex161, go_sem]
  refine Calls.mono (nfSymlink (.pointer pv) _ (HP.out _ HMc.out) _ _ _ _ _ _ _ _ _) ?_
  rintro e w9 ⟨rfl, M9⟩
  replace HMc := hid6 (HMc.out.trans M9)
  clear M9 hS
  refine hK.out _ _ (HD.out _ HMc.out) (fun hS => ?_)
  clear hK ex155 ex157 ex159 ex161
  rw [ls_96]
  show wpAnyH _ _ _ _ _ _ _ (Act.put b154 (some 162) (.int .i64 14)) _
  obtain ⟨b162, hb162⟩ : ∃ x, x = Act.put b154 (some 162) (.int .i64 14) := ⟨_, rfl⟩
  rw [← hb162]
  replace E := E.put 162 (.int .i64 14) (by decide)
  rw [← hb162] at E
  refine wpAnyH_ready (rs := [37]) al_37 (by simp) ?_
  refine AllReadyH.cons (o := { dst := some 170, op := Op.call { callee := Callee.value (Operand.func 14), args := #[Operand.tmp 163, Operand.tmp 165, Operand.tmp 167, Operand.tmp 169], argTypes := #[29, 24, 9, 9] }, type := 34, pos := "law.go:292", after := #[{ on := 30, ground := Ground.data }, { on := 32, ground := Ground.data }, { on := 34, ground := Ground.data }, { on := 36, ground := Ground.data }, { on := 29, ground := Ground.chain }], guard := none }) op_37 (fun K hK => ?_) AllReadyH.nil
  have ex163 : b162.tmps[163]?.getD undef = .pointer pv := (E.2 163).trans rfl
  have ex165 : b162.tmps[165]?.getD undef = .agg #[.int .i64 u, .int .i64 g, .slice ga gn gc, .int .i64 um, .int .i64 cw] := (E.2 165).trans rfl
  have ex167 : b162.tmps[167]?.getD undef = .string sq := (E.2 167).trans rfl
  have ex169 : b162.tmps[169]?.getD undef = .string sp := (E.2 169).trans rfl
  simp [Region.wanted, Oper.wp, ex163, ex165, ex167, ex169, go_sem]
  refine Calls.mono (nfLink (.pointer pv) _ (HP.out _ HMc.out) _ _ _ _ _ _ _ _ _) ?_
  rintro e w9 ⟨rfl, M9⟩
  replace HMc := hid6 (HMc.out.trans M9)
  clear M9 hS
  refine hK.out _ _ (HD.out _ HMc.out) (fun hS => ?_)
  clear hK ex163 ex165 ex167 ex169
  rw [ls_97]
  show wpAnyH _ _ _ _ _ _ _ (Act.put b162 (some 170) (.int .i64 14)) _
  obtain ⟨b170, hb170⟩ : ∃ x, x = Act.put b162 (some 170) (.int .i64 14) := ⟨_, rfl⟩
  rw [← hb170]
  replace E := E.put 170 (.int .i64 14) (by decide)
  rw [← hb170] at E
  refine wpAnyH_ready (rs := [43]) al_43 (by simp) ?_
  refine AllReadyH.cons (o := { dst := some 176, op := Op.call { callee := Callee.value (Operand.func 15), args := #[Operand.tmp 171, Operand.tmp 173, Operand.tmp 175], argTypes := #[29, 24, 9] }, type := 34, pos := "law.go:292", after := #[{ on := 38, ground := Ground.data }, { on := 40, ground := Ground.data }, { on := 42, ground := Ground.data }, { on := 37, ground := Ground.chain }], guard := none }) op_43 (fun K hK => ?_) AllReadyH.nil
  have ex171 : b170.tmps[171]?.getD undef = .pointer pv := (E.2 171).trans rfl
  have ex173 : b170.tmps[173]?.getD undef = .agg #[.int .i64 u, .int .i64 g, .slice ga gn gc, .int .i64 um, .int .i64 cw] := (E.2 173).trans rfl
  have ex175 : b170.tmps[175]?.getD undef = .string sp := (E.2 175).trans rfl
  simp [Region.wanted, Oper.wp, ex171, ex173, ex175, go_sem]
  refine Calls.mono (nfUnlink (.pointer pv) _ (HP.out _ HMc.out) _ _ _ _ _ _ _ _) ?_
  rintro e w9 ⟨rfl, M9⟩
  replace HMc := hid6 (HMc.out.trans M9)
  clear M9 hS
  refine hK.out _ _ (HD.out _ HMc.out) (fun hS => ?_)
  clear hK ex171 ex173 ex175
  rw [ls_98]
  show wpAnyH _ _ _ _ _ _ _ (Act.put b170 (some 176) (.int .i64 14)) _
  obtain ⟨b176, hb176⟩ : ∃ x, x = Act.put b170 (some 176) (.int .i64 14) := ⟨_, rfl⟩
  rw [← hb176]
  replace E := E.put 176 (.int .i64 14) (by decide)
  rw [← hb176] at E
  refine wpAnyH_ready (rs := [51]) al_51 (by simp) ?_
  refine AllReadyH.cons (o := { dst := some 184, op := Op.call { callee := Callee.value (Operand.func 16), args := #[Operand.tmp 177, Operand.tmp 179, Operand.tmp 181, Operand.tmp 183], argTypes := #[29, 24, 9, 9] }, type := 34, pos := "law.go:292", after := #[{ on := 44, ground := Ground.data }, { on := 46, ground := Ground.data }, { on := 48, ground := Ground.data }, { on := 50, ground := Ground.data }, { on := 43, ground := Ground.chain }], guard := none }) op_51 (fun K hK => ?_) AllReadyH.nil
  have ex177 : b176.tmps[177]?.getD undef = .pointer pv := (E.2 177).trans rfl
  have ex179 : b176.tmps[179]?.getD undef = .agg #[.int .i64 u, .int .i64 g, .slice ga gn gc, .int .i64 um, .int .i64 cw] := (E.2 179).trans rfl
  have ex181 : b176.tmps[181]?.getD undef = .string sq := (E.2 181).trans rfl
  have ex183 : b176.tmps[183]?.getD undef = .string sp := (E.2 183).trans rfl
  simp [Region.wanted, Oper.wp, ex177, ex179, ex181, ex183, go_sem]
  refine Calls.mono (nfRename (.pointer pv) _ (HP.out _ HMc.out) _ _ _ _ _ _ _ _ _) ?_
  rintro e w9 ⟨rfl, M9⟩
  replace HMc := hid6 (HMc.out.trans M9)
  clear M9 hS
  refine hK.out _ _ (HD.out _ HMc.out) (fun hS => ?_)
  clear hK ex177 ex179 ex181 ex183
  rw [ls_99]
  show wpAnyH _ _ _ _ _ _ _ (Act.put b176 (some 184) (.int .i64 14)) _
  obtain ⟨b184, hb184⟩ : ∃ x, x = Act.put b176 (some 184) (.int .i64 14) := ⟨_, rfl⟩
  rw [← hb184]
  replace E := E.put 184 (.int .i64 14) (by decide)
  rw [← hb184] at E
  refine wpAnyH_ready (rs := [59]) al_59 (by simp) ?_
  refine AllReadyH.cons (o := { dst := some 192, op := Op.call { callee := Callee.value (Operand.func 17), args := #[Operand.tmp 185, Operand.tmp 187, Operand.tmp 189, Operand.tmp 191], argTypes := #[29, 24, 9, 25] }, type := 34, pos := "law.go:292", after := #[{ on := 52, ground := Ground.data }, { on := 54, ground := Ground.data }, { on := 56, ground := Ground.data }, { on := 58, ground := Ground.data }, { on := 51, ground := Ground.chain }], guard := none }) op_59 (fun K hK => ?_) AllReadyH.nil
  have ex185 : b184.tmps[185]?.getD undef = .pointer pv := (E.2 185).trans rfl
  have ex187 : b184.tmps[187]?.getD undef = .agg #[.int .i64 u, .int .i64 g, .slice ga gn gc, .int .i64 um, .int .i64 cw] := (E.2 187).trans rfl
  have ex189 : b184.tmps[189]?.getD undef = .string sp := (E.2 189).trans rfl
  have ex191 : b184.tmps[191]?.getD undef = .int .i64 zm := (E.2 191).trans rfl
  simp [Region.wanted, Oper.wp, ex185, ex187, ex189, ex191, go_sem]
  refine Calls.mono (nfChmod (.pointer pv) _ (HP.out _ HMc.out) _ _ _ _ _ _ _ _ _) ?_
  rintro e w9 ⟨rfl, M9⟩
  replace HMc := hid6 (HMc.out.trans M9)
  clear M9 hS
  refine hK.out _ _ (HD.out _ HMc.out) (fun hS => ?_)
  clear hK ex185 ex187 ex189 ex191
  rw [ls_100]
  show wpAnyH _ _ _ _ _ _ _ (Act.put b184 (some 192) (.int .i64 14)) _
  obtain ⟨b192, hb192⟩ : ∃ x, x = Act.put b184 (some 192) (.int .i64 14) := ⟨_, rfl⟩
  rw [← hb192]
  replace E := E.put 192 (.int .i64 14) (by decide)
  rw [← hb192] at E
  refine wpAnyH_ready (rs := [71]) al_71 (by simp) ?_
  refine AllReadyH.cons (o := { dst := some 204, op := Op.call { callee := Callee.value (Operand.func 18), args := #[Operand.tmp 193, Operand.tmp 195, Operand.tmp 197, Operand.tmp 199, Operand.tmp 201, Operand.tmp 203], argTypes := #[29, 24, 9, 3, 3, 4] }, type := 34, pos := "law.go:292", after := #[{ on := 60, ground := Ground.data }, { on := 62, ground := Ground.data }, { on := 64, ground := Ground.data }, { on := 66, ground := Ground.data }, { on := 68, ground := Ground.data }, { on := 70, ground := Ground.data }, { on := 59, ground := Ground.chain }], guard := none }) op_71 (fun K hK => ?_) AllReadyH.nil
  have ex193 : b192.tmps[193]?.getD undef = .pointer pv := (E.2 193).trans rfl
  have ex195 : b192.tmps[195]?.getD undef = .agg #[.int .i64 u, .int .i64 g, .slice ga gn gc, .int .i64 um, .int .i64 cw] := (E.2 195).trans rfl
  have ex197 : b192.tmps[197]?.getD undef = .string sp := (E.2 197).trans rfl
  have ex199 : b192.tmps[199]?.getD undef = .int .i64 za := (E.2 199).trans rfl
  have ex201 : b192.tmps[201]?.getD undef = .int .i64 zb := (E.2 201).trans rfl
  have ex203 : b192.tmps[203]?.getD undef = .bool fo := (E.2 203).trans rfl
  simp [Region.wanted, Oper.wp, ex193, ex195, ex197, ex199, ex201, ex203, go_sem]
  refine Calls.mono (nfChown (.pointer pv) _ (HP.out _ HMc.out) _ _ _ _ _ _ _ _ _ _ _) ?_
  rintro e w9 ⟨rfl, M9⟩
  replace HMc := hid6 (HMc.out.trans M9)
  clear M9 hS
  refine hK.out _ _ (HD.out _ HMc.out) (fun hS => ?_)
  clear hK ex193 ex195 ex197 ex199 ex201 ex203
  rw [ls_101]
  show wpAnyH _ _ _ _ _ _ _ (Act.put b192 (some 204) (.int .i64 14)) _
  obtain ⟨b204, hb204⟩ : ∃ x, x = Act.put b192 (some 204) (.int .i64 14) := ⟨_, rfl⟩
  rw [← hb204]
  replace E := E.put 204 (.int .i64 14) (by decide)
  rw [← hb204] at E
  refine wpAnyH_ready (rs := [83]) al_83 (by simp) ?_
  refine AllReadyH.cons (o := { dst := some 216, op := Op.call { callee := Callee.value (Operand.func 19), args := #[Operand.tmp 205, Operand.tmp 207, Operand.tmp 209, Operand.tmp 211, Operand.tmp 213, Operand.tmp 215], argTypes := #[29, 24, 9, 2, 2, 4] }, type := 34, pos := "law.go:292", after := #[{ on := 72, ground := Ground.data }, { on := 74, ground := Ground.data }, { on := 76, ground := Ground.data }, { on := 78, ground := Ground.data }, { on := 80, ground := Ground.data }, { on := 82, ground := Ground.data }, { on := 71, ground := Ground.chain }], guard := none }) op_83 (fun K hK => ?_) AllReadyH.nil
  have ex205 : b204.tmps[205]?.getD undef = .pointer pv := (E.2 205).trans rfl
  have ex207 : b204.tmps[207]?.getD undef = .agg #[.int .i64 u, .int .i64 g, .slice ga gn gc, .int .i64 um, .int .i64 cw] := (E.2 207).trans rfl
  have ex209 : b204.tmps[209]?.getD undef = .string sp := (E.2 209).trans rfl
  have ex211 : b204.tmps[211]?.getD undef = .int .i64 ta1 := (E.2 211).trans rfl
  have ex213 : b204.tmps[213]?.getD undef = .int .i64 tb1 := (E.2 213).trans rfl
  have ex215 : b204.tmps[215]?.getD undef = .bool fo := (E.2 215).trans rfl
  simp [Region.wanted, Oper.wp, ex205, ex207, ex209, ex211, ex213, ex215, go_sem]
  refine Calls.mono (nfUtime (.pointer pv) _ (HP.out _ HMc.out) _ _ _ _ _ _ _ _ _ _ _) ?_
  rintro e w9 ⟨rfl, M9⟩
  replace HMc := hid6 (HMc.out.trans M9)
  clear M9 hS
  refine hK.out _ _ (HD.out _ HMc.out) (fun hS => ?_)
  clear hK ex205 ex207 ex209 ex211 ex213 ex215
  rw [ls_102]
  show wpAnyH _ _ _ _ _ _ _ (Act.put b204 (some 216) (.int .i64 14)) _
  obtain ⟨b216, hb216⟩ : ∃ x, x = Act.put b204 (some 216) (.int .i64 14) := ⟨_, rfl⟩
  rw [← hb216]
  replace E := E.put 216 (.int .i64 14) (by decide)
  rw [← hb216] at E
  refine wpAnyH_ready (rs := [91]) al_91 (by simp) ?_
  refine AllReadyH.cons (o := { dst := some 224, op := Op.call { callee := Callee.value (Operand.func 20), args := #[Operand.tmp 217, Operand.tmp 219, Operand.tmp 221, Operand.tmp 223], argTypes := #[29, 24, 9, 3] }, type := 34, pos := "law.go:292", after := #[{ on := 84, ground := Ground.data }, { on := 86, ground := Ground.data }, { on := 88, ground := Ground.data }, { on := 90, ground := Ground.data }, { on := 83, ground := Ground.chain }], guard := none }) op_91 (fun K hK => ?_) AllReadyH.nil
  have ex217 : b216.tmps[217]?.getD undef = .pointer pv := (E.2 217).trans rfl
  have ex219 : b216.tmps[219]?.getD undef = .agg #[.int .i64 u, .int .i64 g, .slice ga gn gc, .int .i64 um, .int .i64 cw] := (E.2 219).trans rfl
  have ex221 : b216.tmps[221]?.getD undef = .string sp := (E.2 221).trans rfl
  have ex223 : b216.tmps[223]?.getD undef = .int .i64 za := (E.2 223).trans rfl
  simp [Region.wanted, Oper.wp, ex217, ex219, ex221, ex223, go_sem]
  refine Calls.mono (nfTruncate (.pointer pv) _ (HP.out _ HMc.out) _ _ _ _ _ _ _ _ _) ?_
  rintro e w9 ⟨rfl, M9⟩
  replace HMc := hid6 (HMc.out.trans M9)
  clear M9 hS
  refine hK.out _ _ (HD.out _ HMc.out) (fun hS => ?_)
  clear hK ex217 ex219 ex221 ex223
  rw [ls_103]
  show wpAnyH _ _ _ _ _ _ _ (Act.put b216 (some 224) (.int .i64 14)) _
  obtain ⟨b224, hb224⟩ : ∃ x, x = Act.put b216 (some 224) (.int .i64 14) := ⟨_, rfl⟩
  rw [← hb224]
  replace E := E.put 224 (.int .i64 14) (by decide)
  rw [← hb224] at E
  refine wpAnyH_ready (rs := [95]) al_95 (by simp) ?_
  refine AllReadyH.cons (o := { dst := some 228, op := Op.call { callee := Callee.value (Operand.func 21), args := #[Operand.tmp 225, Operand.tmp 227], argTypes := #[29, 3] }, type := 34, pos := "law.go:292", after := #[{ on := 92, ground := Ground.data }, { on := 94, ground := Ground.data }, { on := 91, ground := Ground.chain }], guard := none }) op_95 (fun K hK => ?_) AllReadyH.nil
  have ex225 : b224.tmps[225]?.getD undef = .pointer pv := (E.2 225).trans rfl
  have ex227 : b224.tmps[227]?.getD undef = .int .i64 za := (E.2 227).trans rfl
  simp [Region.wanted, Oper.wp, ex225, ex227, go_sem]
  refine Calls.mono (nfHold (.pointer pv) _ (HP.out _ HMc.out) _) ?_
  rintro e w9 ⟨rfl, hw9⟩
  rw [hw9]
  clear hw9 w9
  refine hK.out _ _ hS (fun _ => ?_)
  clear hK ex225 ex227
  rw [ls_104]
  show wpAnyH _ _ _ _ _ _ _ (Act.put b224 (some 228) (.int .i64 14)) _
  obtain ⟨b228, hb228⟩ : ∃ x, x = Act.put b224 (some 228) (.int .i64 14) := ⟨_, rfl⟩
  rw [← hb228]
  replace E := E.put 228 (.int .i64 14) (by decide)
  rw [← hb228] at E
  refine wpAnyH_ready (rs := [99]) al_99 (by simp) ?_
  refine AllReadyH.cons (o := { dst := some 232, op := Op.call { callee := Callee.value (Operand.func 22), args := #[Operand.tmp 229, Operand.tmp 231], argTypes := #[29, 3] }, type := 34, pos := "law.go:292", after := #[{ on := 96, ground := Ground.data }, { on := 98, ground := Ground.data }, { on := 95, ground := Ground.chain }], guard := none }) op_99 (fun K hK => ?_) AllReadyH.nil
  have ex229 : b228.tmps[229]?.getD undef = .pointer pv := (E.2 229).trans rfl
  have ex231 : b228.tmps[231]?.getD undef = .int .i64 za := (E.2 231).trans rfl
  simp [Region.wanted, Oper.wp, ex229, ex231, go_sem]
  refine Calls.mono (nfRelease (.pointer pv) _ (HP.out _ HMc.out) _) ?_
  rintro e w9 ⟨rfl, hw9⟩
  rw [hw9]
  clear hw9 w9
  refine hK.out _ _ hS (fun _ => ?_)
  clear hK ex229 ex231
  rw [ls_105]
  show wpAnyH _ _ _ _ _ _ _ (Act.put b228 (some 232) (.int .i64 14)) _
  obtain ⟨b232, hb232⟩ : ∃ x, x = Act.put b228 (some 232) (.int .i64 14) := ⟨_, rfl⟩
  rw [← hb232]
  replace E := E.put 232 (.int .i64 14) (by decide)
  rw [← hb232] at E
  refine wpAnyH_ready (rs := [105]) al_105 (by simp) ?_
  refine AllReadyH.cons (o := { dst := some 238, op := Op.call { callee := Callee.value (Operand.func 23), args := #[Operand.tmp 233, Operand.tmp 235, Operand.tmp 237], argTypes := #[29, 3, 3] }, type := 34, pos := "law.go:292", after := #[{ on := 100, ground := Ground.data }, { on := 102, ground := Ground.data }, { on := 104, ground := Ground.data }, { on := 99, ground := Ground.chain }], guard := none }) op_105 (fun K hK => ?_) AllReadyH.nil
  have ex233 : b232.tmps[233]?.getD undef = .pointer pv := (E.2 233).trans rfl
  have ex235 : b232.tmps[235]?.getD undef = .int .i64 za := (E.2 235).trans rfl
  have ex237 : b232.tmps[237]?.getD undef = .int .i64 zb := (E.2 237).trans rfl
  simp [Region.wanted, Oper.wp, ex233, ex235, ex237, go_sem]
  refine Calls.mono (nfResize (.pointer pv) _ (HP.out _ HMc.out) _ _) ?_
  rintro e w9 ⟨rfl, M9⟩
  replace HMc := hid6 (HMc.out.trans M9)
  clear M9 hS
  refine hK.out _ _ (HD.out _ HMc.out) (fun hS => ?_)
  clear hK ex233 ex235 ex237
  rw [ls_106]
  show wpAnyH _ _ _ _ _ _ _ (Act.put b232 (some 238) (.int .i64 14)) _
  obtain ⟨b238, hb238⟩ : ∃ x, x = Act.put b232 (some 238) (.int .i64 14) := ⟨_, rfl⟩
  rw [← hb238]
  replace E := E.put 238 (.int .i64 14) (by decide)
  rw [← hb238] at E
  refine wpAnyH_ready (rs := [106]) al_106 (by simp) ?_
  refine AllReadyH.cons (o := { dst := some 239, op := Op.buildSlice 54 14 #[(0, Operand.tmp 140), (1, Operand.tmp 148), (2, Operand.tmp 154), (3, Operand.tmp 162), (4, Operand.tmp 170), (5, Operand.tmp 176), (6, Operand.tmp 184), (7, Operand.tmp 192), (8, Operand.tmp 204), (9, Operand.tmp 216), (10, Operand.tmp 224), (11, Operand.tmp 228), (12, Operand.tmp 232), (13, Operand.tmp 238)], type := 54, pos := "law.go:292", after := #[{ on := 7, ground := Ground.data }, { on := 15, ground := Ground.data }, { on := 21, ground := Ground.data }, { on := 29, ground := Ground.data }, { on := 37, ground := Ground.data }, { on := 43, ground := Ground.data }, { on := 51, ground := Ground.data }, { on := 59, ground := Ground.data }, { on := 71, ground := Ground.data }, { on := 83, ground := Ground.data }, { on := 91, ground := Ground.data }, { on := 95, ground := Ground.data }, { on := 99, ground := Ground.data }, { on := 105, ground := Ground.data }], guard := none }) op_106 (fun K hK => ?_) AllReadyH.nil
  have ex140 : b238.tmps[140]?.getD undef = .int .i64 14 := (E.2 140).trans rfl
  have ex148 : b238.tmps[148]?.getD undef = .int .i64 14 := (E.2 148).trans rfl
  have ex154 : b238.tmps[154]?.getD undef = .int .i64 14 := (E.2 154).trans rfl
  have ex162 : b238.tmps[162]?.getD undef = .int .i64 14 := (E.2 162).trans rfl
  have ex170 : b238.tmps[170]?.getD undef = .int .i64 14 := (E.2 170).trans rfl
  have ex176 : b238.tmps[176]?.getD undef = .int .i64 14 := (E.2 176).trans rfl
  have ex184 : b238.tmps[184]?.getD undef = .int .i64 14 := (E.2 184).trans rfl
  have ex192 : b238.tmps[192]?.getD undef = .int .i64 14 := (E.2 192).trans rfl
  have ex204 : b238.tmps[204]?.getD undef = .int .i64 14 := (E.2 204).trans rfl
  have ex216 : b238.tmps[216]?.getD undef = .int .i64 14 := (E.2 216).trans rfl
  have ex224 : b238.tmps[224]?.getD undef = .int .i64 14 := (E.2 224).trans rfl
  have ex228 : b238.tmps[228]?.getD undef = .int .i64 14 := (E.2 228).trans rfl
  have ex232 : b238.tmps[232]?.getD undef = .int .i64 14 := (E.2 232).trans rfl
  have ex238 : b238.tmps[238]?.getD undef = .int .i64 14 := (E.2 238).trans rfl
  simp [Region.wanted, Oper.wp, ex140, ex148, ex154, ex162, ex170, ex176, ex184, ex192, ex204, ex216, ex224, ex228, ex232, ex238, go_sem]
  clear hS
  refine hK.out _ _ (HD.out _ (HMc.out.alloc _)) (fun hS => ?_)
  have hE := hend w9.heap.size _ (fun j hj => by (have h14 : j = 0 ∨ j = 1 ∨ j = 2 ∨ j = 3 ∨ j = 4 ∨ j = 5 ∨ j = 6 ∨ j = 7 ∨ j = 8 ∨ j = 9 ∨ j = 10 ∨ j = 11 ∨ j = 12 ∨ j = 13 := by omega); rw [World.cell?_alloc_at _ _ _ _ rfl]; rcases h14 with rfl | rfl | rfl | rfl | rfl | rfl | rfl | rfl | rfl | rfl | rfl | rfl | rfl | rfl <;> rfl) (HMc.out.alloc (.cells #[.int .i64 14, .int .i64 14, .int .i64 14, .int .i64 14, .int .i64 14, .int .i64 14, .int .i64 14, .int .i64 14, .int .i64 14, .int .i64 14, .int .i64 14, .int .i64 14, .int .i64 14, .int .i64 14] 34))
  clear hK ex140 ex148 ex154 ex162 ex170 ex176 ex184 ex192 ex204 ex216 ex224 ex228 ex232 ex238
  rw [ls_107]
  show wpAnyH _ _ _ _ _ _ _ (Act.put b238 (some 239) (.slice (some ⟨w9.heap.size, 0, none⟩) 14 14)) _
  obtain ⟨b239, hb239⟩ : ∃ x, x = Act.put b238 (some 239) (.slice (some ⟨w9.heap.size, 0, none⟩) 14 14) := ⟨_, rfl⟩
  rw [← hb239]
  replace E := E.put 239 (.slice (some ⟨w9.heap.size, 0, none⟩) 14 14) (by decide)
  rw [← hb239] at E
  refine wpAnyH_take (i := 107) (oi := { dst := some 240, op := Op.call { callee := Callee.builtin Builtin.len, args := #[Operand.tmp 239], argTypes := #[54] }, type := 3, pos := "law.go:292", after := #[{ on := 106, ground := Ground.data }], guard := none }) (v := .int .i64 14) op_107 hns fr_107 rdy_107 (fun _ _ _ h => h) (Or.inl ⟨by rfl, ?_⟩) hS ?_
  · intro w8 hSw
    have ex239 : b239.tmps[239]?.getD undef = .slice (some ⟨w9.heap.size, 0, none⟩) 14 14 := (E.2 239).trans rfl
    simp [ex239, go_sem]
  rw [ls_108]
  show wpAnyH _ _ _ _ _ _ _ (Act.put b239 (some 240) (.int .i64 14)) _
  obtain ⟨b240, hb240⟩ : ∃ x, x = Act.put b239 (some 240) (.int .i64 14) := ⟨_, rfl⟩
  rw [← hb240]
  replace E := E.put 240 (.int .i64 14) (by decide)
  rw [← hb240] at E
  refine wpAnyH_done al_end ?_ _
  simp only [OnlyN6]
  rw [hb240, hb239, hb238, hb232, hb228, hb224, hb216, hb204, hb192, hb184, hb176, hb170, hb162, hb154, hb148, hb140, hb241, hb237, hb236, hb235, hb234, hb233, hb231, hb230, hb229, hb227, hb226, hb225, hb223, hb222, hb221, hb220, hb219, hb218, hb217, hb215, hb214, hb213, hb212, hb211, hb210, hb209, hb208, hb207, hb206, hb205, hb203, hb202, hb201, hb200, hb199, hb198, hb197, hb196, hb195, hb194, hb193, hb191, hb190, hb189, hb188, hb187, hb186, hb185, hb183, hb182, hb181, hb180, hb179, hb178, hb177, hb175, hb174, hb173, hb172, hb171, hb169, hb168, hb167, hb166, hb165, hb164, hb163, hb161, hb160, hb159, hb158, hb157, hb156, hb155, hb153, hb152, hb151, hb150, hb149, hb147, hb146, hb145, hb144, hb143, hb142, hb141, hb139, hb138, hb137, hb136, hb135, hb134, hb133]
  exact hE
end Go.Proofs.YtpohjgnfndgniaaGreatDoor
