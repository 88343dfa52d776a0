/-
  NARROWER THAN 'FOR EVERY INPUT', by the rows' own cells (each row's printed sentence says how): GlobNames: laid · GlobMatches: laid · GlobFilters: laid · GlobSets: laid · GlobMaps: laid · GlobQuotes: laid.
  DERIVED. THE GIVEN ROWS OF THIS SEAT. 6 by the template 'for every input the law returns true; each argument reads behind the call as it read before'; 0 by the template 'total and deterministic' (their statements: YtncnmeidciailaaDoorTotals.lean).
  GIVEN WITH THE SEED: the statements are not yours to turn. If you find one false, say at which input.
  Laid BY PROGRAM, IN A SANDBOX (cutbox-rows.mjs): the forced cells as the released guide's own fill.sh prints them over the translation b1bcb639799f473c… (all of the seat's roots in one cut). By AI agents, Wed Nov 11 2026. No macro, syntax, notation, axiom, sorry.
-/
import Derived.Test.YtncnmeidciailaaDoorChecked
import GoSem.Claim
import GoSem.ClaimJoined
import GoSem.ClaimMapViews
import Derived.JoinedTies
import Derived.KernelRfl
namespace Go.Proofs.YtncnmeidciailaaDoor
/- THE CELL 'sum', in the pinned program and in every row, IS THE sha256 OF THE DUMP (.gsa) THAT YtncnmeidciailaaDoorProg.lean LOADS. Nothing in Lean hashes anything: it is a label: what it is worth is what the hold of that sum in a sandbox is worth. -/
noncomputable def Tryd.pinned : Pinned := { name := "ytncnmeidciailaadoor", sum := "b1bcb639799f473c4eb006b9cfb3027d48763ffab72f839a9a2a0c8829edcfb1", checked := Tryd.checked }
namespace Rows
def none {H : Type} : Left H := { results := [], args := [] }

/- WHAT THE LISTED PACKAGE-LEVEL VARIABLES READ AS WHEN THE CALL BEGINS. Each datum BY PROGRAM (the guide's laid-datum.mjs) off the statement by which the dump's own 'gosem.cut.vars' lays the variable. In a bare row this is a premise. The card (YtncnmeidciailaaDoorCards.lean) ties it to the program's text. -/
def laid_tinsel_glob_classNames {H : Type} : DataW H := .agg [.lit (.string [97, 108, 110, 117, 109]), .lit (.string [97, 108, 112, 104, 97]), .lit (.string [98, 108, 97, 110, 107]), .lit (.string [99, 110, 116, 114, 108]), .lit (.string [100, 105, 103, 105, 116]), .lit (.string [103, 114, 97, 112, 104]), .lit (.string [108, 111, 119, 101, 114]), .lit (.string [112, 114, 105, 110, 116]), .lit (.string [112, 117, 110, 99, 116]), .lit (.string [115, 112, 97, 99, 101]), .lit (.string [117, 112, 112, 101, 114]), .lit (.string [120, 100, 105, 103, 105, 116])]

/-- 'tinsellaw12.GlobNames': WHATEVER THE INPUT: true; the input reads as it did. -/
def globNamesSpec : ChangeSpec := { name := "globNames", fn := fun _ => fun
  | [] => { results := [.lit (.bool true)], args := [] }
  | _ => none }
def globNamesRow : OpenClaim := { program := "ytncnmeidciailaadoor", sum := "b1bcb639799f473c4eb006b9cfb3027d48763ffab72f839a9a2a0c8829edcfb1", func := "tinsel/tinsellaw12.GlobNames", spec := "globNames", inPlace := ["internal/bytealg.IndexByteString", "internal/bytealg.IndexString"], unfollowed := true, recurses := true, named := ["internal/bytealg.MaxLen", "tinsel/glob.classNames"], apart := false, laid := [("tinsel/glob.classNames", laid_tinsel_glob_classNames)] }
def GlobNamesSaid : Prop := globNamesRow.holds Tryd.pinned (OpenSpec.ofChange globNamesSpec)

/-- ITS FALSE NEIGHBOUR: 'it returns false'. Refute it at one input. -/
def globNamesWrong : ChangeSpec := { name := "globNames", fn := fun _ => fun
  | [] => { results := [.lit (.bool false)], args := [] }
  | _ => none }
def GlobNamesWrongFalsely : Prop := globNamesRow.holds Tryd.pinned (OpenSpec.ofChange globNamesWrong)

/-- 'tinsellaw12.GlobMatches': WHATEVER THE INPUT: true; the input reads as it did. -/
def globMatchesSpec : ChangeSpec := { name := "globMatches", fn := fun _ => fun
  | [d1, d2, d3] => { results := [.lit (.bool true)], args := [d1, d2, d3] }
  | _ => none }
def globMatchesRow : OpenClaim := { program := "ytncnmeidciailaadoor", sum := "b1bcb639799f473c4eb006b9cfb3027d48763ffab72f839a9a2a0c8829edcfb1", func := "tinsel/tinsellaw12.GlobMatches", spec := "globMatches", inPlace := ["internal/bytealg.IndexByteString", "internal/bytealg.IndexString"], unfollowed := true, recurses := true, named := ["internal/bytealg.MaxLen", "tinsel/glob.classNames"], apart := false, laid := [("tinsel/glob.classNames", laid_tinsel_glob_classNames)] }
def GlobMatchesSaid : Prop := globMatchesRow.holds Tryd.pinned (OpenSpec.ofChange globMatchesSpec)

/-- ITS FALSE NEIGHBOUR: 'it returns false'. Refute it at one input. -/
def globMatchesWrong : ChangeSpec := { name := "globMatches", fn := fun _ => fun
  | [d1, d2, d3] => { results := [.lit (.bool false)], args := [d1, d2, d3] }
  | _ => none }
def GlobMatchesWrongFalsely : Prop := globMatchesRow.holds Tryd.pinned (OpenSpec.ofChange globMatchesWrong)

/-- 'tinsellaw12.GlobFilters': WHATEVER THE INPUT: true; the input reads as it did. -/
def globFiltersSpec : ChangeSpec := { name := "globFilters", fn := fun _ => fun
  | [d1, d2, d3] => { results := [.lit (.bool true)], args := [d1, d2, d3] }
  | _ => none }
def globFiltersRow : OpenClaim := { program := "ytncnmeidciailaadoor", sum := "b1bcb639799f473c4eb006b9cfb3027d48763ffab72f839a9a2a0c8829edcfb1", func := "tinsel/tinsellaw12.GlobFilters", spec := "globFilters", inPlace := ["internal/bytealg.IndexByteString", "internal/bytealg.IndexString"], unfollowed := true, recurses := true, named := ["internal/bytealg.MaxLen", "tinsel/glob.classNames"], apart := false, laid := [("tinsel/glob.classNames", laid_tinsel_glob_classNames)] }
def GlobFiltersSaid : Prop := globFiltersRow.holds Tryd.pinned (OpenSpec.ofChange globFiltersSpec)

/-- ITS FALSE NEIGHBOUR: 'it returns false'. Refute it at one input. -/
def globFiltersWrong : ChangeSpec := { name := "globFilters", fn := fun _ => fun
  | [d1, d2, d3] => { results := [.lit (.bool false)], args := [d1, d2, d3] }
  | _ => none }
def GlobFiltersWrongFalsely : Prop := globFiltersRow.holds Tryd.pinned (OpenSpec.ofChange globFiltersWrong)

/-- 'tinsellaw12.GlobSets': WHATEVER THE INPUT: true; the input reads as it did. -/
def globSetsSpec : ChangeSpec := { name := "globSets", fn := fun _ => fun
  | [d1, d2] => { results := [.lit (.bool true)], args := [d1, d2] }
  | _ => none }
def globSetsRow : OpenClaim := { program := "ytncnmeidciailaadoor", sum := "b1bcb639799f473c4eb006b9cfb3027d48763ffab72f839a9a2a0c8829edcfb1", func := "tinsel/tinsellaw12.GlobSets", spec := "globSets", inPlace := ["internal/bytealg.IndexByteString", "internal/bytealg.IndexString"], unfollowed := true, recurses := true, named := ["internal/bytealg.MaxLen", "tinsel/glob.classNames"], apart := false, laid := [("tinsel/glob.classNames", laid_tinsel_glob_classNames)] }
def GlobSetsSaid : Prop := globSetsRow.holds Tryd.pinned (OpenSpec.ofChange globSetsSpec)

/-- ITS FALSE NEIGHBOUR: 'it returns false'. Refute it at one input. -/
def globSetsWrong : ChangeSpec := { name := "globSets", fn := fun _ => fun
  | [d1, d2] => { results := [.lit (.bool false)], args := [d1, d2] }
  | _ => none }
def GlobSetsWrongFalsely : Prop := globSetsRow.holds Tryd.pinned (OpenSpec.ofChange globSetsWrong)

/-- 'tinsellaw12.GlobMaps': WHATEVER THE INPUT: true; the input reads as it did. -/
def globMapsSpec : ChangeSpec := { name := "globMaps", fn := fun _ => fun
  | [d1, d2, d3] => { results := [.lit (.bool true)], args := [d1, d2, d3] }
  | _ => none }
def globMapsRow : OpenClaim := { program := "ytncnmeidciailaadoor", sum := "b1bcb639799f473c4eb006b9cfb3027d48763ffab72f839a9a2a0c8829edcfb1", func := "tinsel/tinsellaw12.GlobMaps", spec := "globMaps", inPlace := ["internal/bytealg.IndexByteString", "internal/bytealg.IndexString"], unfollowed := true, recurses := true, named := ["internal/bytealg.MaxLen", "tinsel/glob.classNames"], apart := false, laid := [("tinsel/glob.classNames", laid_tinsel_glob_classNames)] }
def GlobMapsSaid : Prop := globMapsRow.holds Tryd.pinned (OpenSpec.ofChange globMapsSpec)

/-- ITS FALSE NEIGHBOUR: 'it returns false'. Refute it at one input. -/
def globMapsWrong : ChangeSpec := { name := "globMaps", fn := fun _ => fun
  | [d1, d2, d3] => { results := [.lit (.bool false)], args := [d1, d2, d3] }
  | _ => none }
def GlobMapsWrongFalsely : Prop := globMapsRow.holds Tryd.pinned (OpenSpec.ofChange globMapsWrong)

/-- 'tinsellaw12.GlobQuotes': WHATEVER THE INPUT: true; the input reads as it did. -/
def globQuotesSpec : ChangeSpec := { name := "globQuotes", fn := fun _ => fun
  | [d1, d2] => { results := [.lit (.bool true)], args := [d1, d2] }
  | _ => none }
def globQuotesRow : OpenClaim := { program := "ytncnmeidciailaadoor", sum := "b1bcb639799f473c4eb006b9cfb3027d48763ffab72f839a9a2a0c8829edcfb1", func := "tinsel/tinsellaw12.GlobQuotes", spec := "globQuotes", inPlace := ["internal/bytealg.IndexByteString", "internal/bytealg.IndexString"], unfollowed := true, recurses := true, named := ["tinsel/glob.classNames", "internal/bytealg.MaxLen"], apart := false, laid := [("tinsel/glob.classNames", laid_tinsel_glob_classNames)] }
def GlobQuotesSaid : Prop := globQuotesRow.holds Tryd.pinned (OpenSpec.ofChange globQuotesSpec)

/-- ITS FALSE NEIGHBOUR: 'it returns false'. Refute it at one input. -/
def globQuotesWrong : ChangeSpec := { name := "globQuotes", fn := fun _ => fun
  | [d1, d2] => { results := [.lit (.bool false)], args := [d1, d2] }
  | _ => none }
def GlobQuotesWrongFalsely : Prop := globQuotesRow.holds Tryd.pinned (OpenSpec.ofChange globQuotesWrong)

/- THE SECOND FORM. 'bulk': how many values and letters a reading holds, each counted each time it is reached (what is shared counts as often as it is met; a slice's spare places count too). A statement '..UptoSaid' is the law's where the arguments, and the package variables that the reading takes, are together of bulk at most 1048576: NARROWER than '..Said'. Prove '..Said' where nothing that the law and all that it calls make is longer than what came in: it says more and counts as full. Else prove '..UptoSaid'. A law counts once. -/
mutual
def uptoBulk {H : Type} : DataW H → Nat
  | .lit (.string bytes) => bytes.length + 1
  | .lit _ => 1
  | .nil => 1
  | .ptr d => uptoBulk d + 1
  | .slice elems spare => uptoBulkAll elems + uptoBulkAll spare + 1
  | .agg parts => uptoBulkAll parts + 1
  | .iface _ d => uptoBulk d + 1
  | .map entries => uptoBulkEntries entries + 1
  | .held _ => 1
def uptoBulkAll {H : Type} : List (DataW H) → Nat
  | [] => 0
  | d :: r => uptoBulk d + uptoBulkAll r
def uptoBulkEntries {H : Type} : List (Lit × DataW H) → Nat
  | [] => 0
  | x :: r => uptoBulkEntry x + uptoBulkEntries r
def uptoBulkEntry {H : Type} : Lit × DataW H → Nat
  | (.string bytes, d) => bytes.length + uptoBulk d + 1
  | (_, d) => uptoBulk d + 1
 end
def uptoSmall : (H : Type) → List (DataW H) → Bool := fun _ ds => decide (uptoBulkAll ds ≤ 1048576)
def OpenSpec.upto (s : _root_.Go.ChangeSpec) : _root_.Go.OpenSpec := { _root_.Go.OpenSpec.ofChange s with cond := some uptoSmall }

/-- 'tinsellaw12.GlobNames', WHERE WHAT IT READS IS OF BULK AT MOST 1048576: true; the input reads as it did. -/
def globNamesUptoRow : OpenClaim := { program := "ytncnmeidciailaadoor", sum := "b1bcb639799f473c4eb006b9cfb3027d48763ffab72f839a9a2a0c8829edcfb1", func := "tinsel/tinsellaw12.GlobNames", spec := "globNames", inPlace := ["internal/bytealg.IndexByteString", "internal/bytealg.IndexString"], unfollowed := true, recurses := true, named := ["internal/bytealg.MaxLen", "tinsel/glob.classNames"], apart := false, laid := [("tinsel/glob.classNames", laid_tinsel_glob_classNames)], narrowed := true }
def GlobNamesUptoSaid : Prop := globNamesUptoRow.holds Tryd.pinned (OpenSpec.upto globNamesSpec)

/-- 'tinsellaw12.GlobMatches', WHERE WHAT IT READS IS OF BULK AT MOST 1048576: true; the input reads as it did. -/
def globMatchesUptoRow : OpenClaim := { program := "ytncnmeidciailaadoor", sum := "b1bcb639799f473c4eb006b9cfb3027d48763ffab72f839a9a2a0c8829edcfb1", func := "tinsel/tinsellaw12.GlobMatches", spec := "globMatches", inPlace := ["internal/bytealg.IndexByteString", "internal/bytealg.IndexString"], unfollowed := true, recurses := true, named := ["internal/bytealg.MaxLen", "tinsel/glob.classNames"], apart := false, laid := [("tinsel/glob.classNames", laid_tinsel_glob_classNames)], narrowed := true }
def GlobMatchesUptoSaid : Prop := globMatchesUptoRow.holds Tryd.pinned (OpenSpec.upto globMatchesSpec)

/-- 'tinsellaw12.GlobFilters', WHERE WHAT IT READS IS OF BULK AT MOST 1048576: true; the input reads as it did. -/
def globFiltersUptoRow : OpenClaim := { program := "ytncnmeidciailaadoor", sum := "b1bcb639799f473c4eb006b9cfb3027d48763ffab72f839a9a2a0c8829edcfb1", func := "tinsel/tinsellaw12.GlobFilters", spec := "globFilters", inPlace := ["internal/bytealg.IndexByteString", "internal/bytealg.IndexString"], unfollowed := true, recurses := true, named := ["internal/bytealg.MaxLen", "tinsel/glob.classNames"], apart := false, laid := [("tinsel/glob.classNames", laid_tinsel_glob_classNames)], narrowed := true }
def GlobFiltersUptoSaid : Prop := globFiltersUptoRow.holds Tryd.pinned (OpenSpec.upto globFiltersSpec)

/-- 'tinsellaw12.GlobSets', WHERE WHAT IT READS IS OF BULK AT MOST 1048576: true; the input reads as it did. -/
def globSetsUptoRow : OpenClaim := { program := "ytncnmeidciailaadoor", sum := "b1bcb639799f473c4eb006b9cfb3027d48763ffab72f839a9a2a0c8829edcfb1", func := "tinsel/tinsellaw12.GlobSets", spec := "globSets", inPlace := ["internal/bytealg.IndexByteString", "internal/bytealg.IndexString"], unfollowed := true, recurses := true, named := ["internal/bytealg.MaxLen", "tinsel/glob.classNames"], apart := false, laid := [("tinsel/glob.classNames", laid_tinsel_glob_classNames)], narrowed := true }
def GlobSetsUptoSaid : Prop := globSetsUptoRow.holds Tryd.pinned (OpenSpec.upto globSetsSpec)

/-- 'tinsellaw12.GlobMaps', WHERE WHAT IT READS IS OF BULK AT MOST 1048576: true; the input reads as it did. -/
def globMapsUptoRow : OpenClaim := { program := "ytncnmeidciailaadoor", sum := "b1bcb639799f473c4eb006b9cfb3027d48763ffab72f839a9a2a0c8829edcfb1", func := "tinsel/tinsellaw12.GlobMaps", spec := "globMaps", inPlace := ["internal/bytealg.IndexByteString", "internal/bytealg.IndexString"], unfollowed := true, recurses := true, named := ["internal/bytealg.MaxLen", "tinsel/glob.classNames"], apart := false, laid := [("tinsel/glob.classNames", laid_tinsel_glob_classNames)], narrowed := true }
def GlobMapsUptoSaid : Prop := globMapsUptoRow.holds Tryd.pinned (OpenSpec.upto globMapsSpec)

/-- 'tinsellaw12.GlobQuotes', WHERE WHAT IT READS IS OF BULK AT MOST 1048576: true; the input reads as it did. -/
def globQuotesUptoRow : OpenClaim := { program := "ytncnmeidciailaadoor", sum := "b1bcb639799f473c4eb006b9cfb3027d48763ffab72f839a9a2a0c8829edcfb1", func := "tinsel/tinsellaw12.GlobQuotes", spec := "globQuotes", inPlace := ["internal/bytealg.IndexByteString", "internal/bytealg.IndexString"], unfollowed := true, recurses := true, named := ["tinsel/glob.classNames", "internal/bytealg.MaxLen"], apart := false, laid := [("tinsel/glob.classNames", laid_tinsel_glob_classNames)], narrowed := true }
def GlobQuotesUptoSaid : Prop := globQuotesUptoRow.holds Tryd.pinned (OpenSpec.upto globQuotesSpec)

end Rows
end Go.Proofs.YtncnmeidciailaaDoor
