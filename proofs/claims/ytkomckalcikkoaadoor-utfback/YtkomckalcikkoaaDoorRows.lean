/-
  NARROWER THAN 'FOR EVERY INPUT', by the rows' own cells (each row's printed sentence says how): UtfRunes: laid · UtfPuts: laid · UtfCounts: laid · UtfBack: laid · UtfJoined: laid · UtfWhole: laid.
  DERIVED. THE GIVEN ROWS OF THIS SEAT. 6 by the template 'for every input the law returns true; each argument reads behind the call as it read before'; 0 by the template 'total and deterministic' (their statements: YtkomckalcikkoaaDoorTotals.lean).
  GIVEN WITH THE SEED: the statements are not yours to turn. If you find one false, say at which input.
  Laid BY PROGRAM, IN A SANDBOX (cutbox-rows.mjs): the forced cells as the released guide's own fill.sh prints them over the translation 9dd2d55ecbca1e6d… (all of the seat's roots in one cut). By AI agents, Wed Nov 11 2026. No macro, syntax, notation, axiom, sorry.
-/
import Derived.Test.YtkomckalcikkoaaDoorChecked
import GoSem.Claim
import GoSem.ClaimJoined
import GoSem.ClaimMapViews
import Derived.JoinedTies
import Derived.KernelRfl
namespace Go.Proofs.YtkomckalcikkoaaDoor
/- THE CELL 'sum', in the pinned program and in every row, IS THE sha256 OF THE DUMP (.gsa) THAT YtkomckalcikkoaaDoorProg.lean LOADS. Nothing in Lean hashes anything: it is a label: what it is worth is what the hold of that sum in a sandbox is worth. -/
noncomputable def Tryd.pinned : Pinned := { name := "ytkomckalcikkoaadoor", sum := "9dd2d55ecbca1e6d92cd4db5b699cdf5c3f2bc85a5aedd4f3f1214629b1bce1b", checked := Tryd.checked }
namespace Rows
def none {H : Type} : Left H := { results := [], args := [] }

/- WHAT THE LISTED PACKAGE-LEVEL VARIABLES READ AS WHEN THE CALL BEGINS. Each datum BY PROGRAM (the guide's laid-datum.mjs) off the statement by which the dump's own 'gosem.cut.vars' lays the variable. In a bare row this is a premise. The card (YtkomckalcikkoaaDoorCards.lean) ties it to the program's text. -/
def laid_glossary_utf_sizes {H : Type} : DataW H := .agg [.lit (.int .i64 1), .lit (.int .i64 1), .lit (.int .i64 1), .lit (.int .i64 1), .lit (.int .i64 1), .lit (.int .i64 1), .lit (.int .i64 1), .lit (.int .i64 1), .lit (.int .i64 1), .lit (.int .i64 1), .lit (.int .i64 1), .lit (.int .i64 1), .lit (.int .i64 1), .lit (.int .i64 1), .lit (.int .i64 1), .lit (.int .i64 1), .lit (.int .i64 0), .lit (.int .i64 0), .lit (.int .i64 0), .lit (.int .i64 0), .lit (.int .i64 0), .lit (.int .i64 0), .lit (.int .i64 0), .lit (.int .i64 0), .lit (.int .i64 2), .lit (.int .i64 2), .lit (.int .i64 2), .lit (.int .i64 2), .lit (.int .i64 3), .lit (.int .i64 3), .lit (.int .i64 4), .lit (.int .i64 0)]
def laid_glossary_utf_heads {H : Type} : DataW H := .agg [.lit (.int .u8 0), .lit (.int .u8 0), .lit (.int .u8 192), .lit (.int .u8 224), .lit (.int .u8 240)]

/-- 'glossarylaw03.UtfRunes': WHATEVER THE INPUT: true; the input reads as it did. -/
def utfRunesSpec : ChangeSpec := { name := "utfRunes", fn := fun _ => fun
  | [d] => { results := [.lit (.bool true)], args := [d] }
  | _ => none }
def utfRunesRow : OpenClaim := { program := "ytkomckalcikkoaadoor", sum := "9dd2d55ecbca1e6d92cd4db5b699cdf5c3f2bc85a5aedd4f3f1214629b1bce1b", func := "glossary/glossarylaw03.UtfRunes", spec := "utfRunes", named := ["glossary/utf.sizes", "glossary/utf.heads"], apart := false, laid := [("glossary/utf.sizes", laid_glossary_utf_sizes), ("glossary/utf.heads", laid_glossary_utf_heads)] }
def UtfRunesSaid : Prop := utfRunesRow.holds Tryd.pinned (OpenSpec.ofChange utfRunesSpec)

/-- ITS FALSE NEIGHBOUR: 'it returns false'. Refute it at one input. -/
def utfRunesWrong : ChangeSpec := { name := "utfRunes", fn := fun _ => fun
  | [d] => { results := [.lit (.bool false)], args := [d] }
  | _ => none }
def UtfRunesWrongFalsely : Prop := utfRunesRow.holds Tryd.pinned (OpenSpec.ofChange utfRunesWrong)

/-- 'glossarylaw03.UtfPuts': WHATEVER THE INPUT: true; the input reads as it did. -/
def utfPutsSpec : ChangeSpec := { name := "utfPuts", fn := fun _ => fun
  | [d] => { results := [.lit (.bool true)], args := [d] }
  | _ => none }
def utfPutsRow : OpenClaim := { program := "ytkomckalcikkoaadoor", sum := "9dd2d55ecbca1e6d92cd4db5b699cdf5c3f2bc85a5aedd4f3f1214629b1bce1b", func := "glossary/glossarylaw03.UtfPuts", spec := "utfPuts", named := ["glossary/utf.sizes", "glossary/utf.heads"], apart := false, laid := [("glossary/utf.sizes", laid_glossary_utf_sizes), ("glossary/utf.heads", laid_glossary_utf_heads)] }
def UtfPutsSaid : Prop := utfPutsRow.holds Tryd.pinned (OpenSpec.ofChange utfPutsSpec)

/-- ITS FALSE NEIGHBOUR: 'it returns false'. Refute it at one input. -/
def utfPutsWrong : ChangeSpec := { name := "utfPuts", fn := fun _ => fun
  | [d] => { results := [.lit (.bool false)], args := [d] }
  | _ => none }
def UtfPutsWrongFalsely : Prop := utfPutsRow.holds Tryd.pinned (OpenSpec.ofChange utfPutsWrong)

/-- 'glossarylaw03.UtfCounts': WHATEVER THE INPUT: true; the input reads as it did. -/
def utfCountsSpec : ChangeSpec := { name := "utfCounts", fn := fun _ => fun
  | [d] => { results := [.lit (.bool true)], args := [d] }
  | _ => none }
def utfCountsRow : OpenClaim := { program := "ytkomckalcikkoaadoor", sum := "9dd2d55ecbca1e6d92cd4db5b699cdf5c3f2bc85a5aedd4f3f1214629b1bce1b", func := "glossary/glossarylaw03.UtfCounts", spec := "utfCounts", named := ["glossary/utf.sizes", "glossary/utf.heads"], apart := false, laid := [("glossary/utf.sizes", laid_glossary_utf_sizes), ("glossary/utf.heads", laid_glossary_utf_heads)] }
def UtfCountsSaid : Prop := utfCountsRow.holds Tryd.pinned (OpenSpec.ofChange utfCountsSpec)

/-- ITS FALSE NEIGHBOUR: 'it returns false'. Refute it at one input. -/
def utfCountsWrong : ChangeSpec := { name := "utfCounts", fn := fun _ => fun
  | [d] => { results := [.lit (.bool false)], args := [d] }
  | _ => none }
def UtfCountsWrongFalsely : Prop := utfCountsRow.holds Tryd.pinned (OpenSpec.ofChange utfCountsWrong)

/-- 'glossarylaw03.UtfBack': WHATEVER THE INPUT: true; the input reads as it did. -/
def utfBackSpec : ChangeSpec := { name := "utfBack", fn := fun _ => fun
  | [d1, d2] => { results := [.lit (.bool true)], args := [d1, d2] }
  | _ => none }
def utfBackRow : OpenClaim := { program := "ytkomckalcikkoaadoor", sum := "9dd2d55ecbca1e6d92cd4db5b699cdf5c3f2bc85a5aedd4f3f1214629b1bce1b", func := "glossary/glossarylaw03.UtfBack", spec := "utfBack", named := ["glossary/utf.sizes", "glossary/utf.heads"], apart := false, laid := [("glossary/utf.sizes", laid_glossary_utf_sizes), ("glossary/utf.heads", laid_glossary_utf_heads)] }
def UtfBackSaid : Prop := utfBackRow.holds Tryd.pinned (OpenSpec.ofChange utfBackSpec)

/-- ITS FALSE NEIGHBOUR: 'it returns false'. Refute it at one input. -/
def utfBackWrong : ChangeSpec := { name := "utfBack", fn := fun _ => fun
  | [d1, d2] => { results := [.lit (.bool false)], args := [d1, d2] }
  | _ => none }
def UtfBackWrongFalsely : Prop := utfBackRow.holds Tryd.pinned (OpenSpec.ofChange utfBackWrong)

/-- 'glossarylaw03.UtfJoined': WHATEVER THE INPUT: true; the input reads as it did. -/
def utfJoinedSpec : ChangeSpec := { name := "utfJoined", fn := fun _ => fun
  | [d1, d2, d3] => { results := [.lit (.bool true)], args := [d1, d2, d3] }
  | _ => none }
def utfJoinedRow : OpenClaim := { program := "ytkomckalcikkoaadoor", sum := "9dd2d55ecbca1e6d92cd4db5b699cdf5c3f2bc85a5aedd4f3f1214629b1bce1b", func := "glossary/glossarylaw03.UtfJoined", spec := "utfJoined", named := ["glossary/utf.sizes", "glossary/utf.heads"], apart := false, laid := [("glossary/utf.sizes", laid_glossary_utf_sizes), ("glossary/utf.heads", laid_glossary_utf_heads)] }
def UtfJoinedSaid : Prop := utfJoinedRow.holds Tryd.pinned (OpenSpec.ofChange utfJoinedSpec)

/-- ITS FALSE NEIGHBOUR: 'it returns false'. Refute it at one input. -/
def utfJoinedWrong : ChangeSpec := { name := "utfJoined", fn := fun _ => fun
  | [d1, d2, d3] => { results := [.lit (.bool false)], args := [d1, d2, d3] }
  | _ => none }
def UtfJoinedWrongFalsely : Prop := utfJoinedRow.holds Tryd.pinned (OpenSpec.ofChange utfJoinedWrong)

/-- 'glossarylaw03.UtfWhole': WHATEVER THE INPUT: true; the input reads as it did. -/
def utfWholeSpec : ChangeSpec := { name := "utfWhole", fn := fun _ => fun
  | [d1, d2] => { results := [.lit (.bool true)], args := [d1, d2] }
  | _ => none }
def utfWholeRow : OpenClaim := { program := "ytkomckalcikkoaadoor", sum := "9dd2d55ecbca1e6d92cd4db5b699cdf5c3f2bc85a5aedd4f3f1214629b1bce1b", func := "glossary/glossarylaw03.UtfWhole", spec := "utfWhole", named := ["glossary/utf.sizes", "glossary/utf.heads"], apart := false, laid := [("glossary/utf.sizes", laid_glossary_utf_sizes), ("glossary/utf.heads", laid_glossary_utf_heads)] }
def UtfWholeSaid : Prop := utfWholeRow.holds Tryd.pinned (OpenSpec.ofChange utfWholeSpec)

/-- ITS FALSE NEIGHBOUR: 'it returns false'. Refute it at one input. -/
def utfWholeWrong : ChangeSpec := { name := "utfWhole", fn := fun _ => fun
  | [d1, d2] => { results := [.lit (.bool false)], args := [d1, d2] }
  | _ => none }
def UtfWholeWrongFalsely : Prop := utfWholeRow.holds Tryd.pinned (OpenSpec.ofChange utfWholeWrong)

/- THE SECOND FORM. 'bulk': how many values and letters a reading holds, each counted each time it is reached (what is shared counts as often as it is met; a slice's spare places count too). A statement '..UptoSaid' is the law's where the arguments, and the package variables that the reading takes, are together of bulk at most 1048576: NARROWER than '..Said'. Prove '..Said' where nothing that the law and all that it calls make is longer than what came in: it says more and counts as full. Else prove '..UptoSaid'. A law counts once. -/
mutual
def uptoBulk {H : Type} : DataW H → Nat
  | .lit (.string bytes) => bytes.length + 1
  | .lit _ => 1
  | .nil => 1
  | .ptr d => uptoBulk d + 1
  | .slice elems spare => uptoBulkAll elems + uptoBulkAll spare + 1
  | .agg parts => uptoBulkAll parts + 1
  | .iface _ d => uptoBulk d + 1
  | .map entries => uptoBulkEntries entries + 1
  | .held _ => 1
def uptoBulkAll {H : Type} : List (DataW H) → Nat
  | [] => 0
  | d :: r => uptoBulk d + uptoBulkAll r
def uptoBulkEntries {H : Type} : List (Lit × DataW H) → Nat
  | [] => 0
  | x :: r => uptoBulkEntry x + uptoBulkEntries r
def uptoBulkEntry {H : Type} : Lit × DataW H → Nat
  | (.string bytes, d) => bytes.length + uptoBulk d + 1
  | (_, d) => uptoBulk d + 1
 end
def uptoSmall : (H : Type) → List (DataW H) → Bool := fun _ ds => decide (uptoBulkAll ds ≤ 1048576)
def OpenSpec.upto (s : _root_.Go.ChangeSpec) : _root_.Go.OpenSpec := { _root_.Go.OpenSpec.ofChange s with cond := some uptoSmall }

/-- 'glossarylaw03.UtfRunes', WHERE WHAT IT READS IS OF BULK AT MOST 1048576: true; the input reads as it did. -/
def utfRunesUptoRow : OpenClaim := { program := "ytkomckalcikkoaadoor", sum := "9dd2d55ecbca1e6d92cd4db5b699cdf5c3f2bc85a5aedd4f3f1214629b1bce1b", func := "glossary/glossarylaw03.UtfRunes", spec := "utfRunes", named := ["glossary/utf.sizes", "glossary/utf.heads"], apart := false, laid := [("glossary/utf.sizes", laid_glossary_utf_sizes), ("glossary/utf.heads", laid_glossary_utf_heads)], narrowed := true }
def UtfRunesUptoSaid : Prop := utfRunesUptoRow.holds Tryd.pinned (OpenSpec.upto utfRunesSpec)

/-- 'glossarylaw03.UtfPuts', WHERE WHAT IT READS IS OF BULK AT MOST 1048576: true; the input reads as it did. -/
def utfPutsUptoRow : OpenClaim := { program := "ytkomckalcikkoaadoor", sum := "9dd2d55ecbca1e6d92cd4db5b699cdf5c3f2bc85a5aedd4f3f1214629b1bce1b", func := "glossary/glossarylaw03.UtfPuts", spec := "utfPuts", named := ["glossary/utf.sizes", "glossary/utf.heads"], apart := false, laid := [("glossary/utf.sizes", laid_glossary_utf_sizes), ("glossary/utf.heads", laid_glossary_utf_heads)], narrowed := true }
def UtfPutsUptoSaid : Prop := utfPutsUptoRow.holds Tryd.pinned (OpenSpec.upto utfPutsSpec)

/-- 'glossarylaw03.UtfCounts', WHERE WHAT IT READS IS OF BULK AT MOST 1048576: true; the input reads as it did. -/
def utfCountsUptoRow : OpenClaim := { program := "ytkomckalcikkoaadoor", sum := "9dd2d55ecbca1e6d92cd4db5b699cdf5c3f2bc85a5aedd4f3f1214629b1bce1b", func := "glossary/glossarylaw03.UtfCounts", spec := "utfCounts", named := ["glossary/utf.sizes", "glossary/utf.heads"], apart := false, laid := [("glossary/utf.sizes", laid_glossary_utf_sizes), ("glossary/utf.heads", laid_glossary_utf_heads)], narrowed := true }
def UtfCountsUptoSaid : Prop := utfCountsUptoRow.holds Tryd.pinned (OpenSpec.upto utfCountsSpec)

/-- 'glossarylaw03.UtfBack', WHERE WHAT IT READS IS OF BULK AT MOST 1048576: true; the input reads as it did. -/
def utfBackUptoRow : OpenClaim := { program := "ytkomckalcikkoaadoor", sum := "9dd2d55ecbca1e6d92cd4db5b699cdf5c3f2bc85a5aedd4f3f1214629b1bce1b", func := "glossary/glossarylaw03.UtfBack", spec := "utfBack", named := ["glossary/utf.sizes", "glossary/utf.heads"], apart := false, laid := [("glossary/utf.sizes", laid_glossary_utf_sizes), ("glossary/utf.heads", laid_glossary_utf_heads)], narrowed := true }
def UtfBackUptoSaid : Prop := utfBackUptoRow.holds Tryd.pinned (OpenSpec.upto utfBackSpec)

/-- 'glossarylaw03.UtfJoined', WHERE WHAT IT READS IS OF BULK AT MOST 1048576: true; the input reads as it did. -/
def utfJoinedUptoRow : OpenClaim := { program := "ytkomckalcikkoaadoor", sum := "9dd2d55ecbca1e6d92cd4db5b699cdf5c3f2bc85a5aedd4f3f1214629b1bce1b", func := "glossary/glossarylaw03.UtfJoined", spec := "utfJoined", named := ["glossary/utf.sizes", "glossary/utf.heads"], apart := false, laid := [("glossary/utf.sizes", laid_glossary_utf_sizes), ("glossary/utf.heads", laid_glossary_utf_heads)], narrowed := true }
def UtfJoinedUptoSaid : Prop := utfJoinedUptoRow.holds Tryd.pinned (OpenSpec.upto utfJoinedSpec)

/-- 'glossarylaw03.UtfWhole', WHERE WHAT IT READS IS OF BULK AT MOST 1048576: true; the input reads as it did. -/
def utfWholeUptoRow : OpenClaim := { program := "ytkomckalcikkoaadoor", sum := "9dd2d55ecbca1e6d92cd4db5b699cdf5c3f2bc85a5aedd4f3f1214629b1bce1b", func := "glossary/glossarylaw03.UtfWhole", spec := "utfWhole", named := ["glossary/utf.sizes", "glossary/utf.heads"], apart := false, laid := [("glossary/utf.sizes", laid_glossary_utf_sizes), ("glossary/utf.heads", laid_glossary_utf_heads)], narrowed := true }
def UtfWholeUptoSaid : Prop := utfWholeUptoRow.holds Tryd.pinned (OpenSpec.upto utfWholeSpec)

end Rows
end Go.Proofs.YtkomckalcikkoaaDoor
