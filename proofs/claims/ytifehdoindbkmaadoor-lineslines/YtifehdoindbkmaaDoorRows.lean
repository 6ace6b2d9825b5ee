/-
  NARROWER THAN 'FOR EVERY INPUT', by the rows' own cells (each row's printed sentence says how): LinesLines: laid · LinesNone: laid · CodesEncode: laid · CodesDecode: laid · CodesColumns: laid · CodesCuts: laid.
  DERIVED. THE GIVEN ROWS OF THIS SEAT. 6 by the template 'for every input the law returns true; each argument reads behind the call as it read before'; 0 by the template 'total and deterministic' (their statements: YtifehdoindbkmaaDoorTotals.lean).
  GIVEN WITH THE SEED: the statements are not yours to turn. If you find one false, say at which input.
  Laid BY PROGRAM, IN A SANDBOX (cutbox-rows.mjs): the forced cells as the released guide's own fill.sh prints them over the translation a4821718dfa50e40… (all of the seat's roots in one cut). By AI agents, Wed Nov 11 2026. No macro, syntax, notation, axiom, sorry.
-/
import Derived.Test.YtifehdoindbkmaaDoorChecked
import GoSem.PinnedTables
import GoSem.Claim
import GoSem.ClaimJoined
import GoSem.ClaimMapViews
import Derived.JoinedTies
import Derived.KernelRfl
namespace Go.Proofs.YtifehdoindbkmaaDoor
/- THE CELL 'sum', in the pinned program and in every row, IS THE sha256 OF THE DUMP (.gsa) THAT YtifehdoindbkmaaDoorProg.lean LOADS. Nothing in Lean hashes anything: it is a label: what it is worth is what the hold of that sum in a sandbox is worth. -/
noncomputable def Tryd.pinned : Pinned := { name := "ytifehdoindbkmaadoor", sum := "a4821718dfa50e40411cbcf2ea758e0b0b2e5a3b5856d004865ad78bc8cc5253", checked := Tryd.checked }
namespace Rows
def none {H : Type} : Left H := { results := [], args := [] }

/- WHAT THE LISTED PACKAGE-LEVEL VARIABLES READ AS WHEN THE CALL BEGINS. Each datum BY PROGRAM (the guide's laid-datum.mjs) off the statement by which the dump's own 'gosem.cut.vars' lays the variable. In a bare row this is a premise. The card (YtifehdoindbkmaaDoorCards.lean) ties it to the program's text. -/
def laid_unicode_utf8_acceptRanges {H : Type} : DataW H := .agg [.agg [.lit (.int .u8 128), .lit (.int .u8 191)], .agg [.lit (.int .u8 160), .lit (.int .u8 191)], .agg [.lit (.int .u8 128), .lit (.int .u8 159)], .agg [.lit (.int .u8 144), .lit (.int .u8 191)], .agg [.lit (.int .u8 128), .lit (.int .u8 143)], .agg [.lit (.int .u8 0), .lit (.int .u8 0)], .agg [.lit (.int .u8 0), .lit (.int .u8 0)], .agg [.lit (.int .u8 0), .lit (.int .u8 0)], .agg [.lit (.int .u8 0), .lit (.int .u8 0)], .agg [.lit (.int .u8 0), .lit (.int .u8 0)], .agg [.lit (.int .u8 0), .lit (.int .u8 0)], .agg [.lit (.int .u8 0), .lit (.int .u8 0)], .agg [.lit (.int .u8 0), .lit (.int .u8 0)], .agg [.lit (.int .u8 0), .lit (.int .u8 0)], .agg [.lit (.int .u8 0), .lit (.int .u8 0)], .agg [.lit (.int .u8 0), .lit (.int .u8 0)]]
/-- One of Go's own tables, pinned by name: the form's constant. -/
def laid_unicode_utf8_first : DataW Unit := Go.Pinned.utf8First
def laid_frisket_codes_lengths {H : Type} : DataW H := .agg [.agg [.lit (.int .i64 0), .lit (.int .i64 127), .lit (.int .i64 0)], .agg [.lit (.int .i64 128), .lit (.int .i64 2047), .lit (.int .i64 192)], .agg [.lit (.int .i64 2048), .lit (.int .i64 65535), .lit (.int .i64 224)], .agg [.lit (.int .i64 65536), .lit (.int .i64 1114111), .lit (.int .i64 240)]]

/-- 'frisketlaw03.LinesLines': WHATEVER THE INPUT: true; the input reads as it did. -/
def linesLinesSpec : ChangeSpec := { name := "linesLines", fn := fun _ => fun
  | [d1, d2, d3] => { results := [.lit (.bool true)], args := [d1, d2, d3] }
  | _ => none }
def linesLinesRow : OpenClaim := { program := "ytifehdoindbkmaadoor", sum := "a4821718dfa50e40411cbcf2ea758e0b0b2e5a3b5856d004865ad78bc8cc5253", func := "frisket/frisketlaw03.LinesLines", spec := "linesLines", inPlace := ["internal/bytealg.IndexByteString", "internal/bytealg.IndexString"], unfollowed := true, recurses := true, named := ["unicode/utf8.first", "unicode/utf8.acceptRanges", "internal/bytealg.MaxLen"], apart := false, laid := [("unicode/utf8.acceptRanges", laid_unicode_utf8_acceptRanges), ("unicode/utf8.first", laid_unicode_utf8_first)] }
def LinesLinesSaid : Prop := linesLinesRow.holds Tryd.pinned (OpenSpec.ofChange linesLinesSpec)

/-- ITS FALSE NEIGHBOUR: 'it returns false'. Refute it at one input. -/
def linesLinesWrong : ChangeSpec := { name := "linesLines", fn := fun _ => fun
  | [d1, d2, d3] => { results := [.lit (.bool false)], args := [d1, d2, d3] }
  | _ => none }
def LinesLinesWrongFalsely : Prop := linesLinesRow.holds Tryd.pinned (OpenSpec.ofChange linesLinesWrong)

/-- 'frisketlaw03.LinesNone': WHATEVER THE INPUT: true; the input reads as it did. -/
def linesNoneSpec : ChangeSpec := { name := "linesNone", fn := fun _ => fun
  | [d1, d2] => { results := [.lit (.bool true)], args := [d1, d2] }
  | _ => none }
def linesNoneRow : OpenClaim := { program := "ytifehdoindbkmaadoor", sum := "a4821718dfa50e40411cbcf2ea758e0b0b2e5a3b5856d004865ad78bc8cc5253", func := "frisket/frisketlaw03.LinesNone", spec := "linesNone", inPlace := ["internal/abi.NoEscape", "internal/bytealg.MakeNoZero", "internal/bytealg.CountString", "internal/bytealg.IndexByteString", "internal/bytealg.IndexString"], unfollowed := true, recurses := true, named := ["internal/bytealg.MaxLen", "unicode/utf8.first", "unicode/utf8.acceptRanges"], apart := false, laid := [("unicode/utf8.acceptRanges", laid_unicode_utf8_acceptRanges), ("unicode/utf8.first", laid_unicode_utf8_first)] }
def LinesNoneSaid : Prop := linesNoneRow.holds Tryd.pinned (OpenSpec.ofChange linesNoneSpec)

/-- ITS FALSE NEIGHBOUR: 'it returns false'. Refute it at one input. -/
def linesNoneWrong : ChangeSpec := { name := "linesNone", fn := fun _ => fun
  | [d1, d2] => { results := [.lit (.bool false)], args := [d1, d2] }
  | _ => none }
def LinesNoneWrongFalsely : Prop := linesNoneRow.holds Tryd.pinned (OpenSpec.ofChange linesNoneWrong)

/-- 'frisketlaw04.CodesEncode': WHATEVER THE INPUT: true; the input reads as it did. -/
def codesEncodeSpec : ChangeSpec := { name := "codesEncode", fn := fun _ => fun
  | [d] => { results := [.lit (.bool true)], args := [d] }
  | _ => none }
def codesEncodeRow : OpenClaim := { program := "ytifehdoindbkmaadoor", sum := "a4821718dfa50e40411cbcf2ea758e0b0b2e5a3b5856d004865ad78bc8cc5253", func := "frisket/frisketlaw04.CodesEncode", spec := "codesEncode", inPlace := ["internal/abi.NoEscape"], unfollowed := true, recurses := true, named := ["frisket/codes.lengths"], apart := false, laid := [("frisket/codes.lengths", laid_frisket_codes_lengths)] }
def CodesEncodeSaid : Prop := codesEncodeRow.holds Tryd.pinned (OpenSpec.ofChange codesEncodeSpec)

/-- ITS FALSE NEIGHBOUR: 'it returns false'. Refute it at one input. -/
def codesEncodeWrong : ChangeSpec := { name := "codesEncode", fn := fun _ => fun
  | [d] => { results := [.lit (.bool false)], args := [d] }
  | _ => none }
def CodesEncodeWrongFalsely : Prop := codesEncodeRow.holds Tryd.pinned (OpenSpec.ofChange codesEncodeWrong)

/-- 'frisketlaw04.CodesDecode': WHATEVER THE INPUT: true; the input reads as it did. -/
def codesDecodeSpec : ChangeSpec := { name := "codesDecode", fn := fun _ => fun
  | [d1, d2] => { results := [.lit (.bool true)], args := [d1, d2] }
  | _ => none }
def codesDecodeRow : OpenClaim := { program := "ytifehdoindbkmaadoor", sum := "a4821718dfa50e40411cbcf2ea758e0b0b2e5a3b5856d004865ad78bc8cc5253", func := "frisket/frisketlaw04.CodesDecode", spec := "codesDecode", inPlace := ["internal/abi.NoEscape"], unfollowed := true, recurses := true, named := ["frisket/codes.lengths"], apart := false, laid := [("frisket/codes.lengths", laid_frisket_codes_lengths)] }
def CodesDecodeSaid : Prop := codesDecodeRow.holds Tryd.pinned (OpenSpec.ofChange codesDecodeSpec)

/-- ITS FALSE NEIGHBOUR: 'it returns false'. Refute it at one input. -/
def codesDecodeWrong : ChangeSpec := { name := "codesDecode", fn := fun _ => fun
  | [d1, d2] => { results := [.lit (.bool false)], args := [d1, d2] }
  | _ => none }
def CodesDecodeWrongFalsely : Prop := codesDecodeRow.holds Tryd.pinned (OpenSpec.ofChange codesDecodeWrong)

/-- 'frisketlaw04.CodesColumns': WHATEVER THE INPUT: true; the input reads as it did. -/
def codesColumnsSpec : ChangeSpec := { name := "codesColumns", fn := fun _ => fun
  | [d] => { results := [.lit (.bool true)], args := [d] }
  | _ => none }
def codesColumnsRow : OpenClaim := { program := "ytifehdoindbkmaadoor", sum := "a4821718dfa50e40411cbcf2ea758e0b0b2e5a3b5856d004865ad78bc8cc5253", func := "frisket/frisketlaw04.CodesColumns", spec := "codesColumns", inPlace := ["internal/abi.NoEscape"], named := ["frisket/codes.lengths"], apart := false, laid := [("frisket/codes.lengths", laid_frisket_codes_lengths)] }
def CodesColumnsSaid : Prop := codesColumnsRow.holds Tryd.pinned (OpenSpec.ofChange codesColumnsSpec)

/-- ITS FALSE NEIGHBOUR: 'it returns false'. Refute it at one input. -/
def codesColumnsWrong : ChangeSpec := { name := "codesColumns", fn := fun _ => fun
  | [d] => { results := [.lit (.bool false)], args := [d] }
  | _ => none }
def CodesColumnsWrongFalsely : Prop := codesColumnsRow.holds Tryd.pinned (OpenSpec.ofChange codesColumnsWrong)

/-- 'frisketlaw04.CodesCuts': WHATEVER THE INPUT: true; the input reads as it did. -/
def codesCutsSpec : ChangeSpec := { name := "codesCuts", fn := fun _ => fun
  | [d1, d2] => { results := [.lit (.bool true)], args := [d1, d2] }
  | _ => none }
def codesCutsRow : OpenClaim := { program := "ytifehdoindbkmaadoor", sum := "a4821718dfa50e40411cbcf2ea758e0b0b2e5a3b5856d004865ad78bc8cc5253", func := "frisket/frisketlaw04.CodesCuts", spec := "codesCuts", inPlace := ["internal/abi.NoEscape"], unfollowed := true, recurses := true, named := ["frisket/codes.lengths"], apart := false, laid := [("frisket/codes.lengths", laid_frisket_codes_lengths)] }
def CodesCutsSaid : Prop := codesCutsRow.holds Tryd.pinned (OpenSpec.ofChange codesCutsSpec)

/-- ITS FALSE NEIGHBOUR: 'it returns false'. Refute it at one input. -/
def codesCutsWrong : ChangeSpec := { name := "codesCuts", fn := fun _ => fun
  | [d1, d2] => { results := [.lit (.bool false)], args := [d1, d2] }
  | _ => none }
def CodesCutsWrongFalsely : Prop := codesCutsRow.holds Tryd.pinned (OpenSpec.ofChange codesCutsWrong)

/- THE SECOND FORM. 'bulk': how many values and letters a reading holds, each counted each time it is reached (what is shared counts as often as it is met; a slice's spare places count too). A statement '..UptoSaid' is the law's where the arguments, and the package variables that the reading takes, are together of bulk at most 1048576: NARROWER than '..Said'. Prove '..Said' where nothing that the law and all that it calls make is longer than what came in: it says more and counts as full. Else prove '..UptoSaid'. A law counts once. -/
mutual
def uptoBulk {H : Type} : DataW H → Nat
  | .lit (.string bytes) => bytes.length + 1
  | .lit _ => 1
  | .nil => 1
  | .ptr d => uptoBulk d + 1
  | .slice elems spare => uptoBulkAll elems + uptoBulkAll spare + 1
  | .agg parts => uptoBulkAll parts + 1
  | .iface _ d => uptoBulk d + 1
  | .map entries => uptoBulkEntries entries + 1
  | .held _ => 1
def uptoBulkAll {H : Type} : List (DataW H) → Nat
  | [] => 0
  | d :: r => uptoBulk d + uptoBulkAll r
def uptoBulkEntries {H : Type} : List (Lit × DataW H) → Nat
  | [] => 0
  | x :: r => uptoBulkEntry x + uptoBulkEntries r
def uptoBulkEntry {H : Type} : Lit × DataW H → Nat
  | (.string bytes, d) => bytes.length + uptoBulk d + 1
  | (_, d) => uptoBulk d + 1
 end
def uptoSmall : (H : Type) → List (DataW H) → Bool := fun _ ds => decide (uptoBulkAll ds ≤ 1048576)
def OpenSpec.upto (s : _root_.Go.ChangeSpec) : _root_.Go.OpenSpec := { _root_.Go.OpenSpec.ofChange s with cond := some uptoSmall }

/-- 'frisketlaw03.LinesLines', WHERE WHAT IT READS IS OF BULK AT MOST 1048576: true; the input reads as it did. -/
def linesLinesUptoRow : OpenClaim := { program := "ytifehdoindbkmaadoor", sum := "a4821718dfa50e40411cbcf2ea758e0b0b2e5a3b5856d004865ad78bc8cc5253", func := "frisket/frisketlaw03.LinesLines", spec := "linesLines", inPlace := ["internal/bytealg.IndexByteString", "internal/bytealg.IndexString"], unfollowed := true, recurses := true, named := ["unicode/utf8.first", "unicode/utf8.acceptRanges", "internal/bytealg.MaxLen"], apart := false, laid := [("unicode/utf8.acceptRanges", laid_unicode_utf8_acceptRanges), ("unicode/utf8.first", laid_unicode_utf8_first)], narrowed := true }
def LinesLinesUptoSaid : Prop := linesLinesUptoRow.holds Tryd.pinned (OpenSpec.upto linesLinesSpec)

/-- 'frisketlaw03.LinesNone', WHERE WHAT IT READS IS OF BULK AT MOST 1048576: true; the input reads as it did. -/
def linesNoneUptoRow : OpenClaim := { program := "ytifehdoindbkmaadoor", sum := "a4821718dfa50e40411cbcf2ea758e0b0b2e5a3b5856d004865ad78bc8cc5253", func := "frisket/frisketlaw03.LinesNone", spec := "linesNone", inPlace := ["internal/abi.NoEscape", "internal/bytealg.MakeNoZero", "internal/bytealg.CountString", "internal/bytealg.IndexByteString", "internal/bytealg.IndexString"], unfollowed := true, recurses := true, named := ["internal/bytealg.MaxLen", "unicode/utf8.first", "unicode/utf8.acceptRanges"], apart := false, laid := [("unicode/utf8.acceptRanges", laid_unicode_utf8_acceptRanges), ("unicode/utf8.first", laid_unicode_utf8_first)], narrowed := true }
def LinesNoneUptoSaid : Prop := linesNoneUptoRow.holds Tryd.pinned (OpenSpec.upto linesNoneSpec)

/-- 'frisketlaw04.CodesEncode', WHERE WHAT IT READS IS OF BULK AT MOST 1048576: true; the input reads as it did. -/
def codesEncodeUptoRow : OpenClaim := { program := "ytifehdoindbkmaadoor", sum := "a4821718dfa50e40411cbcf2ea758e0b0b2e5a3b5856d004865ad78bc8cc5253", func := "frisket/frisketlaw04.CodesEncode", spec := "codesEncode", inPlace := ["internal/abi.NoEscape"], unfollowed := true, recurses := true, named := ["frisket/codes.lengths"], apart := false, laid := [("frisket/codes.lengths", laid_frisket_codes_lengths)], narrowed := true }
def CodesEncodeUptoSaid : Prop := codesEncodeUptoRow.holds Tryd.pinned (OpenSpec.upto codesEncodeSpec)

/-- 'frisketlaw04.CodesDecode', WHERE WHAT IT READS IS OF BULK AT MOST 1048576: true; the input reads as it did. -/
def codesDecodeUptoRow : OpenClaim := { program := "ytifehdoindbkmaadoor", sum := "a4821718dfa50e40411cbcf2ea758e0b0b2e5a3b5856d004865ad78bc8cc5253", func := "frisket/frisketlaw04.CodesDecode", spec := "codesDecode", inPlace := ["internal/abi.NoEscape"], unfollowed := true, recurses := true, named := ["frisket/codes.lengths"], apart := false, laid := [("frisket/codes.lengths", laid_frisket_codes_lengths)], narrowed := true }
def CodesDecodeUptoSaid : Prop := codesDecodeUptoRow.holds Tryd.pinned (OpenSpec.upto codesDecodeSpec)

/-- 'frisketlaw04.CodesColumns', WHERE WHAT IT READS IS OF BULK AT MOST 1048576: true; the input reads as it did. -/
def codesColumnsUptoRow : OpenClaim := { program := "ytifehdoindbkmaadoor", sum := "a4821718dfa50e40411cbcf2ea758e0b0b2e5a3b5856d004865ad78bc8cc5253", func := "frisket/frisketlaw04.CodesColumns", spec := "codesColumns", inPlace := ["internal/abi.NoEscape"], named := ["frisket/codes.lengths"], apart := false, laid := [("frisket/codes.lengths", laid_frisket_codes_lengths)], narrowed := true }
def CodesColumnsUptoSaid : Prop := codesColumnsUptoRow.holds Tryd.pinned (OpenSpec.upto codesColumnsSpec)

/-- 'frisketlaw04.CodesCuts', WHERE WHAT IT READS IS OF BULK AT MOST 1048576: true; the input reads as it did. -/
def codesCutsUptoRow : OpenClaim := { program := "ytifehdoindbkmaadoor", sum := "a4821718dfa50e40411cbcf2ea758e0b0b2e5a3b5856d004865ad78bc8cc5253", func := "frisket/frisketlaw04.CodesCuts", spec := "codesCuts", inPlace := ["internal/abi.NoEscape"], unfollowed := true, recurses := true, named := ["frisket/codes.lengths"], apart := false, laid := [("frisket/codes.lengths", laid_frisket_codes_lengths)], narrowed := true }
def CodesCutsUptoSaid : Prop := codesCutsUptoRow.holds Tryd.pinned (OpenSpec.upto codesCutsSpec)

end Rows
end Go.Proofs.YtifehdoindbkmaaDoor
