/-
  NARROWER THAN 'FOR EVERY INPUT', by the rows' own cells (each row's printed sentence says how): NfaRuns: laid · NfaNone: laid · NfaOwn: laid · DfaRuns: laid · DfaStates: laid · DfaClasses: laid · DfaNone: laid · LeastStates: laid.
  DERIVED. THE GIVEN ROWS OF THIS SEAT. 8 by the template 'for every input the law returns true; each argument reads behind the call as it read before'; 0 by the template 'total and deterministic' (their statements: YtejdfpieblkapaaGreatDoorTotals.lean).
  GIVEN WITH THE SEED: the statements are not yours to turn. If you find one false, say at which input.
  Laid BY PROGRAM, IN A SANDBOX (cutbox-rows.mjs): the forced cells as the released guide's own fill.sh prints them over the translation 6ed4c62d587d9fdd… (all of the seat's roots in one cut). By AI agents, Wed Nov 11 2026. No macro, syntax, notation, axiom, sorry.
-/
import Derived.Test.YtejdfpieblkapaaGreatDoorChecked
import GoSem.Claim
import GoSem.ClaimJoined
import GoSem.ClaimMapViews
import Derived.JoinedTies
import Derived.KernelRfl
namespace Go.Proofs.YtejdfpieblkapaaGreatDoor
/- THE CELL 'sum', in the pinned program and in every row, IS THE sha256 OF THE DUMP (.gsa) THAT YtejdfpieblkapaaGreatDoorProg.lean LOADS. Nothing in Lean hashes anything: it is a label: what it is worth is what the hold of that sum in a sandbox is worth. -/
noncomputable def Tryz.pinned : Pinned := { name := "ytejdfpieblkapaagreatdoor", sum := "6ed4c62d587d9fdde7e51106f57c9a2b63ee69cacd4ce904706cc94e75863be0", checked := Tryz.checked }
namespace Rows
def none {H : Type} : Left H := { results := [], args := [] }

/- WHAT THE LISTED PACKAGE-LEVEL VARIABLES READ AS WHEN THE CALL BEGINS. Each datum BY PROGRAM (the guide's laid-datum.mjs) off the statement by which the dump's own 'gosem.cut.vars' lays the variable. In a bare row this is a premise. The card (YtejdfpieblkapaaGreatDoorCards.lean) ties it to the program's text. -/
def laid_math_bits_deBruijn64tab {H : Type} : DataW H := .agg [.lit (.int .u8 0), .lit (.int .u8 1), .lit (.int .u8 56), .lit (.int .u8 2), .lit (.int .u8 57), .lit (.int .u8 49), .lit (.int .u8 28), .lit (.int .u8 3), .lit (.int .u8 61), .lit (.int .u8 58), .lit (.int .u8 42), .lit (.int .u8 50), .lit (.int .u8 38), .lit (.int .u8 29), .lit (.int .u8 17), .lit (.int .u8 4), .lit (.int .u8 62), .lit (.int .u8 47), .lit (.int .u8 59), .lit (.int .u8 36), .lit (.int .u8 45), .lit (.int .u8 43), .lit (.int .u8 51), .lit (.int .u8 22), .lit (.int .u8 53), .lit (.int .u8 39), .lit (.int .u8 33), .lit (.int .u8 30), .lit (.int .u8 24), .lit (.int .u8 18), .lit (.int .u8 12), .lit (.int .u8 5), .lit (.int .u8 63), .lit (.int .u8 55), .lit (.int .u8 48), .lit (.int .u8 27), .lit (.int .u8 60), .lit (.int .u8 41), .lit (.int .u8 37), .lit (.int .u8 16), .lit (.int .u8 46), .lit (.int .u8 35), .lit (.int .u8 44), .lit (.int .u8 21), .lit (.int .u8 52), .lit (.int .u8 32), .lit (.int .u8 23), .lit (.int .u8 11), .lit (.int .u8 54), .lit (.int .u8 26), .lit (.int .u8 40), .lit (.int .u8 15), .lit (.int .u8 34), .lit (.int .u8 20), .lit (.int .u8 31), .lit (.int .u8 10), .lit (.int .u8 25), .lit (.int .u8 14), .lit (.int .u8 19), .lit (.int .u8 9), .lit (.int .u8 13), .lit (.int .u8 8), .lit (.int .u8 7), .lit (.int .u8 6)]

/-- 'frisketlaw06.NfaRuns': WHATEVER THE INPUT: true; the input reads as it did. -/
def nfaRunsSpec : ChangeSpec := { name := "nfaRuns", fn := fun _ => fun
  | [d1, d2] => { results := [.lit (.bool true)], args := [d1, d2] }
  | _ => none }
def nfaRunsRow : OpenClaim := { program := "ytejdfpieblkapaagreatdoor", sum := "6ed4c62d587d9fdde7e51106f57c9a2b63ee69cacd4ce904706cc94e75863be0", func := "frisket/frisketlaw06.NfaRuns", spec := "nfaRuns", inPlace := ["internal/bytealg.IndexByteString"], unfollowed := true, recurses := true, named := ["math/bits.deBruijn64tab"], plainKeys := false, apart := false, laid := [("math/bits.deBruijn64tab", laid_math_bits_deBruijn64tab)] }
def NfaRunsSaid : Prop := nfaRunsRow.holds Tryz.pinned (OpenSpec.ofChange nfaRunsSpec)

/-- ITS FALSE NEIGHBOUR: 'it returns false'. Refute it at one input. -/
def nfaRunsWrong : ChangeSpec := { name := "nfaRuns", fn := fun _ => fun
  | [d1, d2] => { results := [.lit (.bool false)], args := [d1, d2] }
  | _ => none }
def NfaRunsWrongFalsely : Prop := nfaRunsRow.holds Tryz.pinned (OpenSpec.ofChange nfaRunsWrong)

/-- 'frisketlaw06.NfaNone': WHATEVER THE INPUT: true; the input reads as it did. -/
def nfaNoneSpec : ChangeSpec := { name := "nfaNone", fn := fun _ => fun
  | [d1, d2] => { results := [.lit (.bool true)], args := [d1, d2] }
  | _ => none }
def nfaNoneRow : OpenClaim := { program := "ytejdfpieblkapaagreatdoor", sum := "6ed4c62d587d9fdde7e51106f57c9a2b63ee69cacd4ce904706cc94e75863be0", func := "frisket/frisketlaw06.NfaNone", spec := "nfaNone", inPlace := ["internal/bytealg.IndexByteString"], unfollowed := true, recurses := true, named := ["math/bits.deBruijn64tab"], plainKeys := false, apart := false, laid := [("math/bits.deBruijn64tab", laid_math_bits_deBruijn64tab)] }
def NfaNoneSaid : Prop := nfaNoneRow.holds Tryz.pinned (OpenSpec.ofChange nfaNoneSpec)

/-- ITS FALSE NEIGHBOUR: 'it returns false'. Refute it at one input. -/
def nfaNoneWrong : ChangeSpec := { name := "nfaNone", fn := fun _ => fun
  | [d1, d2] => { results := [.lit (.bool false)], args := [d1, d2] }
  | _ => none }
def NfaNoneWrongFalsely : Prop := nfaNoneRow.holds Tryz.pinned (OpenSpec.ofChange nfaNoneWrong)

/-- 'frisketlaw06.NfaOwn': WHATEVER THE INPUT: true; the input reads as it did. -/
def nfaOwnSpec : ChangeSpec := { name := "nfaOwn", fn := fun _ => fun
  | [d] => { results := [.lit (.bool true)], args := [d] }
  | _ => none }
def nfaOwnRow : OpenClaim := { program := "ytejdfpieblkapaagreatdoor", sum := "6ed4c62d587d9fdde7e51106f57c9a2b63ee69cacd4ce904706cc94e75863be0", func := "frisket/frisketlaw06.NfaOwn", spec := "nfaOwn", inPlace := ["internal/bytealg.IndexByteString"], unfollowed := true, recurses := true, named := ["math/bits.deBruijn64tab"], plainKeys := false, apart := false, laid := [("math/bits.deBruijn64tab", laid_math_bits_deBruijn64tab)] }
def NfaOwnSaid : Prop := nfaOwnRow.holds Tryz.pinned (OpenSpec.ofChange nfaOwnSpec)

/-- ITS FALSE NEIGHBOUR: 'it returns false'. Refute it at one input. -/
def nfaOwnWrong : ChangeSpec := { name := "nfaOwn", fn := fun _ => fun
  | [d] => { results := [.lit (.bool false)], args := [d] }
  | _ => none }
def NfaOwnWrongFalsely : Prop := nfaOwnRow.holds Tryz.pinned (OpenSpec.ofChange nfaOwnWrong)

/-- 'frisketlaw07.DfaRuns': WHATEVER THE INPUT: true; the input reads as it did. -/
def dfaRunsSpec : ChangeSpec := { name := "dfaRuns", fn := fun _ => fun
  | [d1, d2] => { results := [.lit (.bool true)], args := [d1, d2] }
  | _ => none }
def dfaRunsRow : OpenClaim := { program := "ytejdfpieblkapaagreatdoor", sum := "6ed4c62d587d9fdde7e51106f57c9a2b63ee69cacd4ce904706cc94e75863be0", func := "frisket/frisketlaw07.DfaRuns", spec := "dfaRuns", inPlace := ["internal/bytealg.IndexByteString"], unfollowed := true, recurses := true, named := ["math/bits.deBruijn64tab"], plainKeys := false, apart := false, laid := [("math/bits.deBruijn64tab", laid_math_bits_deBruijn64tab)] }
def DfaRunsSaid : Prop := dfaRunsRow.holds Tryz.pinned (OpenSpec.ofChange dfaRunsSpec)

/-- ITS FALSE NEIGHBOUR: 'it returns false'. Refute it at one input. -/
def dfaRunsWrong : ChangeSpec := { name := "dfaRuns", fn := fun _ => fun
  | [d1, d2] => { results := [.lit (.bool false)], args := [d1, d2] }
  | _ => none }
def DfaRunsWrongFalsely : Prop := dfaRunsRow.holds Tryz.pinned (OpenSpec.ofChange dfaRunsWrong)

/-- 'frisketlaw07.DfaStates': WHATEVER THE INPUT: true; the input reads as it did. -/
def dfaStatesSpec : ChangeSpec := { name := "dfaStates", fn := fun _ => fun
  | [d1, d2] => { results := [.lit (.bool true)], args := [d1, d2] }
  | _ => none }
def dfaStatesRow : OpenClaim := { program := "ytejdfpieblkapaagreatdoor", sum := "6ed4c62d587d9fdde7e51106f57c9a2b63ee69cacd4ce904706cc94e75863be0", func := "frisket/frisketlaw07.DfaStates", spec := "dfaStates", inPlace := ["internal/bytealg.IndexByteString"], unfollowed := true, recurses := true, named := ["math/bits.deBruijn64tab"], plainKeys := false, apart := false, laid := [("math/bits.deBruijn64tab", laid_math_bits_deBruijn64tab)] }
def DfaStatesSaid : Prop := dfaStatesRow.holds Tryz.pinned (OpenSpec.ofChange dfaStatesSpec)

/-- ITS FALSE NEIGHBOUR: 'it returns false'. Refute it at one input. -/
def dfaStatesWrong : ChangeSpec := { name := "dfaStates", fn := fun _ => fun
  | [d1, d2] => { results := [.lit (.bool false)], args := [d1, d2] }
  | _ => none }
def DfaStatesWrongFalsely : Prop := dfaStatesRow.holds Tryz.pinned (OpenSpec.ofChange dfaStatesWrong)

/-- 'frisketlaw07.DfaClasses': WHATEVER THE INPUT: true; the input reads as it did. -/
def dfaClassesSpec : ChangeSpec := { name := "dfaClasses", fn := fun _ => fun
  | [d1, d2, d3] => { results := [.lit (.bool true)], args := [d1, d2, d3] }
  | _ => none }
def dfaClassesRow : OpenClaim := { program := "ytejdfpieblkapaagreatdoor", sum := "6ed4c62d587d9fdde7e51106f57c9a2b63ee69cacd4ce904706cc94e75863be0", func := "frisket/frisketlaw07.DfaClasses", spec := "dfaClasses", inPlace := ["internal/bytealg.IndexByteString"], unfollowed := true, recurses := true, named := ["math/bits.deBruijn64tab"], plainKeys := false, apart := false, laid := [("math/bits.deBruijn64tab", laid_math_bits_deBruijn64tab)] }
def DfaClassesSaid : Prop := dfaClassesRow.holds Tryz.pinned (OpenSpec.ofChange dfaClassesSpec)

/-- ITS FALSE NEIGHBOUR: 'it returns false'. Refute it at one input. -/
def dfaClassesWrong : ChangeSpec := { name := "dfaClasses", fn := fun _ => fun
  | [d1, d2, d3] => { results := [.lit (.bool false)], args := [d1, d2, d3] }
  | _ => none }
def DfaClassesWrongFalsely : Prop := dfaClassesRow.holds Tryz.pinned (OpenSpec.ofChange dfaClassesWrong)

/-- 'frisketlaw07.DfaNone': WHATEVER THE INPUT: true; the input reads as it did. -/
def dfaNoneSpec : ChangeSpec := { name := "dfaNone", fn := fun _ => fun
  | [d1, d2, d3] => { results := [.lit (.bool true)], args := [d1, d2, d3] }
  | _ => none }
def dfaNoneRow : OpenClaim := { program := "ytejdfpieblkapaagreatdoor", sum := "6ed4c62d587d9fdde7e51106f57c9a2b63ee69cacd4ce904706cc94e75863be0", func := "frisket/frisketlaw07.DfaNone", spec := "dfaNone", inPlace := ["internal/bytealg.IndexByteString"], unfollowed := true, recurses := true, named := ["math/bits.deBruijn64tab"], plainKeys := false, apart := false, laid := [("math/bits.deBruijn64tab", laid_math_bits_deBruijn64tab)] }
def DfaNoneSaid : Prop := dfaNoneRow.holds Tryz.pinned (OpenSpec.ofChange dfaNoneSpec)

/-- ITS FALSE NEIGHBOUR: 'it returns false'. Refute it at one input. -/
def dfaNoneWrong : ChangeSpec := { name := "dfaNone", fn := fun _ => fun
  | [d1, d2, d3] => { results := [.lit (.bool false)], args := [d1, d2, d3] }
  | _ => none }
def DfaNoneWrongFalsely : Prop := dfaNoneRow.holds Tryz.pinned (OpenSpec.ofChange dfaNoneWrong)

/-- 'frisketlaw08.LeastStates': WHATEVER THE INPUT: true; the input reads as it did. -/
def leastStatesSpec : ChangeSpec := { name := "leastStates", fn := fun _ => fun
  | [d] => { results := [.lit (.bool true)], args := [d] }
  | _ => none }
def leastStatesRow : OpenClaim := { program := "ytejdfpieblkapaagreatdoor", sum := "6ed4c62d587d9fdde7e51106f57c9a2b63ee69cacd4ce904706cc94e75863be0", func := "frisket/frisketlaw08.LeastStates", spec := "leastStates", inPlace := ["internal/bytealg.IndexByteString"], unfollowed := true, recurses := true, named := ["math/bits.deBruijn64tab"], plainKeys := false, apart := false, laid := [("math/bits.deBruijn64tab", laid_math_bits_deBruijn64tab)] }
def LeastStatesSaid : Prop := leastStatesRow.holds Tryz.pinned (OpenSpec.ofChange leastStatesSpec)

/-- ITS FALSE NEIGHBOUR: 'it returns false'. Refute it at one input. -/
def leastStatesWrong : ChangeSpec := { name := "leastStates", fn := fun _ => fun
  | [d] => { results := [.lit (.bool false)], args := [d] }
  | _ => none }
def LeastStatesWrongFalsely : Prop := leastStatesRow.holds Tryz.pinned (OpenSpec.ofChange leastStatesWrong)

/- THE SECOND FORM. 'bulk': how many values and letters a reading holds, each counted each time it is reached (what is shared counts as often as it is met; a slice's spare places count too). A statement '..UptoSaid' is the law's where the arguments, and the package variables that the reading takes, are together of bulk at most 1048576: NARROWER than '..Said'. Prove '..Said' where nothing that the law and all that it calls make is longer than what came in: it says more and counts as full. Else prove '..UptoSaid'. A law counts once. -/
mutual
def uptoBulk {H : Type} : DataW H → Nat
  | .lit (.string bytes) => bytes.length + 1
  | .lit _ => 1
  | .nil => 1
  | .ptr d => uptoBulk d + 1
  | .slice elems spare => uptoBulkAll elems + uptoBulkAll spare + 1
  | .agg parts => uptoBulkAll parts + 1
  | .iface _ d => uptoBulk d + 1
  | .map entries => uptoBulkEntries entries + 1
  | .held _ => 1
def uptoBulkAll {H : Type} : List (DataW H) → Nat
  | [] => 0
  | d :: r => uptoBulk d + uptoBulkAll r
def uptoBulkEntries {H : Type} : List (Lit × DataW H) → Nat
  | [] => 0
  | x :: r => uptoBulkEntry x + uptoBulkEntries r
def uptoBulkEntry {H : Type} : Lit × DataW H → Nat
  | (.string bytes, d) => bytes.length + uptoBulk d + 1
  | (_, d) => uptoBulk d + 1
 end
def uptoSmall : (H : Type) → List (DataW H) → Bool := fun _ ds => decide (uptoBulkAll ds ≤ 1048576)
def OpenSpec.upto (s : _root_.Go.ChangeSpec) : _root_.Go.OpenSpec := { _root_.Go.OpenSpec.ofChange s with cond := some uptoSmall }

/-- 'frisketlaw06.NfaRuns', WHERE WHAT IT READS IS OF BULK AT MOST 1048576: true; the input reads as it did. -/
def nfaRunsUptoRow : OpenClaim := { program := "ytejdfpieblkapaagreatdoor", sum := "6ed4c62d587d9fdde7e51106f57c9a2b63ee69cacd4ce904706cc94e75863be0", func := "frisket/frisketlaw06.NfaRuns", spec := "nfaRuns", inPlace := ["internal/bytealg.IndexByteString"], unfollowed := true, recurses := true, named := ["math/bits.deBruijn64tab"], plainKeys := false, apart := false, laid := [("math/bits.deBruijn64tab", laid_math_bits_deBruijn64tab)], narrowed := true }
def NfaRunsUptoSaid : Prop := nfaRunsUptoRow.holds Tryz.pinned (OpenSpec.upto nfaRunsSpec)

/-- 'frisketlaw06.NfaNone', WHERE WHAT IT READS IS OF BULK AT MOST 1048576: true; the input reads as it did. -/
def nfaNoneUptoRow : OpenClaim := { program := "ytejdfpieblkapaagreatdoor", sum := "6ed4c62d587d9fdde7e51106f57c9a2b63ee69cacd4ce904706cc94e75863be0", func := "frisket/frisketlaw06.NfaNone", spec := "nfaNone", inPlace := ["internal/bytealg.IndexByteString"], unfollowed := true, recurses := true, named := ["math/bits.deBruijn64tab"], plainKeys := false, apart := false, laid := [("math/bits.deBruijn64tab", laid_math_bits_deBruijn64tab)], narrowed := true }
def NfaNoneUptoSaid : Prop := nfaNoneUptoRow.holds Tryz.pinned (OpenSpec.upto nfaNoneSpec)

/-- 'frisketlaw06.NfaOwn', WHERE WHAT IT READS IS OF BULK AT MOST 1048576: true; the input reads as it did. -/
def nfaOwnUptoRow : OpenClaim := { program := "ytejdfpieblkapaagreatdoor", sum := "6ed4c62d587d9fdde7e51106f57c9a2b63ee69cacd4ce904706cc94e75863be0", func := "frisket/frisketlaw06.NfaOwn", spec := "nfaOwn", inPlace := ["internal/bytealg.IndexByteString"], unfollowed := true, recurses := true, named := ["math/bits.deBruijn64tab"], plainKeys := false, apart := false, laid := [("math/bits.deBruijn64tab", laid_math_bits_deBruijn64tab)], narrowed := true }
def NfaOwnUptoSaid : Prop := nfaOwnUptoRow.holds Tryz.pinned (OpenSpec.upto nfaOwnSpec)

/-- 'frisketlaw07.DfaRuns', WHERE WHAT IT READS IS OF BULK AT MOST 1048576: true; the input reads as it did. -/
def dfaRunsUptoRow : OpenClaim := { program := "ytejdfpieblkapaagreatdoor", sum := "6ed4c62d587d9fdde7e51106f57c9a2b63ee69cacd4ce904706cc94e75863be0", func := "frisket/frisketlaw07.DfaRuns", spec := "dfaRuns", inPlace := ["internal/bytealg.IndexByteString"], unfollowed := true, recurses := true, named := ["math/bits.deBruijn64tab"], plainKeys := false, apart := false, laid := [("math/bits.deBruijn64tab", laid_math_bits_deBruijn64tab)], narrowed := true }
def DfaRunsUptoSaid : Prop := dfaRunsUptoRow.holds Tryz.pinned (OpenSpec.upto dfaRunsSpec)

/-- 'frisketlaw07.DfaStates', WHERE WHAT IT READS IS OF BULK AT MOST 1048576: true; the input reads as it did. -/
def dfaStatesUptoRow : OpenClaim := { program := "ytejdfpieblkapaagreatdoor", sum := "6ed4c62d587d9fdde7e51106f57c9a2b63ee69cacd4ce904706cc94e75863be0", func := "frisket/frisketlaw07.DfaStates", spec := "dfaStates", inPlace := ["internal/bytealg.IndexByteString"], unfollowed := true, recurses := true, named := ["math/bits.deBruijn64tab"], plainKeys := false, apart := false, laid := [("math/bits.deBruijn64tab", laid_math_bits_deBruijn64tab)], narrowed := true }
def DfaStatesUptoSaid : Prop := dfaStatesUptoRow.holds Tryz.pinned (OpenSpec.upto dfaStatesSpec)

/-- 'frisketlaw07.DfaClasses', WHERE WHAT IT READS IS OF BULK AT MOST 1048576: true; the input reads as it did. -/
def dfaClassesUptoRow : OpenClaim := { program := "ytejdfpieblkapaagreatdoor", sum := "6ed4c62d587d9fdde7e51106f57c9a2b63ee69cacd4ce904706cc94e75863be0", func := "frisket/frisketlaw07.DfaClasses", spec := "dfaClasses", inPlace := ["internal/bytealg.IndexByteString"], unfollowed := true, recurses := true, named := ["math/bits.deBruijn64tab"], plainKeys := false, apart := false, laid := [("math/bits.deBruijn64tab", laid_math_bits_deBruijn64tab)], narrowed := true }
def DfaClassesUptoSaid : Prop := dfaClassesUptoRow.holds Tryz.pinned (OpenSpec.upto dfaClassesSpec)

/-- 'frisketlaw07.DfaNone', WHERE WHAT IT READS IS OF BULK AT MOST 1048576: true; the input reads as it did. -/
def dfaNoneUptoRow : OpenClaim := { program := "ytejdfpieblkapaagreatdoor", sum := "6ed4c62d587d9fdde7e51106f57c9a2b63ee69cacd4ce904706cc94e75863be0", func := "frisket/frisketlaw07.DfaNone", spec := "dfaNone", inPlace := ["internal/bytealg.IndexByteString"], unfollowed := true, recurses := true, named := ["math/bits.deBruijn64tab"], plainKeys := false, apart := false, laid := [("math/bits.deBruijn64tab", laid_math_bits_deBruijn64tab)], narrowed := true }
def DfaNoneUptoSaid : Prop := dfaNoneUptoRow.holds Tryz.pinned (OpenSpec.upto dfaNoneSpec)

/-- 'frisketlaw08.LeastStates', WHERE WHAT IT READS IS OF BULK AT MOST 1048576: true; the input reads as it did. -/
def leastStatesUptoRow : OpenClaim := { program := "ytejdfpieblkapaagreatdoor", sum := "6ed4c62d587d9fdde7e51106f57c9a2b63ee69cacd4ce904706cc94e75863be0", func := "frisket/frisketlaw08.LeastStates", spec := "leastStates", inPlace := ["internal/bytealg.IndexByteString"], unfollowed := true, recurses := true, named := ["math/bits.deBruijn64tab"], plainKeys := false, apart := false, laid := [("math/bits.deBruijn64tab", laid_math_bits_deBruijn64tab)], narrowed := true }
def LeastStatesUptoSaid : Prop := leastStatesUptoRow.holds Tryz.pinned (OpenSpec.upto leastStatesSpec)

end Rows
end Go.Proofs.YtejdfpieblkapaaGreatDoor
