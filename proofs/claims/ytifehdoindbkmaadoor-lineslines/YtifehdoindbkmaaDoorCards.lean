/-
  DERIVED. GIVEN WITH THE SEED: THE CARDS: each row of YtifehdoindbkmaaDoorRows.lean that lists a variable, with what it lists TIED to the program's text (the seventh form; the later family's looks); each row that meets fmt, with fmt's text TOLD by the authors' own Lean function (tested against real Go, not proved from fmt's source: count such statements apart). THE CARD IS WHAT COUNTS. Prove the row's statement (the work); the ties are given (YtifehdoindbkmaaDoorTie.lean); close each card by the builder's one call (the guide's Derived/Test/ToyasCard.lean, 'card_holds'). Laid BY PROGRAM, IN A SANDBOX (cutbox-door.mjs). By AI agents, Wed Nov 11 2026. No macro, syntax, notation, axiom, sorry.
-/
import Derived.Test.YtifehdoindbkmaaDoorRows
import GoSem.ClaimSeven
namespace Go.Proofs.YtifehdoindbkmaaDoor
namespace Rows

/-- THE TIED CARD OF 'frisketlaw03.LinesLines'. -/
def linesLinesCard : Claim7 := { stood := { row := linesLinesRow, standIns := [], harness := (true, "90c05092e498c67af70d84112a65eb161a23f5f7a8d188bbdf20cf06e8ce5c2c"), looks := false }, kinds := [], alts := [], laidByText := true, laidKinds := [.data, .pinned], laidTests := true, laidLooks := .later }
def LinesLinesCardSaid : Prop := Claim7.holds Tryd.pinned (.plain (OpenSpec.ofChange linesLinesSpec)) linesLinesCard

/-- THE TIED CARD OF 'frisketlaw03.LinesNone'. -/
def linesNoneCard : Claim7 := { stood := { row := linesNoneRow, standIns := [], harness := (true, "90c05092e498c67af70d84112a65eb161a23f5f7a8d188bbdf20cf06e8ce5c2c"), looks := false }, kinds := [], alts := [], laidByText := true, laidKinds := [.data, .pinned], laidTests := true, laidLooks := .later }
def LinesNoneCardSaid : Prop := Claim7.holds Tryd.pinned (.plain (OpenSpec.ofChange linesNoneSpec)) linesNoneCard

/-- THE TIED CARD OF 'frisketlaw04.CodesEncode'. -/
def codesEncodeCard : Claim7 := { stood := { row := codesEncodeRow, standIns := [], harness := (true, "90c05092e498c67af70d84112a65eb161a23f5f7a8d188bbdf20cf06e8ce5c2c"), looks := false }, kinds := [], alts := [], laidByText := true, laidKinds := [.data], laidTests := true, laidLooks := .later }
def CodesEncodeCardSaid : Prop := Claim7.holds Tryd.pinned (.plain (OpenSpec.ofChange codesEncodeSpec)) codesEncodeCard

/-- THE TIED CARD OF 'frisketlaw04.CodesDecode'. -/
def codesDecodeCard : Claim7 := { stood := { row := codesDecodeRow, standIns := [], harness := (true, "90c05092e498c67af70d84112a65eb161a23f5f7a8d188bbdf20cf06e8ce5c2c"), looks := false }, kinds := [], alts := [], laidByText := true, laidKinds := [.data], laidTests := true, laidLooks := .later }
def CodesDecodeCardSaid : Prop := Claim7.holds Tryd.pinned (.plain (OpenSpec.ofChange codesDecodeSpec)) codesDecodeCard

/-- THE TIED CARD OF 'frisketlaw04.CodesColumns'. -/
def codesColumnsCard : Claim7 := { stood := { row := codesColumnsRow, standIns := [], harness := (true, "90c05092e498c67af70d84112a65eb161a23f5f7a8d188bbdf20cf06e8ce5c2c"), looks := false }, kinds := [], alts := [], laidByText := true, laidKinds := [.data], laidTests := true, laidLooks := .later }
def CodesColumnsCardSaid : Prop := Claim7.holds Tryd.pinned (.plain (OpenSpec.ofChange codesColumnsSpec)) codesColumnsCard

/-- THE TIED CARD OF 'frisketlaw04.CodesCuts'. -/
def codesCutsCard : Claim7 := { stood := { row := codesCutsRow, standIns := [], harness := (true, "90c05092e498c67af70d84112a65eb161a23f5f7a8d188bbdf20cf06e8ce5c2c"), looks := false }, kinds := [], alts := [], laidByText := true, laidKinds := [.data], laidTests := true, laidLooks := .later }
def CodesCutsCardSaid : Prop := Claim7.holds Tryd.pinned (.plain (OpenSpec.ofChange codesCutsSpec)) codesCutsCard

/-- THE SECOND FORM's CARD OF 'frisketlaw03.LinesLines'. -/
def linesLinesUptoCard : Claim7 := { stood := { row := linesLinesUptoRow, standIns := [], harness := (true, "90c05092e498c67af70d84112a65eb161a23f5f7a8d188bbdf20cf06e8ce5c2c"), looks := false }, kinds := [], alts := [], laidByText := true, laidKinds := [.data, .pinned], laidTests := true, laidLooks := .later }
def LinesLinesUptoCardSaid : Prop := Claim7.holds Tryd.pinned (.plain (OpenSpec.upto linesLinesSpec)) linesLinesUptoCard

/-- THE SECOND FORM's CARD OF 'frisketlaw03.LinesNone'. -/
def linesNoneUptoCard : Claim7 := { stood := { row := linesNoneUptoRow, standIns := [], harness := (true, "90c05092e498c67af70d84112a65eb161a23f5f7a8d188bbdf20cf06e8ce5c2c"), looks := false }, kinds := [], alts := [], laidByText := true, laidKinds := [.data, .pinned], laidTests := true, laidLooks := .later }
def LinesNoneUptoCardSaid : Prop := Claim7.holds Tryd.pinned (.plain (OpenSpec.upto linesNoneSpec)) linesNoneUptoCard

/-- THE SECOND FORM's CARD OF 'frisketlaw04.CodesEncode'. -/
def codesEncodeUptoCard : Claim7 := { stood := { row := codesEncodeUptoRow, standIns := [], harness := (true, "90c05092e498c67af70d84112a65eb161a23f5f7a8d188bbdf20cf06e8ce5c2c"), looks := false }, kinds := [], alts := [], laidByText := true, laidKinds := [.data], laidTests := true, laidLooks := .later }
def CodesEncodeUptoCardSaid : Prop := Claim7.holds Tryd.pinned (.plain (OpenSpec.upto codesEncodeSpec)) codesEncodeUptoCard

/-- THE SECOND FORM's CARD OF 'frisketlaw04.CodesDecode'. -/
def codesDecodeUptoCard : Claim7 := { stood := { row := codesDecodeUptoRow, standIns := [], harness := (true, "90c05092e498c67af70d84112a65eb161a23f5f7a8d188bbdf20cf06e8ce5c2c"), looks := false }, kinds := [], alts := [], laidByText := true, laidKinds := [.data], laidTests := true, laidLooks := .later }
def CodesDecodeUptoCardSaid : Prop := Claim7.holds Tryd.pinned (.plain (OpenSpec.upto codesDecodeSpec)) codesDecodeUptoCard

/-- THE SECOND FORM's CARD OF 'frisketlaw04.CodesColumns'. -/
def codesColumnsUptoCard : Claim7 := { stood := { row := codesColumnsUptoRow, standIns := [], harness := (true, "90c05092e498c67af70d84112a65eb161a23f5f7a8d188bbdf20cf06e8ce5c2c"), looks := false }, kinds := [], alts := [], laidByText := true, laidKinds := [.data], laidTests := true, laidLooks := .later }
def CodesColumnsUptoCardSaid : Prop := Claim7.holds Tryd.pinned (.plain (OpenSpec.upto codesColumnsSpec)) codesColumnsUptoCard

/-- THE SECOND FORM's CARD OF 'frisketlaw04.CodesCuts'. -/
def codesCutsUptoCard : Claim7 := { stood := { row := codesCutsUptoRow, standIns := [], harness := (true, "90c05092e498c67af70d84112a65eb161a23f5f7a8d188bbdf20cf06e8ce5c2c"), looks := false }, kinds := [], alts := [], laidByText := true, laidKinds := [.data], laidTests := true, laidLooks := .later }
def CodesCutsUptoCardSaid : Prop := Claim7.holds Tryd.pinned (.plain (OpenSpec.upto codesCutsSpec)) codesCutsUptoCard
end Rows
end Go.Proofs.YtifehdoindbkmaaDoor
