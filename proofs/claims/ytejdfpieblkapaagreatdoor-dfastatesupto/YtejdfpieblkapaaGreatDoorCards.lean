/-
  DERIVED. GIVEN WITH THE SEED: THE CARDS: each row of YtejdfpieblkapaaGreatDoorRows.lean that lists a variable, with what it lists TIED to the program's text (the seventh form; the later family's looks); each row that meets fmt, with fmt's text TOLD by the authors' own Lean function (tested against real Go, not proved from fmt's source: count such statements apart). THE CARD IS WHAT COUNTS. Prove the row's statement (the work); the ties are given (YtejdfpieblkapaaGreatDoorTie.lean); close each card by the builder's one call (the guide's Derived/Test/ToyasCard.lean, 'card_holds'). Laid BY PROGRAM, IN A SANDBOX (cutbox-door.mjs). By AI agents, Wed Nov 11 2026. No macro, syntax, notation, axiom, sorry.
-/
import Derived.Test.YtejdfpieblkapaaGreatDoorRows
import GoSem.ClaimSeven
namespace Go.Proofs.YtejdfpieblkapaaGreatDoor
namespace Rows

/-- THE TIED CARD OF 'frisketlaw06.NfaRuns'. -/
def nfaRunsCard : Claim7 := { stood := { row := nfaRunsRow, standIns := [], harness := (true, "9f12f1a78da01d0306cc173cb16b64c46fa233fe268123de87bc0325c2585f8f"), looks := false }, kinds := [], alts := [], laidByText := true, laidKinds := [.data], laidTests := true, laidLooks := .later }
def NfaRunsCardSaid : Prop := Claim7.holds Tryz.pinned (.plain (OpenSpec.ofChange nfaRunsSpec)) nfaRunsCard

/-- THE TIED CARD OF 'frisketlaw06.NfaNone'. -/
def nfaNoneCard : Claim7 := { stood := { row := nfaNoneRow, standIns := [], harness := (true, "9f12f1a78da01d0306cc173cb16b64c46fa233fe268123de87bc0325c2585f8f"), looks := false }, kinds := [], alts := [], laidByText := true, laidKinds := [.data], laidTests := true, laidLooks := .later }
def NfaNoneCardSaid : Prop := Claim7.holds Tryz.pinned (.plain (OpenSpec.ofChange nfaNoneSpec)) nfaNoneCard

/-- THE TIED CARD OF 'frisketlaw06.NfaOwn'. -/
def nfaOwnCard : Claim7 := { stood := { row := nfaOwnRow, standIns := [], harness := (true, "9f12f1a78da01d0306cc173cb16b64c46fa233fe268123de87bc0325c2585f8f"), looks := false }, kinds := [], alts := [], laidByText := true, laidKinds := [.data], laidTests := true, laidLooks := .later }
def NfaOwnCardSaid : Prop := Claim7.holds Tryz.pinned (.plain (OpenSpec.ofChange nfaOwnSpec)) nfaOwnCard

/-- THE TIED CARD OF 'frisketlaw07.DfaRuns'. -/
def dfaRunsCard : Claim7 := { stood := { row := dfaRunsRow, standIns := [], harness := (true, "9f12f1a78da01d0306cc173cb16b64c46fa233fe268123de87bc0325c2585f8f"), looks := false }, kinds := [], alts := [], laidByText := true, laidKinds := [.data], laidTests := true, laidLooks := .later }
def DfaRunsCardSaid : Prop := Claim7.holds Tryz.pinned (.plain (OpenSpec.ofChange dfaRunsSpec)) dfaRunsCard

/-- THE TIED CARD OF 'frisketlaw07.DfaStates'. -/
def dfaStatesCard : Claim7 := { stood := { row := dfaStatesRow, standIns := [], harness := (true, "9f12f1a78da01d0306cc173cb16b64c46fa233fe268123de87bc0325c2585f8f"), looks := false }, kinds := [], alts := [], laidByText := true, laidKinds := [.data], laidTests := true, laidLooks := .later }
def DfaStatesCardSaid : Prop := Claim7.holds Tryz.pinned (.plain (OpenSpec.ofChange dfaStatesSpec)) dfaStatesCard

/-- THE TIED CARD OF 'frisketlaw07.DfaClasses'. -/
def dfaClassesCard : Claim7 := { stood := { row := dfaClassesRow, standIns := [], harness := (true, "9f12f1a78da01d0306cc173cb16b64c46fa233fe268123de87bc0325c2585f8f"), looks := false }, kinds := [], alts := [], laidByText := true, laidKinds := [.data], laidTests := true, laidLooks := .later }
def DfaClassesCardSaid : Prop := Claim7.holds Tryz.pinned (.plain (OpenSpec.ofChange dfaClassesSpec)) dfaClassesCard

/-- THE TIED CARD OF 'frisketlaw07.DfaNone'. -/
def dfaNoneCard : Claim7 := { stood := { row := dfaNoneRow, standIns := [], harness := (true, "9f12f1a78da01d0306cc173cb16b64c46fa233fe268123de87bc0325c2585f8f"), looks := false }, kinds := [], alts := [], laidByText := true, laidKinds := [.data], laidTests := true, laidLooks := .later }
def DfaNoneCardSaid : Prop := Claim7.holds Tryz.pinned (.plain (OpenSpec.ofChange dfaNoneSpec)) dfaNoneCard

/-- THE TIED CARD OF 'frisketlaw08.LeastStates'. -/
def leastStatesCard : Claim7 := { stood := { row := leastStatesRow, standIns := [], harness := (true, "9f12f1a78da01d0306cc173cb16b64c46fa233fe268123de87bc0325c2585f8f"), looks := false }, kinds := [], alts := [], laidByText := true, laidKinds := [.data], laidTests := true, laidLooks := .later }
def LeastStatesCardSaid : Prop := Claim7.holds Tryz.pinned (.plain (OpenSpec.ofChange leastStatesSpec)) leastStatesCard

/-- THE SECOND FORM's CARD OF 'frisketlaw06.NfaRuns'. -/
def nfaRunsUptoCard : Claim7 := { stood := { row := nfaRunsUptoRow, standIns := [], harness := (true, "9f12f1a78da01d0306cc173cb16b64c46fa233fe268123de87bc0325c2585f8f"), looks := false }, kinds := [], alts := [], laidByText := true, laidKinds := [.data], laidTests := true, laidLooks := .later }
def NfaRunsUptoCardSaid : Prop := Claim7.holds Tryz.pinned (.plain (OpenSpec.upto nfaRunsSpec)) nfaRunsUptoCard

/-- THE SECOND FORM's CARD OF 'frisketlaw06.NfaNone'. -/
def nfaNoneUptoCard : Claim7 := { stood := { row := nfaNoneUptoRow, standIns := [], harness := (true, "9f12f1a78da01d0306cc173cb16b64c46fa233fe268123de87bc0325c2585f8f"), looks := false }, kinds := [], alts := [], laidByText := true, laidKinds := [.data], laidTests := true, laidLooks := .later }
def NfaNoneUptoCardSaid : Prop := Claim7.holds Tryz.pinned (.plain (OpenSpec.upto nfaNoneSpec)) nfaNoneUptoCard

/-- THE SECOND FORM's CARD OF 'frisketlaw06.NfaOwn'. -/
def nfaOwnUptoCard : Claim7 := { stood := { row := nfaOwnUptoRow, standIns := [], harness := (true, "9f12f1a78da01d0306cc173cb16b64c46fa233fe268123de87bc0325c2585f8f"), looks := false }, kinds := [], alts := [], laidByText := true, laidKinds := [.data], laidTests := true, laidLooks := .later }
def NfaOwnUptoCardSaid : Prop := Claim7.holds Tryz.pinned (.plain (OpenSpec.upto nfaOwnSpec)) nfaOwnUptoCard

/-- THE SECOND FORM's CARD OF 'frisketlaw07.DfaRuns'. -/
def dfaRunsUptoCard : Claim7 := { stood := { row := dfaRunsUptoRow, standIns := [], harness := (true, "9f12f1a78da01d0306cc173cb16b64c46fa233fe268123de87bc0325c2585f8f"), looks := false }, kinds := [], alts := [], laidByText := true, laidKinds := [.data], laidTests := true, laidLooks := .later }
def DfaRunsUptoCardSaid : Prop := Claim7.holds Tryz.pinned (.plain (OpenSpec.upto dfaRunsSpec)) dfaRunsUptoCard

/-- THE SECOND FORM's CARD OF 'frisketlaw07.DfaStates'. -/
def dfaStatesUptoCard : Claim7 := { stood := { row := dfaStatesUptoRow, standIns := [], harness := (true, "9f12f1a78da01d0306cc173cb16b64c46fa233fe268123de87bc0325c2585f8f"), looks := false }, kinds := [], alts := [], laidByText := true, laidKinds := [.data], laidTests := true, laidLooks := .later }
def DfaStatesUptoCardSaid : Prop := Claim7.holds Tryz.pinned (.plain (OpenSpec.upto dfaStatesSpec)) dfaStatesUptoCard

/-- THE SECOND FORM's CARD OF 'frisketlaw07.DfaClasses'. -/
def dfaClassesUptoCard : Claim7 := { stood := { row := dfaClassesUptoRow, standIns := [], harness := (true, "9f12f1a78da01d0306cc173cb16b64c46fa233fe268123de87bc0325c2585f8f"), looks := false }, kinds := [], alts := [], laidByText := true, laidKinds := [.data], laidTests := true, laidLooks := .later }
def DfaClassesUptoCardSaid : Prop := Claim7.holds Tryz.pinned (.plain (OpenSpec.upto dfaClassesSpec)) dfaClassesUptoCard

/-- THE SECOND FORM's CARD OF 'frisketlaw07.DfaNone'. -/
def dfaNoneUptoCard : Claim7 := { stood := { row := dfaNoneUptoRow, standIns := [], harness := (true, "9f12f1a78da01d0306cc173cb16b64c46fa233fe268123de87bc0325c2585f8f"), looks := false }, kinds := [], alts := [], laidByText := true, laidKinds := [.data], laidTests := true, laidLooks := .later }
def DfaNoneUptoCardSaid : Prop := Claim7.holds Tryz.pinned (.plain (OpenSpec.upto dfaNoneSpec)) dfaNoneUptoCard

/-- THE SECOND FORM's CARD OF 'frisketlaw08.LeastStates'. -/
def leastStatesUptoCard : Claim7 := { stood := { row := leastStatesUptoRow, standIns := [], harness := (true, "9f12f1a78da01d0306cc173cb16b64c46fa233fe268123de87bc0325c2585f8f"), looks := false }, kinds := [], alts := [], laidByText := true, laidKinds := [.data], laidTests := true, laidLooks := .later }
def LeastStatesUptoCardSaid : Prop := Claim7.holds Tryz.pinned (.plain (OpenSpec.upto leastStatesSpec)) leastStatesUptoCard
end Rows
end Go.Proofs.YtejdfpieblkapaaGreatDoor
