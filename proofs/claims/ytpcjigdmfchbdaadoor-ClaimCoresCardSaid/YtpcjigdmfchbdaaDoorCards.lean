/-
  DERIVED. GIVEN WITH THE SEED: THE CARDS: each row of YtpcjigdmfchbdaaDoorRows.lean that lists a variable, with what it lists TIED to the program's text (the seventh form; the later family's looks); each row that meets fmt, with fmt's text TOLD by the authors' own Lean function (tested against real Go, not proved from fmt's source: count such statements apart). THE CARD IS WHAT COUNTS. Prove the row's statement (the work); the ties are given (YtpcjigdmfchbdaaDoorTie.lean); close each card by the builder's one call (the guide's Derived/Test/ToyasCard.lean, 'card_holds'). Laid BY PROGRAM, IN A SANDBOX (cutbox-door.mjs). By AI agents, Wed Nov 11 2026. No macro, syntax, notation, axiom, sorry.
-/
import Derived.Test.YtpcjigdmfchbdaaDoorRows
import GoSem.ClaimSeven
namespace Go.Proofs.YtpcjigdmfchbdaaDoor
namespace Rows

/-- THE TIED CARD OF 'bolsterlaw12.ClaimGranted'. -/
def claimGrantedCard : Claim7 := { stood := { row := claimGrantedRow, standIns := [], harness := (true, "cf868f8ab32937291347d5de22041d90278e61834d74424db51db780eb0d9a25"), looks := false }, kinds := [], alts := [], laidByText := true, laidKinds := [.data, .data], laidTests := true, laidLooks := .later }
def ClaimGrantedCardSaid : Prop := Claim7.holds Tryd.pinned (.plain (OpenSpec.ofChange claimGrantedSpec)) claimGrantedCard

/-- THE TIED CARD OF 'bolsterlaw12.ClaimSets'. -/
def claimSetsCard : Claim7 := { stood := { row := claimSetsRow, standIns := [], harness := (true, "cf868f8ab32937291347d5de22041d90278e61834d74424db51db780eb0d9a25"), looks := false }, kinds := [], alts := [], laidByText := true, laidKinds := [.data, .data], laidTests := true, laidLooks := .later }
def ClaimSetsCardSaid : Prop := Claim7.holds Tryd.pinned (.plain (OpenSpec.ofChange claimSetsSpec)) claimSetsCard

/-- THE TIED CARD OF 'bolsterlaw12.ClaimIdeals'. -/
def claimIdealsCard : Claim7 := { stood := { row := claimIdealsRow, standIns := [], harness := (true, "cf868f8ab32937291347d5de22041d90278e61834d74424db51db780eb0d9a25"), looks := false }, kinds := [], alts := [], laidByText := true, laidKinds := [.data, .data], laidTests := true, laidLooks := .later }
def ClaimIdealsCardSaid : Prop := Claim7.holds Tryd.pinned (.plain (OpenSpec.ofChange claimIdealsSpec)) claimIdealsCard

/-- THE TIED CARD OF 'bolsterlaw12.ClaimDefends'. -/
def claimDefendsCard : Claim7 := { stood := { row := claimDefendsRow, standIns := [], harness := (true, "cf868f8ab32937291347d5de22041d90278e61834d74424db51db780eb0d9a25"), looks := false }, kinds := [], alts := [], laidByText := true, laidKinds := [.data, .data], laidTests := true, laidLooks := .later }
def ClaimDefendsCardSaid : Prop := Claim7.holds Tryd.pinned (.plain (OpenSpec.ofChange claimDefendsSpec)) claimDefendsCard

/-- THE TIED CARD OF 'bolsterlaw12.ClaimCores'. -/
def claimCoresCard : Claim7 := { stood := { row := claimCoresRow, standIns := [], harness := (true, "cf868f8ab32937291347d5de22041d90278e61834d74424db51db780eb0d9a25"), looks := false }, kinds := [], alts := [], laidByText := true, laidKinds := [.data, .data], laidTests := true, laidLooks := .later }
def ClaimCoresCardSaid : Prop := Claim7.holds Tryd.pinned (.plain (OpenSpec.ofChange claimCoresSpec)) claimCoresCard

/-- THE TIED CARD OF 'bolsterlaw12.ClaimOdds'. -/
def claimOddsCard : Claim7 := { stood := { row := claimOddsRow, standIns := [], harness := (true, "cf868f8ab32937291347d5de22041d90278e61834d74424db51db780eb0d9a25"), looks := false }, kinds := [], alts := [], laidByText := true, laidKinds := [.data, .data], laidTests := true, laidLooks := .later }
def ClaimOddsCardSaid : Prop := Claim7.holds Tryd.pinned (.plain (OpenSpec.ofChange claimOddsSpec)) claimOddsCard

/-- THE TIED CARD OF 'bolsterlaw12.ClaimLemma'. -/
def claimLemmaCard : Claim7 := { stood := { row := claimLemmaRow, standIns := [], harness := (true, "cf868f8ab32937291347d5de22041d90278e61834d74424db51db780eb0d9a25"), looks := false }, kinds := [], alts := [], laidByText := true, laidKinds := [.data, .data], laidTests := true, laidLooks := .later }
def ClaimLemmaCardSaid : Prop := Claim7.holds Tryd.pinned (.plain (OpenSpec.ofChange claimLemmaSpec)) claimLemmaCard

/-- THE TIED CARD OF 'bolsterlaw12.ClaimLeast'. -/
def claimLeastCard : Claim7 := { stood := { row := claimLeastRow, standIns := [], harness := (true, "cf868f8ab32937291347d5de22041d90278e61834d74424db51db780eb0d9a25"), looks := false }, kinds := [], alts := [], laidByText := true, laidKinds := [.data, .data], laidTests := true, laidLooks := .later }
def ClaimLeastCardSaid : Prop := Claim7.holds Tryd.pinned (.plain (OpenSpec.ofChange claimLeastSpec)) claimLeastCard

/-- THE TIED CARD OF 'bolsterlaw12.ClaimChain'. -/
def claimChainCard : Claim7 := { stood := { row := claimChainRow, standIns := [], harness := (true, "cf868f8ab32937291347d5de22041d90278e61834d74424db51db780eb0d9a25"), looks := false }, kinds := [], alts := [], laidByText := true, laidKinds := [.data, .data], laidTests := true, laidLooks := .later }
def ClaimChainCardSaid : Prop := Claim7.holds Tryd.pinned (.plain (OpenSpec.ofChange claimChainSpec)) claimChainCard

/-- THE TIED CARD OF 'bolsterlaw12.ClaimIdeal'. -/
def claimIdealCard : Claim7 := { stood := { row := claimIdealRow, standIns := [], harness := (true, "cf868f8ab32937291347d5de22041d90278e61834d74424db51db780eb0d9a25"), looks := false }, kinds := [], alts := [], laidByText := true, laidKinds := [.data, .data], laidTests := true, laidLooks := .later }
def ClaimIdealCardSaid : Prop := Claim7.holds Tryd.pinned (.plain (OpenSpec.ofChange claimIdealSpec)) claimIdealCard

/-- THE TIED CARD OF 'bolsterlaw12.ClaimRings'. -/
def claimRingsCard : Claim7 := { stood := { row := claimRingsRow, standIns := [], harness := (true, "cf868f8ab32937291347d5de22041d90278e61834d74424db51db780eb0d9a25"), looks := false }, kinds := [], alts := [], laidByText := true, laidKinds := [.data, .data], laidTests := true, laidLooks := .later }
def ClaimRingsCardSaid : Prop := Claim7.holds Tryd.pinned (.plain (OpenSpec.ofChange claimRingsSpec)) claimRingsCard

/-- THE TIED CARD OF 'bolsterlaw12.ClaimCore'. -/
def claimCoreCard : Claim7 := { stood := { row := claimCoreRow, standIns := [], harness := (true, "cf868f8ab32937291347d5de22041d90278e61834d74424db51db780eb0d9a25"), looks := false }, kinds := [], alts := [], laidByText := true, laidKinds := [.data, .data], laidTests := true, laidLooks := .later }
def ClaimCoreCardSaid : Prop := Claim7.holds Tryd.pinned (.plain (OpenSpec.ofChange claimCoreSpec)) claimCoreCard

/-- THE TIED CARD OF 'bolsterlaw12.ClaimNames'. -/
def claimNamesCard : Claim7 := { stood := { row := claimNamesRow, standIns := [], harness := (true, "cf868f8ab32937291347d5de22041d90278e61834d74424db51db780eb0d9a25"), looks := false }, kinds := [], alts := [], laidByText := true, laidKinds := [.data, .data], laidTests := true, laidLooks := .later }
def ClaimNamesCardSaid : Prop := Claim7.holds Tryd.pinned (.plain (OpenSpec.ofChange claimNamesSpec)) claimNamesCard

/-- THE SECOND FORM's CARD OF 'bolsterlaw12.ClaimGranted'. -/
def claimGrantedUptoCard : Claim7 := { stood := { row := claimGrantedUptoRow, standIns := [], harness := (true, "cf868f8ab32937291347d5de22041d90278e61834d74424db51db780eb0d9a25"), looks := false }, kinds := [], alts := [], laidByText := true, laidKinds := [.data, .data], laidTests := true, laidLooks := .later }
def ClaimGrantedUptoCardSaid : Prop := Claim7.holds Tryd.pinned (.plain (OpenSpec.upto claimGrantedSpec)) claimGrantedUptoCard

/-- THE SECOND FORM's CARD OF 'bolsterlaw12.ClaimSets'. -/
def claimSetsUptoCard : Claim7 := { stood := { row := claimSetsUptoRow, standIns := [], harness := (true, "cf868f8ab32937291347d5de22041d90278e61834d74424db51db780eb0d9a25"), looks := false }, kinds := [], alts := [], laidByText := true, laidKinds := [.data, .data], laidTests := true, laidLooks := .later }
def ClaimSetsUptoCardSaid : Prop := Claim7.holds Tryd.pinned (.plain (OpenSpec.upto claimSetsSpec)) claimSetsUptoCard

/-- THE SECOND FORM's CARD OF 'bolsterlaw12.ClaimIdeals'. -/
def claimIdealsUptoCard : Claim7 := { stood := { row := claimIdealsUptoRow, standIns := [], harness := (true, "cf868f8ab32937291347d5de22041d90278e61834d74424db51db780eb0d9a25"), looks := false }, kinds := [], alts := [], laidByText := true, laidKinds := [.data, .data], laidTests := true, laidLooks := .later }
def ClaimIdealsUptoCardSaid : Prop := Claim7.holds Tryd.pinned (.plain (OpenSpec.upto claimIdealsSpec)) claimIdealsUptoCard

/-- THE SECOND FORM's CARD OF 'bolsterlaw12.ClaimDefends'. -/
def claimDefendsUptoCard : Claim7 := { stood := { row := claimDefendsUptoRow, standIns := [], harness := (true, "cf868f8ab32937291347d5de22041d90278e61834d74424db51db780eb0d9a25"), looks := false }, kinds := [], alts := [], laidByText := true, laidKinds := [.data, .data], laidTests := true, laidLooks := .later }
def ClaimDefendsUptoCardSaid : Prop := Claim7.holds Tryd.pinned (.plain (OpenSpec.upto claimDefendsSpec)) claimDefendsUptoCard

/-- THE SECOND FORM's CARD OF 'bolsterlaw12.ClaimCores'. -/
def claimCoresUptoCard : Claim7 := { stood := { row := claimCoresUptoRow, standIns := [], harness := (true, "cf868f8ab32937291347d5de22041d90278e61834d74424db51db780eb0d9a25"), looks := false }, kinds := [], alts := [], laidByText := true, laidKinds := [.data, .data], laidTests := true, laidLooks := .later }
def ClaimCoresUptoCardSaid : Prop := Claim7.holds Tryd.pinned (.plain (OpenSpec.upto claimCoresSpec)) claimCoresUptoCard

/-- THE SECOND FORM's CARD OF 'bolsterlaw12.ClaimOdds'. -/
def claimOddsUptoCard : Claim7 := { stood := { row := claimOddsUptoRow, standIns := [], harness := (true, "cf868f8ab32937291347d5de22041d90278e61834d74424db51db780eb0d9a25"), looks := false }, kinds := [], alts := [], laidByText := true, laidKinds := [.data, .data], laidTests := true, laidLooks := .later }
def ClaimOddsUptoCardSaid : Prop := Claim7.holds Tryd.pinned (.plain (OpenSpec.upto claimOddsSpec)) claimOddsUptoCard

/-- THE SECOND FORM's CARD OF 'bolsterlaw12.ClaimLemma'. -/
def claimLemmaUptoCard : Claim7 := { stood := { row := claimLemmaUptoRow, standIns := [], harness := (true, "cf868f8ab32937291347d5de22041d90278e61834d74424db51db780eb0d9a25"), looks := false }, kinds := [], alts := [], laidByText := true, laidKinds := [.data, .data], laidTests := true, laidLooks := .later }
def ClaimLemmaUptoCardSaid : Prop := Claim7.holds Tryd.pinned (.plain (OpenSpec.upto claimLemmaSpec)) claimLemmaUptoCard

/-- THE SECOND FORM's CARD OF 'bolsterlaw12.ClaimLeast'. -/
def claimLeastUptoCard : Claim7 := { stood := { row := claimLeastUptoRow, standIns := [], harness := (true, "cf868f8ab32937291347d5de22041d90278e61834d74424db51db780eb0d9a25"), looks := false }, kinds := [], alts := [], laidByText := true, laidKinds := [.data, .data], laidTests := true, laidLooks := .later }
def ClaimLeastUptoCardSaid : Prop := Claim7.holds Tryd.pinned (.plain (OpenSpec.upto claimLeastSpec)) claimLeastUptoCard

/-- THE SECOND FORM's CARD OF 'bolsterlaw12.ClaimChain'. -/
def claimChainUptoCard : Claim7 := { stood := { row := claimChainUptoRow, standIns := [], harness := (true, "cf868f8ab32937291347d5de22041d90278e61834d74424db51db780eb0d9a25"), looks := false }, kinds := [], alts := [], laidByText := true, laidKinds := [.data, .data], laidTests := true, laidLooks := .later }
def ClaimChainUptoCardSaid : Prop := Claim7.holds Tryd.pinned (.plain (OpenSpec.upto claimChainSpec)) claimChainUptoCard

/-- THE SECOND FORM's CARD OF 'bolsterlaw12.ClaimIdeal'. -/
def claimIdealUptoCard : Claim7 := { stood := { row := claimIdealUptoRow, standIns := [], harness := (true, "cf868f8ab32937291347d5de22041d90278e61834d74424db51db780eb0d9a25"), looks := false }, kinds := [], alts := [], laidByText := true, laidKinds := [.data, .data], laidTests := true, laidLooks := .later }
def ClaimIdealUptoCardSaid : Prop := Claim7.holds Tryd.pinned (.plain (OpenSpec.upto claimIdealSpec)) claimIdealUptoCard

/-- THE SECOND FORM's CARD OF 'bolsterlaw12.ClaimRings'. -/
def claimRingsUptoCard : Claim7 := { stood := { row := claimRingsUptoRow, standIns := [], harness := (true, "cf868f8ab32937291347d5de22041d90278e61834d74424db51db780eb0d9a25"), looks := false }, kinds := [], alts := [], laidByText := true, laidKinds := [.data, .data], laidTests := true, laidLooks := .later }
def ClaimRingsUptoCardSaid : Prop := Claim7.holds Tryd.pinned (.plain (OpenSpec.upto claimRingsSpec)) claimRingsUptoCard

/-- THE SECOND FORM's CARD OF 'bolsterlaw12.ClaimCore'. -/
def claimCoreUptoCard : Claim7 := { stood := { row := claimCoreUptoRow, standIns := [], harness := (true, "cf868f8ab32937291347d5de22041d90278e61834d74424db51db780eb0d9a25"), looks := false }, kinds := [], alts := [], laidByText := true, laidKinds := [.data, .data], laidTests := true, laidLooks := .later }
def ClaimCoreUptoCardSaid : Prop := Claim7.holds Tryd.pinned (.plain (OpenSpec.upto claimCoreSpec)) claimCoreUptoCard

/-- THE SECOND FORM's CARD OF 'bolsterlaw12.ClaimNames'. -/
def claimNamesUptoCard : Claim7 := { stood := { row := claimNamesUptoRow, standIns := [], harness := (true, "cf868f8ab32937291347d5de22041d90278e61834d74424db51db780eb0d9a25"), looks := false }, kinds := [], alts := [], laidByText := true, laidKinds := [.data, .data], laidTests := true, laidLooks := .later }
def ClaimNamesUptoCardSaid : Prop := Claim7.holds Tryd.pinned (.plain (OpenSpec.upto claimNamesSpec)) claimNamesUptoCard
end Rows
end Go.Proofs.YtpcjigdmfchbdaaDoor
