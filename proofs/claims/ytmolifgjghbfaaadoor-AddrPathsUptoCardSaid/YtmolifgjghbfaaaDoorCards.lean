/-
  DERIVED. GIVEN WITH THE SEED: THE CARDS: each row of YtmolifgjghbfaaaDoorRows.lean that lists a variable, with what it lists TIED to the program's text (the seventh form; the later family's looks); each row that meets fmt, with fmt's text TOLD by the authors' own Lean function (tested against real Go, not proved from fmt's source: count such statements apart). THE CARD IS WHAT COUNTS. Prove the row's statement (the work); the ties are given (YtmolifgjghbfaaaDoorTie.lean); close each card by the builder's one call (the guide's Derived/Test/ToyasCard.lean, 'card_holds'). Laid BY PROGRAM, IN A SANDBOX (cutbox-door.mjs). By AI agents, Wed Nov 11 2026. No macro, syntax, notation, axiom, sorry.
-/
import Derived.Test.YtmolifgjghbfaaaDoorRows
import GoSem.ClaimSeven
namespace Go.Proofs.YtmolifgjghbfaaaDoor
namespace Rows

/-- THE TIED CARD OF 'pigeonholelaw03.AddrParses'. -/
def addrParsesCard : Claim7 := { stood := { row := addrParsesRow, standIns := [], harness := (true, "17d64cd7034bdde49c3f64928532099a65aff45ffee511d54d7226ee8959b620"), looks := false }, kinds := [], alts := [], laidByText := true, laidKinds := [.data, .pinned], laidTests := true, laidLooks := .later }
def AddrParsesCardSaid : Prop := Claim7.holds Tryd.pinned (.plain (OpenSpec.ofChange addrParsesSpec)) addrParsesCard

/-- THE TIED CARD OF 'pigeonholelaw03.AddrPrints'. -/
def addrPrintsCard : Claim7 := { stood := { row := addrPrintsRow, standIns := [], harness := (true, "17d64cd7034bdde49c3f64928532099a65aff45ffee511d54d7226ee8959b620"), looks := false }, kinds := [], alts := [], laidByText := true, laidKinds := [.data, .pinned], laidTests := true, laidLooks := .later }
def AddrPrintsCardSaid : Prop := Claim7.holds Tryd.pinned (.plain (OpenSpec.ofChange addrPrintsSpec)) addrPrintsCard

/-- THE TIED CARD OF 'pigeonholelaw03.AddrPaths'. -/
def addrPathsCard : Claim7 := { stood := { row := addrPathsRow, standIns := [], harness := (true, "17d64cd7034bdde49c3f64928532099a65aff45ffee511d54d7226ee8959b620"), looks := false }, kinds := [], alts := [], laidByText := true, laidKinds := [.data, .pinned], laidTests := true, laidLooks := .later }
def AddrPathsCardSaid : Prop := Claim7.holds Tryd.pinned (.plain (OpenSpec.ofChange addrPathsSpec)) addrPathsCard

/-- THE TIED CARD OF 'pigeonholelaw03.AddrBack'. -/
def addrBackCard : Claim7 := { stood := { row := addrBackRow, standIns := [], harness := (true, "17d64cd7034bdde49c3f64928532099a65aff45ffee511d54d7226ee8959b620"), looks := false }, kinds := [], alts := [], laidByText := true, laidKinds := [.data, .pinned], laidTests := true, laidLooks := .later }
def AddrBackCardSaid : Prop := Claim7.holds Tryd.pinned (.plain (OpenSpec.ofChange addrBackSpec)) addrBackCard

/-- THE TIED CARD OF 'pigeonholelaw03.AddrSames'. -/
def addrSamesCard : Claim7 := { stood := { row := addrSamesRow, standIns := [], harness := (true, "17d64cd7034bdde49c3f64928532099a65aff45ffee511d54d7226ee8959b620"), looks := false }, kinds := [], alts := [], laidByText := true, laidKinds := [.data, .pinned], laidTests := true, laidLooks := .later }
def AddrSamesCardSaid : Prop := Claim7.holds Tryd.pinned (.plain (OpenSpec.ofChange addrSamesSpec)) addrSamesCard

/-- THE TIED CARD OF 'pigeonholelaw03.AddrGoes'. -/
def addrGoesCard : Claim7 := { stood := { row := addrGoesRow, standIns := [], harness := (true, "17d64cd7034bdde49c3f64928532099a65aff45ffee511d54d7226ee8959b620"), looks := false }, kinds := [], alts := [], laidByText := true, laidKinds := [.data, .pinned], laidTests := true, laidLooks := .later }
def AddrGoesCardSaid : Prop := Claim7.holds Tryd.pinned (.plain (OpenSpec.ofChange addrGoesSpec)) addrGoesCard

/-- THE SECOND FORM's CARD OF 'pigeonholelaw03.AddrParses'. -/
def addrParsesUptoCard : Claim7 := { stood := { row := addrParsesUptoRow, standIns := [], harness := (true, "17d64cd7034bdde49c3f64928532099a65aff45ffee511d54d7226ee8959b620"), looks := false }, kinds := [], alts := [], laidByText := true, laidKinds := [.data, .pinned], laidTests := true, laidLooks := .later }
def AddrParsesUptoCardSaid : Prop := Claim7.holds Tryd.pinned (.plain (OpenSpec.upto addrParsesSpec)) addrParsesUptoCard

/-- THE SECOND FORM's CARD OF 'pigeonholelaw03.AddrPrints'. -/
def addrPrintsUptoCard : Claim7 := { stood := { row := addrPrintsUptoRow, standIns := [], harness := (true, "17d64cd7034bdde49c3f64928532099a65aff45ffee511d54d7226ee8959b620"), looks := false }, kinds := [], alts := [], laidByText := true, laidKinds := [.data, .pinned], laidTests := true, laidLooks := .later }
def AddrPrintsUptoCardSaid : Prop := Claim7.holds Tryd.pinned (.plain (OpenSpec.upto addrPrintsSpec)) addrPrintsUptoCard

/-- THE SECOND FORM's CARD OF 'pigeonholelaw03.AddrPaths'. -/
def addrPathsUptoCard : Claim7 := { stood := { row := addrPathsUptoRow, standIns := [], harness := (true, "17d64cd7034bdde49c3f64928532099a65aff45ffee511d54d7226ee8959b620"), looks := false }, kinds := [], alts := [], laidByText := true, laidKinds := [.data, .pinned], laidTests := true, laidLooks := .later }
def AddrPathsUptoCardSaid : Prop := Claim7.holds Tryd.pinned (.plain (OpenSpec.upto addrPathsSpec)) addrPathsUptoCard

/-- THE SECOND FORM's CARD OF 'pigeonholelaw03.AddrBack'. -/
def addrBackUptoCard : Claim7 := { stood := { row := addrBackUptoRow, standIns := [], harness := (true, "17d64cd7034bdde49c3f64928532099a65aff45ffee511d54d7226ee8959b620"), looks := false }, kinds := [], alts := [], laidByText := true, laidKinds := [.data, .pinned], laidTests := true, laidLooks := .later }
def AddrBackUptoCardSaid : Prop := Claim7.holds Tryd.pinned (.plain (OpenSpec.upto addrBackSpec)) addrBackUptoCard

/-- THE SECOND FORM's CARD OF 'pigeonholelaw03.AddrSames'. -/
def addrSamesUptoCard : Claim7 := { stood := { row := addrSamesUptoRow, standIns := [], harness := (true, "17d64cd7034bdde49c3f64928532099a65aff45ffee511d54d7226ee8959b620"), looks := false }, kinds := [], alts := [], laidByText := true, laidKinds := [.data, .pinned], laidTests := true, laidLooks := .later }
def AddrSamesUptoCardSaid : Prop := Claim7.holds Tryd.pinned (.plain (OpenSpec.upto addrSamesSpec)) addrSamesUptoCard

/-- THE SECOND FORM's CARD OF 'pigeonholelaw03.AddrGoes'. -/
def addrGoesUptoCard : Claim7 := { stood := { row := addrGoesUptoRow, standIns := [], harness := (true, "17d64cd7034bdde49c3f64928532099a65aff45ffee511d54d7226ee8959b620"), looks := false }, kinds := [], alts := [], laidByText := true, laidKinds := [.data, .pinned], laidTests := true, laidLooks := .later }
def AddrGoesUptoCardSaid : Prop := Claim7.holds Tryd.pinned (.plain (OpenSpec.upto addrGoesSpec)) addrGoesUptoCard
end Rows
end Go.Proofs.YtmolifgjghbfaaaDoor
