/-
  DERIVED. GIVEN WITH THE SEED: THE CARDS: each row of YtdohgmbchmcemaaDoorRows.lean that lists a variable, with what it lists TIED to the program's text (the seventh form; the later family's looks); each row that meets fmt, with fmt's text TOLD by the authors' own Lean function (tested against real Go, not proved from fmt's source: count such statements apart). THE CARD IS WHAT COUNTS. Prove the row's statement (the work); the ties are given (YtdohgmbchmcemaaDoorTie.lean); close each card by the builder's one call (the guide's Derived/Test/ToyasCard.lean, 'card_holds'). Laid BY PROGRAM, IN A SANDBOX (cutbox-door.mjs). By AI agents, Wed Nov 11 2026. No macro, syntax, notation, axiom, sorry.
-/
import Derived.Test.YtdohgmbchmcemaaDoorRows
import GoSem.ClaimSeven
namespace Go.Proofs.YtdohgmbchmcemaaDoor
namespace Rows

/-- THE TIED CARD OF 'pigeonholelaw01.TextLowers'. -/
def textLowersCard : Claim7 := { stood := { row := textLowersRow, standIns := [], harness := (true, "7d56c4f1ee832de27d5707d143583d6421b4d95f4d6de5c3cda6fc1775637cc5"), looks := false }, kinds := [], alts := [], laidByText := true, laidKinds := [.data, .pinned], laidTests := true, laidLooks := .later }
def TextLowersCardSaid : Prop := Claim7.holds Tryd.pinned (.plain (OpenSpec.ofChange textLowersSpec)) textLowersCard

/-- THE TIED CARD OF 'pigeonholelaw01.TextFolds'. -/
def textFoldsCard : Claim7 := { stood := { row := textFoldsRow, standIns := [], harness := (true, "7d56c4f1ee832de27d5707d143583d6421b4d95f4d6de5c3cda6fc1775637cc5"), looks := false }, kinds := [], alts := [], laidByText := true, laidKinds := [.data, .pinned], laidTests := true, laidLooks := .later }
def TextFoldsCardSaid : Prop := Claim7.holds Tryd.pinned (.plain (OpenSpec.ofChange textFoldsSpec)) textFoldsCard

/-- THE TIED CARD OF 'pigeonholelaw01.TextNumbers'. -/
def textNumbersCard : Claim7 := { stood := { row := textNumbersRow, standIns := [], harness := (true, "7d56c4f1ee832de27d5707d143583d6421b4d95f4d6de5c3cda6fc1775637cc5"), looks := false }, kinds := [], alts := [], laidByText := true, laidKinds := [.data, .data, .data, .data, .pinned], laidTests := true, laidLooks := .later }
def TextNumbersCardSaid : Prop := Claim7.holds Tryd.pinned (.plain (OpenSpec.ofChange textNumbersSpec)) textNumbersCard

/-- THE TIED CARD OF 'pigeonholelaw01.TextNumberBack'. -/
def textNumberBackCard : Claim7 := { stood := { row := textNumberBackRow, standIns := [], harness := (true, "7d56c4f1ee832de27d5707d143583d6421b4d95f4d6de5c3cda6fc1775637cc5"), looks := false }, kinds := [], alts := [], laidByText := true, laidKinds := [.data, .data, .data, .data, .pinned], laidTests := true, laidLooks := .later }
def TextNumberBackCardSaid : Prop := Claim7.holds Tryd.pinned (.plain (OpenSpec.ofChange textNumberBackSpec)) textNumberBackCard

/-- THE TIED CARD OF 'pigeonholelaw01.TextAtoms'. -/
def textAtomsCard : Claim7 := { stood := { row := textAtomsRow, standIns := [], harness := (true, "7d56c4f1ee832de27d5707d143583d6421b4d95f4d6de5c3cda6fc1775637cc5"), looks := false }, kinds := [], alts := [], laidByText := true, laidKinds := [.data, .pinned], laidTests := true, laidLooks := .later }
def TextAtomsCardSaid : Prop := Claim7.holds Tryd.pinned (.plain (OpenSpec.ofChange textAtomsSpec)) textAtomsCard

/-- THE TIED CARD OF 'pigeonholelaw01.TextQuotes'. -/
def textQuotesCard : Claim7 := { stood := { row := textQuotesRow, standIns := [], harness := (true, "7d56c4f1ee832de27d5707d143583d6421b4d95f4d6de5c3cda6fc1775637cc5"), looks := false }, kinds := [], alts := [], laidByText := true, laidKinds := [.data, .pinned], laidTests := true, laidLooks := .later }
def TextQuotesCardSaid : Prop := Claim7.holds Tryd.pinned (.plain (OpenSpec.ofChange textQuotesSpec)) textQuotesCard

/-- THE TIED CARD OF 'pigeonholelaw01.TextUnquotes'. -/
def textUnquotesCard : Claim7 := { stood := { row := textUnquotesRow, standIns := [], harness := (true, "7d56c4f1ee832de27d5707d143583d6421b4d95f4d6de5c3cda6fc1775637cc5"), looks := false }, kinds := [], alts := [], laidByText := true, laidKinds := [.data, .pinned], laidTests := true, laidLooks := .later }
def TextUnquotesCardSaid : Prop := Claim7.holds Tryd.pinned (.plain (OpenSpec.ofChange textUnquotesSpec)) textUnquotesCard

/-- THE TIED CARD OF 'pigeonholelaw01.TextQuoteBack'. -/
def textQuoteBackCard : Claim7 := { stood := { row := textQuoteBackRow, standIns := [], harness := (true, "7d56c4f1ee832de27d5707d143583d6421b4d95f4d6de5c3cda6fc1775637cc5"), looks := false }, kinds := [], alts := [], laidByText := true, laidKinds := [.data, .pinned], laidTests := true, laidLooks := .later }
def TextQuoteBackCardSaid : Prop := Claim7.holds Tryd.pinned (.plain (OpenSpec.ofChange textQuoteBackSpec)) textQuoteBackCard

/-- THE TIED CARD OF 'pigeonholelaw01.TextWords'. -/
def textWordsCard : Claim7 := { stood := { row := textWordsRow, standIns := [], harness := (true, "7d56c4f1ee832de27d5707d143583d6421b4d95f4d6de5c3cda6fc1775637cc5"), looks := false }, kinds := [], alts := [], laidByText := true, laidKinds := [.data, .pinned], laidTests := true, laidLooks := .later }
def TextWordsCardSaid : Prop := Claim7.holds Tryd.pinned (.plain (OpenSpec.ofChange textWordsSpec)) textWordsCard

/-- THE SECOND FORM's CARD OF 'pigeonholelaw01.TextLowers'. -/
def textLowersUptoCard : Claim7 := { stood := { row := textLowersUptoRow, standIns := [], harness := (true, "7d56c4f1ee832de27d5707d143583d6421b4d95f4d6de5c3cda6fc1775637cc5"), looks := false }, kinds := [], alts := [], laidByText := true, laidKinds := [.data, .pinned], laidTests := true, laidLooks := .later }
def TextLowersUptoCardSaid : Prop := Claim7.holds Tryd.pinned (.plain (OpenSpec.upto textLowersSpec)) textLowersUptoCard

/-- THE SECOND FORM's CARD OF 'pigeonholelaw01.TextFolds'. -/
def textFoldsUptoCard : Claim7 := { stood := { row := textFoldsUptoRow, standIns := [], harness := (true, "7d56c4f1ee832de27d5707d143583d6421b4d95f4d6de5c3cda6fc1775637cc5"), looks := false }, kinds := [], alts := [], laidByText := true, laidKinds := [.data, .pinned], laidTests := true, laidLooks := .later }
def TextFoldsUptoCardSaid : Prop := Claim7.holds Tryd.pinned (.plain (OpenSpec.upto textFoldsSpec)) textFoldsUptoCard

/-- THE SECOND FORM's CARD OF 'pigeonholelaw01.TextNumbers'. -/
def textNumbersUptoCard : Claim7 := { stood := { row := textNumbersUptoRow, standIns := [], harness := (true, "7d56c4f1ee832de27d5707d143583d6421b4d95f4d6de5c3cda6fc1775637cc5"), looks := false }, kinds := [], alts := [], laidByText := true, laidKinds := [.data, .data, .data, .data, .pinned], laidTests := true, laidLooks := .later }
def TextNumbersUptoCardSaid : Prop := Claim7.holds Tryd.pinned (.plain (OpenSpec.upto textNumbersSpec)) textNumbersUptoCard

/-- THE SECOND FORM's CARD OF 'pigeonholelaw01.TextNumberBack'. -/
def textNumberBackUptoCard : Claim7 := { stood := { row := textNumberBackUptoRow, standIns := [], harness := (true, "7d56c4f1ee832de27d5707d143583d6421b4d95f4d6de5c3cda6fc1775637cc5"), looks := false }, kinds := [], alts := [], laidByText := true, laidKinds := [.data, .data, .data, .data, .pinned], laidTests := true, laidLooks := .later }
def TextNumberBackUptoCardSaid : Prop := Claim7.holds Tryd.pinned (.plain (OpenSpec.upto textNumberBackSpec)) textNumberBackUptoCard

/-- THE SECOND FORM's CARD OF 'pigeonholelaw01.TextAtoms'. -/
def textAtomsUptoCard : Claim7 := { stood := { row := textAtomsUptoRow, standIns := [], harness := (true, "7d56c4f1ee832de27d5707d143583d6421b4d95f4d6de5c3cda6fc1775637cc5"), looks := false }, kinds := [], alts := [], laidByText := true, laidKinds := [.data, .pinned], laidTests := true, laidLooks := .later }
def TextAtomsUptoCardSaid : Prop := Claim7.holds Tryd.pinned (.plain (OpenSpec.upto textAtomsSpec)) textAtomsUptoCard

/-- THE SECOND FORM's CARD OF 'pigeonholelaw01.TextQuotes'. -/
def textQuotesUptoCard : Claim7 := { stood := { row := textQuotesUptoRow, standIns := [], harness := (true, "7d56c4f1ee832de27d5707d143583d6421b4d95f4d6de5c3cda6fc1775637cc5"), looks := false }, kinds := [], alts := [], laidByText := true, laidKinds := [.data, .pinned], laidTests := true, laidLooks := .later }
def TextQuotesUptoCardSaid : Prop := Claim7.holds Tryd.pinned (.plain (OpenSpec.upto textQuotesSpec)) textQuotesUptoCard

/-- THE SECOND FORM's CARD OF 'pigeonholelaw01.TextUnquotes'. -/
def textUnquotesUptoCard : Claim7 := { stood := { row := textUnquotesUptoRow, standIns := [], harness := (true, "7d56c4f1ee832de27d5707d143583d6421b4d95f4d6de5c3cda6fc1775637cc5"), looks := false }, kinds := [], alts := [], laidByText := true, laidKinds := [.data, .pinned], laidTests := true, laidLooks := .later }
def TextUnquotesUptoCardSaid : Prop := Claim7.holds Tryd.pinned (.plain (OpenSpec.upto textUnquotesSpec)) textUnquotesUptoCard

/-- THE SECOND FORM's CARD OF 'pigeonholelaw01.TextQuoteBack'. -/
def textQuoteBackUptoCard : Claim7 := { stood := { row := textQuoteBackUptoRow, standIns := [], harness := (true, "7d56c4f1ee832de27d5707d143583d6421b4d95f4d6de5c3cda6fc1775637cc5"), looks := false }, kinds := [], alts := [], laidByText := true, laidKinds := [.data, .pinned], laidTests := true, laidLooks := .later }
def TextQuoteBackUptoCardSaid : Prop := Claim7.holds Tryd.pinned (.plain (OpenSpec.upto textQuoteBackSpec)) textQuoteBackUptoCard

/-- THE SECOND FORM's CARD OF 'pigeonholelaw01.TextWords'. -/
def textWordsUptoCard : Claim7 := { stood := { row := textWordsUptoRow, standIns := [], harness := (true, "7d56c4f1ee832de27d5707d143583d6421b4d95f4d6de5c3cda6fc1775637cc5"), looks := false }, kinds := [], alts := [], laidByText := true, laidKinds := [.data, .pinned], laidTests := true, laidLooks := .later }
def TextWordsUptoCardSaid : Prop := Claim7.holds Tryd.pinned (.plain (OpenSpec.upto textWordsSpec)) textWordsUptoCard
end Rows
end Go.Proofs.YtdohgmbchmcemaaDoor
