/-
  DERIVED. GIVEN WITH THE SEED: THE CARDS: each row of YtdaijbplbnkpeaaDoorRows.lean that lists a variable, with what it lists TIED to the program's text (the seventh form; the later family's looks); each row that meets fmt, with fmt's text TOLD by the authors' own Lean function (tested against real Go, not proved from fmt's source: count such statements apart). THE CARD IS WHAT COUNTS. Prove the row's statement (the work); the ties are given (YtdaijbplbnkpeaaDoorTie.lean); close each card by the builder's one call (the guide's Derived/Test/ToyasCard.lean, 'card_holds'). Laid BY PROGRAM, IN A SANDBOX (cutbox-door.mjs). By AI agents, Wed Nov 11 2026. No macro, syntax, notation, axiom, sorry.
-/
import Derived.Test.YtdaijbplbnkpeaaDoorRows
import GoSem.ClaimSeven
namespace Go.Proofs.YtdaijbplbnkpeaaDoor
namespace Rows

/-- THE TIED CARD OF 'quantumlaw04.CrcTells'. -/
def crcTellsCard : Claim7 := { stood := { row := crcTellsRow, standIns := [], harness := (true, "62b3bd82d4d2efd5d06d55f2b1779b59695702983aec38215fa7c2c235ee74f2"), looks := false }, kinds := [], alts := [], laidByText := true, laidKinds := [.data], laidTests := true, laidLooks := .later }
def CrcTellsCardSaid : Prop := Claim7.holds Tryd.pinned (.plain (OpenSpec.ofChange crcTellsSpec)) crcTellsCard

/-- THE TIED CARD OF 'quantumlaw04.CrcShifts'. -/
def crcShiftsCard : Claim7 := { stood := { row := crcShiftsRow, standIns := [], harness := (true, "62b3bd82d4d2efd5d06d55f2b1779b59695702983aec38215fa7c2c235ee74f2"), looks := false }, kinds := [], alts := [], laidByText := true, laidKinds := [.data], laidTests := true, laidLooks := .later }
def CrcShiftsCardSaid : Prop := Claim7.holds Tryd.pinned (.plain (OpenSpec.ofChange crcShiftsSpec)) crcShiftsCard

/-- THE TIED CARD OF 'quantumlaw04.CrcBits'. -/
def crcBitsCard : Claim7 := { stood := { row := crcBitsRow, standIns := [], harness := (true, "62b3bd82d4d2efd5d06d55f2b1779b59695702983aec38215fa7c2c235ee74f2"), looks := false }, kinds := [], alts := [], laidByText := true, laidKinds := [.data], laidTests := true, laidLooks := .later }
def CrcBitsCardSaid : Prop := Claim7.holds Tryd.pinned (.plain (OpenSpec.ofChange crcBitsSpec)) crcBitsCard

/-- THE TIED CARD OF 'quantumlaw04.CrcSearches'. -/
def crcSearchesCard : Claim7 := { stood := { row := crcSearchesRow, standIns := [], harness := (true, "62b3bd82d4d2efd5d06d55f2b1779b59695702983aec38215fa7c2c235ee74f2"), looks := false }, kinds := [], alts := [], laidByText := true, laidKinds := [.data], laidTests := true, laidLooks := .later }
def CrcSearchesCardSaid : Prop := Claim7.holds Tryd.pinned (.plain (OpenSpec.ofChange crcSearchesSpec)) crcSearchesCard

/-- THE TIED CARD OF 'quantumlaw04.CrcSmall'. -/
def crcSmallCard : Claim7 := { stood := { row := crcSmallRow, standIns := [], harness := (true, "62b3bd82d4d2efd5d06d55f2b1779b59695702983aec38215fa7c2c235ee74f2"), looks := false }, kinds := [], alts := [], laidByText := true, laidKinds := [.data], laidTests := true, laidLooks := .later }
def CrcSmallCardSaid : Prop := Claim7.holds Tryd.pinned (.plain (OpenSpec.ofChange crcSmallSpec)) crcSmallCard

/-- THE TIED CARD OF 'quantumlaw04.CrcBursts'. -/
def crcBurstsCard : Claim7 := { stood := { row := crcBurstsRow, standIns := [], harness := (true, "62b3bd82d4d2efd5d06d55f2b1779b59695702983aec38215fa7c2c235ee74f2"), looks := false }, kinds := [], alts := [], laidByText := true, laidKinds := [.data], laidTests := true, laidLooks := .later }
def CrcBurstsCardSaid : Prop := Claim7.holds Tryd.pinned (.plain (OpenSpec.ofChange crcBurstsSpec)) crcBurstsCard

/-- THE TIED CARD OF 'quantumlaw04.CrcThree'. -/
def crcThreeCard : Claim7 := { stood := { row := crcThreeRow, standIns := [], harness := (true, "62b3bd82d4d2efd5d06d55f2b1779b59695702983aec38215fa7c2c235ee74f2"), looks := false }, kinds := [], alts := [], laidByText := true, laidKinds := [.data], laidTests := true, laidLooks := .later }
def CrcThreeCardSaid : Prop := Claim7.holds Tryd.pinned (.plain (OpenSpec.ofChange crcThreeSpec)) crcThreeCard

/-- THE TIED CARD OF 'quantumlaw04.CrcFacts'. -/
def crcFactsCard : Claim7 := { stood := { row := crcFactsRow, standIns := [], harness := (true, "62b3bd82d4d2efd5d06d55f2b1779b59695702983aec38215fa7c2c235ee74f2"), looks := false }, kinds := [], alts := [], laidByText := true, laidKinds := [.data], laidTests := true, laidLooks := .later }
def CrcFactsCardSaid : Prop := Claim7.holds Tryd.pinned (.plain (OpenSpec.ofChange crcFactsSpec)) crcFactsCard

/-- THE TIED CARD OF 'quantumlaw04.CrcLinear'. -/
def crcLinearCard : Claim7 := { stood := { row := crcLinearRow, standIns := [], harness := (true, "62b3bd82d4d2efd5d06d55f2b1779b59695702983aec38215fa7c2c235ee74f2"), looks := false }, kinds := [], alts := [], laidByText := true, laidKinds := [.data], laidTests := true, laidLooks := .later }
def CrcLinearCardSaid : Prop := Claim7.holds Tryd.pinned (.plain (OpenSpec.ofChange crcLinearSpec)) crcLinearCard

/-- THE TIED CARD OF 'quantumlaw04.CrcJoins'. -/
def crcJoinsCard : Claim7 := { stood := { row := crcJoinsRow, standIns := [], harness := (true, "62b3bd82d4d2efd5d06d55f2b1779b59695702983aec38215fa7c2c235ee74f2"), looks := false }, kinds := [], alts := [], laidByText := true, laidKinds := [.data], laidTests := true, laidLooks := .later }
def CrcJoinsCardSaid : Prop := Claim7.holds Tryd.pinned (.plain (OpenSpec.ofChange crcJoinsSpec)) crcJoinsCard

/-- THE TIED CARD OF 'quantumlaw04.CrcFinds'. -/
def crcFindsCard : Claim7 := { stood := { row := crcFindsRow, standIns := [], harness := (true, "62b3bd82d4d2efd5d06d55f2b1779b59695702983aec38215fa7c2c235ee74f2"), looks := false }, kinds := [], alts := [], laidByText := true, laidKinds := [.data], laidTests := true, laidLooks := .later }
def CrcFindsCardSaid : Prop := Claim7.holds Tryd.pinned (.plain (OpenSpec.ofChange crcFindsSpec)) crcFindsCard

/-- THE TIED CARD OF 'quantumlaw04.CrcWrong'. -/
def crcWrongCard : Claim7 := { stood := { row := crcWrongRow, standIns := [], harness := (true, "62b3bd82d4d2efd5d06d55f2b1779b59695702983aec38215fa7c2c235ee74f2"), looks := false }, kinds := [], alts := [], laidByText := true, laidKinds := [.data], laidTests := true, laidLooks := .later }
def CrcWrongCardSaid : Prop := Claim7.holds Tryd.pinned (.plain (OpenSpec.ofChange crcWrongSpec)) crcWrongCard

/-- THE SECOND FORM's CARD OF 'quantumlaw04.CrcTells'. -/
def crcTellsUptoCard : Claim7 := { stood := { row := crcTellsUptoRow, standIns := [], harness := (true, "62b3bd82d4d2efd5d06d55f2b1779b59695702983aec38215fa7c2c235ee74f2"), looks := false }, kinds := [], alts := [], laidByText := true, laidKinds := [.data], laidTests := true, laidLooks := .later }
def CrcTellsUptoCardSaid : Prop := Claim7.holds Tryd.pinned (.plain (OpenSpec.upto crcTellsSpec)) crcTellsUptoCard

/-- THE SECOND FORM's CARD OF 'quantumlaw04.CrcShifts'. -/
def crcShiftsUptoCard : Claim7 := { stood := { row := crcShiftsUptoRow, standIns := [], harness := (true, "62b3bd82d4d2efd5d06d55f2b1779b59695702983aec38215fa7c2c235ee74f2"), looks := false }, kinds := [], alts := [], laidByText := true, laidKinds := [.data], laidTests := true, laidLooks := .later }
def CrcShiftsUptoCardSaid : Prop := Claim7.holds Tryd.pinned (.plain (OpenSpec.upto crcShiftsSpec)) crcShiftsUptoCard

/-- THE SECOND FORM's CARD OF 'quantumlaw04.CrcBits'. -/
def crcBitsUptoCard : Claim7 := { stood := { row := crcBitsUptoRow, standIns := [], harness := (true, "62b3bd82d4d2efd5d06d55f2b1779b59695702983aec38215fa7c2c235ee74f2"), looks := false }, kinds := [], alts := [], laidByText := true, laidKinds := [.data], laidTests := true, laidLooks := .later }
def CrcBitsUptoCardSaid : Prop := Claim7.holds Tryd.pinned (.plain (OpenSpec.upto crcBitsSpec)) crcBitsUptoCard

/-- THE SECOND FORM's CARD OF 'quantumlaw04.CrcSearches'. -/
def crcSearchesUptoCard : Claim7 := { stood := { row := crcSearchesUptoRow, standIns := [], harness := (true, "62b3bd82d4d2efd5d06d55f2b1779b59695702983aec38215fa7c2c235ee74f2"), looks := false }, kinds := [], alts := [], laidByText := true, laidKinds := [.data], laidTests := true, laidLooks := .later }
def CrcSearchesUptoCardSaid : Prop := Claim7.holds Tryd.pinned (.plain (OpenSpec.upto crcSearchesSpec)) crcSearchesUptoCard

/-- THE SECOND FORM's CARD OF 'quantumlaw04.CrcSmall'. -/
def crcSmallUptoCard : Claim7 := { stood := { row := crcSmallUptoRow, standIns := [], harness := (true, "62b3bd82d4d2efd5d06d55f2b1779b59695702983aec38215fa7c2c235ee74f2"), looks := false }, kinds := [], alts := [], laidByText := true, laidKinds := [.data], laidTests := true, laidLooks := .later }
def CrcSmallUptoCardSaid : Prop := Claim7.holds Tryd.pinned (.plain (OpenSpec.upto crcSmallSpec)) crcSmallUptoCard

/-- THE SECOND FORM's CARD OF 'quantumlaw04.CrcBursts'. -/
def crcBurstsUptoCard : Claim7 := { stood := { row := crcBurstsUptoRow, standIns := [], harness := (true, "62b3bd82d4d2efd5d06d55f2b1779b59695702983aec38215fa7c2c235ee74f2"), looks := false }, kinds := [], alts := [], laidByText := true, laidKinds := [.data], laidTests := true, laidLooks := .later }
def CrcBurstsUptoCardSaid : Prop := Claim7.holds Tryd.pinned (.plain (OpenSpec.upto crcBurstsSpec)) crcBurstsUptoCard

/-- THE SECOND FORM's CARD OF 'quantumlaw04.CrcThree'. -/
def crcThreeUptoCard : Claim7 := { stood := { row := crcThreeUptoRow, standIns := [], harness := (true, "62b3bd82d4d2efd5d06d55f2b1779b59695702983aec38215fa7c2c235ee74f2"), looks := false }, kinds := [], alts := [], laidByText := true, laidKinds := [.data], laidTests := true, laidLooks := .later }
def CrcThreeUptoCardSaid : Prop := Claim7.holds Tryd.pinned (.plain (OpenSpec.upto crcThreeSpec)) crcThreeUptoCard

/-- THE SECOND FORM's CARD OF 'quantumlaw04.CrcFacts'. -/
def crcFactsUptoCard : Claim7 := { stood := { row := crcFactsUptoRow, standIns := [], harness := (true, "62b3bd82d4d2efd5d06d55f2b1779b59695702983aec38215fa7c2c235ee74f2"), looks := false }, kinds := [], alts := [], laidByText := true, laidKinds := [.data], laidTests := true, laidLooks := .later }
def CrcFactsUptoCardSaid : Prop := Claim7.holds Tryd.pinned (.plain (OpenSpec.upto crcFactsSpec)) crcFactsUptoCard

/-- THE SECOND FORM's CARD OF 'quantumlaw04.CrcLinear'. -/
def crcLinearUptoCard : Claim7 := { stood := { row := crcLinearUptoRow, standIns := [], harness := (true, "62b3bd82d4d2efd5d06d55f2b1779b59695702983aec38215fa7c2c235ee74f2"), looks := false }, kinds := [], alts := [], laidByText := true, laidKinds := [.data], laidTests := true, laidLooks := .later }
def CrcLinearUptoCardSaid : Prop := Claim7.holds Tryd.pinned (.plain (OpenSpec.upto crcLinearSpec)) crcLinearUptoCard

/-- THE SECOND FORM's CARD OF 'quantumlaw04.CrcJoins'. -/
def crcJoinsUptoCard : Claim7 := { stood := { row := crcJoinsUptoRow, standIns := [], harness := (true, "62b3bd82d4d2efd5d06d55f2b1779b59695702983aec38215fa7c2c235ee74f2"), looks := false }, kinds := [], alts := [], laidByText := true, laidKinds := [.data], laidTests := true, laidLooks := .later }
def CrcJoinsUptoCardSaid : Prop := Claim7.holds Tryd.pinned (.plain (OpenSpec.upto crcJoinsSpec)) crcJoinsUptoCard

/-- THE SECOND FORM's CARD OF 'quantumlaw04.CrcFinds'. -/
def crcFindsUptoCard : Claim7 := { stood := { row := crcFindsUptoRow, standIns := [], harness := (true, "62b3bd82d4d2efd5d06d55f2b1779b59695702983aec38215fa7c2c235ee74f2"), looks := false }, kinds := [], alts := [], laidByText := true, laidKinds := [.data], laidTests := true, laidLooks := .later }
def CrcFindsUptoCardSaid : Prop := Claim7.holds Tryd.pinned (.plain (OpenSpec.upto crcFindsSpec)) crcFindsUptoCard

/-- THE SECOND FORM's CARD OF 'quantumlaw04.CrcWrong'. -/
def crcWrongUptoCard : Claim7 := { stood := { row := crcWrongUptoRow, standIns := [], harness := (true, "62b3bd82d4d2efd5d06d55f2b1779b59695702983aec38215fa7c2c235ee74f2"), looks := false }, kinds := [], alts := [], laidByText := true, laidKinds := [.data], laidTests := true, laidLooks := .later }
def CrcWrongUptoCardSaid : Prop := Claim7.holds Tryd.pinned (.plain (OpenSpec.upto crcWrongSpec)) crcWrongUptoCard
end Rows
end Go.Proofs.YtdaijbplbnkpeaaDoor
