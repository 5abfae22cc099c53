/-
  DERIVED. GIVEN WITH THE SEED: THE CARDS: each row of YtiddbdjcdoiloaaDoorRows.lean that lists a variable, with what it lists TIED to the program's text (the seventh form; the later family's looks); each row that meets fmt, with fmt's text TOLD by the authors' own Lean function (tested against real Go, not proved from fmt's source: count such statements apart). THE CARD IS WHAT COUNTS. Prove the row's statement (the work); the ties are given (YtiddbdjcdoiloaaDoorTie.lean); close each card by the builder's one call (the guide's Derived/Test/ToyasCard.lean, 'card_holds'). Laid BY PROGRAM, IN A SANDBOX (cutbox-door.mjs). By AI agents, Wed Nov 11 2026. No macro, syntax, notation, axiom, sorry.
-/
import Derived.Test.YtiddbdjcdoiloaaDoorRows
import GoSem.ClaimSeven
namespace Go.Proofs.YtiddbdjcdoiloaaDoor
namespace Rows

/-- THE TIED CARD OF 'limewashlaw05.RecordsSeals'. -/
def recordsSealsCard : Claim7 := { stood := { row := recordsSealsRow, standIns := [], harness := (true, "2a602c06d8e46c513c76de1ed496e490ac20e95b92b892a512db365ce760a49d"), looks := false }, kinds := [], alts := [], laidByText := true, laidKinds := [.data], laidTests := true, laidLooks := .later }
def RecordsSealsCardSaid : Prop := Claim7.holds Tryd.pinned (.plain (OpenSpec.ofChange recordsSealsSpec)) recordsSealsCard

/-- THE TIED CARD OF 'limewashlaw05.RecordsSealed'. -/
def recordsSealedCard : Claim7 := { stood := { row := recordsSealedRow, standIns := [], harness := (true, "2a602c06d8e46c513c76de1ed496e490ac20e95b92b892a512db365ce760a49d"), looks := false }, kinds := [], alts := [], laidByText := true, laidKinds := [.data], laidTests := true, laidLooks := .later }
def RecordsSealedCardSaid : Prop := Claim7.holds Tryd.pinned (.plain (OpenSpec.ofChange recordsSealedSpec)) recordsSealedCard

/-- THE TIED CARD OF 'limewashlaw07.FramesSeals'. -/
def framesSealsCard : Claim7 := { stood := { row := framesSealsRow, standIns := [], harness := (true, "2a602c06d8e46c513c76de1ed496e490ac20e95b92b892a512db365ce760a49d"), looks := false }, kinds := [], alts := [], laidByText := true, laidKinds := [.data], laidTests := true, laidLooks := .later }
def FramesSealsCardSaid : Prop := Claim7.holds Tryd.pinned (.plain (OpenSpec.ofChange framesSealsSpec)) framesSealsCard

/-- THE TIED CARD OF 'limewashlaw07.FramesOpens'. -/
def framesOpensCard : Claim7 := { stood := { row := framesOpensRow, standIns := [], harness := (true, "2a602c06d8e46c513c76de1ed496e490ac20e95b92b892a512db365ce760a49d"), looks := false }, kinds := [], alts := [], laidByText := true, laidKinds := [.data], laidTests := true, laidLooks := .later }
def FramesOpensCardSaid : Prop := Claim7.holds Tryd.pinned (.plain (OpenSpec.ofChange framesOpensSpec)) framesOpensCard

/-- THE TIED CARD OF 'limewashlaw07.FramesBack'. -/
def framesBackCard : Claim7 := { stood := { row := framesBackRow, standIns := [], harness := (true, "2a602c06d8e46c513c76de1ed496e490ac20e95b92b892a512db365ce760a49d"), looks := false }, kinds := [], alts := [], laidByText := true, laidKinds := [.data], laidTests := true, laidLooks := .later }
def FramesBackCardSaid : Prop := Claim7.holds Tryd.pinned (.plain (OpenSpec.ofChange framesBackSpec)) framesBackCard

/-- THE TIED CARD OF 'limewashlaw07.FramesPlace'. -/
def framesPlaceCard : Claim7 := { stood := { row := framesPlaceRow, standIns := [], harness := (true, "2a602c06d8e46c513c76de1ed496e490ac20e95b92b892a512db365ce760a49d"), looks := false }, kinds := [], alts := [], laidByText := true, laidKinds := [.data], laidTests := true, laidLooks := .later }
def FramesPlaceCardSaid : Prop := Claim7.holds Tryd.pinned (.plain (OpenSpec.ofChange framesPlaceSpec)) framesPlaceCard

/-- THE TIED CARD OF 'limewashlaw07.FramesBursts'. -/
def framesBurstsCard : Claim7 := { stood := { row := framesBurstsRow, standIns := [], harness := (true, "2a602c06d8e46c513c76de1ed496e490ac20e95b92b892a512db365ce760a49d"), looks := false }, kinds := [], alts := [], laidByText := true, laidKinds := [.data], laidTests := true, laidLooks := .later }
def FramesBurstsCardSaid : Prop := Claim7.holds Tryd.pinned (.plain (OpenSpec.ofChange framesBurstsSpec)) framesBurstsCard

/-- THE TIED CARD OF 'limewashlaw07.FramesDevices'. -/
def framesDevicesCard : Claim7 := { stood := { row := framesDevicesRow, standIns := [], harness := (true, "2a602c06d8e46c513c76de1ed496e490ac20e95b92b892a512db365ce760a49d"), looks := false }, kinds := [], alts := [], laidByText := true, laidKinds := [.data], laidTests := true, laidLooks := .later }
def FramesDevicesCardSaid : Prop := Claim7.holds Tryd.pinned (.plain (OpenSpec.ofChange framesDevicesSpec)) framesDevicesCard

/-- THE TIED CARD OF 'limewashlaw07.FramesKnown'. -/
def framesKnownCard : Claim7 := { stood := { row := framesKnownRow, standIns := [], harness := (true, "2a602c06d8e46c513c76de1ed496e490ac20e95b92b892a512db365ce760a49d"), looks := false }, kinds := [], alts := [], laidByText := true, laidKinds := [.data], laidTests := true, laidLooks := .later }
def FramesKnownCardSaid : Prop := Claim7.holds Tryd.pinned (.plain (OpenSpec.ofChange framesKnownSpec)) framesKnownCard

/-- THE SECOND FORM's CARD OF 'limewashlaw05.RecordsSeals'. -/
def recordsSealsUptoCard : Claim7 := { stood := { row := recordsSealsUptoRow, standIns := [], harness := (true, "2a602c06d8e46c513c76de1ed496e490ac20e95b92b892a512db365ce760a49d"), looks := false }, kinds := [], alts := [], laidByText := true, laidKinds := [.data], laidTests := true, laidLooks := .later }
def RecordsSealsUptoCardSaid : Prop := Claim7.holds Tryd.pinned (.plain (OpenSpec.upto recordsSealsSpec)) recordsSealsUptoCard

/-- THE SECOND FORM's CARD OF 'limewashlaw05.RecordsSealed'. -/
def recordsSealedUptoCard : Claim7 := { stood := { row := recordsSealedUptoRow, standIns := [], harness := (true, "2a602c06d8e46c513c76de1ed496e490ac20e95b92b892a512db365ce760a49d"), looks := false }, kinds := [], alts := [], laidByText := true, laidKinds := [.data], laidTests := true, laidLooks := .later }
def RecordsSealedUptoCardSaid : Prop := Claim7.holds Tryd.pinned (.plain (OpenSpec.upto recordsSealedSpec)) recordsSealedUptoCard

/-- THE SECOND FORM's CARD OF 'limewashlaw07.FramesSeals'. -/
def framesSealsUptoCard : Claim7 := { stood := { row := framesSealsUptoRow, standIns := [], harness := (true, "2a602c06d8e46c513c76de1ed496e490ac20e95b92b892a512db365ce760a49d"), looks := false }, kinds := [], alts := [], laidByText := true, laidKinds := [.data], laidTests := true, laidLooks := .later }
def FramesSealsUptoCardSaid : Prop := Claim7.holds Tryd.pinned (.plain (OpenSpec.upto framesSealsSpec)) framesSealsUptoCard

/-- THE SECOND FORM's CARD OF 'limewashlaw07.FramesOpens'. -/
def framesOpensUptoCard : Claim7 := { stood := { row := framesOpensUptoRow, standIns := [], harness := (true, "2a602c06d8e46c513c76de1ed496e490ac20e95b92b892a512db365ce760a49d"), looks := false }, kinds := [], alts := [], laidByText := true, laidKinds := [.data], laidTests := true, laidLooks := .later }
def FramesOpensUptoCardSaid : Prop := Claim7.holds Tryd.pinned (.plain (OpenSpec.upto framesOpensSpec)) framesOpensUptoCard

/-- THE SECOND FORM's CARD OF 'limewashlaw07.FramesBack'. -/
def framesBackUptoCard : Claim7 := { stood := { row := framesBackUptoRow, standIns := [], harness := (true, "2a602c06d8e46c513c76de1ed496e490ac20e95b92b892a512db365ce760a49d"), looks := false }, kinds := [], alts := [], laidByText := true, laidKinds := [.data], laidTests := true, laidLooks := .later }
def FramesBackUptoCardSaid : Prop := Claim7.holds Tryd.pinned (.plain (OpenSpec.upto framesBackSpec)) framesBackUptoCard

/-- THE SECOND FORM's CARD OF 'limewashlaw07.FramesPlace'. -/
def framesPlaceUptoCard : Claim7 := { stood := { row := framesPlaceUptoRow, standIns := [], harness := (true, "2a602c06d8e46c513c76de1ed496e490ac20e95b92b892a512db365ce760a49d"), looks := false }, kinds := [], alts := [], laidByText := true, laidKinds := [.data], laidTests := true, laidLooks := .later }
def FramesPlaceUptoCardSaid : Prop := Claim7.holds Tryd.pinned (.plain (OpenSpec.upto framesPlaceSpec)) framesPlaceUptoCard

/-- THE SECOND FORM's CARD OF 'limewashlaw07.FramesBursts'. -/
def framesBurstsUptoCard : Claim7 := { stood := { row := framesBurstsUptoRow, standIns := [], harness := (true, "2a602c06d8e46c513c76de1ed496e490ac20e95b92b892a512db365ce760a49d"), looks := false }, kinds := [], alts := [], laidByText := true, laidKinds := [.data], laidTests := true, laidLooks := .later }
def FramesBurstsUptoCardSaid : Prop := Claim7.holds Tryd.pinned (.plain (OpenSpec.upto framesBurstsSpec)) framesBurstsUptoCard

/-- THE SECOND FORM's CARD OF 'limewashlaw07.FramesDevices'. -/
def framesDevicesUptoCard : Claim7 := { stood := { row := framesDevicesUptoRow, standIns := [], harness := (true, "2a602c06d8e46c513c76de1ed496e490ac20e95b92b892a512db365ce760a49d"), looks := false }, kinds := [], alts := [], laidByText := true, laidKinds := [.data], laidTests := true, laidLooks := .later }
def FramesDevicesUptoCardSaid : Prop := Claim7.holds Tryd.pinned (.plain (OpenSpec.upto framesDevicesSpec)) framesDevicesUptoCard

/-- THE SECOND FORM's CARD OF 'limewashlaw07.FramesKnown'. -/
def framesKnownUptoCard : Claim7 := { stood := { row := framesKnownUptoRow, standIns := [], harness := (true, "2a602c06d8e46c513c76de1ed496e490ac20e95b92b892a512db365ce760a49d"), looks := false }, kinds := [], alts := [], laidByText := true, laidKinds := [.data], laidTests := true, laidLooks := .later }
def FramesKnownUptoCardSaid : Prop := Claim7.holds Tryd.pinned (.plain (OpenSpec.upto framesKnownSpec)) framesKnownUptoCard
end Rows
end Go.Proofs.YtiddbdjcdoiloaaDoor
