/-
  DERIVED. GIVEN WITH THE SEED: THE CARDS: each row of YtgfmfeaapffdfaaDoorRows.lean that lists a variable, with what it lists TIED to the program's text (the seventh form; the later family's looks); each row that meets fmt, with fmt's text TOLD by the authors' own Lean function (tested against real Go, not proved from fmt's source: count such statements apart). THE CARD IS WHAT COUNTS. Prove the row's statement (the work); the ties are given (YtgfmfeaapffdfaaDoorTie.lean); close each card by the builder's one call (the guide's Derived/Test/ToyasCard.lean, 'card_holds'). Laid BY PROGRAM, IN A SANDBOX (cutbox-door.mjs). By AI agents, Wed Nov 11 2026. No macro, syntax, notation, axiom, sorry.
-/
import Derived.Test.YtgfmfeaapffdfaaDoorRows
import GoSem.ClaimSeven
namespace Go.Proofs.YtgfmfeaapffdfaaDoor
namespace Rows

/-- THE TIED CARD OF 'limewashlaw03.PathsTexts'. -/
def pathsTextsCard : Claim7 := { stood := { row := pathsTextsRow, standIns := [], harness := (true, "f7dbd2a1de30639ce8e894103051bf536f0b9bdd9ed7364af087038adfc55827"), looks := false }, kinds := [], alts := [], laidByText := true, laidKinds := [.data, .pinned], laidTests := true, laidLooks := .later }
def PathsTextsCardSaid : Prop := Claim7.holds Tryd.pinned (.plain (OpenSpec.ofChange pathsTextsSpec)) pathsTextsCard

/-- THE TIED CARD OF 'limewashlaw03.PathsPairs'. -/
def pathsPairsCard : Claim7 := { stood := { row := pathsPairsRow, standIns := [], harness := (true, "f7dbd2a1de30639ce8e894103051bf536f0b9bdd9ed7364af087038adfc55827"), looks := false }, kinds := [], alts := [], laidByText := true, laidKinds := [.data, .pinned], laidTests := true, laidLooks := .later }
def PathsPairsCardSaid : Prop := Claim7.holds Tryd.pinned (.plain (OpenSpec.ofChange pathsPairsSpec)) pathsPairsCard

/-- THE TIED CARD OF 'limewashlaw03.PathsChanges'. -/
def pathsChangesCard : Claim7 := { stood := { row := pathsChangesRow, standIns := [], harness := (true, "f7dbd2a1de30639ce8e894103051bf536f0b9bdd9ed7364af087038adfc55827"), looks := false }, kinds := [], alts := [], laidByText := true, laidKinds := [.data, .pinned], laidTests := true, laidLooks := .later }
def PathsChangesCardSaid : Prop := Claim7.holds Tryd.pinned (.plain (OpenSpec.ofChange pathsChangesSpec)) pathsChangesCard

/-- THE TIED CARD OF 'limewashlaw03.PathsSorts'. -/
def pathsSortsCard : Claim7 := { stood := { row := pathsSortsRow, standIns := [], harness := (true, "f7dbd2a1de30639ce8e894103051bf536f0b9bdd9ed7364af087038adfc55827"), looks := false }, kinds := [], alts := [], laidByText := true, laidKinds := [.data, .pinned], laidTests := true, laidLooks := .later }
def PathsSortsCardSaid : Prop := Claim7.holds Tryd.pinned (.plain (OpenSpec.ofChange pathsSortsSpec)) pathsSortsCard

/-- THE TIED CARD OF 'limewashlaw03.PathsRound'. -/
def pathsRoundCard : Claim7 := { stood := { row := pathsRoundRow, standIns := [], harness := (true, "f7dbd2a1de30639ce8e894103051bf536f0b9bdd9ed7364af087038adfc55827"), looks := false }, kinds := [], alts := [], laidByText := true, laidKinds := [.data, .pinned], laidTests := true, laidLooks := .later }
def PathsRoundCardSaid : Prop := Claim7.holds Tryd.pinned (.plain (OpenSpec.ofChange pathsRoundSpec)) pathsRoundCard

/-- THE TIED CARD OF 'limewashlaw03.PathsOrder'. -/
def pathsOrderCard : Claim7 := { stood := { row := pathsOrderRow, standIns := [], harness := (true, "f7dbd2a1de30639ce8e894103051bf536f0b9bdd9ed7364af087038adfc55827"), looks := false }, kinds := [], alts := [], laidByText := true, laidKinds := [.data, .pinned], laidTests := true, laidLooks := .later }
def PathsOrderCardSaid : Prop := Claim7.holds Tryd.pinned (.plain (OpenSpec.ofChange pathsOrderSpec)) pathsOrderCard

/-- THE TIED CARD OF 'limewashlaw03.PathsRun'. -/
def pathsRunCard : Claim7 := { stood := { row := pathsRunRow, standIns := [], harness := (true, "f7dbd2a1de30639ce8e894103051bf536f0b9bdd9ed7364af087038adfc55827"), looks := false }, kinds := [], alts := [], laidByText := true, laidKinds := [.data, .pinned], laidTests := true, laidLooks := .later }
def PathsRunCardSaid : Prop := Claim7.holds Tryd.pinned (.plain (OpenSpec.ofChange pathsRunSpec)) pathsRunCard

/-- THE TIED CARD OF 'limewashlaw03.PathsMoves'. -/
def pathsMovesCard : Claim7 := { stood := { row := pathsMovesRow, standIns := [], harness := (true, "f7dbd2a1de30639ce8e894103051bf536f0b9bdd9ed7364af087038adfc55827"), looks := false }, kinds := [], alts := [], laidByText := true, laidKinds := [.data, .pinned], laidTests := true, laidLooks := .later }
def PathsMovesCardSaid : Prop := Claim7.holds Tryd.pinned (.plain (OpenSpec.ofChange pathsMovesSpec)) pathsMovesCard

/-- THE SECOND FORM's CARD OF 'limewashlaw03.PathsTexts'. -/
def pathsTextsUptoCard : Claim7 := { stood := { row := pathsTextsUptoRow, standIns := [], harness := (true, "f7dbd2a1de30639ce8e894103051bf536f0b9bdd9ed7364af087038adfc55827"), looks := false }, kinds := [], alts := [], laidByText := true, laidKinds := [.data, .pinned], laidTests := true, laidLooks := .later }
def PathsTextsUptoCardSaid : Prop := Claim7.holds Tryd.pinned (.plain (OpenSpec.upto pathsTextsSpec)) pathsTextsUptoCard

/-- THE SECOND FORM's CARD OF 'limewashlaw03.PathsPairs'. -/
def pathsPairsUptoCard : Claim7 := { stood := { row := pathsPairsUptoRow, standIns := [], harness := (true, "f7dbd2a1de30639ce8e894103051bf536f0b9bdd9ed7364af087038adfc55827"), looks := false }, kinds := [], alts := [], laidByText := true, laidKinds := [.data, .pinned], laidTests := true, laidLooks := .later }
def PathsPairsUptoCardSaid : Prop := Claim7.holds Tryd.pinned (.plain (OpenSpec.upto pathsPairsSpec)) pathsPairsUptoCard

/-- THE SECOND FORM's CARD OF 'limewashlaw03.PathsChanges'. -/
def pathsChangesUptoCard : Claim7 := { stood := { row := pathsChangesUptoRow, standIns := [], harness := (true, "f7dbd2a1de30639ce8e894103051bf536f0b9bdd9ed7364af087038adfc55827"), looks := false }, kinds := [], alts := [], laidByText := true, laidKinds := [.data, .pinned], laidTests := true, laidLooks := .later }
def PathsChangesUptoCardSaid : Prop := Claim7.holds Tryd.pinned (.plain (OpenSpec.upto pathsChangesSpec)) pathsChangesUptoCard

/-- THE SECOND FORM's CARD OF 'limewashlaw03.PathsSorts'. -/
def pathsSortsUptoCard : Claim7 := { stood := { row := pathsSortsUptoRow, standIns := [], harness := (true, "f7dbd2a1de30639ce8e894103051bf536f0b9bdd9ed7364af087038adfc55827"), looks := false }, kinds := [], alts := [], laidByText := true, laidKinds := [.data, .pinned], laidTests := true, laidLooks := .later }
def PathsSortsUptoCardSaid : Prop := Claim7.holds Tryd.pinned (.plain (OpenSpec.upto pathsSortsSpec)) pathsSortsUptoCard

/-- THE SECOND FORM's CARD OF 'limewashlaw03.PathsRound'. -/
def pathsRoundUptoCard : Claim7 := { stood := { row := pathsRoundUptoRow, standIns := [], harness := (true, "f7dbd2a1de30639ce8e894103051bf536f0b9bdd9ed7364af087038adfc55827"), looks := false }, kinds := [], alts := [], laidByText := true, laidKinds := [.data, .pinned], laidTests := true, laidLooks := .later }
def PathsRoundUptoCardSaid : Prop := Claim7.holds Tryd.pinned (.plain (OpenSpec.upto pathsRoundSpec)) pathsRoundUptoCard

/-- THE SECOND FORM's CARD OF 'limewashlaw03.PathsOrder'. -/
def pathsOrderUptoCard : Claim7 := { stood := { row := pathsOrderUptoRow, standIns := [], harness := (true, "f7dbd2a1de30639ce8e894103051bf536f0b9bdd9ed7364af087038adfc55827"), looks := false }, kinds := [], alts := [], laidByText := true, laidKinds := [.data, .pinned], laidTests := true, laidLooks := .later }
def PathsOrderUptoCardSaid : Prop := Claim7.holds Tryd.pinned (.plain (OpenSpec.upto pathsOrderSpec)) pathsOrderUptoCard

/-- THE SECOND FORM's CARD OF 'limewashlaw03.PathsRun'. -/
def pathsRunUptoCard : Claim7 := { stood := { row := pathsRunUptoRow, standIns := [], harness := (true, "f7dbd2a1de30639ce8e894103051bf536f0b9bdd9ed7364af087038adfc55827"), looks := false }, kinds := [], alts := [], laidByText := true, laidKinds := [.data, .pinned], laidTests := true, laidLooks := .later }
def PathsRunUptoCardSaid : Prop := Claim7.holds Tryd.pinned (.plain (OpenSpec.upto pathsRunSpec)) pathsRunUptoCard

/-- THE SECOND FORM's CARD OF 'limewashlaw03.PathsMoves'. -/
def pathsMovesUptoCard : Claim7 := { stood := { row := pathsMovesUptoRow, standIns := [], harness := (true, "f7dbd2a1de30639ce8e894103051bf536f0b9bdd9ed7364af087038adfc55827"), looks := false }, kinds := [], alts := [], laidByText := true, laidKinds := [.data, .pinned], laidTests := true, laidLooks := .later }
def PathsMovesUptoCardSaid : Prop := Claim7.holds Tryd.pinned (.plain (OpenSpec.upto pathsMovesSpec)) pathsMovesUptoCard
end Rows
end Go.Proofs.YtgfmfeaapffdfaaDoor
