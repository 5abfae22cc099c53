/-
  NARROWER THAN 'FOR EVERY INPUT', by the rows' own cells (each row's printed sentence says how): PathsTexts: laid · PathsPairs: laid · PathsChanges: laid · PathsSorts: laid · PathsRound: laid · PathsOrder: laid · PathsRun: laid · PathsMoves: laid.
  DERIVED. THE GIVEN ROWS OF THIS SEAT. 8 by the template 'for every input the law returns true; each argument reads behind the call as it read before'; 0 by the template 'total and deterministic' (their statements: YtgfmfeaapffdfaaDoorTotals.lean).
  GIVEN WITH THE SEED: the statements are not yours to turn. If you find one false, say at which input.
  Laid BY PROGRAM, IN A SANDBOX (cutbox-rows.mjs): the forced cells as the released guide's own fill.sh prints them over the translation 596d90a4b316dff4… (all of the seat's roots in one cut). By AI agents, Wed Nov 11 2026. No macro, syntax, notation, axiom, sorry.
-/
import Derived.Test.YtgfmfeaapffdfaaDoorChecked
import GoSem.PinnedTables
import GoSem.Claim
import GoSem.ClaimJoined
import GoSem.ClaimMapViews
import Derived.JoinedTies
import Derived.KernelRfl
namespace Go.Proofs.YtgfmfeaapffdfaaDoor
/- THE CELL 'sum', in the pinned program and in every row, IS THE sha256 OF THE DUMP (.gsa) THAT YtgfmfeaapffdfaaDoorProg.lean LOADS. Nothing in Lean hashes anything: it is a label: what it is worth is what the hold of that sum in a sandbox is worth. -/
noncomputable def Tryd.pinned : Pinned := { name := "ytgfmfeaapffdfaadoor", sum := "596d90a4b316dff42c584c1fc73dd583a5229b4c810b722c91702c17bc2ebdd0", checked := Tryd.checked }
namespace Rows
def none {H : Type} : Left H := { results := [], args := [] }

/- WHAT THE LISTED PACKAGE-LEVEL VARIABLES READ AS WHEN THE CALL BEGINS. Each datum BY PROGRAM (the guide's laid-datum.mjs) off the statement by which the dump's own 'gosem.cut.vars' lays the variable. In a bare row this is a premise. The card (YtgfmfeaapffdfaaDoorCards.lean) ties it to the program's text. -/
def laid_unicode_utf8_acceptRanges {H : Type} : DataW H := .agg [.agg [.lit (.int .u8 128), .lit (.int .u8 191)], .agg [.lit (.int .u8 160), .lit (.int .u8 191)], .agg [.lit (.int .u8 128), .lit (.int .u8 159)], .agg [.lit (.int .u8 144), .lit (.int .u8 191)], .agg [.lit (.int .u8 128), .lit (.int .u8 143)], .agg [.lit (.int .u8 0), .lit (.int .u8 0)], .agg [.lit (.int .u8 0), .lit (.int .u8 0)], .agg [.lit (.int .u8 0), .lit (.int .u8 0)], .agg [.lit (.int .u8 0), .lit (.int .u8 0)], .agg [.lit (.int .u8 0), .lit (.int .u8 0)], .agg [.lit (.int .u8 0), .lit (.int .u8 0)], .agg [.lit (.int .u8 0), .lit (.int .u8 0)], .agg [.lit (.int .u8 0), .lit (.int .u8 0)], .agg [.lit (.int .u8 0), .lit (.int .u8 0)], .agg [.lit (.int .u8 0), .lit (.int .u8 0)], .agg [.lit (.int .u8 0), .lit (.int .u8 0)]]
/-- One of Go's own tables, pinned by name: the form's constant. -/
def laid_unicode_utf8_first : DataW Unit := Go.Pinned.utf8First

/-- 'limewashlaw03.PathsTexts': WHATEVER THE INPUT: true; the input reads as it did. -/
def pathsTextsSpec : ChangeSpec := { name := "pathsTexts", fn := fun _ => fun
  | [d1, d2] => { results := [.lit (.bool true)], args := [d1, d2] }
  | _ => none }
def pathsTextsRow : OpenClaim := { program := "ytgfmfeaapffdfaadoor", sum := "596d90a4b316dff42c584c1fc73dd583a5229b4c810b722c91702c17bc2ebdd0", func := "limewash/limewashlaw03.PathsTexts", spec := "pathsTexts", inPlace := ["internal/bytealg.CountString", "internal/bytealg.IndexByteString", "internal/bytealg.IndexString", "internal/abi.NoEscape", "internal/bytealg.MakeNoZero", "internal/bytealg.Compare"], unfollowed := true, recurses := true, named := ["unicode/utf8.first", "unicode/utf8.acceptRanges", "internal/bytealg.MaxLen"], apart := false, laid := [("unicode/utf8.acceptRanges", laid_unicode_utf8_acceptRanges), ("unicode/utf8.first", laid_unicode_utf8_first)] }
def PathsTextsSaid : Prop := pathsTextsRow.holds Tryd.pinned (OpenSpec.ofChange pathsTextsSpec)

/-- ITS FALSE NEIGHBOUR: 'it returns false'. Refute it at one input. -/
def pathsTextsWrong : ChangeSpec := { name := "pathsTexts", fn := fun _ => fun
  | [d1, d2] => { results := [.lit (.bool false)], args := [d1, d2] }
  | _ => none }
def PathsTextsWrongFalsely : Prop := pathsTextsRow.holds Tryd.pinned (OpenSpec.ofChange pathsTextsWrong)

/-- 'limewashlaw03.PathsPairs': WHATEVER THE INPUT: true; the input reads as it did. -/
def pathsPairsSpec : ChangeSpec := { name := "pathsPairs", fn := fun _ => fun
  | [d1, d2] => { results := [.lit (.bool true)], args := [d1, d2] }
  | _ => none }
def pathsPairsRow : OpenClaim := { program := "ytgfmfeaapffdfaadoor", sum := "596d90a4b316dff42c584c1fc73dd583a5229b4c810b722c91702c17bc2ebdd0", func := "limewash/limewashlaw03.PathsPairs", spec := "pathsPairs", inPlace := ["internal/bytealg.CountString", "internal/bytealg.IndexByteString", "internal/bytealg.IndexString", "internal/abi.NoEscape", "internal/bytealg.MakeNoZero", "internal/bytealg.Compare"], unfollowed := true, recurses := true, named := ["unicode/utf8.first", "unicode/utf8.acceptRanges", "internal/bytealg.MaxLen"], apart := false, laid := [("unicode/utf8.acceptRanges", laid_unicode_utf8_acceptRanges), ("unicode/utf8.first", laid_unicode_utf8_first)] }
def PathsPairsSaid : Prop := pathsPairsRow.holds Tryd.pinned (OpenSpec.ofChange pathsPairsSpec)

/-- ITS FALSE NEIGHBOUR: 'it returns false'. Refute it at one input. -/
def pathsPairsWrong : ChangeSpec := { name := "pathsPairs", fn := fun _ => fun
  | [d1, d2] => { results := [.lit (.bool false)], args := [d1, d2] }
  | _ => none }
def PathsPairsWrongFalsely : Prop := pathsPairsRow.holds Tryd.pinned (OpenSpec.ofChange pathsPairsWrong)

/-- 'limewashlaw03.PathsChanges': WHATEVER THE INPUT: true; the input reads as it did. -/
def pathsChangesSpec : ChangeSpec := { name := "pathsChanges", fn := fun _ => fun
  | [d1, d2, d3] => { results := [.lit (.bool true)], args := [d1, d2, d3] }
  | _ => none }
def pathsChangesRow : OpenClaim := { program := "ytgfmfeaapffdfaadoor", sum := "596d90a4b316dff42c584c1fc73dd583a5229b4c810b722c91702c17bc2ebdd0", func := "limewash/limewashlaw03.PathsChanges", spec := "pathsChanges", inPlace := ["internal/bytealg.CountString", "internal/bytealg.IndexByteString", "internal/bytealg.IndexString", "internal/abi.NoEscape", "internal/bytealg.MakeNoZero", "internal/bytealg.Compare"], unfollowed := true, recurses := true, named := ["unicode/utf8.first", "unicode/utf8.acceptRanges", "internal/bytealg.MaxLen"], apart := false, laid := [("unicode/utf8.acceptRanges", laid_unicode_utf8_acceptRanges), ("unicode/utf8.first", laid_unicode_utf8_first)] }
def PathsChangesSaid : Prop := pathsChangesRow.holds Tryd.pinned (OpenSpec.ofChange pathsChangesSpec)

/-- ITS FALSE NEIGHBOUR: 'it returns false'. Refute it at one input. -/
def pathsChangesWrong : ChangeSpec := { name := "pathsChanges", fn := fun _ => fun
  | [d1, d2, d3] => { results := [.lit (.bool false)], args := [d1, d2, d3] }
  | _ => none }
def PathsChangesWrongFalsely : Prop := pathsChangesRow.holds Tryd.pinned (OpenSpec.ofChange pathsChangesWrong)

/-- 'limewashlaw03.PathsSorts': WHATEVER THE INPUT: true; the input reads as it did. -/
def pathsSortsSpec : ChangeSpec := { name := "pathsSorts", fn := fun _ => fun
  | [d] => { results := [.lit (.bool true)], args := [d] }
  | _ => none }
def pathsSortsRow : OpenClaim := { program := "ytgfmfeaapffdfaadoor", sum := "596d90a4b316dff42c584c1fc73dd583a5229b4c810b722c91702c17bc2ebdd0", func := "limewash/limewashlaw03.PathsSorts", spec := "pathsSorts", inPlace := ["internal/bytealg.CountString", "internal/bytealg.IndexByteString", "internal/bytealg.IndexString", "internal/abi.NoEscape", "internal/bytealg.MakeNoZero", "internal/bytealg.Compare"], unfollowed := true, recurses := true, named := ["unicode/utf8.first", "unicode/utf8.acceptRanges", "internal/bytealg.MaxLen"], apart := false, laid := [("unicode/utf8.acceptRanges", laid_unicode_utf8_acceptRanges), ("unicode/utf8.first", laid_unicode_utf8_first)] }
def PathsSortsSaid : Prop := pathsSortsRow.holds Tryd.pinned (OpenSpec.ofChange pathsSortsSpec)

/-- ITS FALSE NEIGHBOUR: 'it returns false'. Refute it at one input. -/
def pathsSortsWrong : ChangeSpec := { name := "pathsSorts", fn := fun _ => fun
  | [d] => { results := [.lit (.bool false)], args := [d] }
  | _ => none }
def PathsSortsWrongFalsely : Prop := pathsSortsRow.holds Tryd.pinned (OpenSpec.ofChange pathsSortsWrong)

/-- 'limewashlaw03.PathsRound': WHATEVER THE INPUT: true; the input reads as it did. -/
def pathsRoundSpec : ChangeSpec := { name := "pathsRound", fn := fun _ => fun
  | [d1, d2] => { results := [.lit (.bool true)], args := [d1, d2] }
  | _ => none }
def pathsRoundRow : OpenClaim := { program := "ytgfmfeaapffdfaadoor", sum := "596d90a4b316dff42c584c1fc73dd583a5229b4c810b722c91702c17bc2ebdd0", func := "limewash/limewashlaw03.PathsRound", spec := "pathsRound", inPlace := ["internal/bytealg.CountString", "internal/bytealg.IndexByteString", "internal/bytealg.IndexString", "internal/abi.NoEscape", "internal/bytealg.MakeNoZero", "internal/bytealg.Compare"], unfollowed := true, recurses := true, named := ["unicode/utf8.first", "unicode/utf8.acceptRanges", "internal/bytealg.MaxLen"], apart := false, laid := [("unicode/utf8.acceptRanges", laid_unicode_utf8_acceptRanges), ("unicode/utf8.first", laid_unicode_utf8_first)] }
def PathsRoundSaid : Prop := pathsRoundRow.holds Tryd.pinned (OpenSpec.ofChange pathsRoundSpec)

/-- ITS FALSE NEIGHBOUR: 'it returns false'. Refute it at one input. -/
def pathsRoundWrong : ChangeSpec := { name := "pathsRound", fn := fun _ => fun
  | [d1, d2] => { results := [.lit (.bool false)], args := [d1, d2] }
  | _ => none }
def PathsRoundWrongFalsely : Prop := pathsRoundRow.holds Tryd.pinned (OpenSpec.ofChange pathsRoundWrong)

/-- 'limewashlaw03.PathsOrder': WHATEVER THE INPUT: true; the input reads as it did. -/
def pathsOrderSpec : ChangeSpec := { name := "pathsOrder", fn := fun _ => fun
  | [d] => { results := [.lit (.bool true)], args := [d] }
  | _ => none }
def pathsOrderRow : OpenClaim := { program := "ytgfmfeaapffdfaadoor", sum := "596d90a4b316dff42c584c1fc73dd583a5229b4c810b722c91702c17bc2ebdd0", func := "limewash/limewashlaw03.PathsOrder", spec := "pathsOrder", inPlace := ["internal/bytealg.CountString", "internal/bytealg.IndexByteString", "internal/bytealg.IndexString", "internal/abi.NoEscape", "internal/bytealg.MakeNoZero", "internal/bytealg.Compare"], unfollowed := true, recurses := true, named := ["unicode/utf8.first", "unicode/utf8.acceptRanges", "internal/bytealg.MaxLen"], apart := false, laid := [("unicode/utf8.acceptRanges", laid_unicode_utf8_acceptRanges), ("unicode/utf8.first", laid_unicode_utf8_first)] }
def PathsOrderSaid : Prop := pathsOrderRow.holds Tryd.pinned (OpenSpec.ofChange pathsOrderSpec)

/-- ITS FALSE NEIGHBOUR: 'it returns false'. Refute it at one input. -/
def pathsOrderWrong : ChangeSpec := { name := "pathsOrder", fn := fun _ => fun
  | [d] => { results := [.lit (.bool false)], args := [d] }
  | _ => none }
def PathsOrderWrongFalsely : Prop := pathsOrderRow.holds Tryd.pinned (OpenSpec.ofChange pathsOrderWrong)

/-- 'limewashlaw03.PathsRun': WHATEVER THE INPUT: true; the input reads as it did. -/
def pathsRunSpec : ChangeSpec := { name := "pathsRun", fn := fun _ => fun
  | [d1, d2] => { results := [.lit (.bool true)], args := [d1, d2] }
  | _ => none }
def pathsRunRow : OpenClaim := { program := "ytgfmfeaapffdfaadoor", sum := "596d90a4b316dff42c584c1fc73dd583a5229b4c810b722c91702c17bc2ebdd0", func := "limewash/limewashlaw03.PathsRun", spec := "pathsRun", inPlace := ["internal/bytealg.CountString", "internal/bytealg.IndexByteString", "internal/bytealg.IndexString", "internal/abi.NoEscape", "internal/bytealg.MakeNoZero", "internal/bytealg.Compare"], unfollowed := true, recurses := true, named := ["unicode/utf8.first", "unicode/utf8.acceptRanges", "internal/bytealg.MaxLen"], apart := false, laid := [("unicode/utf8.acceptRanges", laid_unicode_utf8_acceptRanges), ("unicode/utf8.first", laid_unicode_utf8_first)] }
def PathsRunSaid : Prop := pathsRunRow.holds Tryd.pinned (OpenSpec.ofChange pathsRunSpec)

/-- ITS FALSE NEIGHBOUR: 'it returns false'. Refute it at one input. -/
def pathsRunWrong : ChangeSpec := { name := "pathsRun", fn := fun _ => fun
  | [d1, d2] => { results := [.lit (.bool false)], args := [d1, d2] }
  | _ => none }
def PathsRunWrongFalsely : Prop := pathsRunRow.holds Tryd.pinned (OpenSpec.ofChange pathsRunWrong)

/-- 'limewashlaw03.PathsMoves': WHATEVER THE INPUT: true; the input reads as it did. -/
def pathsMovesSpec : ChangeSpec := { name := "pathsMoves", fn := fun _ => fun
  | [d1, d2] => { results := [.lit (.bool true)], args := [d1, d2] }
  | _ => none }
def pathsMovesRow : OpenClaim := { program := "ytgfmfeaapffdfaadoor", sum := "596d90a4b316dff42c584c1fc73dd583a5229b4c810b722c91702c17bc2ebdd0", func := "limewash/limewashlaw03.PathsMoves", spec := "pathsMoves", inPlace := ["internal/bytealg.CountString", "internal/bytealg.IndexByteString", "internal/bytealg.IndexString", "internal/abi.NoEscape", "internal/bytealg.MakeNoZero", "internal/bytealg.Compare"], unfollowed := true, recurses := true, named := ["unicode/utf8.first", "unicode/utf8.acceptRanges", "internal/bytealg.MaxLen"], apart := false, laid := [("unicode/utf8.acceptRanges", laid_unicode_utf8_acceptRanges), ("unicode/utf8.first", laid_unicode_utf8_first)] }
def PathsMovesSaid : Prop := pathsMovesRow.holds Tryd.pinned (OpenSpec.ofChange pathsMovesSpec)

/-- ITS FALSE NEIGHBOUR: 'it returns false'. Refute it at one input. -/
def pathsMovesWrong : ChangeSpec := { name := "pathsMoves", fn := fun _ => fun
  | [d1, d2] => { results := [.lit (.bool false)], args := [d1, d2] }
  | _ => none }
def PathsMovesWrongFalsely : Prop := pathsMovesRow.holds Tryd.pinned (OpenSpec.ofChange pathsMovesWrong)

/- THE SECOND FORM. 'bulk': how many values and letters a reading holds, each counted each time it is reached (what is shared counts as often as it is met; a slice's spare places count too). A statement '..UptoSaid' is the law's where the arguments, and the package variables that the reading takes, are together of bulk at most 1048576: NARROWER than '..Said'. Prove '..Said' where nothing that the law and all that it calls make is longer than what came in: it says more and counts as full. Else prove '..UptoSaid'. A law counts once. -/
mutual
def uptoBulk {H : Type} : DataW H → Nat
  | .lit (.string bytes) => bytes.length + 1
  | .lit _ => 1
  | .nil => 1
  | .ptr d => uptoBulk d + 1
  | .slice elems spare => uptoBulkAll elems + uptoBulkAll spare + 1
  | .agg parts => uptoBulkAll parts + 1
  | .iface _ d => uptoBulk d + 1
  | .map entries => uptoBulkEntries entries + 1
  | .held _ => 1
def uptoBulkAll {H : Type} : List (DataW H) → Nat
  | [] => 0
  | d :: r => uptoBulk d + uptoBulkAll r
def uptoBulkEntries {H : Type} : List (Lit × DataW H) → Nat
  | [] => 0
  | x :: r => uptoBulkEntry x + uptoBulkEntries r
def uptoBulkEntry {H : Type} : Lit × DataW H → Nat
  | (.string bytes, d) => bytes.length + uptoBulk d + 1
  | (_, d) => uptoBulk d + 1
 end
def uptoSmall : (H : Type) → List (DataW H) → Bool := fun _ ds => decide (uptoBulkAll ds ≤ 1048576)
def OpenSpec.upto (s : _root_.Go.ChangeSpec) : _root_.Go.OpenSpec := { _root_.Go.OpenSpec.ofChange s with cond := some uptoSmall }

/-- 'limewashlaw03.PathsTexts', WHERE WHAT IT READS IS OF BULK AT MOST 1048576: true; the input reads as it did. -/
def pathsTextsUptoRow : OpenClaim := { program := "ytgfmfeaapffdfaadoor", sum := "596d90a4b316dff42c584c1fc73dd583a5229b4c810b722c91702c17bc2ebdd0", func := "limewash/limewashlaw03.PathsTexts", spec := "pathsTexts", inPlace := ["internal/bytealg.CountString", "internal/bytealg.IndexByteString", "internal/bytealg.IndexString", "internal/abi.NoEscape", "internal/bytealg.MakeNoZero", "internal/bytealg.Compare"], unfollowed := true, recurses := true, named := ["unicode/utf8.first", "unicode/utf8.acceptRanges", "internal/bytealg.MaxLen"], apart := false, laid := [("unicode/utf8.acceptRanges", laid_unicode_utf8_acceptRanges), ("unicode/utf8.first", laid_unicode_utf8_first)], narrowed := true }
def PathsTextsUptoSaid : Prop := pathsTextsUptoRow.holds Tryd.pinned (OpenSpec.upto pathsTextsSpec)

/-- 'limewashlaw03.PathsPairs', WHERE WHAT IT READS IS OF BULK AT MOST 1048576: true; the input reads as it did. -/
def pathsPairsUptoRow : OpenClaim := { program := "ytgfmfeaapffdfaadoor", sum := "596d90a4b316dff42c584c1fc73dd583a5229b4c810b722c91702c17bc2ebdd0", func := "limewash/limewashlaw03.PathsPairs", spec := "pathsPairs", inPlace := ["internal/bytealg.CountString", "internal/bytealg.IndexByteString", "internal/bytealg.IndexString", "internal/abi.NoEscape", "internal/bytealg.MakeNoZero", "internal/bytealg.Compare"], unfollowed := true, recurses := true, named := ["unicode/utf8.first", "unicode/utf8.acceptRanges", "internal/bytealg.MaxLen"], apart := false, laid := [("unicode/utf8.acceptRanges", laid_unicode_utf8_acceptRanges), ("unicode/utf8.first", laid_unicode_utf8_first)], narrowed := true }
def PathsPairsUptoSaid : Prop := pathsPairsUptoRow.holds Tryd.pinned (OpenSpec.upto pathsPairsSpec)

/-- 'limewashlaw03.PathsChanges', WHERE WHAT IT READS IS OF BULK AT MOST 1048576: true; the input reads as it did. -/
def pathsChangesUptoRow : OpenClaim := { program := "ytgfmfeaapffdfaadoor", sum := "596d90a4b316dff42c584c1fc73dd583a5229b4c810b722c91702c17bc2ebdd0", func := "limewash/limewashlaw03.PathsChanges", spec := "pathsChanges", inPlace := ["internal/bytealg.CountString", "internal/bytealg.IndexByteString", "internal/bytealg.IndexString", "internal/abi.NoEscape", "internal/bytealg.MakeNoZero", "internal/bytealg.Compare"], unfollowed := true, recurses := true, named := ["unicode/utf8.first", "unicode/utf8.acceptRanges", "internal/bytealg.MaxLen"], apart := false, laid := [("unicode/utf8.acceptRanges", laid_unicode_utf8_acceptRanges), ("unicode/utf8.first", laid_unicode_utf8_first)], narrowed := true }
def PathsChangesUptoSaid : Prop := pathsChangesUptoRow.holds Tryd.pinned (OpenSpec.upto pathsChangesSpec)

/-- 'limewashlaw03.PathsSorts', WHERE WHAT IT READS IS OF BULK AT MOST 1048576: true; the input reads as it did. -/
def pathsSortsUptoRow : OpenClaim := { program := "ytgfmfeaapffdfaadoor", sum := "596d90a4b316dff42c584c1fc73dd583a5229b4c810b722c91702c17bc2ebdd0", func := "limewash/limewashlaw03.PathsSorts", spec := "pathsSorts", inPlace := ["internal/bytealg.CountString", "internal/bytealg.IndexByteString", "internal/bytealg.IndexString", "internal/abi.NoEscape", "internal/bytealg.MakeNoZero", "internal/bytealg.Compare"], unfollowed := true, recurses := true, named := ["unicode/utf8.first", "unicode/utf8.acceptRanges", "internal/bytealg.MaxLen"], apart := false, laid := [("unicode/utf8.acceptRanges", laid_unicode_utf8_acceptRanges), ("unicode/utf8.first", laid_unicode_utf8_first)], narrowed := true }
def PathsSortsUptoSaid : Prop := pathsSortsUptoRow.holds Tryd.pinned (OpenSpec.upto pathsSortsSpec)

/-- 'limewashlaw03.PathsRound', WHERE WHAT IT READS IS OF BULK AT MOST 1048576: true; the input reads as it did. -/
def pathsRoundUptoRow : OpenClaim := { program := "ytgfmfeaapffdfaadoor", sum := "596d90a4b316dff42c584c1fc73dd583a5229b4c810b722c91702c17bc2ebdd0", func := "limewash/limewashlaw03.PathsRound", spec := "pathsRound", inPlace := ["internal/bytealg.CountString", "internal/bytealg.IndexByteString", "internal/bytealg.IndexString", "internal/abi.NoEscape", "internal/bytealg.MakeNoZero", "internal/bytealg.Compare"], unfollowed := true, recurses := true, named := ["unicode/utf8.first", "unicode/utf8.acceptRanges", "internal/bytealg.MaxLen"], apart := false, laid := [("unicode/utf8.acceptRanges", laid_unicode_utf8_acceptRanges), ("unicode/utf8.first", laid_unicode_utf8_first)], narrowed := true }
def PathsRoundUptoSaid : Prop := pathsRoundUptoRow.holds Tryd.pinned (OpenSpec.upto pathsRoundSpec)

/-- 'limewashlaw03.PathsOrder', WHERE WHAT IT READS IS OF BULK AT MOST 1048576: true; the input reads as it did. -/
def pathsOrderUptoRow : OpenClaim := { program := "ytgfmfeaapffdfaadoor", sum := "596d90a4b316dff42c584c1fc73dd583a5229b4c810b722c91702c17bc2ebdd0", func := "limewash/limewashlaw03.PathsOrder", spec := "pathsOrder", inPlace := ["internal/bytealg.CountString", "internal/bytealg.IndexByteString", "internal/bytealg.IndexString", "internal/abi.NoEscape", "internal/bytealg.MakeNoZero", "internal/bytealg.Compare"], unfollowed := true, recurses := true, named := ["unicode/utf8.first", "unicode/utf8.acceptRanges", "internal/bytealg.MaxLen"], apart := false, laid := [("unicode/utf8.acceptRanges", laid_unicode_utf8_acceptRanges), ("unicode/utf8.first", laid_unicode_utf8_first)], narrowed := true }
def PathsOrderUptoSaid : Prop := pathsOrderUptoRow.holds Tryd.pinned (OpenSpec.upto pathsOrderSpec)

/-- 'limewashlaw03.PathsRun', WHERE WHAT IT READS IS OF BULK AT MOST 1048576: true; the input reads as it did. -/
def pathsRunUptoRow : OpenClaim := { program := "ytgfmfeaapffdfaadoor", sum := "596d90a4b316dff42c584c1fc73dd583a5229b4c810b722c91702c17bc2ebdd0", func := "limewash/limewashlaw03.PathsRun", spec := "pathsRun", inPlace := ["internal/bytealg.CountString", "internal/bytealg.IndexByteString", "internal/bytealg.IndexString", "internal/abi.NoEscape", "internal/bytealg.MakeNoZero", "internal/bytealg.Compare"], unfollowed := true, recurses := true, named := ["unicode/utf8.first", "unicode/utf8.acceptRanges", "internal/bytealg.MaxLen"], apart := false, laid := [("unicode/utf8.acceptRanges", laid_unicode_utf8_acceptRanges), ("unicode/utf8.first", laid_unicode_utf8_first)], narrowed := true }
def PathsRunUptoSaid : Prop := pathsRunUptoRow.holds Tryd.pinned (OpenSpec.upto pathsRunSpec)

/-- 'limewashlaw03.PathsMoves', WHERE WHAT IT READS IS OF BULK AT MOST 1048576: true; the input reads as it did. -/
def pathsMovesUptoRow : OpenClaim := { program := "ytgfmfeaapffdfaadoor", sum := "596d90a4b316dff42c584c1fc73dd583a5229b4c810b722c91702c17bc2ebdd0", func := "limewash/limewashlaw03.PathsMoves", spec := "pathsMoves", inPlace := ["internal/bytealg.CountString", "internal/bytealg.IndexByteString", "internal/bytealg.IndexString", "internal/abi.NoEscape", "internal/bytealg.MakeNoZero", "internal/bytealg.Compare"], unfollowed := true, recurses := true, named := ["unicode/utf8.first", "unicode/utf8.acceptRanges", "internal/bytealg.MaxLen"], apart := false, laid := [("unicode/utf8.acceptRanges", laid_unicode_utf8_acceptRanges), ("unicode/utf8.first", laid_unicode_utf8_first)], narrowed := true }
def PathsMovesUptoSaid : Prop := pathsMovesUptoRow.holds Tryd.pinned (OpenSpec.upto pathsMovesSpec)

end Rows
end Go.Proofs.YtgfmfeaapffdfaaDoor
