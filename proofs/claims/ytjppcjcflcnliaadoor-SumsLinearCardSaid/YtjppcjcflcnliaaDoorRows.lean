/-
  NARROWER THAN 'FOR EVERY INPUT', by the rows' own cells (each row's printed sentence says how): SumsCrc: laid · SumsZeros: laid · SumsPatch: laid · SumsLocate: laid · SumsFound: laid · SumsMixes: laid · SumsBursts: laid · SumsParts: laid · SumsLinear: laid · SumsKnown: laid.
  DERIVED. THE GIVEN ROWS OF THIS SEAT. 10 by the template 'for every input the law returns true; each argument reads behind the call as it read before'; 0 by the template 'total and deterministic' (their statements: YtjppcjcflcnliaaDoorTotals.lean).
  GIVEN WITH THE SEED: the statements are not yours to turn. If you find one false, say at which input.
  Laid BY PROGRAM, IN A SANDBOX (cutbox-rows.mjs): the forced cells as the released guide's own fill.sh prints them over the translation 807bf353fd8559f4… (all of the seat's roots in one cut). By AI agents, Wed Nov 11 2026. No macro, syntax, notation, axiom, sorry.
-/
import Derived.Test.YtjppcjcflcnliaaDoorChecked
import GoSem.Claim
import GoSem.ClaimJoined
import GoSem.ClaimMapViews
import Derived.JoinedTies
import Derived.KernelRfl
namespace Go.Proofs.YtjppcjcflcnliaaDoor
/- THE CELL 'sum', in the pinned program and in every row, IS THE sha256 OF THE DUMP (.gsa) THAT YtjppcjcflcnliaaDoorProg.lean LOADS. Nothing in Lean hashes anything: it is a label: what it is worth is what the hold of that sum in a sandbox is worth. -/
noncomputable def Tryd.pinned : Pinned := { name := "ytjppcjcflcnliaadoor", sum := "807bf353fd8559f46dcfb90ca086111c7a137b20c0a0744f3cea9cc54dffa623", checked := Tryd.checked }
namespace Rows
def none {H : Type} : Left H := { results := [], args := [] }

/- WHAT THE LISTED PACKAGE-LEVEL VARIABLES READ AS WHEN THE CALL BEGINS. Each datum BY PROGRAM (the guide's laid-datum.mjs) off the statement by which the dump's own 'gosem.cut.vars' lays the variable. In a bare row this is a premise. The card (YtjppcjcflcnliaaDoorCards.lean) ties it to the program's text. -/
def laid_limewash_sums_halfByte {H : Type} : DataW H := .agg [.lit (.int .u32 0), .lit (.int .u32 498536548), .lit (.int .u32 997073096), .lit (.int .u32 651767980), .lit (.int .u32 1994146192), .lit (.int .u32 1802195444), .lit (.int .u32 1303535960), .lit (.int .u32 1342533948), .lit (.int .u32 3988292384), .lit (.int .u32 4027552580), .lit (.int .u32 3604390888), .lit (.int .u32 3412177804), .lit (.int .u32 2607071920), .lit (.int .u32 2262029012), .lit (.int .u32 2685067896), .lit (.int .u32 3183342108)]

/-- 'limewashlaw04.SumsCrc': WHATEVER THE INPUT: true; the input reads as it did. -/
def sumsCrcSpec : ChangeSpec := { name := "sumsCrc", fn := fun _ => fun
  | [d1, d2] => { results := [.lit (.bool true)], args := [d1, d2] }
  | _ => none }
def sumsCrcRow : OpenClaim := { program := "ytjppcjcflcnliaadoor", sum := "807bf353fd8559f46dcfb90ca086111c7a137b20c0a0744f3cea9cc54dffa623", func := "limewash/limewashlaw04.SumsCrc", spec := "sumsCrc", unfollowed := true, recurses := true, named := ["limewash/sums.halfByte"], apart := false, laid := [("limewash/sums.halfByte", laid_limewash_sums_halfByte)] }
def SumsCrcSaid : Prop := sumsCrcRow.holds Tryd.pinned (OpenSpec.ofChange sumsCrcSpec)

/-- ITS FALSE NEIGHBOUR: 'it returns false'. Refute it at one input. -/
def sumsCrcWrong : ChangeSpec := { name := "sumsCrc", fn := fun _ => fun
  | [d1, d2] => { results := [.lit (.bool false)], args := [d1, d2] }
  | _ => none }
def SumsCrcWrongFalsely : Prop := sumsCrcRow.holds Tryd.pinned (OpenSpec.ofChange sumsCrcWrong)

/-- 'limewashlaw04.SumsZeros': WHATEVER THE INPUT: true; the input reads as it did. -/
def sumsZerosSpec : ChangeSpec := { name := "sumsZeros", fn := fun _ => fun
  | [d1, d2, d3] => { results := [.lit (.bool true)], args := [d1, d2, d3] }
  | _ => none }
def sumsZerosRow : OpenClaim := { program := "ytjppcjcflcnliaadoor", sum := "807bf353fd8559f46dcfb90ca086111c7a137b20c0a0744f3cea9cc54dffa623", func := "limewash/limewashlaw04.SumsZeros", spec := "sumsZeros", unfollowed := true, recurses := true, named := ["limewash/sums.halfByte"], apart := false, laid := [("limewash/sums.halfByte", laid_limewash_sums_halfByte)] }
def SumsZerosSaid : Prop := sumsZerosRow.holds Tryd.pinned (OpenSpec.ofChange sumsZerosSpec)

/-- ITS FALSE NEIGHBOUR: 'it returns false'. Refute it at one input. -/
def sumsZerosWrong : ChangeSpec := { name := "sumsZeros", fn := fun _ => fun
  | [d1, d2, d3] => { results := [.lit (.bool false)], args := [d1, d2, d3] }
  | _ => none }
def SumsZerosWrongFalsely : Prop := sumsZerosRow.holds Tryd.pinned (OpenSpec.ofChange sumsZerosWrong)

/-- 'limewashlaw04.SumsPatch': WHATEVER THE INPUT: true; the input reads as it did. -/
def sumsPatchSpec : ChangeSpec := { name := "sumsPatch", fn := fun _ => fun
  | [d1, d2, d3] => { results := [.lit (.bool true)], args := [d1, d2, d3] }
  | _ => none }
def sumsPatchRow : OpenClaim := { program := "ytjppcjcflcnliaadoor", sum := "807bf353fd8559f46dcfb90ca086111c7a137b20c0a0744f3cea9cc54dffa623", func := "limewash/limewashlaw04.SumsPatch", spec := "sumsPatch", unfollowed := true, recurses := true, named := ["limewash/sums.halfByte"], apart := false, laid := [("limewash/sums.halfByte", laid_limewash_sums_halfByte)] }
def SumsPatchSaid : Prop := sumsPatchRow.holds Tryd.pinned (OpenSpec.ofChange sumsPatchSpec)

/-- ITS FALSE NEIGHBOUR: 'it returns false'. Refute it at one input. -/
def sumsPatchWrong : ChangeSpec := { name := "sumsPatch", fn := fun _ => fun
  | [d1, d2, d3] => { results := [.lit (.bool false)], args := [d1, d2, d3] }
  | _ => none }
def SumsPatchWrongFalsely : Prop := sumsPatchRow.holds Tryd.pinned (OpenSpec.ofChange sumsPatchWrong)

/-- 'limewashlaw04.SumsLocate': WHATEVER THE INPUT: true; the input reads as it did. -/
def sumsLocateSpec : ChangeSpec := { name := "sumsLocate", fn := fun _ => fun
  | [d1, d2] => { results := [.lit (.bool true)], args := [d1, d2] }
  | _ => none }
def sumsLocateRow : OpenClaim := { program := "ytjppcjcflcnliaadoor", sum := "807bf353fd8559f46dcfb90ca086111c7a137b20c0a0744f3cea9cc54dffa623", func := "limewash/limewashlaw04.SumsLocate", spec := "sumsLocate", unfollowed := true, recurses := true, named := ["limewash/sums.halfByte"], apart := false, laid := [("limewash/sums.halfByte", laid_limewash_sums_halfByte)] }
def SumsLocateSaid : Prop := sumsLocateRow.holds Tryd.pinned (OpenSpec.ofChange sumsLocateSpec)

/-- ITS FALSE NEIGHBOUR: 'it returns false'. Refute it at one input. -/
def sumsLocateWrong : ChangeSpec := { name := "sumsLocate", fn := fun _ => fun
  | [d1, d2] => { results := [.lit (.bool false)], args := [d1, d2] }
  | _ => none }
def SumsLocateWrongFalsely : Prop := sumsLocateRow.holds Tryd.pinned (OpenSpec.ofChange sumsLocateWrong)

/-- 'limewashlaw04.SumsFound': WHATEVER THE INPUT: true; the input reads as it did. -/
def sumsFoundSpec : ChangeSpec := { name := "sumsFound", fn := fun _ => fun
  | [d1, d2, d3] => { results := [.lit (.bool true)], args := [d1, d2, d3] }
  | _ => none }
def sumsFoundRow : OpenClaim := { program := "ytjppcjcflcnliaadoor", sum := "807bf353fd8559f46dcfb90ca086111c7a137b20c0a0744f3cea9cc54dffa623", func := "limewash/limewashlaw04.SumsFound", spec := "sumsFound", unfollowed := true, recurses := true, named := ["limewash/sums.halfByte"], apart := false, laid := [("limewash/sums.halfByte", laid_limewash_sums_halfByte)] }
def SumsFoundSaid : Prop := sumsFoundRow.holds Tryd.pinned (OpenSpec.ofChange sumsFoundSpec)

/-- ITS FALSE NEIGHBOUR: 'it returns false'. Refute it at one input. -/
def sumsFoundWrong : ChangeSpec := { name := "sumsFound", fn := fun _ => fun
  | [d1, d2, d3] => { results := [.lit (.bool false)], args := [d1, d2, d3] }
  | _ => none }
def SumsFoundWrongFalsely : Prop := sumsFoundRow.holds Tryd.pinned (OpenSpec.ofChange sumsFoundWrong)

/-- 'limewashlaw04.SumsMixes': WHATEVER THE INPUT: true; the input reads as it did. -/
def sumsMixesSpec : ChangeSpec := { name := "sumsMixes", fn := fun _ => fun
  | [d1, d2, d3] => { results := [.lit (.bool true)], args := [d1, d2, d3] }
  | _ => none }
def sumsMixesRow : OpenClaim := { program := "ytjppcjcflcnliaadoor", sum := "807bf353fd8559f46dcfb90ca086111c7a137b20c0a0744f3cea9cc54dffa623", func := "limewash/limewashlaw04.SumsMixes", spec := "sumsMixes", unfollowed := true, recurses := true, named := ["limewash/sums.halfByte"], apart := false, laid := [("limewash/sums.halfByte", laid_limewash_sums_halfByte)] }
def SumsMixesSaid : Prop := sumsMixesRow.holds Tryd.pinned (OpenSpec.ofChange sumsMixesSpec)

/-- ITS FALSE NEIGHBOUR: 'it returns false'. Refute it at one input. -/
def sumsMixesWrong : ChangeSpec := { name := "sumsMixes", fn := fun _ => fun
  | [d1, d2, d3] => { results := [.lit (.bool false)], args := [d1, d2, d3] }
  | _ => none }
def SumsMixesWrongFalsely : Prop := sumsMixesRow.holds Tryd.pinned (OpenSpec.ofChange sumsMixesWrong)

/-- 'limewashlaw04.SumsBursts': WHATEVER THE INPUT: true; the input reads as it did. -/
def sumsBurstsSpec : ChangeSpec := { name := "sumsBursts", fn := fun _ => fun
  | [d1, d2, d3] => { results := [.lit (.bool true)], args := [d1, d2, d3] }
  | _ => none }
def sumsBurstsRow : OpenClaim := { program := "ytjppcjcflcnliaadoor", sum := "807bf353fd8559f46dcfb90ca086111c7a137b20c0a0744f3cea9cc54dffa623", func := "limewash/limewashlaw04.SumsBursts", spec := "sumsBursts", unfollowed := true, recurses := true, named := ["limewash/sums.halfByte"], apart := false, laid := [("limewash/sums.halfByte", laid_limewash_sums_halfByte)] }
def SumsBurstsSaid : Prop := sumsBurstsRow.holds Tryd.pinned (OpenSpec.ofChange sumsBurstsSpec)

/-- ITS FALSE NEIGHBOUR: 'it returns false'. Refute it at one input. -/
def sumsBurstsWrong : ChangeSpec := { name := "sumsBursts", fn := fun _ => fun
  | [d1, d2, d3] => { results := [.lit (.bool false)], args := [d1, d2, d3] }
  | _ => none }
def SumsBurstsWrongFalsely : Prop := sumsBurstsRow.holds Tryd.pinned (OpenSpec.ofChange sumsBurstsWrong)

/-- 'limewashlaw04.SumsParts': WHATEVER THE INPUT: true; the input reads as it did. -/
def sumsPartsSpec : ChangeSpec := { name := "sumsParts", fn := fun _ => fun
  | [d1, d2, d3] => { results := [.lit (.bool true)], args := [d1, d2, d3] }
  | _ => none }
def sumsPartsRow : OpenClaim := { program := "ytjppcjcflcnliaadoor", sum := "807bf353fd8559f46dcfb90ca086111c7a137b20c0a0744f3cea9cc54dffa623", func := "limewash/limewashlaw04.SumsParts", spec := "sumsParts", unfollowed := true, recurses := true, named := ["limewash/sums.halfByte"], apart := false, laid := [("limewash/sums.halfByte", laid_limewash_sums_halfByte)] }
def SumsPartsSaid : Prop := sumsPartsRow.holds Tryd.pinned (OpenSpec.ofChange sumsPartsSpec)

/-- ITS FALSE NEIGHBOUR: 'it returns false'. Refute it at one input. -/
def sumsPartsWrong : ChangeSpec := { name := "sumsParts", fn := fun _ => fun
  | [d1, d2, d3] => { results := [.lit (.bool false)], args := [d1, d2, d3] }
  | _ => none }
def SumsPartsWrongFalsely : Prop := sumsPartsRow.holds Tryd.pinned (OpenSpec.ofChange sumsPartsWrong)

/-- 'limewashlaw04.SumsLinear': WHATEVER THE INPUT: true; the input reads as it did. -/
def sumsLinearSpec : ChangeSpec := { name := "sumsLinear", fn := fun _ => fun
  | [d1, d2, d3] => { results := [.lit (.bool true)], args := [d1, d2, d3] }
  | _ => none }
def sumsLinearRow : OpenClaim := { program := "ytjppcjcflcnliaadoor", sum := "807bf353fd8559f46dcfb90ca086111c7a137b20c0a0744f3cea9cc54dffa623", func := "limewash/limewashlaw04.SumsLinear", spec := "sumsLinear", unfollowed := true, recurses := true, named := ["limewash/sums.halfByte"], apart := false, laid := [("limewash/sums.halfByte", laid_limewash_sums_halfByte)] }
def SumsLinearSaid : Prop := sumsLinearRow.holds Tryd.pinned (OpenSpec.ofChange sumsLinearSpec)

/-- ITS FALSE NEIGHBOUR: 'it returns false'. Refute it at one input. -/
def sumsLinearWrong : ChangeSpec := { name := "sumsLinear", fn := fun _ => fun
  | [d1, d2, d3] => { results := [.lit (.bool false)], args := [d1, d2, d3] }
  | _ => none }
def SumsLinearWrongFalsely : Prop := sumsLinearRow.holds Tryd.pinned (OpenSpec.ofChange sumsLinearWrong)

/-- 'limewashlaw04.SumsKnown': WHATEVER THE INPUT: true; the input reads as it did. -/
def sumsKnownSpec : ChangeSpec := { name := "sumsKnown", fn := fun _ => fun
  | [] => { results := [.lit (.bool true)], args := [] }
  | _ => none }
def sumsKnownRow : OpenClaim := { program := "ytjppcjcflcnliaadoor", sum := "807bf353fd8559f46dcfb90ca086111c7a137b20c0a0744f3cea9cc54dffa623", func := "limewash/limewashlaw04.SumsKnown", spec := "sumsKnown", unfollowed := true, recurses := true, named := ["limewash/sums.halfByte"], apart := false, laid := [("limewash/sums.halfByte", laid_limewash_sums_halfByte)] }
def SumsKnownSaid : Prop := sumsKnownRow.holds Tryd.pinned (OpenSpec.ofChange sumsKnownSpec)

/-- ITS FALSE NEIGHBOUR: 'it returns false'. Refute it at one input. -/
def sumsKnownWrong : ChangeSpec := { name := "sumsKnown", fn := fun _ => fun
  | [] => { results := [.lit (.bool false)], args := [] }
  | _ => none }
def SumsKnownWrongFalsely : Prop := sumsKnownRow.holds Tryd.pinned (OpenSpec.ofChange sumsKnownWrong)

/- THE SECOND FORM. 'bulk': how many values and letters a reading holds, each counted each time it is reached (what is shared counts as often as it is met; a slice's spare places count too). A statement '..UptoSaid' is the law's where the arguments, and the package variables that the reading takes, are together of bulk at most 1048576: NARROWER than '..Said'. Prove '..Said' where nothing that the law and all that it calls make is longer than what came in: it says more and counts as full. Else prove '..UptoSaid'. A law counts once. -/
mutual
def uptoBulk {H : Type} : DataW H → Nat
  | .lit (.string bytes) => bytes.length + 1
  | .lit _ => 1
  | .nil => 1
  | .ptr d => uptoBulk d + 1
  | .slice elems spare => uptoBulkAll elems + uptoBulkAll spare + 1
  | .agg parts => uptoBulkAll parts + 1
  | .iface _ d => uptoBulk d + 1
  | .map entries => uptoBulkEntries entries + 1
  | .held _ => 1
def uptoBulkAll {H : Type} : List (DataW H) → Nat
  | [] => 0
  | d :: r => uptoBulk d + uptoBulkAll r
def uptoBulkEntries {H : Type} : List (Lit × DataW H) → Nat
  | [] => 0
  | x :: r => uptoBulkEntry x + uptoBulkEntries r
def uptoBulkEntry {H : Type} : Lit × DataW H → Nat
  | (.string bytes, d) => bytes.length + uptoBulk d + 1
  | (_, d) => uptoBulk d + 1
 end
def uptoSmall : (H : Type) → List (DataW H) → Bool := fun _ ds => decide (uptoBulkAll ds ≤ 1048576)
def OpenSpec.upto (s : _root_.Go.ChangeSpec) : _root_.Go.OpenSpec := { _root_.Go.OpenSpec.ofChange s with cond := some uptoSmall }

/-- 'limewashlaw04.SumsCrc', WHERE WHAT IT READS IS OF BULK AT MOST 1048576: true; the input reads as it did. -/
def sumsCrcUptoRow : OpenClaim := { program := "ytjppcjcflcnliaadoor", sum := "807bf353fd8559f46dcfb90ca086111c7a137b20c0a0744f3cea9cc54dffa623", func := "limewash/limewashlaw04.SumsCrc", spec := "sumsCrc", unfollowed := true, recurses := true, named := ["limewash/sums.halfByte"], apart := false, laid := [("limewash/sums.halfByte", laid_limewash_sums_halfByte)], narrowed := true }
def SumsCrcUptoSaid : Prop := sumsCrcUptoRow.holds Tryd.pinned (OpenSpec.upto sumsCrcSpec)

/-- 'limewashlaw04.SumsZeros', WHERE WHAT IT READS IS OF BULK AT MOST 1048576: true; the input reads as it did. -/
def sumsZerosUptoRow : OpenClaim := { program := "ytjppcjcflcnliaadoor", sum := "807bf353fd8559f46dcfb90ca086111c7a137b20c0a0744f3cea9cc54dffa623", func := "limewash/limewashlaw04.SumsZeros", spec := "sumsZeros", unfollowed := true, recurses := true, named := ["limewash/sums.halfByte"], apart := false, laid := [("limewash/sums.halfByte", laid_limewash_sums_halfByte)], narrowed := true }
def SumsZerosUptoSaid : Prop := sumsZerosUptoRow.holds Tryd.pinned (OpenSpec.upto sumsZerosSpec)

/-- 'limewashlaw04.SumsPatch', WHERE WHAT IT READS IS OF BULK AT MOST 1048576: true; the input reads as it did. -/
def sumsPatchUptoRow : OpenClaim := { program := "ytjppcjcflcnliaadoor", sum := "807bf353fd8559f46dcfb90ca086111c7a137b20c0a0744f3cea9cc54dffa623", func := "limewash/limewashlaw04.SumsPatch", spec := "sumsPatch", unfollowed := true, recurses := true, named := ["limewash/sums.halfByte"], apart := false, laid := [("limewash/sums.halfByte", laid_limewash_sums_halfByte)], narrowed := true }
def SumsPatchUptoSaid : Prop := sumsPatchUptoRow.holds Tryd.pinned (OpenSpec.upto sumsPatchSpec)

/-- 'limewashlaw04.SumsLocate', WHERE WHAT IT READS IS OF BULK AT MOST 1048576: true; the input reads as it did. -/
def sumsLocateUptoRow : OpenClaim := { program := "ytjppcjcflcnliaadoor", sum := "807bf353fd8559f46dcfb90ca086111c7a137b20c0a0744f3cea9cc54dffa623", func := "limewash/limewashlaw04.SumsLocate", spec := "sumsLocate", unfollowed := true, recurses := true, named := ["limewash/sums.halfByte"], apart := false, laid := [("limewash/sums.halfByte", laid_limewash_sums_halfByte)], narrowed := true }
def SumsLocateUptoSaid : Prop := sumsLocateUptoRow.holds Tryd.pinned (OpenSpec.upto sumsLocateSpec)

/-- 'limewashlaw04.SumsFound', WHERE WHAT IT READS IS OF BULK AT MOST 1048576: true; the input reads as it did. -/
def sumsFoundUptoRow : OpenClaim := { program := "ytjppcjcflcnliaadoor", sum := "807bf353fd8559f46dcfb90ca086111c7a137b20c0a0744f3cea9cc54dffa623", func := "limewash/limewashlaw04.SumsFound", spec := "sumsFound", unfollowed := true, recurses := true, named := ["limewash/sums.halfByte"], apart := false, laid := [("limewash/sums.halfByte", laid_limewash_sums_halfByte)], narrowed := true }
def SumsFoundUptoSaid : Prop := sumsFoundUptoRow.holds Tryd.pinned (OpenSpec.upto sumsFoundSpec)

/-- 'limewashlaw04.SumsMixes', WHERE WHAT IT READS IS OF BULK AT MOST 1048576: true; the input reads as it did. -/
def sumsMixesUptoRow : OpenClaim := { program := "ytjppcjcflcnliaadoor", sum := "807bf353fd8559f46dcfb90ca086111c7a137b20c0a0744f3cea9cc54dffa623", func := "limewash/limewashlaw04.SumsMixes", spec := "sumsMixes", unfollowed := true, recurses := true, named := ["limewash/sums.halfByte"], apart := false, laid := [("limewash/sums.halfByte", laid_limewash_sums_halfByte)], narrowed := true }
def SumsMixesUptoSaid : Prop := sumsMixesUptoRow.holds Tryd.pinned (OpenSpec.upto sumsMixesSpec)

/-- 'limewashlaw04.SumsBursts', WHERE WHAT IT READS IS OF BULK AT MOST 1048576: true; the input reads as it did. -/
def sumsBurstsUptoRow : OpenClaim := { program := "ytjppcjcflcnliaadoor", sum := "807bf353fd8559f46dcfb90ca086111c7a137b20c0a0744f3cea9cc54dffa623", func := "limewash/limewashlaw04.SumsBursts", spec := "sumsBursts", unfollowed := true, recurses := true, named := ["limewash/sums.halfByte"], apart := false, laid := [("limewash/sums.halfByte", laid_limewash_sums_halfByte)], narrowed := true }
def SumsBurstsUptoSaid : Prop := sumsBurstsUptoRow.holds Tryd.pinned (OpenSpec.upto sumsBurstsSpec)

/-- 'limewashlaw04.SumsParts', WHERE WHAT IT READS IS OF BULK AT MOST 1048576: true; the input reads as it did. -/
def sumsPartsUptoRow : OpenClaim := { program := "ytjppcjcflcnliaadoor", sum := "807bf353fd8559f46dcfb90ca086111c7a137b20c0a0744f3cea9cc54dffa623", func := "limewash/limewashlaw04.SumsParts", spec := "sumsParts", unfollowed := true, recurses := true, named := ["limewash/sums.halfByte"], apart := false, laid := [("limewash/sums.halfByte", laid_limewash_sums_halfByte)], narrowed := true }
def SumsPartsUptoSaid : Prop := sumsPartsUptoRow.holds Tryd.pinned (OpenSpec.upto sumsPartsSpec)

/-- 'limewashlaw04.SumsLinear', WHERE WHAT IT READS IS OF BULK AT MOST 1048576: true; the input reads as it did. -/
def sumsLinearUptoRow : OpenClaim := { program := "ytjppcjcflcnliaadoor", sum := "807bf353fd8559f46dcfb90ca086111c7a137b20c0a0744f3cea9cc54dffa623", func := "limewash/limewashlaw04.SumsLinear", spec := "sumsLinear", unfollowed := true, recurses := true, named := ["limewash/sums.halfByte"], apart := false, laid := [("limewash/sums.halfByte", laid_limewash_sums_halfByte)], narrowed := true }
def SumsLinearUptoSaid : Prop := sumsLinearUptoRow.holds Tryd.pinned (OpenSpec.upto sumsLinearSpec)

/-- 'limewashlaw04.SumsKnown', WHERE WHAT IT READS IS OF BULK AT MOST 1048576: true; the input reads as it did. -/
def sumsKnownUptoRow : OpenClaim := { program := "ytjppcjcflcnliaadoor", sum := "807bf353fd8559f46dcfb90ca086111c7a137b20c0a0744f3cea9cc54dffa623", func := "limewash/limewashlaw04.SumsKnown", spec := "sumsKnown", unfollowed := true, recurses := true, named := ["limewash/sums.halfByte"], apart := false, laid := [("limewash/sums.halfByte", laid_limewash_sums_halfByte)], narrowed := true }
def SumsKnownUptoSaid : Prop := sumsKnownUptoRow.holds Tryd.pinned (OpenSpec.upto sumsKnownSpec)

end Rows
end Go.Proofs.YtjppcjcflcnliaaDoor
