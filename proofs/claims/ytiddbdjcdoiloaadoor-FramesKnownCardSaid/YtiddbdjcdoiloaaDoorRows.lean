/-
  NARROWER THAN 'FOR EVERY INPUT', by the rows' own cells (each row's printed sentence says how): RecordsSeals: laid · RecordsSealed: laid · FramesSeals: laid · FramesOpens: laid · FramesBack: laid · FramesPlace: laid · FramesBursts: laid · FramesDevices: laid · FramesKnown: laid.
  DERIVED. THE GIVEN ROWS OF THIS SEAT. 9 by the template 'for every input the law returns true; each argument reads behind the call as it read before'; 0 by the template 'total and deterministic' (their statements: YtiddbdjcdoiloaaDoorTotals.lean).
  GIVEN WITH THE SEED: the statements are not yours to turn. If you find one false, say at which input.
  Laid BY PROGRAM, IN A SANDBOX (cutbox-rows.mjs): the forced cells as the released guide's own fill.sh prints them over the translation 63dcac0cae52e8bb… (all of the seat's roots in one cut). By AI agents, Wed Nov 11 2026. No macro, syntax, notation, axiom, sorry.
-/
import Derived.Test.YtiddbdjcdoiloaaDoorChecked
import GoSem.Claim
import GoSem.ClaimJoined
import GoSem.ClaimMapViews
import Derived.JoinedTies
import Derived.KernelRfl
namespace Go.Proofs.YtiddbdjcdoiloaaDoor
/- THE CELL 'sum', in the pinned program and in every row, IS THE sha256 OF THE DUMP (.gsa) THAT YtiddbdjcdoiloaaDoorProg.lean LOADS. Nothing in Lean hashes anything: it is a label: what it is worth is what the hold of that sum in a sandbox is worth. -/
noncomputable def Tryd.pinned : Pinned := { name := "ytiddbdjcdoiloaadoor", sum := "63dcac0cae52e8bbd0815d9618c48c8609e6471b973d1fc4d72efed0fbe4345b", checked := Tryd.checked }
namespace Rows
def none {H : Type} : Left H := { results := [], args := [] }

/- WHAT THE LISTED PACKAGE-LEVEL VARIABLES READ AS WHEN THE CALL BEGINS. Each datum BY PROGRAM (the guide's laid-datum.mjs) off the statement by which the dump's own 'gosem.cut.vars' lays the variable. In a bare row this is a premise. The card (YtiddbdjcdoiloaaDoorCards.lean) ties it to the program's text. -/
def laid_limewash_sums_halfByte {H : Type} : DataW H := .agg [.lit (.int .u32 0), .lit (.int .u32 498536548), .lit (.int .u32 997073096), .lit (.int .u32 651767980), .lit (.int .u32 1994146192), .lit (.int .u32 1802195444), .lit (.int .u32 1303535960), .lit (.int .u32 1342533948), .lit (.int .u32 3988292384), .lit (.int .u32 4027552580), .lit (.int .u32 3604390888), .lit (.int .u32 3412177804), .lit (.int .u32 2607071920), .lit (.int .u32 2262029012), .lit (.int .u32 2685067896), .lit (.int .u32 3183342108)]

/-- 'limewashlaw05.RecordsSeals': WHATEVER THE INPUT: true; the input reads as it did. -/
def recordsSealsSpec : ChangeSpec := { name := "recordsSeals", fn := fun _ => fun
  | [d1, d2] => { results := [.lit (.bool true)], args := [d1, d2] }
  | _ => none }
def recordsSealsRow : OpenClaim := { program := "ytiddbdjcdoiloaadoor", sum := "63dcac0cae52e8bbd0815d9618c48c8609e6471b973d1fc4d72efed0fbe4345b", func := "limewash/limewashlaw05.RecordsSeals", spec := "recordsSeals", unfollowed := true, recurses := true, named := ["limewash/sums.halfByte"], apart := false, laid := [("limewash/sums.halfByte", laid_limewash_sums_halfByte)] }
def RecordsSealsSaid : Prop := recordsSealsRow.holds Tryd.pinned (OpenSpec.ofChange recordsSealsSpec)

/-- ITS FALSE NEIGHBOUR: 'it returns false'. Refute it at one input. -/
def recordsSealsWrong : ChangeSpec := { name := "recordsSeals", fn := fun _ => fun
  | [d1, d2] => { results := [.lit (.bool false)], args := [d1, d2] }
  | _ => none }
def RecordsSealsWrongFalsely : Prop := recordsSealsRow.holds Tryd.pinned (OpenSpec.ofChange recordsSealsWrong)

/-- 'limewashlaw05.RecordsSealed': WHATEVER THE INPUT: true; the input reads as it did. -/
def recordsSealedSpec : ChangeSpec := { name := "recordsSealed", fn := fun _ => fun
  | [d1, d2, d3] => { results := [.lit (.bool true)], args := [d1, d2, d3] }
  | _ => none }
def recordsSealedRow : OpenClaim := { program := "ytiddbdjcdoiloaadoor", sum := "63dcac0cae52e8bbd0815d9618c48c8609e6471b973d1fc4d72efed0fbe4345b", func := "limewash/limewashlaw05.RecordsSealed", spec := "recordsSealed", unfollowed := true, recurses := true, named := ["limewash/sums.halfByte"], apart := false, laid := [("limewash/sums.halfByte", laid_limewash_sums_halfByte)] }
def RecordsSealedSaid : Prop := recordsSealedRow.holds Tryd.pinned (OpenSpec.ofChange recordsSealedSpec)

/-- ITS FALSE NEIGHBOUR: 'it returns false'. Refute it at one input. -/
def recordsSealedWrong : ChangeSpec := { name := "recordsSealed", fn := fun _ => fun
  | [d1, d2, d3] => { results := [.lit (.bool false)], args := [d1, d2, d3] }
  | _ => none }
def RecordsSealedWrongFalsely : Prop := recordsSealedRow.holds Tryd.pinned (OpenSpec.ofChange recordsSealedWrong)

/-- 'limewashlaw07.FramesSeals': WHATEVER THE INPUT: true; the input reads as it did. -/
def framesSealsSpec : ChangeSpec := { name := "framesSeals", fn := fun _ => fun
  | [d1, d2, d3] => { results := [.lit (.bool true)], args := [d1, d2, d3] }
  | _ => none }
def framesSealsRow : OpenClaim := { program := "ytiddbdjcdoiloaadoor", sum := "63dcac0cae52e8bbd0815d9618c48c8609e6471b973d1fc4d72efed0fbe4345b", func := "limewash/limewashlaw07.FramesSeals", spec := "framesSeals", unfollowed := true, recurses := true, named := ["limewash/sums.halfByte"], apart := false, laid := [("limewash/sums.halfByte", laid_limewash_sums_halfByte)] }
def FramesSealsSaid : Prop := framesSealsRow.holds Tryd.pinned (OpenSpec.ofChange framesSealsSpec)

/-- ITS FALSE NEIGHBOUR: 'it returns false'. Refute it at one input. -/
def framesSealsWrong : ChangeSpec := { name := "framesSeals", fn := fun _ => fun
  | [d1, d2, d3] => { results := [.lit (.bool false)], args := [d1, d2, d3] }
  | _ => none }
def FramesSealsWrongFalsely : Prop := framesSealsRow.holds Tryd.pinned (OpenSpec.ofChange framesSealsWrong)

/-- 'limewashlaw07.FramesOpens': WHATEVER THE INPUT: true; the input reads as it did. -/
def framesOpensSpec : ChangeSpec := { name := "framesOpens", fn := fun _ => fun
  | [d1, d2] => { results := [.lit (.bool true)], args := [d1, d2] }
  | _ => none }
def framesOpensRow : OpenClaim := { program := "ytiddbdjcdoiloaadoor", sum := "63dcac0cae52e8bbd0815d9618c48c8609e6471b973d1fc4d72efed0fbe4345b", func := "limewash/limewashlaw07.FramesOpens", spec := "framesOpens", unfollowed := true, recurses := true, named := ["limewash/sums.halfByte"], apart := false, laid := [("limewash/sums.halfByte", laid_limewash_sums_halfByte)] }
def FramesOpensSaid : Prop := framesOpensRow.holds Tryd.pinned (OpenSpec.ofChange framesOpensSpec)

/-- ITS FALSE NEIGHBOUR: 'it returns false'. Refute it at one input. -/
def framesOpensWrong : ChangeSpec := { name := "framesOpens", fn := fun _ => fun
  | [d1, d2] => { results := [.lit (.bool false)], args := [d1, d2] }
  | _ => none }
def FramesOpensWrongFalsely : Prop := framesOpensRow.holds Tryd.pinned (OpenSpec.ofChange framesOpensWrong)

/-- 'limewashlaw07.FramesBack': WHATEVER THE INPUT: true; the input reads as it did. -/
def framesBackSpec : ChangeSpec := { name := "framesBack", fn := fun _ => fun
  | [d1, d2] => { results := [.lit (.bool true)], args := [d1, d2] }
  | _ => none }
def framesBackRow : OpenClaim := { program := "ytiddbdjcdoiloaadoor", sum := "63dcac0cae52e8bbd0815d9618c48c8609e6471b973d1fc4d72efed0fbe4345b", func := "limewash/limewashlaw07.FramesBack", spec := "framesBack", unfollowed := true, recurses := true, named := ["limewash/sums.halfByte"], apart := false, laid := [("limewash/sums.halfByte", laid_limewash_sums_halfByte)] }
def FramesBackSaid : Prop := framesBackRow.holds Tryd.pinned (OpenSpec.ofChange framesBackSpec)

/-- ITS FALSE NEIGHBOUR: 'it returns false'. Refute it at one input. -/
def framesBackWrong : ChangeSpec := { name := "framesBack", fn := fun _ => fun
  | [d1, d2] => { results := [.lit (.bool false)], args := [d1, d2] }
  | _ => none }
def FramesBackWrongFalsely : Prop := framesBackRow.holds Tryd.pinned (OpenSpec.ofChange framesBackWrong)

/-- 'limewashlaw07.FramesPlace': WHATEVER THE INPUT: true; the input reads as it did. -/
def framesPlaceSpec : ChangeSpec := { name := "framesPlace", fn := fun _ => fun
  | [d1, d2] => { results := [.lit (.bool true)], args := [d1, d2] }
  | _ => none }
def framesPlaceRow : OpenClaim := { program := "ytiddbdjcdoiloaadoor", sum := "63dcac0cae52e8bbd0815d9618c48c8609e6471b973d1fc4d72efed0fbe4345b", func := "limewash/limewashlaw07.FramesPlace", spec := "framesPlace", unfollowed := true, recurses := true, named := ["limewash/sums.halfByte"], apart := false, laid := [("limewash/sums.halfByte", laid_limewash_sums_halfByte)] }
def FramesPlaceSaid : Prop := framesPlaceRow.holds Tryd.pinned (OpenSpec.ofChange framesPlaceSpec)

/-- ITS FALSE NEIGHBOUR: 'it returns false'. Refute it at one input. -/
def framesPlaceWrong : ChangeSpec := { name := "framesPlace", fn := fun _ => fun
  | [d1, d2] => { results := [.lit (.bool false)], args := [d1, d2] }
  | _ => none }
def FramesPlaceWrongFalsely : Prop := framesPlaceRow.holds Tryd.pinned (OpenSpec.ofChange framesPlaceWrong)

/-- 'limewashlaw07.FramesBursts': WHATEVER THE INPUT: true; the input reads as it did. -/
def framesBurstsSpec : ChangeSpec := { name := "framesBursts", fn := fun _ => fun
  | [d1, d2, d3] => { results := [.lit (.bool true)], args := [d1, d2, d3] }
  | _ => none }
def framesBurstsRow : OpenClaim := { program := "ytiddbdjcdoiloaadoor", sum := "63dcac0cae52e8bbd0815d9618c48c8609e6471b973d1fc4d72efed0fbe4345b", func := "limewash/limewashlaw07.FramesBursts", spec := "framesBursts", unfollowed := true, recurses := true, named := ["limewash/sums.halfByte"], apart := false, laid := [("limewash/sums.halfByte", laid_limewash_sums_halfByte)] }
def FramesBurstsSaid : Prop := framesBurstsRow.holds Tryd.pinned (OpenSpec.ofChange framesBurstsSpec)

/-- ITS FALSE NEIGHBOUR: 'it returns false'. Refute it at one input. -/
def framesBurstsWrong : ChangeSpec := { name := "framesBursts", fn := fun _ => fun
  | [d1, d2, d3] => { results := [.lit (.bool false)], args := [d1, d2, d3] }
  | _ => none }
def FramesBurstsWrongFalsely : Prop := framesBurstsRow.holds Tryd.pinned (OpenSpec.ofChange framesBurstsWrong)

/-- 'limewashlaw07.FramesDevices': WHATEVER THE INPUT: true; the input reads as it did. -/
def framesDevicesSpec : ChangeSpec := { name := "framesDevices", fn := fun _ => fun
  | [d] => { results := [.lit (.bool true)], args := [d] }
  | _ => none }
def framesDevicesRow : OpenClaim := { program := "ytiddbdjcdoiloaadoor", sum := "63dcac0cae52e8bbd0815d9618c48c8609e6471b973d1fc4d72efed0fbe4345b", func := "limewash/limewashlaw07.FramesDevices", spec := "framesDevices", unfollowed := true, recurses := true, named := ["limewash/sums.halfByte"], apart := false, laid := [("limewash/sums.halfByte", laid_limewash_sums_halfByte)] }
def FramesDevicesSaid : Prop := framesDevicesRow.holds Tryd.pinned (OpenSpec.ofChange framesDevicesSpec)

/-- ITS FALSE NEIGHBOUR: 'it returns false'. Refute it at one input. -/
def framesDevicesWrong : ChangeSpec := { name := "framesDevices", fn := fun _ => fun
  | [d] => { results := [.lit (.bool false)], args := [d] }
  | _ => none }
def FramesDevicesWrongFalsely : Prop := framesDevicesRow.holds Tryd.pinned (OpenSpec.ofChange framesDevicesWrong)

/-- 'limewashlaw07.FramesKnown': WHATEVER THE INPUT: true; the input reads as it did. -/
def framesKnownSpec : ChangeSpec := { name := "framesKnown", fn := fun _ => fun
  | [] => { results := [.lit (.bool true)], args := [] }
  | _ => none }
def framesKnownRow : OpenClaim := { program := "ytiddbdjcdoiloaadoor", sum := "63dcac0cae52e8bbd0815d9618c48c8609e6471b973d1fc4d72efed0fbe4345b", func := "limewash/limewashlaw07.FramesKnown", spec := "framesKnown", unfollowed := true, recurses := true, named := ["limewash/sums.halfByte"], apart := false, laid := [("limewash/sums.halfByte", laid_limewash_sums_halfByte)] }
def FramesKnownSaid : Prop := framesKnownRow.holds Tryd.pinned (OpenSpec.ofChange framesKnownSpec)

/-- ITS FALSE NEIGHBOUR: 'it returns false'. Refute it at one input. -/
def framesKnownWrong : ChangeSpec := { name := "framesKnown", fn := fun _ => fun
  | [] => { results := [.lit (.bool false)], args := [] }
  | _ => none }
def FramesKnownWrongFalsely : Prop := framesKnownRow.holds Tryd.pinned (OpenSpec.ofChange framesKnownWrong)

/- THE SECOND FORM. 'bulk': how many values and letters a reading holds, each counted each time it is reached (what is shared counts as often as it is met; a slice's spare places count too). A statement '..UptoSaid' is the law's where the arguments, and the package variables that the reading takes, are together of bulk at most 1048576: NARROWER than '..Said'. Prove '..Said' where nothing that the law and all that it calls make is longer than what came in: it says more and counts as full. Else prove '..UptoSaid'. A law counts once. -/
mutual
def uptoBulk {H : Type} : DataW H → Nat
  | .lit (.string bytes) => bytes.length + 1
  | .lit _ => 1
  | .nil => 1
  | .ptr d => uptoBulk d + 1
  | .slice elems spare => uptoBulkAll elems + uptoBulkAll spare + 1
  | .agg parts => uptoBulkAll parts + 1
  | .iface _ d => uptoBulk d + 1
  | .map entries => uptoBulkEntries entries + 1
  | .held _ => 1
def uptoBulkAll {H : Type} : List (DataW H) → Nat
  | [] => 0
  | d :: r => uptoBulk d + uptoBulkAll r
def uptoBulkEntries {H : Type} : List (Lit × DataW H) → Nat
  | [] => 0
  | x :: r => uptoBulkEntry x + uptoBulkEntries r
def uptoBulkEntry {H : Type} : Lit × DataW H → Nat
  | (.string bytes, d) => bytes.length + uptoBulk d + 1
  | (_, d) => uptoBulk d + 1
 end
def uptoSmall : (H : Type) → List (DataW H) → Bool := fun _ ds => decide (uptoBulkAll ds ≤ 1048576)
def OpenSpec.upto (s : _root_.Go.ChangeSpec) : _root_.Go.OpenSpec := { _root_.Go.OpenSpec.ofChange s with cond := some uptoSmall }

/-- 'limewashlaw05.RecordsSeals', WHERE WHAT IT READS IS OF BULK AT MOST 1048576: true; the input reads as it did. -/
def recordsSealsUptoRow : OpenClaim := { program := "ytiddbdjcdoiloaadoor", sum := "63dcac0cae52e8bbd0815d9618c48c8609e6471b973d1fc4d72efed0fbe4345b", func := "limewash/limewashlaw05.RecordsSeals", spec := "recordsSeals", unfollowed := true, recurses := true, named := ["limewash/sums.halfByte"], apart := false, laid := [("limewash/sums.halfByte", laid_limewash_sums_halfByte)], narrowed := true }
def RecordsSealsUptoSaid : Prop := recordsSealsUptoRow.holds Tryd.pinned (OpenSpec.upto recordsSealsSpec)

/-- 'limewashlaw05.RecordsSealed', WHERE WHAT IT READS IS OF BULK AT MOST 1048576: true; the input reads as it did. -/
def recordsSealedUptoRow : OpenClaim := { program := "ytiddbdjcdoiloaadoor", sum := "63dcac0cae52e8bbd0815d9618c48c8609e6471b973d1fc4d72efed0fbe4345b", func := "limewash/limewashlaw05.RecordsSealed", spec := "recordsSealed", unfollowed := true, recurses := true, named := ["limewash/sums.halfByte"], apart := false, laid := [("limewash/sums.halfByte", laid_limewash_sums_halfByte)], narrowed := true }
def RecordsSealedUptoSaid : Prop := recordsSealedUptoRow.holds Tryd.pinned (OpenSpec.upto recordsSealedSpec)

/-- 'limewashlaw07.FramesSeals', WHERE WHAT IT READS IS OF BULK AT MOST 1048576: true; the input reads as it did. -/
def framesSealsUptoRow : OpenClaim := { program := "ytiddbdjcdoiloaadoor", sum := "63dcac0cae52e8bbd0815d9618c48c8609e6471b973d1fc4d72efed0fbe4345b", func := "limewash/limewashlaw07.FramesSeals", spec := "framesSeals", unfollowed := true, recurses := true, named := ["limewash/sums.halfByte"], apart := false, laid := [("limewash/sums.halfByte", laid_limewash_sums_halfByte)], narrowed := true }
def FramesSealsUptoSaid : Prop := framesSealsUptoRow.holds Tryd.pinned (OpenSpec.upto framesSealsSpec)

/-- 'limewashlaw07.FramesOpens', WHERE WHAT IT READS IS OF BULK AT MOST 1048576: true; the input reads as it did. -/
def framesOpensUptoRow : OpenClaim := { program := "ytiddbdjcdoiloaadoor", sum := "63dcac0cae52e8bbd0815d9618c48c8609e6471b973d1fc4d72efed0fbe4345b", func := "limewash/limewashlaw07.FramesOpens", spec := "framesOpens", unfollowed := true, recurses := true, named := ["limewash/sums.halfByte"], apart := false, laid := [("limewash/sums.halfByte", laid_limewash_sums_halfByte)], narrowed := true }
def FramesOpensUptoSaid : Prop := framesOpensUptoRow.holds Tryd.pinned (OpenSpec.upto framesOpensSpec)

/-- 'limewashlaw07.FramesBack', WHERE WHAT IT READS IS OF BULK AT MOST 1048576: true; the input reads as it did. -/
def framesBackUptoRow : OpenClaim := { program := "ytiddbdjcdoiloaadoor", sum := "63dcac0cae52e8bbd0815d9618c48c8609e6471b973d1fc4d72efed0fbe4345b", func := "limewash/limewashlaw07.FramesBack", spec := "framesBack", unfollowed := true, recurses := true, named := ["limewash/sums.halfByte"], apart := false, laid := [("limewash/sums.halfByte", laid_limewash_sums_halfByte)], narrowed := true }
def FramesBackUptoSaid : Prop := framesBackUptoRow.holds Tryd.pinned (OpenSpec.upto framesBackSpec)

/-- 'limewashlaw07.FramesPlace', WHERE WHAT IT READS IS OF BULK AT MOST 1048576: true; the input reads as it did. -/
def framesPlaceUptoRow : OpenClaim := { program := "ytiddbdjcdoiloaadoor", sum := "63dcac0cae52e8bbd0815d9618c48c8609e6471b973d1fc4d72efed0fbe4345b", func := "limewash/limewashlaw07.FramesPlace", spec := "framesPlace", unfollowed := true, recurses := true, named := ["limewash/sums.halfByte"], apart := false, laid := [("limewash/sums.halfByte", laid_limewash_sums_halfByte)], narrowed := true }
def FramesPlaceUptoSaid : Prop := framesPlaceUptoRow.holds Tryd.pinned (OpenSpec.upto framesPlaceSpec)

/-- 'limewashlaw07.FramesBursts', WHERE WHAT IT READS IS OF BULK AT MOST 1048576: true; the input reads as it did. -/
def framesBurstsUptoRow : OpenClaim := { program := "ytiddbdjcdoiloaadoor", sum := "63dcac0cae52e8bbd0815d9618c48c8609e6471b973d1fc4d72efed0fbe4345b", func := "limewash/limewashlaw07.FramesBursts", spec := "framesBursts", unfollowed := true, recurses := true, named := ["limewash/sums.halfByte"], apart := false, laid := [("limewash/sums.halfByte", laid_limewash_sums_halfByte)], narrowed := true }
def FramesBurstsUptoSaid : Prop := framesBurstsUptoRow.holds Tryd.pinned (OpenSpec.upto framesBurstsSpec)

/-- 'limewashlaw07.FramesDevices', WHERE WHAT IT READS IS OF BULK AT MOST 1048576: true; the input reads as it did. -/
def framesDevicesUptoRow : OpenClaim := { program := "ytiddbdjcdoiloaadoor", sum := "63dcac0cae52e8bbd0815d9618c48c8609e6471b973d1fc4d72efed0fbe4345b", func := "limewash/limewashlaw07.FramesDevices", spec := "framesDevices", unfollowed := true, recurses := true, named := ["limewash/sums.halfByte"], apart := false, laid := [("limewash/sums.halfByte", laid_limewash_sums_halfByte)], narrowed := true }
def FramesDevicesUptoSaid : Prop := framesDevicesUptoRow.holds Tryd.pinned (OpenSpec.upto framesDevicesSpec)

/-- 'limewashlaw07.FramesKnown', WHERE WHAT IT READS IS OF BULK AT MOST 1048576: true; the input reads as it did. -/
def framesKnownUptoRow : OpenClaim := { program := "ytiddbdjcdoiloaadoor", sum := "63dcac0cae52e8bbd0815d9618c48c8609e6471b973d1fc4d72efed0fbe4345b", func := "limewash/limewashlaw07.FramesKnown", spec := "framesKnown", unfollowed := true, recurses := true, named := ["limewash/sums.halfByte"], apart := false, laid := [("limewash/sums.halfByte", laid_limewash_sums_halfByte)], narrowed := true }
def FramesKnownUptoSaid : Prop := framesKnownUptoRow.holds Tryd.pinned (OpenSpec.upto framesKnownSpec)

end Rows
end Go.Proofs.YtiddbdjcdoiloaaDoor
