/- The walk of BitsLogic: it returns true. Condition: the bytes lie as said. -/
import Derived.Test.YtanppmpijadhbaaLogicNe
import Derived.Test.YtanppmpijadhbaaLogicEq
import Derived.Test.YtanppmpijadhbaaTwo
namespace Go.Proofs.Ytanppmpijadhbaa
open Go.RowKit

theorem law_logic (w : World) (n0 n1 : Nat) (v v2 : Value) (y y2 : List UInt8) (hv : SL encB w w.heap.size v y) (hv2 : SL encB w w.heap.size v2 y2) (hn0 : n0 < 65536) (hn1 : n1 < 65536) (hy : y.length ≤ 9223372036854775807) (hy2 : y2.length ≤ 9223372036854775807) :
    Calls Try.prog 5 #[.agg #[.int .u16 (n0 : Int), .int .u16 (n1 : Int)], v, v2] w fun e w' => e = .returned (.bool true) ∧ Below w.heap.size w w' := by
  by_cases h : n0 % 601 = n1 % 601
  · exact law_logic_eq w n0 n1 v v2 y y2 hv hv2 hn0 hn1 hy hy2 h
  · exact law_logic_ne w n0 n1 v v2 y y2 hv hv2 hn0 hn1 hy hy2 h
end Go.Proofs.Ytanppmpijadhbaa
