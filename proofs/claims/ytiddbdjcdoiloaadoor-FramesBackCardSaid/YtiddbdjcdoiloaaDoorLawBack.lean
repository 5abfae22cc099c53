/- The law FramesBack: it is true. Conditions: the table of half bytes, a row of changes, numbers of their kinds. -/
import Derived.Test.YtiddbdjcdoiloaaDoorLawBackA
import Derived.Test.YtiddbdjcdoiloaaDoorLawBackB
import Derived.Test.YtiddbdjcdoiloaaDoorLawBackC
import Derived.Test.YtiddbdjcdoiloaaDoorLawBackD
namespace Go.Proofs.YtiddbdjcdoiloaaDoor
open Go.RowKit Fm

theorem law_back (w : World) (at' : Int) (a : Nat) (k : Int) (q : Nat) (s : ByteArray) (ch : Value) (fx : Bool) (l : List (UInt8 × UInt8)) (ha : a < 256) (hq : q < 4294967296) (hch : ChL w ch l) (hT : TB w) :
    Calls Tryd.prog 7 #[.int .i64 at', .agg #[.int .u8 (a : Int), .int .i64 k, .int .u32 (q : Int), .string s, ch, .bool fx]] w fun e w' => e = .returned (.bool true) ∧ Below w.heap.size w w' := by
  by_cases h1 : 112 < s.size
  · exact law_backA w at' a k q s ch fx l ha hch hT h1
  · by_cases h2 : k < 1
    · exact law_backB w at' a k q s ch fx l ha hch hT ⟨by omega, h2⟩
    · by_cases h3 : 255 < k
      · exact law_backC w at' a k q s ch fx l ha hch hT ⟨by omega, h3⟩
      · exact law_backD w at' a k q s ch fx l ha hq hch hT ⟨by omega, by omega, by omega⟩
end Go.Proofs.YtiddbdjcdoiloaaDoor
