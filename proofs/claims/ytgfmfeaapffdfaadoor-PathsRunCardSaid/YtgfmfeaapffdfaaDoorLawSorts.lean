/- The walk of PathsSorts: it returns true. Conditions: a slice that holds paths, MaxLen's cell. -/
import Derived.Test.YtgfmfeaapffdfaaDoorSort
namespace Go.Proofs.YtgfmfeaapffdfaaDoor
open Go.RowKit

theorem law_sorts (w : World) (v : Value) (l : List Path) (hv : LL w w.heap.size v l) (hm : ML w) :
    Calls Tryd.prog 6 #[v] w fun e w' => e = .returned (.bool true) ∧ Below w.heap.size w w' :=
  law_sorts_of sort_any rsort_any w v l hv hm
end Go.Proofs.YtgfmfeaapffdfaaDoor
