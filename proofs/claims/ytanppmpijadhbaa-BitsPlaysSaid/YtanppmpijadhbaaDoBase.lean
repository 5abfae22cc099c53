/- The contract of do: a call on a map and on the list of its bits; both answer alike. Condition: the map lies in a block of its own, the list as said. -/
import Derived.Test.YtanppmpijadhbaaRWrite
import Derived.Test.YtanppmpijadhbaaRFind
import Derived.Test.YtanppmpijadhbaaLawLoads
namespace Go.Proofs.Ytanppmpijadhbaa
open Go.RowKit

def callC (q : Nat) (i k : Int) (t : Bool) : Array Value := #[.int .u8 (q : Int), .int .i64 i, .int .i64 k, .bool t]
/-- What do leaves. -/
def DoPost (w : World) (base N : Nat) (e : Ending) (w' : World) : Prop :=
  ∃ b u l, e = .returned (.tuple #[.pointer (some ⟨b, 0, none⟩), u, .bool true]) ∧ MapAt w' b N (listF l) ∧ SL encT w' w'.heap.size u l ∧ l.length = N ∧ base ≤ b ∧ Below base w w'
theorem box_cells {w w' : World} {a b c d : Value} (h : Below (w.heap.size + 1) (w.alloc (.cells #[a, b, c, d] 33)) w') :
    w'.cell? ⟨w.heap.size, 0, none⟩ = some a ∧ w'.cell? ⟨w.heap.size, 1, none⟩ = some b ∧ w'.cell? ⟨w.heap.size, 2, none⟩ = some c ∧ w'.cell? ⟨w.heap.size, 3, none⟩ = some d := by
  have f := fun (o : Nat) => (h.cell (p := ⟨w.heap.size, o, none⟩) (show w.heap.size < w.heap.size + 1 by omega)).trans (cell_of_row _ w.heap.size o _ _ _ (heap_alloc_new w _))
  exact ⟨f 0, f 1, f 2, f 3⟩
theorem alloc_size (w : World) (o : Obj) : (w.alloc o).heap.size = w.heap.size + 1 := by simp
theorem optV_form (o : Option Nat) : ∃ p c, optV o = .tuple #[.int .i64 p, .int .i64 c] := by
  cases o
  · exact ⟨_, _, rfl⟩
  · exact ⟨_, _, rfl⟩
theorem listF_upd {l : List Bool} {N i : Nat} {v : Bool} (hl : l.length = N) (hi : i < N) (j : Nat) (hj : N ≤ j) : Bm.upd (listF l) i v j = false := by
  unfold Bm.upd; rw [if_neg (by omega)]; exact listF_off l j (by omega)
theorem listF_fill {l : List Bool} {N i k : Nat} {v : Bool} (hl : l.length = N) (hi : i + k ≤ N) (j : Nat) (hj : N ≤ j) : fillF (listF l) i k v j = false := by
  unfold fillF; rw [if_neg (by omega)]; exact listF_off l j (by omega)
end Go.Proofs.Ytanppmpijadhbaa
