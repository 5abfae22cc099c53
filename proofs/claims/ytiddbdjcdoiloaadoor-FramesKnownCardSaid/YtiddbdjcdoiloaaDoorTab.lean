/- The table of half bytes in memory, numbers of 32 bits. Condition: the variable has the number of this translation. -/
import Derived.Test.YtiddbdjcdoiloaaDoorBase
import Derived.Test.YtiddbdjcdoiloaaDoorMath2
namespace Go.Proofs.YtiddbdjcdoiloaaDoor
open Go.RowKit

/-- The table of half bytes lies in its block. -/
structure TB (w : World) : Prop where
  lt : 0 < w.heap.size
  at_ : ∀ k, k < 16 → w.cell? ⟨0, k, none⟩ = some (.int .u32 ((Cm.tab k : Nat) : Int))
section
variable {w w' : World}
theorem TB.below {B : Nat} (h : TB w) (hb : Below B w w') (hB : 0 < B) : TB w' :=
  ⟨Nat.lt_of_lt_of_le h.lt hb.size, fun k hk => (hb.cell (p := ⟨0, k, none⟩) hB).trans (h.at_ k hk)⟩
theorem TB.grown {b : Nat} (h : TB w) (hg : w.grownBy w' (some b)) (hb : 0 < b) : TB w' :=
  ⟨Nat.lt_of_lt_of_le h.lt hg.size, fun k hk => (World.cell?_of_block (w := w) (a := ⟨0, k, none⟩) (hg.block _ h.lt (fun e => by have := Option.some.inj e; simp only at this; omega))).trans (h.at_ k hk)⟩
theorem TB.grownN (h : TB w) (hg : w.grownBy w' none) : TB w' :=
  ⟨Nat.lt_of_lt_of_le h.lt hg.size, fun k hk => (World.cell?_of_block (w := w) (a := ⟨0, k, none⟩) (hg.block _ h.lt (fun e => by cases e))).trans (h.at_ k hk)⟩
theorem TB.drewN (h : TB w) (n : Nat) : TB (w.drewN n) := ⟨h.lt, h.at_⟩

end
/- numbers of 32 bits -/
def u32 (r : Nat) : Value := .int .u32 (r : Int)
theorem xor32 (a b : Nat) (ha : a < 4294967296) (hb : b < 4294967296) : bits .xor .u32 (a : Int) (b : Int) = ((a ^^^ b : Nat) : Int) := u32_xor_nat a b ha hb
theorem ff32 (a : Nat) (ha : a < 4294967296) : bits .xor .u32 (a : Int) 4294967295 = ((a ^^^ Cm.top : Nat) : Int) := xor32 a 4294967295 ha (by omega)
theorem ff32' (a : Nat) (ha : a < 4294967296) : bits .xor .u32 4294967295 (a : Int) = ((a ^^^ Cm.top : Nat) : Int) := by rw [Nat.xor_comm]; exact xor32 4294967295 a (by omega) ha
end Go.Proofs.YtiddbdjcdoiloaaDoor
