/- Rows of bytes that a call owns, and the string that is made of one. Condition: the types have the numbers of this translation. -/
import Derived.Test.YtdkaogcimecfiaaDoorBase
import Derived.Laws.BytesArg
namespace Go.Proofs.YtdkaogcimecfiaaDoor
open Go.RowKit

/-- A list of bytes as cells: a name that the walk does not open. -/
def bvs (y : List UInt8) : List Value := y.map fun c => .int .u8 (c.toNat : Int)
theorem bvs_len (y : List UInt8) : (bvs y).length = y.length := by simp [bvs]
theorem bvs_snoc (y : List UInt8) (c : UInt8) : bvs (y ++ [c]) = bvs y ++ [.int .u8 (c.toNat : Int)] := by simp [bvs]
theorem bvs_app (y z : List UInt8) : bvs (y ++ z) = bvs y ++ bvs z := by simp [bvs]
theorem bvs_get (y : List UInt8) (i : Nat) (h : i < y.length) : (bvs y)[i]? = some (.int .u8 (y[i].toNat : Int)) := by simp [bvs, h]

theorem nums_str (y : List UInt8) : strOfNums (y.map fun c => (c.toNat : Int)) = ⟨y.toArray⟩ := by
  have e : (y.map fun c => (c.toNat : Int)).map (fun n : Int => UInt8.ofNat n.toNat) = y := by
    rw [List.map_map]
    have : ((fun n : Int => UInt8.ofNat n.toNat) ∘ fun c : UInt8 => (c.toNat : Int)) = id := by funext c; simp
    rw [this, List.map_id]
  unfold strOfNums
  rw [e]
theorem str_own {w : World} {base : Nat} {v : Value} {y : List UInt8} {n : Nat} (hn : n = y.length) (h : w.ownsRow base 5 1 v n (bvs y)) :
    (convert 38 9 v).run Tryd.prog w = .ok (.string ⟨y.toArray⟩) w := by
  subst hn
  rcases Go.Joins.ownsRow_forms h with ⟨rfl, h0⟩ | ⟨g, cap, rfl⟩
  · have : y = [] := List.eq_nil_of_length_eq_zero h0
    subst this
    exact run_convert_bytes_nil w 38 5 Tryd.underlying38 Tryd.underlying5 0 0 9 Tryd.underlying9
  · have := run_convert_bytes_arg (P := Tryd.prog) w 38 5 Tryd.underlying38 Tryd.underlying5 g 0 y.length cap (y.map fun c => (c.toNat : Int)) (by simp) (fun i hi => by
      rw [Nat.zero_add, h.cellAt i (by omega), bvs_get y i hi]
      simp [List.getD_eq_getElem?_getD, hi]) 9 Tryd.underlying9
    rw [this, nums_str]
theorem info_u8 : (Tryd.prog.info? 5).map (fun i => (i.zero, i.size, i.bytes)) = some (some (.int .u8 0), 1, 1) := by kernel_rfl
end Go.Proofs.YtdkaogcimecfiaaDoor
