/- Sectors are compared. No condition. -/
import Derived.Test.YtiddbdjcdoiloaaDoorBase
import Derived.ChangeKeysEq
namespace Go.Proofs.YtiddbdjcdoiloaaDoor
open Go.RowKit

theorem size8 : (Tryd.prog.info? 5).map (·.size) = some 1 := by kernel_rfl
def byteAt (x : Dv.Sec) (i : Nat) : Nat := (x.1.getD i 0).toNat
def eqB (x y : Dv.Sec) : Bool := (List.range 128).all fun k => byteAt x k == byteAt y k
theorem eqB_iff (x y : Dv.Sec) : eqB x y = decide (x = y) := by
  have hx := x.2
  have hy := y.2
  rw [Bool.eq_iff_iff, decide_eq_true_iff]
  unfold eqB
  rw [List.all_eq_true]
  constructor
  · intro h
    apply Subtype.ext
    apply List.ext_getElem (by omega)
    intro i h1 h2
    have := h i (List.mem_range.2 (by omega))
    rw [beq_iff_eq] at this
    unfold byteAt at this
    rw [List.getD_eq_getElem?_getD, List.getD_eq_getElem?_getD, List.getElem?_eq_getElem h1, List.getElem?_eq_getElem h2] at this
    exact UInt8.toNat_inj.1 this
  · rintro rfl i _
    simp
theorem sec_at (x : Dv.Sec) (i : Nat) (h : i < 128) (w : World) : (part 5 (secC x).toArray (i * 1)).run Tryd.prog w = .ok (.int .u8 ((byteAt x i : Nat) : Int)) w := by
  have e : (secC x).toArray[i]? = some (.int .u8 ((byteAt x i : Nat) : Int)) := by
    have hl : i < x.1.length := by rw [x.2]; exact h
    rw [List.getElem?_toArray]
    unfold secC byteAt encB
    rw [List.getElem?_map, List.getElem?_eq_getElem hl]
    simp [List.getD_eq_getElem?_getD, hl]
  simp [part, isAgg, run_underlying Tryd.underlying5, e]
theorem int_beq (a b : Nat) : ((a : Int) == (b : Int)) = (a == b) := by
  rw [Bool.eq_iff_iff]; simp only [beq_iff_eq]; omega
theorem eqSec (d : Nat) (x y : Dv.Sec) (w : World) : (Op.equalIn (d + 2) 38 (.agg (secC x).toArray) (.agg (secC y).toArray)).run Tryd.prog w = .ok (eqB x y) w := by
  have hsz : ∀ w, (sizeOf 5).run Tryd.prog w = .ok 1 w := fun w => by
    cases hq : Tryd.prog.info? 5 with
    | none => have := size8; rw [hq] at this; cases this
    | some i =>
      have hs : i.size = 1 := by have := size8; rw [hq] at this; simpa using this
      simp [sizeOf, typeInfo, hq, hs]
  unfold eqB
  rw [List.range_eq_range', Op.equalIn]
  simp only [Sem.run_bind, run_underlying uSec, Result.andThen_ok, hsz, Std.Legacy.Range.forIn_eq_forIn_range', Std.Legacy.Range.size, Nat.sub_zero, Nat.add_sub_cancel, Nat.div_one]
  have hl : ∀ i ∈ List.range' 0 128 1, i < 128 := fun i hi => by simpa using (List.mem_range'_1.1 hi).2
  generalize List.range' 0 128 1 = l at hl ⊢
  induction l with
  | nil => simp
  | cons i l ih =>
    have hi : i < 128 := hl i (by simp)
    have px := sec_at x i hi w
    have py := sec_at y i hi w
    have pe : (Op.equalIn (d + 1) 5 (.int .u8 ((byteAt x i : Nat) : Int)) (.int .u8 ((byteAt y i : Nat) : Int))).run Tryd.prog w = .ok (byteAt x i == byteAt y i) w := by
      rw [← int_beq]
      exact run_equalIn_int w d 5 .u8 .u8 _ _ Tryd.underlying5
    simp only [List.forIn_cons, Sem.run_bind, px, py, pe, Result.andThen_ok, List.all_cons]
    cases hb : (byteAt x i == byteAt y i)
    · simp
    · simp only [Bool.not_true, Bool.false_eq_true, if_false, Sem.run_pure, Result.andThen_ok, Bool.true_and]
      exact ih fun j hj => hl j (by simp [hj])
theorem eql_sec (x y : Dv.Sec) (w : World) : (binOp .eql 38 (.agg (secC x).toArray) (.agg (secC y).toArray)).run Tryd.prog w = .ok (.bool (decide (x = y))) w := by
  rw [run_eql_struct, eqSec 9998, eqB_iff]; rfl
theorem neq_sec (x y : Dv.Sec) (w : World) : (binOp .neq 38 (.agg (secC x).toArray) (.agg (secC y).toArray)).run Tryd.prog w = .ok (.bool (!decide (x = y))) w := by
  have h := eqSec 9998 x y w
  rw [eqB_iff] at h
  simp only [binOp]
  simp [Op.equal, Op.maxDepth, h]
end Go.Proofs.YtiddbdjcdoiloaaDoor
