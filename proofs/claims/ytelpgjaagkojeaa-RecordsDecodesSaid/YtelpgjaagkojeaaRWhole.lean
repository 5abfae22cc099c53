/- The contract of Whole of the reference. Conditions: a slice that holds the bytes, a string of at most 10^9 bytes. -/
import Derived.Test.YtelpgjaagkojeaaRDec
import Derived.Test.YtelpgjaagkojeaaMore
namespace Go.Proofs.Ytelpgjaagkojeaa
open Go.RowKit

set_option maxRecDepth 100000 in
set_option maxHeartbeats 1000000 in
theorem rwhole_any (w : World) (v : Value) (fs y : List UInt8) (hv : SL encB w w.heap.size v y) (hf : fs.length ≤ 1000000000) (hy : y.length ≤ 9223372036854775807) :
    Calls Try.prog 19 #[.string ⟨fs.toArray⟩, v] w fun e w' => WhE w fs y e w' := by
  obtain ⟨A, c0, rfl⟩ := hv.form
  have HD := Lib.hid (rdecode_any w _ fs y hv hf hy)
  clear hv
  go_enter Try.func19, Try.ntmps19
  go_wp2_with fail
  refine HD.out.mono ?_
  rintro e w1 ⟨v1, rfl, hl, hb⟩
  obtain ⟨L, n, err, hr⟩ : ∃ L n err, Rm.decR fs y = (L, n, err) := ⟨_, _, _, rfl⟩
  have hwr : Rm.wholeR fs y = if err ≠ 0 then ([], err) else if n < y.length then ([], 6) else (L, 0) := by unfold Rm.wholeR; rw [hr]
  have hb0 : err ≠ 0 → n = 0 ∧ L = [] := fun h => by have := Rm.decR_bad (fs := fs) (b := y) (by rw [hr]; exact h); rw [hr] at this; simp only [Prod.mk.injEq] at this; exact ⟨this.2.1, this.1⟩
  rw [hr] at hl ⊢
  simp only at hl ⊢
  have HL := Lib.hid hl
  have HB := Lib.hid hb
  clear hl hb hr HD
  by_cases h0 : err = 0
  · subst h0
    rw [if_neg (by simp)] at hwr
    by_cases h1 : n < y.length
    · rw [if_pos h1] at hwr
      have HW := Lib.hid hwr
      have h1I : (n : Int) < (y.length : Int) := by omega
      clear hwr hb0 h1
      go_wp2_with fail
      go_ret2
      exact WhE.of HW.out _ rfl (VL.nil _ _) HB.out
    · rw [if_neg h1] at hwr
      have HW := Lib.hid hwr
      have h1I : ¬ (n : Int) < (y.length : Int) := by omega
      clear hwr hb0 h1
      go_wp2_with fail
      go_ret2
      exact WhE.of HW.out _ rfl HL.out HB.out
  · rw [if_pos h0] at hwr
    have HW := Lib.hid hwr
    have hd0 : ((err : Int) != 0) = true := by rw [bne_iff_ne]; omega
    have hd2 : ((err : Int) == 0) = false := by rw [beq_eq_false_iff_ne]; omega
    clear hwr hb0 h0
    go_wp2_with fail
    go_ret2
    exact WhE.of HW.out _ rfl (VL.nil _ _) HB.out
end Go.Proofs.Ytelpgjaagkojeaa
