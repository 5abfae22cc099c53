/- The contracts of Pad of package records, of Same over values of the reference, of far. Conditions: slices that hold what is said of them. -/
import Derived.Test.YtelpgjaagkojeaaMore
namespace Go.Proofs.Ytelpgjaagkojeaa
open Go.RowKit

theorem iByte : (Try.prog.info? 5).map (·.size) = some 1 := by kernel_rfl
theorem pad_row (y : List UInt8) (n : Nat) (h : y.length < n) : ((splice (List.replicate n (Value.int .u8 0)) 0 (y.map encB)).toArray.setIfInBounds y.length (.int .u8 1)).toList = (padL y n).map encB := by
  unfold splice padL
  simp only [List.take_zero, List.nil_append, List.length_map, Nat.zero_add, List.drop_replicate, List.setIfInBounds_toArray, List.map_append, List.map_cons, List.map_replicate]
  rw [List.set_append_right _ _ (by simp)]
  simp only [List.length_map, Nat.sub_self]
  obtain ⟨m, hm⟩ : ∃ m, n - y.length = m + 1 := ⟨n - y.length - 1, by omega⟩
  rw [hm, List.replicate_succ, List.set_cons_zero, Nat.add_sub_cancel]
  rfl
set_option maxRecDepth 100000 in
set_option maxHeartbeats 1000000 in
theorem pad_any (w : World) (v : Value) (y : List UInt8) (n : Int) (hv : SL encB w w.heap.size v y) (_hy : y.length ≤ 9223372036854775807) :
    Calls Try.prog 21 #[v, .int .i64 n] w fun e w' => ByE w (padR y n) e w' := by
  obtain ⟨A, c0, rfl⟩ := hv.form
  have HV := Lib.hid hv
  clear hv
  by_cases h1 : n < 1
  · have HR : Hid (padR y n = ([], 7)) := by unfold padR; exact if_pos (.inl h1)
    go_enter Try.func21, Try.ntmps21
    go_wp2_with fail
    go_ret2
    exact ByE.bad HR.out rfl (Below.refl _ _)
  by_cases h2 : 4000 < n
  · have HR : Hid (padR y n = ([], 7)) := by unfold padR; exact if_pos (.inr h2)
    go_enter Try.func21, Try.ntmps21
    go_wp2_with fail
    go_ret2
    exact ByE.bad HR.out rfl (Below.refl _ _)
  by_cases h3 : n ≤ y.length
  · have HR : Hid (padR y n = ([], 3)) := by unfold padR; rw [if_neg (by omega)]; exact if_pos h3
    go_enter Try.func21, Try.ntmps21
    go_wp2_with fail
    go_ret2
    exact ByE.bad HR.out rfl (Below.refl _ _)
  · obtain ⟨m, rfl⟩ : ∃ m : Nat, n = (m : Int) := ⟨n.toNat, by omega⟩
    have HR : Hid (padR y (m : Int) = (padL y m, 0)) := by unfold padR; rw [if_neg (by omega), if_neg h3]; simp [Hid]
    have hmk := make_u8 w .i64 m (by omega)
    have hym : y.length < m := by omega
    have HPR := Lib.hid (pad_row y m hym)
    obtain ⟨Y, hY⟩ : ∃ Y, Y = y.map encB := ⟨_, rfl⟩
    rw [← hY] at HPR
    have HYL : Hid (Y.length = y.length) := by rw [hY]; simp [Hid]
    have HYE := Lib.hid hY
    obtain ⟨Zs, hZ⟩ : ∃ Zs, Zs = List.replicate m (Value.int .u8 0) := ⟨_, rfl⟩
    rw [← hZ] at HPR
    have HB0 := Lib.hid ((Below.refl w.heap.size w).alloc (Nat.le_refl _) (.cells (madeCells #[.int .u8 0] m) 5))
    have HG0 : Hid ((w.alloc (.cells (madeCells #[.int .u8 0] m) 5)).heap[w.heap.size]? = some (.cells Zs.toArray 5 (0, 0))) := by
      have := heap_alloc_new w (.cells (madeCells #[.int .u8 0] m) 5)
      rw [hZ, ← made_u8, Array.toArray_toList]; exact this
    have HZL : Hid (Zs.length = m) := by rw [hZ]; simp [Hid]
    obtain ⟨r, w2, hcp, HG2, hB2⟩ : ∃ r w2, (Builtin.copy_ #[25, 25] 3 #[.slice (some ⟨w.heap.size, 0, none⟩) m m, .slice A y.length c0]).run Try.prog (w.alloc (.cells (madeCells #[.int .u8 0] m) 5)) = .ok r w2 ∧ Hid (Blk w2 w.heap.size (splice Zs 0 Y).toArray 5) ∧ Below w.heap.size w w2 := by
      rcases HV.out with ⟨h0, e | ⟨ad, c, e⟩⟩ | ⟨b, off, c, e, hb, hcap, hc⟩
      · injection e with e1 e2 e3
        have hY0 : Y = [] := by rw [HYE.out, h0]; rfl
        refine ⟨goInt 0, _, ?_, by rw [hY0]; show Blk _ _ _ _; simpa [splice, Blk] using HG0.out, HB0.out⟩
        rw [e1, e2, e3]
        exact run_copy_nil (P := Try.prog) _ 25 25 3 5 ⟨w.heap.size, 0, none⟩ m m Try.underlying25 (by rw [iByte]; rfl)
      · injection e with e1 e2 e3
        have hY0 : Y = [] := by rw [HYE.out, h0]; rfl
        have := run_copy_row (P := Try.prog) (w.alloc (.cells (madeCells #[.int .u8 0] m) 5)) 25 25 3 5 w.heap.size 0 m m ad y.length c0 Zs.toArray 5 Y Try.underlying25 iByte HG0.out (by rw [HYL.out]; show y.length = min y.length m; omega) (fun j v hj => by rw [hY0] at hj; simp at hj) (by rw [hY0]; simp) (by rw [hY0]; simp)
        rw [← e1] at this
        exact ⟨_, _, this, by have hh := setRow_blk HG0.out (splice Zs 0 Y).toArray; simpa [splice, Hid] using hh, below_setRow HB0.out (Nat.le_refl _)⟩
      · injection e with e1 e2 e3
        have := run_copy_row (P := Try.prog) (w.alloc (.cells (madeCells #[.int .u8 0] m) 5)) 25 25 3 5 w.heap.size 0 m m ⟨b, off, none⟩ y.length c0 Zs.toArray 5 Y Try.underlying25 iByte HG0.out (by rw [HYL.out]; show y.length = min y.length m; omega) (fun j u hu => by
          have hadd : (⟨b, off, none⟩ : Addr).add j = ⟨b, off + j, none⟩ := by unfold Addr.add; split <;> simp_all
          rw [HYE.out] at hu
          rw [List.getElem?_map] at hu
          have hj : j < y.length := by
            rcases Nat.lt_or_ge j y.length with h | h
            · exact h
            · rw [List.getElem?_eq_none h] at hu; simp at hu
          rw [List.getElem?_eq_getElem hj] at hu
          have hu' : encB y[j] = u := Option.some.inj hu
          rw [hadd, ← hu']
          exact (HB0.out.cell (p := ⟨b, off + j, none⟩) hb).trans (hc j hj)) (by rw [HYL.out, Array.size]; show 0 + y.length ≤ Zs.toArray.toList.length; rw [List.toList_toArray, HZL.out]; omega) (by rw [HYE.out]; intro u hu; obtain ⟨s, _, rfl⟩ := List.mem_map.1 hu; rfl)
        rw [← e1] at this
        exact ⟨_, _, this, by have hh := setRow_blk HG0.out (splice Zs 0 Y).toArray; simpa [splice, Hid] using hh, below_setRow HB0.out (Nat.le_refl _)⟩
    clear hY hZ
    have HB2 := Lib.hid hB2
    have hblk : Blk w2 w.heap.size (splice Zs 0 Y).toArray 5 := HG2.out
    have hsl : (splice Zs 0 Y).length = m := by rw [length_splice _ _ _ (by rw [HYL.out, HZL.out]; omega), HZL.out]
    obtain ⟨u0, hu0⟩ : ∃ u0, (splice Zs 0 Y).toArray[y.length]? = some u0 := ⟨_, Array.getElem?_eq_getElem (by simp [hsl]; omega)⟩
    have hcell := hblk.cell y.length hu0
    have hfz := hblk.free y.length
    have HBL := Lib.hid hblk
    have hymI : (y.length : Int) < (m : Int) := by omega
    clear hB2 hblk hsl hu0
    go_enter Try.func21, Try.ntmps21
    go_wp2_with fail
    go_ret2
    refine ByE.ok HR.out _ rfl (.inr ⟨w.heap.size, 0, m, by rw [padL_len y m hym]; rfl, HBL.out.set y.length (.int .u8 1) |>.lt, by rw [padL_len y m hym]; exact Nat.le_refl _, fun i hi => ?_⟩) (HB2.out.setCell (Nat.le_refl _) _)
    rw [Nat.zero_add, (HBL.out.set y.length (.int .u8 1)).cell i (v := encB (padL y m)[i])]
    rw [← Array.getElem?_toList, HPR.out]
    simp [hi]
end Go.Proofs.Ytelpgjaagkojeaa
