/- The walk of BitsKnown: it returns true. No condition. -/
import Derived.Test.YtanppmpijadhbaaAwake
import Derived.Test.YtanppmpijadhbaaBytes
namespace Go.Proofs.Ytanppmpijadhbaa
open Go.RowKit

theorem kn_count : cnt exF 2 4 = 2 := by decide +kernel
theorem kn_next : runO exF 10 8 1 true = none := by decide +kernel
theorem kn_last : lastF exF true 5 = some 2 := by decide +kernel
theorem kn_last1 : lastF exF true 1 = none := by decide +kernel
theorem kn_run : runO exF 10 0 3 true = some 5 := by decide +kernel
theorem kn_form : formB 10 [230, 4] = false := by decide +kernel
theorem kn_form1 : formB 10 [230] = false := by decide +kernel
theorem kn_bytes : bytesOf 10 (fillF (Bm.upd exF 0 (!exF 0)) 0 3 false) = [224, 0] := by decide +kernel
theorem sl_one (w : World) (a : UInt8) : SL encB (w.alloc (.cells #[.int .u8 ((a.toNat : Nat) : Int)] 5)) (w.alloc (.cells #[.int .u8 ((a.toNat : Nat) : Int)] 5)).heap.size (.slice (some ⟨w.heap.size, 0, none⟩) 1 1) [a] := by
  refine .inr ⟨w.heap.size, 0, 1, rfl, by simp, fun i hi => ?_⟩
  rw [Nat.zero_add, cell_of_row _ w.heap.size i _ _ _ (heap_alloc_new w _)]
  match i, hi with
  | 0, _ => rfl
set_option maxRecDepth 100000 in
set_option maxHeartbeats 2000000 in
theorem law_known (w : World) :
    Calls Try.prog 10 #[] w fun e w' => e = .returned (.bool true) ∧ Below w.heap.size w w' := by
  go_enter Try.func10, Try.ntmps10
  go_wp2_with fail
  refine (example_any w).mono ?_
  rintro e w1 ⟨b, rfl, hb, hm, hB⟩
  have H1 := count_ok w1 b 10 exF 2 4 hm (by omega)
  rw [kn_count] at H1
  have H2 := count_bad w1 b 10 exF 5 6 hm (by constructor <;> omega) (by constructor <;> omega) (by omega)
  have H3 := next_ok w1 b 10 exF 8 true hm (by omega)
  rw [kn_next] at H3
  have H4 := last_ok w1 b 10 exF 5 true hm (by omega)
  rw [kn_last] at H4
  have H5 := last_ok w1 b 10 exF 1 true hm (by omega)
  rw [kn_last1] at H5
  have H6 := run_ok w1 b 10 exF 0 3 true hm (by omega) (by omega) (by omega)
  rw [kn_run] at H6
  have G1 : Hid (Calls Try.prog 30 #[.pointer (some ⟨b, 0, none⟩), .int .i64 2, .int .i64 4] w1 fun e w' => e = .returned (.tuple #[.int .i64 2, .int .i64 0]) ∧ w1 = w') := H1
  have G2 := Lib.hid H2
  have G3 : Hid (Calls Try.prog 31 #[.pointer (some ⟨b, 0, none⟩), .int .i64 8, .bool true] w1 fun e w' => e = .returned (.tuple #[.int .i64 0, .int .i64 4]) ∧ w1 = w') := H3
  have G4 : Hid (Calls Try.prog 33 #[.pointer (some ⟨b, 0, none⟩), .int .i64 5, .bool true] w1 fun e w' => e = .returned (.tuple #[.int .i64 2, .int .i64 0]) ∧ w1 = w') := H4
  have G5 : Hid (Calls Try.prog 33 #[.pointer (some ⟨b, 0, none⟩), .int .i64 1, .bool true] w1 fun e w' => e = .returned (.tuple #[.int .i64 0, .int .i64 4]) ∧ w1 = w') := H5
  have G6 : Hid (Calls Try.prog 34 #[.pointer (some ⟨b, 0, none⟩), .int .i64 0, .int .i64 3, .bool true] w1 fun e w' => e = .returned (.tuple #[.int .i64 5, .int .i64 0]) ∧ w1 = w') := H6
  have HM := Lib.hid hm
  have HB := Lib.hid hB
  have HBB := Lib.hid hb
  clear H1 H2 H3 H4 H5 H6 hm hB hb
  go_wp2_with fail
  refine G1.out.mono ?_
  rintro e w' ⟨rfl, rfl⟩
  go_wp2_with fail
  refine G2.out.mono ?_
  rintro e w' ⟨rfl, rfl⟩
  go_wp2_with fail
  refine G3.out.mono ?_
  rintro e w' ⟨rfl, rfl⟩
  go_wp2_with fail
  refine G4.out.mono ?_
  rintro e w' ⟨rfl, rfl⟩
  go_wp2_with fail
  refine G5.out.mono ?_
  rintro e w' ⟨rfl, rfl⟩
  go_wp2_with fail
  refine G6.out.mono ?_
  rintro e w' ⟨rfl, rfl⟩
  go_wp2_with fail
  refine (load_form _ 10 _ [230, 4] (sl_two w1 230 4) (by omega) (by decide) kn_form).mono ?_
  rintro e w2 ⟨rfl, hB2⟩
  have HB2 : Hid (Below w1.heap.size w1 w2) := ((Below.refl _ _).alloc (Nat.le_refl _) _).trans (hB2.mono (by simp))
  clear hB2
  go_wp2_with fail
  refine (load_form _ 10 _ [230] (sl_one w2 230) (by omega) (by decide) kn_form1).mono ?_
  rintro e w3 ⟨rfl, hB3⟩
  have hB3' : Below w2.heap.size w2 w3 := ((Below.refl _ _).alloc (Nat.le_refl _) _).trans (hB3.mono (by simp))
  have hB13 : Below w1.heap.size w1 w3 := HB2.out.trans (hB3'.mono HB2.out.size)
  have hM3 := HM.out.below hB13 HM.out.lt
  have HB3 : Hid (Below w.heap.size w w3) := HB.out.trans (hB13.mono HB.out.size)
  have HT := Lib.hid (turn_ok w3 b 10 exF 0 hM3 (by omega))
  clear hB3 hB3' hB13 hM3
  go_wp2_with fail
  refine HT.out.mono ?_
  rintro e w4 ⟨rfl, hM4, hG4⟩
  have HB4 : Hid (Below w.heap.size w w4) := below_grown HB3.out hG4 HB3.out.size HBB.out
  have HF := Lib.hid (fill_ok w4 b 10 _ 0 3 false hM4 (by omega))
  clear hM4 hG4 HT
  go_wp2_with fail
  refine HF.out.mono ?_
  rintro e w5 ⟨rfl, hM5, hG5⟩
  have HB5 : Hid (Below w.heap.size w w5) := below_grown HB4.out hG5 HB4.out.size HBB.out
  have HY := bytes_any w5 b 10 _ hM5
  rw [kn_bytes] at HY
  have HY2 := Lib.hid HY
  clear hM5 hG5 HF HY
  go_wp2_with fail
  refine HY2.out.mono ?_
  rintro e w6 ⟨v, rfl, hS, hB6⟩
  have hstr := hS.str
  have HB6 : Hid (Below w.heap.size w w6) := HB5.out.trans (hB6.mono HB5.out.size)
  clear hS hB6
  go_wp2_with fail
  refine (awake_any w6).mono ?_
  rintro e w7 ⟨rfl, hB7⟩
  have HB7 : Hid (Below w.heap.size w w7) := HB6.out.trans (hB7.mono HB6.out.size)
  clear hB7
  go_wp2_with fail
  go_ret
  exact ⟨rfl, HB7.out⟩
end Go.Proofs.Ytanppmpijadhbaa
