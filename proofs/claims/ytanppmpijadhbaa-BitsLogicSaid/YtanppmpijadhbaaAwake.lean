/- The contracts of example and awake: the map of the examples, and the calls on it that each statement makes. No condition. -/
import Derived.Test.YtanppmpijadhbaaLoad
import Derived.Test.YtanppmpijadhbaaRun
namespace Go.Proofs.Ytanppmpijadhbaa
open Go.RowKit

def exY : List UInt8 := [230, 0]
def exF : Nat → Bool := Bm.bitsY exY
theorem ex_form : formB 10 exY = true := by decide +kernel
theorem sl_two (w : World) (a b : UInt8) : SL encB (w.alloc (.cells #[.int .u8 ((a.toNat : Nat) : Int), .int .u8 ((b.toNat : Nat) : Int)] 5)) (w.alloc (.cells #[.int .u8 ((a.toNat : Nat) : Int), .int .u8 ((b.toNat : Nat) : Int)] 5)).heap.size (.slice (some ⟨w.heap.size, 0, none⟩) 2 2) [a, b] := by
  refine .inr ⟨w.heap.size, 0, 2, rfl, by simp, fun i hi => ?_⟩
  rw [Nat.zero_add, cell_of_row _ w.heap.size i _ _ _ (heap_alloc_new w _)]
  match i, hi with
  | 0, _ => rfl
  | 1, _ => rfl
theorem example_any (w : World) :
    Calls Try.prog 35 #[] w fun e w' => ∃ b, e = .returned (.pointer (some ⟨b, 0, none⟩)) ∧ w.heap.size ≤ b ∧ MapAt w' b 10 exF ∧ Below w.heap.size w w' := by
  have HL := Lib.hid (load_ok _ 10 _ exY (sl_two w 230 0) (by omega) ex_form)
  go_enter Try.func35, Try.ntmps35
  go_wp2_with fail
  refine HL.out.mono ?_
  rintro e w' ⟨rfl, hm, hb⟩
  have hs : ∀ o, (w.alloc o).heap.size = w.heap.size + 1 := fun o => by simp
  rw [hs] at hm
  have HM := Lib.hid hm
  have HB := Lib.hid hb
  clear hm hb HL hs
  go_wp2_with fail
  go_ret
  exact ⟨_, rfl, by simp, HM.out, ((Below.refl _ _).alloc (Nat.le_refl _) _).trans (HB.out.mono (by simp))⟩
theorem ex_cnt : cnt exF 0 10 = 5 := by decide +kernel
theorem ex_next : runO exF 10 3 1 true = some 5 := by decide +kernel
theorem ex_run : runO exF 10 0 2 false = some 3 := by decide +kernel
theorem ex_none : runO exF 10 0 4 true = none := by decide +kernel
set_option maxHeartbeats 1000000 in
theorem awake_any (w : World) :
    Calls Try.prog 11 #[] w fun e w' => e = .returned (.bool true) ∧ Below w.heap.size w w' := by
  go_enter Try.func11, Try.ntmps11
  go_wp2_with fail
  refine (example_any w).mono ?_
  rintro e w1 ⟨b, rfl, hb, hm, hB⟩
  have H1 := count_ok w1 b 10 exF 0 10 hm (by omega)
  rw [ex_cnt] at H1
  have H2 := next_ok w1 b 10 exF 3 true hm (by omega)
  rw [ex_next] at H2
  have H3 := run_ok w1 b 10 exF 0 2 false hm (by omega) (by omega) (by omega)
  rw [ex_run] at H3
  have H4 := run_ok w1 b 10 exF 0 4 true hm (by omega) (by omega) (by omega)
  rw [ex_none] at H4
  have G1 := Lib.hid H1
  have G2 : Hid (Calls Try.prog 31 #[.pointer (some ⟨b, 0, none⟩), .int .i64 3, .bool true] w1 fun e w' => e = .returned (.tuple #[.int .i64 5, .int .i64 0]) ∧ w1 = w') := H2
  have G3 : Hid (Calls Try.prog 34 #[.pointer (some ⟨b, 0, none⟩), .int .i64 0, .int .i64 2, .bool false] w1 fun e w' => e = .returned (.tuple #[.int .i64 3, .int .i64 0]) ∧ w1 = w') := H3
  have G4 : Hid (Calls Try.prog 34 #[.pointer (some ⟨b, 0, none⟩), .int .i64 0, .int .i64 4, .bool true] w1 fun e w' => e = .returned (.tuple #[.int .i64 0, .int .i64 4]) ∧ w1 = w') := H4
  have G5 := Lib.hid (len_any w1 b 10 exF hm)
  have HB := Lib.hid hB
  clear H1 H2 H3 H4 hm hB hb
  go_wp2_with fail
  refine G1.out.mono ?_
  rintro e w' ⟨rfl, rfl⟩
  go_wp2_with fail
  refine G2.out.mono ?_
  rintro e w' ⟨rfl, rfl⟩
  go_wp2_with fail
  refine G3.out.mono ?_
  rintro e w' ⟨rfl, rfl⟩
  go_wp2_with fail
  refine G4.out.mono ?_
  rintro e w' ⟨rfl, rfl⟩
  go_wp2_with fail
  refine G5.out.mono ?_
  rintro e w' ⟨rfl, rfl⟩
  go_wp2_with fail
  go_ret
  exact ⟨rfl, HB.out⟩
end Go.Proofs.Ytanppmpijadhbaa
