/- The walk of SumsKnown: it returns true. Condition: the table of half bytes. -/
import Derived.Test.YtjppcjcflcnliaaDoorLawCrc
import Derived.Test.YtjppcjcflcnliaaDoorPatch
namespace Go.Proofs.YtjppcjcflcnliaaDoor
open Go.RowKit

theorem q1 : Cm.crc [97] = 3904355907 := k9
theorem q2 : Cm.crc [] ≠ 1 := by decide +kernel
theorem q3 : Cm.found [] 1 0 = none := by decide +kernel
theorem q4 : ¬ Cm.isMix 18446744073709551615 := by unfold Cm.isMix; omega
theorem q5 : Cm.isMix 1 := by unfold Cm.isMix; omega
theorem q6 : Cm.on 3904355907 [] = 3904355907 := by decide +kernel
theorem q7 : Cm.mix [] = 1 := by decide +kernel
theorem q8 : Cm.mix [97] = 420906795106 := by decide +kernel
set_option maxRecDepth 100000 in
set_option maxHeartbeats 2000000 in
theorem law_known (w : World) (hT : TB w) :
    Calls Tryd.prog 12 #[] w fun e w' => e = .returned (.bool true) ∧ Below w.heap.size w w' := by
  have HT := Lib.hid hT
  have kc := kc
  have HL := Lib.hid (locate_twice (w.alloc (.cells #[.int .u8 97] 5 (1, 2))) (.slice (some ⟨w.heap.size, 0, none⟩) 1 1) [97] 3904355907 (tb_alloc hT _) (sl_lit w [97] #[.int .u8 97] 1 rfl rfl) (by omega) (by decide) q1)
  have HB0 : Hid (Below w.heap.size w (w.alloc (.cells #[.int .u8 97] 5 (1, 2)))) := (Below.refl _ _).alloc (Nat.le_refl _) _
  clear hT
  go_enter Tryd.func12, Tryd.ntmps12
  go_wp2_with fail
  refine HL.out.mono ?_
  rintro e w1 ⟨rfl, hb⟩
  have HB1 : Hid (Below w.heap.size w w1) := HB0.out.trans (hb.mono (by simp))
  have HT1 : Hid (TB w1) := (tb_alloc HT.out _).below hb (by simp)
  clear hb HL HB0
  have HL2 := locate_ok w1 (.slice none 0 0) [] 1 HT1.out (nil_sl w1) (by omega) (by decide) q2
  rw [q3] at HL2
  have HL3 : Hid (Calls Tryd.prog 25 #[.slice none 0 0, .int .u32 1] w1 fun e w' => e = .returned (.tuple #[.int .i64 0, .int .u8 0, .int .i64 4]) ∧ Below w1.heap.size w1 w') := HL2
  clear HL2
  go_wp2_with fail
  refine HL3.out.mono ?_
  rintro e w2 ⟨rfl, hb⟩
  have HB2 : Hid (Below w.heap.size w w2) := HB1.out.trans (hb.mono HB1.out.size)
  have HT2 : Hid (TB w2) := HT1.out.below hb HT1.out.lt
  clear hb HL3
  go_wp2_with fail
  refine (zer_bad w2 5 (-1) (by omega)).mono ?_
  rintro e w' ⟨rfl, rfl⟩
  have HS := Lib.hid (sl_lit w2 [97, 98, 99] #[.int .u8 97, .int .u8 98, .int .u8 99] 3 rfl rfl)
  have HB3 : Hid (Below w.heap.size w (w2.alloc (.cells #[.int .u8 97, .int .u8 98, .int .u8 99] 5 (3, 4)))) := HB2.out.alloc HB2.out.size _
  have HT3 : Hid (TB (w2.alloc (.cells #[.int .u8 97, .int .u8 98, .int .u8 99] 5 (3, 4)))) := tb_alloc HT2.out _
  go_wp2_with fail
  refine (patch_bad _ _ [97, 98, 99] 0 1 HS.out (by decide) (by decide)).mono ?_
  rintro e w' ⟨rfl, rfl⟩
  go_wp2_with fail
  refine (mixOn_bad _ 18446744073709551615 _ (by omega) q4).mono ?_
  rintro e w4 ⟨rfl, hb⟩
  have HB4 : Hid (Below w.heap.size w w4) := HB3.out.trans (hb.mono HB3.out.size)
  have HT4 : Hid (TB w4) := HT3.out.below hb HT3.out.lt
  clear hb HS
  go_wp2_with fail
  refine (roll_range w4 1 0 1 1 (by omega) q5 (by omega)).mono ?_
  rintro e w5 ⟨rfl, hb⟩
  have HB5 : Hid (Below w.heap.size w w5) := HB4.out.trans (hb.mono HB4.out.size)
  have HT5 : Hid (TB w5) := HT4.out.below hb HT4.out.lt
  clear hb
  have HO := on_any w5 3904355907 _ [] HT5.out (nil_sl w5) (by omega) (by decide)
  rw [q6] at HO
  have HO2 := Lib.hid HO
  clear HO
  go_wp2_with fail
  refine HO2.out.mono ?_
  rintro e w6 ⟨rfl, hb⟩
  have HB6 : Hid (Below w.heap.size w w6) := HB5.out.trans (hb.mono HB5.out.size)
  have HT6 : Hid (TB w6) := HT5.out.below hb HT5.out.lt
  clear hb HO2
  have HM := mix_any w6 _ [] (nil_sl w6) (by decide)
  rw [q7] at HM
  have HM2 := Lib.hid HM
  clear HM
  go_wp2_with fail
  refine HM2.out.mono ?_
  rintro e w7 ⟨rfl, hb⟩
  have HB7 : Hid (Below w.heap.size w w7) := HB6.out.trans (hb.mono HB6.out.size)
  have HT7 : Hid (TB w7) := HT6.out.below hb HT6.out.lt
  clear hb HM2
  go_wp2_with fail
  refine (mix_lit w7 [97] #[.int .u8 97] 1 420906795106 (by rfl) (by rfl) (by decide) q8 HT7.out).mono ?_
  rintro e w8 ⟨rfl, hb, ht⟩
  have HB8 : Hid (Below w.heap.size w w8) := HB7.out.trans (hb.mono HB7.out.size)
  have HT8 := Lib.hid ht
  clear hb ht
  go_wp2_with fail
  refine (shown_any w8 HT8.out).mono ?_
  rintro e w9 ⟨rfl, hb⟩
  have HB9 : Hid (Below w.heap.size w w9) := HB8.out.trans (hb.mono HB8.out.size)
  clear hb
  go_wp2_with fail
  go_ret
  exact ⟨rfl, HB9.out⟩
end Go.Proofs.YtjppcjcflcnliaaDoor
