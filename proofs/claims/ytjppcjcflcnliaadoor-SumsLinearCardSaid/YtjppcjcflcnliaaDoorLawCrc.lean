/- The walk of SumsCrc: it returns true. Conditions: the table of half bytes, a slice that holds the bytes, a number of 32 bits. -/
import Derived.Test.YtjppcjcflcnliaaDoorShown
namespace Go.Proofs.YtjppcjcflcnliaaDoor
open Go.RowKit

theorem int_self (a : Nat) : ((a : Int) == (a : Int)) = true := by simp
set_option maxRecDepth 100000 in
set_option maxHeartbeats 1000000 in
theorem law_crc (w : World) (h : Nat) (v : Value) (y : List UInt8) (hT : TB w) (hv : SL encB w w.heap.size v y) (hh : h < 4294967296) (hy : y.length ≤ 9223372036854775807) :
    Calls Tryd.prog 3 #[.int .u32 (h : Int), v] w fun e w' => e = .returned (.bool true) ∧ Below w.heap.size w w' := by
  obtain ⟨A, c0, rfl⟩ := hv.form
  have HV := Lib.hid hv
  have HT := Lib.hid hT
  clear hv hT
  by_cases hbig : (2000 : Int) < (y.length : Int)
  · go_enter Tryd.func3, Tryd.ntmps3
    go_wp2_with fail
    refine (shown_any w HT.out).mono ?_
    rintro e w2 ⟨rfl, hB⟩
    have HB := Lib.hid hB
    clear hB
    go_wp2_with fail
    go_ret
    exact ⟨rfl, HB.out⟩
  · go_enter Tryd.func3, Tryd.ntmps3
    go_wp2_with fail
    refine (crc_any w _ y HT.out HV.out hy).mono ?_
    rintro e w1 ⟨rfl, hb⟩
    have HB1 := Lib.hid hb
    have HT1 : Hid (TB w1) := HT.out.below hb HT.out.lt
    have HV1 : Hid (SL encB w1 w1.heap.size (.slice A y.length c0) y) := (HV.out.below hb (Nat.le_refl _)).mono hb.size
    clear hb
    go_wp2_with fail
    refine (rcrc_any w1 _ _ y HV1.out hy).mono ?_
    rintro e w' ⟨rfl, rfl⟩
    have hs := int_self (Cm.crc y)
    go_wp2_with fail
    refine (on_any w1 h _ y HT1.out HV1.out hh hy).mono ?_
    rintro e w2 ⟨rfl, hb⟩
    have HB2 : Hid (Below w.heap.size w w2) := HB1.out.trans (hb.mono HB1.out.size)
    have HT2 : Hid (TB w2) := HT1.out.below hb HT1.out.lt
    have HV2 : Hid (SL encB w2 w2.heap.size (.slice A y.length c0) y) := (HV1.out.below hb (Nat.le_refl _)).mono hb.size
    clear hb
    go_wp2_with fail
    refine (ron_any w2 h _ _ y HV2.out hh hy).mono ?_
    rintro e w' ⟨rfl, rfl⟩
    have hs2 := int_self (Cm.on h y)
    go_wp2_with fail
    refine (shown_any w2 HT2.out).mono ?_
    rintro e w3 ⟨rfl, hB⟩
    have HB3 : Hid (Below w.heap.size w w3) := HB2.out.trans (hB.mono HB2.out.size)
    clear hB
    go_wp2_with fail
    go_ret
    exact ⟨rfl, HB3.out⟩
end Go.Proofs.YtjppcjcflcnliaaDoor
