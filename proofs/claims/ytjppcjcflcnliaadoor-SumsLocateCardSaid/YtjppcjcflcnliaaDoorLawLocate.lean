/- The walk of SumsLocate: it returns true. Conditions: the table of half bytes, a slice that holds the bytes, a number of 32 bits. -/
import Derived.Test.YtjppcjcflcnliaaDoorLawCrc
import Derived.Test.YtjppcjcflcnliaaDoorRLocate
namespace Go.Proofs.YtjppcjcflcnliaaDoor
open Go.RowKit

set_option maxRecDepth 100000 in
set_option maxHeartbeats 1000000 in
theorem law_locate (w : World) (v : Value) (y : List UInt8) (want : Nat) (hT : TB w) (hv : SL encB w w.heap.size v y) (hw : want < 4294967296) (hy : y.length ≤ 9223372036854775807) :
    Calls Tryd.prog 6 #[v, .int .u32 (want : Int)] w fun e w' => e = .returned (.bool true) ∧ Below w.heap.size w w' := by
  obtain ⟨A, c0, rfl⟩ := hv.form
  obtain ⟨a, b, e0, L1, L2⟩ := locates (.slice A y.length c0) y want hw hy
  have HL1 := Lib.hid L1
  have HL2 := Lib.hid L2
  have HV := Lib.hid hv
  have HT := Lib.hid hT
  clear hv hT L1 L2
  by_cases h1 : 40 < y.length
  · have h1I : (40 : Int) < (y.length : Int) := by omega
    by_cases h2 : y.length ≤ 1000
    · have h2I : (y.length : Int) ≤ 1000 := by omega
      clear h1 h2
      go_enter Tryd.func6, Tryd.ntmps6
      go_wp2_with fail
      refine (shown_any w HT.out).mono ?_
      rintro e w2 ⟨rfl, hB⟩
      have HB := Lib.hid hB
      clear hB
      go_wp2_with fail
      go_ret
      exact ⟨rfl, HB.out⟩
    · have h2I : ¬ ((y.length : Int) ≤ 1000) := by omega
      by_cases h3 : 1010 < y.length
      · have h3I : (1010 : Int) < (y.length : Int) := by omega
        clear h1 h2 h3
        go_enter Tryd.func6, Tryd.ntmps6
        go_wp2_with fail
        refine (shown_any w HT.out).mono ?_
        rintro e w2 ⟨rfl, hB⟩
        have HB := Lib.hid hB
        clear hB
        go_wp2_with fail
        go_ret
        exact ⟨rfl, HB.out⟩
      · have h3I : ¬ ((1010 : Int) < (y.length : Int)) := by omega
        clear h1 h2 h3
        go_enter Tryd.func6, Tryd.ntmps6
        go_wp2_with fail
        refine (HL1.out w HT.out HV.out).mono ?_
        rintro e w1 ⟨rfl, hb⟩
        have HB1 := Lib.hid hb
        have HT1 : Hid (TB w1) := HT.out.below hb HT.out.lt
        have HV1 : Hid (SL encB w1 w1.heap.size (.slice A y.length c0) y) := HV.out.next hb
        clear hb
        go_wp2_with fail
        refine (HL2.out w1 HV1.out).mono ?_
        rintro e w2 ⟨rfl, hb⟩
        have HB2 : Hid (Below w.heap.size w w2) := HB1.out.trans (hb.mono HB1.out.size)
        have HT2 : Hid (TB w2) := HT1.out.below hb HT1.out.lt
        have hs1 := int_self a
        have hs2 := int_self b
        have hs3 := int_self e0
        clear hb
        go_wp2_with fail
        refine (shown_any w2 HT2.out).mono ?_
        rintro e w3 ⟨rfl, hB⟩
        have HB3 : Hid (Below w.heap.size w w3) := HB2.out.trans (hB.mono HB2.out.size)
        clear hB
        go_wp2_with fail
        go_ret
        exact ⟨rfl, HB3.out⟩
  · have h1I : ¬ ((40 : Int) < (y.length : Int)) := by omega
    have h3I : ¬ ((1010 : Int) < (y.length : Int)) := by omega
    clear h1
    go_enter Tryd.func6, Tryd.ntmps6
    go_wp2_with fail
    refine (HL1.out w HT.out HV.out).mono ?_
    rintro e w1 ⟨rfl, hb⟩
    have HB1 := Lib.hid hb
    have HT1 : Hid (TB w1) := HT.out.below hb HT.out.lt
    have HV1 : Hid (SL encB w1 w1.heap.size (.slice A y.length c0) y) := HV.out.next hb
    clear hb
    go_wp2_with fail
    refine (HL2.out w1 HV1.out).mono ?_
    rintro e w2 ⟨rfl, hb⟩
    have HB2 : Hid (Below w.heap.size w w2) := HB1.out.trans (hb.mono HB1.out.size)
    have HT2 : Hid (TB w2) := HT1.out.below hb HT1.out.lt
    have hs1 := int_self a
    have hs2 := int_self b
    have hs3 := int_self e0
    clear hb
    go_wp2_with fail
    refine (shown_any w2 HT2.out).mono ?_
    rintro e w3 ⟨rfl, hB⟩
    have HB3 : Hid (Below w.heap.size w w3) := HB2.out.trans (hB.mono HB2.out.size)
    clear hB
    go_wp2_with fail
    go_ret
    exact ⟨rfl, HB3.out⟩
end Go.Proofs.YtjppcjcflcnliaaDoor
