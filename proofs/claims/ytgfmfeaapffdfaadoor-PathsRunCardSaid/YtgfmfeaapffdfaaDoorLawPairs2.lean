/- The law PathsPairs: it returns true. Conditions: the slices hold what is said of them; the library's variable MaxLen holds a number. -/
import Derived.Test.YtgfmfeaapffdfaaDoorLawTexts
namespace Go.Proofs.YtgfmfeaapffdfaaDoor
open Go.RowKit

theorem com_len (p q : Path) (hp : Fit p) : (comR p q).1.length ≤ 1000000 := by
  unfold comR
  split
  · have := hp.1; simp only [List.length_take]; omega
  · simp

set_option maxRecDepth 100000 in
set_option maxHeartbeats 8000000 in
theorem law_pairs (w : World) (v v2 : Value) (p q : Path) (hv : SL encS w w.heap.size v p) (hv2 : SL encS w w.heap.size v2 q) (hm : ML w) :
    Calls Tryd.prog 4 #[v, v2] w fun e w' => e = .returned (.bool true) ∧ Below w.heap.size w w' := by
  have HL := Lib.hid (long_any w v p hv)
  have HL2 := Lib.hid (long_any w v2 q hv2)
  have HAW := Lib.hid (awake_any w hm)
  cases hl : longB p with
  | true =>
    rw [hl] at HL
    obtain ⟨A, c, rfl⟩ := hv.form
    obtain ⟨A2, c2, rfl⟩ := hv2.form
    clear hv hv2 hm hl
    go_enter Tryd.func4, Tryd.ntmps4
    go_wp2_with fail
    refine HL.out.mono ?_
    rintro e w' ⟨rfl, rfl⟩
    go_wp2_with fail
    refine HAW.out.mono ?_
    rintro e w' ⟨rfl, hb⟩
    go_wp2_with fail
    go_ret
    exact ⟨rfl, hb⟩
  | false =>
    rw [hl] at HL
    cases hl2 : longB q with
    | true =>
      rw [hl2] at HL2
      obtain ⟨A, c, rfl⟩ := hv.form
      obtain ⟨A2, c2, rfl⟩ := hv2.form
      clear hv hv2 hm hl hl2
      go_enter Tryd.func4, Tryd.ntmps4
      go_wp2_with fail
      refine HL.out.mono ?_
      rintro e w' ⟨rfl, rfl⟩
      go_wp2_with fail
      refine HL2.out.mono ?_
      rintro e w' ⟨rfl, rfl⟩
      go_wp2_with fail
      refine HAW.out.mono ?_
      rintro e w' ⟨rfl, hb⟩
      go_wp2_with fail
      go_ret
      exact ⟨rfl, hb⟩
    | false =>
      rw [hl2] at HL2
      have HF := Lib.hid (long_fit hl)
      have HF2 := Lib.hid (long_fit hl2)
      have HV := Lib.hid hv
      have HV2 := Lib.hid hv2
      have HM := Lib.hid hm
      have HPL := Lib.hid (com_len p q (long_fit hl))
      obtain ⟨A, c, rfl⟩ := hv.form
      obtain ⟨A2, c2, rfl⟩ := hv2.form
      clear hv hv2 hm hl hl2 HAW
      go_enter Tryd.func4, Tryd.ntmps4
      go_wp2_with fail
      refine HL.out.mono ?_
      rintro e w' ⟨rfl, rfl⟩
      go_wp2_with fail
      refine HL2.out.mono ?_
      rintro e w' ⟨rfl, rfl⟩
      go_wp2_with fail
      refine (pCompare_any w _ _ p q HV.out HV2.out HF.out HF2.out).mono ?_
      rintro e w1 ⟨rfl, hb1⟩
      have HB1 := Lib.hid hb1
      clear hb1
      go_wp2_with fail
      refine (rCompare_any w1 _ _ p q (HV.out.next HB1.out) (HV2.out.next HB1.out) HF.out HF2.out).mono ?_
      rintro e w2 ⟨rfl, hb2⟩
      have HB2 := Lib.hid (HB1.out.trans (hb2.mono HB1.out.size))
      clear hb2
      go_wp2_with fail
      refine (pUnder_any w2 _ _ p q (HV.out.next HB2.out) (HV2.out.next HB2.out) HF.out HF2.out).mono ?_
      rintro e w3 ⟨rfl, hb3⟩
      have HB3 := Lib.hid (HB2.out.trans (hb3.mono HB2.out.size))
      clear hb3
      go_wp2_with fail
      refine (rUnder_any w3 _ _ p q (HV.out.next HB3.out) (HV2.out.next HB3.out) HF.out HF2.out).mono ?_
      rintro e w4 ⟨rfl, hb4⟩
      have HB4 := Lib.hid (HB3.out.trans (hb4.mono HB3.out.size))
      clear hb4
      go_wp2_with fail
      refine (pCommon_any w4 _ _ p q (HV.out.next HB4.out) (HV2.out.next HB4.out) HF.out HF2.out).mono ?_
      rintro e w5 ⟨v5, rfl, hs5, hb5⟩
      have HB5 := Lib.hid (HB4.out.trans (hb5.mono HB4.out.size))
      have HS5 := Lib.hid hs5
      obtain ⟨A5, c5, rfl⟩ := hs5.form
      clear hb5 hs5
      go_wp2_with fail
      refine (rCommon_any w5 _ _ p q (HV.out.next HB5.out) (HV2.out.next HB5.out) HF.out HF2.out).mono ?_
      rintro e w6 ⟨v6, rfl, hs6, hb6⟩
      have HB6 := Lib.hid (HB5.out.trans (hb6.mono HB5.out.size))
      have HS6 := Lib.hid hs6
      have HS56 := Lib.hid (HS5.out.next hb6)
      obtain ⟨A6, c6, rfl⟩ := hs6.form
      clear hb6 hs6
      go_wp2_with fail
      have HSA := same_any w6 _ _ _ _ HS56.out HS6.out HPL.out HPL.out
      rw [decide_eq_true rfl] at HSA
      refine HSA.mono ?_
      clear HSA
      rintro e w7 ⟨rfl, m, rfl⟩
      go_wp2_with fail
      refine (awake_any _ ((HM.out.next HB6.out).next (drew_below w6 m))).mono ?_
      rintro e w8 ⟨rfl, hb8⟩
      have HB8 := Lib.hid ((HB6.out.trans ((drew_below w6 m).mono HB6.out.size)).trans (hb8.mono HB6.out.size))
      clear hb8
      go_wp2_with fail
      go_ret
      exact ⟨rfl, HB8.out⟩
end Go.Proofs.YtgfmfeaapffdfaaDoor
