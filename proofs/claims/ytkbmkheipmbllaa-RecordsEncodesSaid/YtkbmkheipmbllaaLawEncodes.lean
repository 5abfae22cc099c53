/- The walk of RecordsEncodes: it returns true. Conditions: slices that hold the values. -/
import Derived.Test.YtkbmkheipmbllaaREnc
import Derived.Test.YtkbmkheipmbllaaShown
namespace Go.Proofs.Ytkbmkheipmbllaa
open Go.RowKit

set_option maxRecDepth 100000 in
set_option maxHeartbeats 1000000 in
theorem law_encodes (w : World) (v : Value) (fs : List UInt8) (l : List Rm.Val) (hv : VL w w.heap.size v l) (hl : l.length ≤ 9223372036854775807) :
    Calls Try.prog 3 #[.string ⟨fs.toArray⟩, v] w fun e w' => e = .returned (.bool true) ∧ Below w.heap.size w w' := by
  obtain ⟨A, c0, rfl⟩ := hv.form
  have HV := Lib.hid hv
  have hsh : Hid (∀ W, Below w.heap.size w W → Calls Try.prog 10 #[] W fun e w' => e = .returned (.bool true) ∧ Below w.heap.size w w') := fun W hW => (shown_any W).mono (by rintro e w' ⟨rfl, hb⟩; exact ⟨rfl, hW.trans (hb.mono hW.size)⟩)
  clear hv
  by_cases h70 : (70 : Int) < (fs.length : Int)
  · go_enter Try.func3, Try.ntmps3
    go_wp2_with fail
    refine (hsh.out w (Below.refl _ _)).mono ?_
    rintro e w2 ⟨rfl, hB⟩
    have HB := Lib.hid hB
    clear hB
    go_wp2_with fail
    go_ret
    exact ⟨rfl, HB.out⟩
  go_enter Try.func3, Try.ntmps3
  go_wp2_with fail
  refine (far_any _ _ _ l HV.out hl).mono ?_
  rintro e w1 ⟨rfl, hb⟩
  have HB1 := Lib.hid hb
  have HV1 := Lib.hid (HV.out.next hb)
  clear hb HV
  by_cases hfar : farB l = true
  · rw [hfar]
    clear hfar
    go_wp2_with fail
    refine (hsh.out w1 HB1.out).mono ?_
    rintro e w2 ⟨rfl, hB⟩
    have HB := Lib.hid hB
    clear hB
    go_wp2_with fail
    go_ret
    exact ⟨rfl, HB.out⟩
  have hfar : farB l = false := by simpa using hfar
  have hl70 : l.length ≤ 70 := by
    unfold farB at hfar
    simp only [Bool.or_eq_false_iff, decide_eq_false_iff_not] at hfar
    omega
  rw [hfar]
  clear hfar
  have HE1 := Lib.hid (encode_any w1 _ fs l HV1.out (by omega) (by omega))
  go_wp2_with fail
  refine HE1.out.mono ?_
  rintro e w2 ⟨v2, rfl, hs2, hb⟩
  have HB2 : Hid (Below w.heap.size w w2) := HB1.out.trans (hb.mono HB1.out.size)
  have HV2 := Lib.hid (HV1.out.next hb)
  obtain ⟨B, n, hr⟩ : ∃ B n, Rm.encR fs l = (B, n) := ⟨_, _, rfl⟩
  have hlen : B.length ≤ 4000 := by
    by_cases h : n = 0
    · have := (Rm.encR_ok (fs := fs) (l := l) (by rw [hr]; exact h)).2.2.2.2; rw [hr] at this; exact this
    · have := Rm.encR_bad (fs := fs) (l := l) (by rw [hr]; exact h); rw [hr] at this; simp only at this; rw [this]; simp
  rw [hr] at hs2 ⊢
  simp only at hs2 ⊢
  obtain ⟨A2, c2, rfl⟩ := hs2.form
  have HS2 := Lib.hid hs2
  have HR := Lib.hid hr
  have HE2 := Lib.hid (rencode_any w2 _ fs l HV2.out (by omega) (by omega))
  clear hs2 hb HE1 HB1 HV1 hr
  go_wp2_with fail
  refine HE2.out.mono ?_
  rintro e w3 ⟨v3, rfl, hs3, hb⟩
  have HB3 : Hid (Below w.heap.size w w3) := HB2.out.trans (hb.mono HB2.out.size)
  have HV3 := Lib.hid (HV2.out.next hb)
  have HS3 := Lib.hid (HS2.out.next hb)
  rw [HR.out] at hs3 ⊢
  simp only at hs3 ⊢
  obtain ⟨A3, c3, rfl⟩ := hs3.form
  have HT3 := Lib.hid hs3
  have HE3 := Lib.hid (size_any w3 _ fs l HV3.out (by omega) (by omega))
  rw [HR.out] at HE3
  clear hs3 hb HE2 HB2 HV2 HS2
  go_wp2_with fail
  refine HE3.out.mono ?_
  rintro e w4 ⟨rfl, hb⟩
  have HB4 : Hid (Below w.heap.size w w4) := HB3.out.trans (hb.mono HB3.out.size)
  have HV4 := Lib.hid (HV3.out.next hb)
  have HS4 := Lib.hid (HS3.out.next hb)
  have HT4 := Lib.hid (HT3.out.next hb)
  have HE4 := Lib.hid (rsize_any w4 _ fs l HV4.out (by omega) (by omega))
  rw [HR.out] at HE4
  clear hb HE3 HB3 HV3 HS3 HT3
  go_wp2_with fail
  refine HE4.out.mono ?_
  rintro e w5 ⟨rfl, hb⟩
  have HB5 : Hid (Below w.heap.size w w5) := HB4.out.trans (hb.mono HB4.out.size)
  have HS5 := Lib.hid (HS4.out.next hb)
  have HT5 := Lib.hid (HT4.out.next hb)
  have HSM := Lib.hid (same_any w5 _ _ _ _ B HS5.out HT5.out (by omega))
  clear hb HE4 HB4 HV4 HS4 HT4
  go_wp2_with fail
  refine HSM.out.mono ?_
  rintro e w6 ⟨rfl, hb⟩
  have HB6 : Hid (Below w.heap.size w w6) := HB5.out.trans (hb.mono HB5.out.size)
  clear hb HSM
  go_wp2_with fail
  refine (hsh.out w6 HB6.out).mono ?_
  rintro e w7 ⟨rfl, hB⟩
  have HB := Lib.hid hB
  clear hB
  go_wp2_with fail
  go_ret
  exact ⟨rfl, HB.out⟩
end Go.Proofs.Ytkbmkheipmbllaa
