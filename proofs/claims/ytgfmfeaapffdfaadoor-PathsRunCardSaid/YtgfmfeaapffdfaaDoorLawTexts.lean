/- The law PathsTexts: it returns true. Conditions: the slice holds what is said of it; the library's variable MaxLen holds a number. -/
import Derived.Test.YtgfmfeaapffdfaaDoorAwake
namespace Go.Proofs.YtgfmfeaapffdfaaDoor
open Go.RowKit

theorem long_fit {p : Path} (h : longB p = false) : Fit p := by
  have := long_no h
  exact ⟨by omega, fun s hs => by have := this.2 s hs; omega⟩
theorem parse_len (s : ByteArray) : (parseR s).1.length ≤ 8 := by
  unfold parseR
  split
  · simp
  · split
    · simp
    · split
      · simp
      · split
        · rename_i h; exact ((checkE_zero _).1 h).1
        · simp
theorem int_refl (n : Int) : (n == n) = true := beq_self_eq_true n

set_option maxRecDepth 100000 in
set_option maxHeartbeats 8000000 in
theorem law_texts (w : World) (v : Value) (p : Path) (s : ByteArray) (hv : SL encS w w.heap.size v p) (hm : ML w) :
    Calls Tryd.prog 3 #[v, .string s] w fun e w' => e = .returned (.bool true) ∧ Below w.heap.size w w' := by
  have HL := Lib.hid (long_any w v p hv)
  have HAW := Lib.hid (awake_any w hm)
  cases hl : longB p with
  | true =>
    rw [hl] at HL
    obtain ⟨A, c, rfl⟩ := hv.form
    clear hv hm hl
    go_enter Tryd.func3, Tryd.ntmps3
    go_wp2_with fail
    refine HL.out.mono ?_
    rintro e w' ⟨rfl, rfl⟩
    go_wp2_with fail
    refine HAW.out.mono ?_
    rintro e w' ⟨rfl, hb⟩
    go_wp2_with fail
    go_ret
    exact ⟨rfl, hb⟩
  | false =>
    rw [hl] at HL
    by_cases h6 : 600 < s.size
    · have i6 : (600 : Int) < (s.size : Int) := by omega
      obtain ⟨A, c, rfl⟩ := hv.form
      clear hv hm hl
      go_enter Tryd.func3, Tryd.ntmps3
      go_wp2_with fail
      refine HL.out.mono ?_
      rintro e w' ⟨rfl, rfl⟩
      go_wp2_with fail
      refine HAW.out.mono ?_
      rintro e w' ⟨rfl, hb⟩
      go_wp2_with fail
      go_ret
      exact ⟨rfl, hb⟩
    have i6 : ¬ (600 : Int) < (s.size : Int) := by omega
    have HF := Lib.hid (long_fit hl)
    have HV := Lib.hid hv
    have HM := Lib.hid hm
    have HS : Hid (s.size ≤ 1000000) := by show s.size ≤ _; omega
    have HPL := Lib.hid (parse_len s)
    obtain ⟨A, c, rfl⟩ := hv.form
    clear hv hm hl h6 HAW
    go_enter Tryd.func3, Tryd.ntmps3
    go_wp2_with fail
    refine HL.out.mono ?_
    rintro e w' ⟨rfl, rfl⟩
    go_wp2_with fail
    refine (parse_any w s HS.out HM.out).mono ?_
    rintro e w1 ⟨v1, rfl, hs1, hb1⟩
    have HS1 := Lib.hid hs1
    have HB1 := Lib.hid hb1
    obtain ⟨A1, c1, rfl⟩ := hs1.form
    clear hs1 hb1
    go_wp2_with fail
    refine (rparse_any w1 s HS.out).mono ?_
    rintro e w2 ⟨v2, rfl, hs2, hb2⟩
    have HS2 := Lib.hid hs2
    have HS12 := Lib.hid (HS1.out.next hb2)
    have HB2 := Lib.hid (HB1.out.trans (hb2.mono HB1.out.size))
    obtain ⟨A2, c2, rfl⟩ := hs2.form
    clear hs2 hb2 HB1 HS1
    go_wp2_with fail
    refine (print_any w2 _ p (HV.out.next HB2.out) HF.out).mono ?_
    rintro e w3 ⟨rfl, hb3⟩
    have HS13 := Lib.hid (HS12.out.next hb3)
    have HS23 := Lib.hid (HS2.out.next hb3)
    have HB3 := Lib.hid (HB2.out.trans (hb3.mono HB2.out.size))
    clear hb3 HB2 HS12 HS2
    go_wp2_with fail
    refine (rprint_any w3 _ p (HV.out.next HB3.out) HF.out).mono ?_
    rintro e w4 ⟨rfl, hb4⟩
    have HS14 := Lib.hid (HS13.out.next hb4)
    have HS24 := Lib.hid (HS23.out.next hb4)
    have HB4 := Lib.hid (HB3.out.trans (hb4.mono HB3.out.size))
    clear hb4 HB3 HS13 HS23
    go_wp2_with fail
    refine (name_any s w4 (by have := HS.out; omega)).mono ?_
    rintro e w5 ⟨rfl, rfl⟩
    go_wp2_with fail
    refine (rname_any s w4 (by have := HS.out; omega)).mono ?_
    rintro e w5 ⟨rfl, rfl⟩
    go_wp2_with fail
    refine (check_any w4 _ p (HV.out.next HB4.out) HF.out.2).mono ?_
    rintro e w5 ⟨rfl, rfl⟩
    go_wp2_with fail
    refine (rcheck_any w4 _ p (HV.out.next HB4.out) HF.out.2).mono ?_
    rintro e w5 ⟨rfl, rfl⟩
    go_wp2_with fail
    have HSA := same_any w4 _ _ _ _ HS14.out HS24.out (by have := HPL.out; omega) (by have := HPL.out; omega)
    rw [decide_eq_true rfl] at HSA
    refine HSA.mono ?_
    clear HSA
    rintro e w5 ⟨rfl, m, rfl⟩
    go_wp2_with fail
    refine (awake_any _ ((HM.out.next HB4.out).next (drew_below w4 m))).mono ?_
    rintro e w6 ⟨rfl, hb6⟩
    have HB6 := Lib.hid ((HB4.out.trans ((drew_below w4 m).mono HB4.out.size)).trans (hb6.mono HB4.out.size))
    clear hb6
    go_wp2_with fail
    go_ret
    exact ⟨rfl, HB6.out⟩
end Go.Proofs.YtgfmfeaapffdfaaDoor
