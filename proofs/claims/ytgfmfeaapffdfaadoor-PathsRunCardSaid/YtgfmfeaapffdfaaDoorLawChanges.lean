/- The law PathsChanges: it returns true. Conditions: the slices hold what is said of them; the library's variable MaxLen holds a number. -/
import Derived.Test.YtgfmfeaapffdfaaDoorLawPairs2
import Derived.Test.YtgfmfeaapffdfaaDoorRMove
import Derived.Test.YtgfmfeaapffdfaaDoorMove2
namespace Go.Proofs.YtgfmfeaapffdfaaDoor
open Go.RowKit

theorem par_len (p : Path) (hp : Fit p) : (parR p).1.length ≤ 1000000 := by
  have := hp.1
  unfold parR
  split
  · split
    · simp
    · simp only [List.length_take]; omega
  · simp
theorem joi_len (p : Path) (s : ByteArray) : (joinR p s).1.length ≤ 1000000 := by
  unfold joinR
  split
  · rename_i h
    have := ((checkE_zero _).1 h).1
    split
    · split
      · simp
      · simp only [List.length_append, List.length_cons, List.length_nil]; omega
    · simp
  · simp
theorem mov_len (p f t : Path) : (moveR p f t).1.length ≤ 1000000 := by
  unfold moveR
  split
  · split
    · split
      · simp
      · simp only [List.length_append, List.length_drop]; omega
    · simp
  · simp

set_option maxRecDepth 100000 in
set_option maxHeartbeats 16000000 in
theorem law_changes (w : World) (v v2 v3 : Value) (p f t : Path) (hv : SL encS w w.heap.size v p) (hv2 : SL encS w w.heap.size v2 f) (hv3 : SL encS w w.heap.size v3 t) (hm : ML w) :
    Calls Tryd.prog 5 #[v, v2, v3] w fun e w' => e = .returned (.bool true) ∧ Below w.heap.size w w' := by
  have HL := Lib.hid (long_any w v p hv)
  have HL2 := Lib.hid (long_any w v2 f hv2)
  have HL3 := Lib.hid (long_any w v3 t hv3)
  have HAW := Lib.hid (awake_any w hm)
  cases hl : longB p with
  | true =>
    rw [hl] at HL
    obtain ⟨A, c, rfl⟩ := hv.form
    obtain ⟨A2, c2, rfl⟩ := hv2.form
    obtain ⟨A3, c3, rfl⟩ := hv3.form
    clear hv hv2 hv3 hm
    go_enter Tryd.func5, Tryd.ntmps5
    go_wp2_with fail
    refine HL.out.mono ?_
    rintro e w' ⟨rfl, rfl⟩
    go_wp2_with fail
    refine HAW.out.mono ?_
    rintro e w' ⟨rfl, hb⟩
    go_wp2_with fail
    go_ret
    exact ⟨rfl, hb⟩
  | false =>
  rw [hl] at HL
  cases hl2 : longB f with
  | true =>
    rw [hl2] at HL2
    obtain ⟨A, c, rfl⟩ := hv.form
    obtain ⟨A2, c2, rfl⟩ := hv2.form
    obtain ⟨A3, c3, rfl⟩ := hv3.form
    clear hv hv2 hv3 hm
    go_enter Tryd.func5, Tryd.ntmps5
    go_wp2_with fail
    refine HL.out.mono ?_
    rintro e w' ⟨rfl, rfl⟩
    go_wp2_with fail
    refine HL2.out.mono ?_
    rintro e w' ⟨rfl, rfl⟩
    go_wp2_with fail
    refine HAW.out.mono ?_
    rintro e w' ⟨rfl, hb⟩
    go_wp2_with fail
    go_ret
    exact ⟨rfl, hb⟩
  | false =>
  rw [hl2] at HL2
  cases hl3 : longB t with
  | true =>
    rw [hl3] at HL3
    obtain ⟨A, c, rfl⟩ := hv.form
    obtain ⟨A2, c2, rfl⟩ := hv2.form
    obtain ⟨A3, c3, rfl⟩ := hv3.form
    clear hv hv2 hv3 hm
    go_enter Tryd.func5, Tryd.ntmps5
    go_wp2_with fail
    refine HL.out.mono ?_
    rintro e w' ⟨rfl, rfl⟩
    go_wp2_with fail
    refine HL2.out.mono ?_
    rintro e w' ⟨rfl, rfl⟩
    go_wp2_with fail
    refine HL3.out.mono ?_
    rintro e w' ⟨rfl, rfl⟩
    go_wp2_with fail
    refine HAW.out.mono ?_
    rintro e w' ⟨rfl, hb⟩
    go_wp2_with fail
    go_ret
    exact ⟨rfl, hb⟩
  | false =>
  rw [hl3] at HL3
  have HF := Lib.hid (long_fit hl)
  have HF2 := Lib.hid (long_fit hl2)
  have HF3 := Lib.hid (long_fit hl3)
  have HV := Lib.hid hv
  have HV2 := Lib.hid hv2
  have HV3 := Lib.hid hv3
  have HM := Lib.hid hm
  have HP1 := Lib.hid (par_len p (long_fit hl))
  have HP2 := Lib.hid (fun s => joi_len p s)
  have HP3 := Lib.hid (mov_len p f t)
  obtain ⟨A, c, rfl⟩ := hv.form
  obtain ⟨A2, c2, rfl⟩ := hv2.form
  obtain ⟨A3, c3, rfl⟩ := hv3.form
  clear hv hv2 hm hl hl2 HAW
  rcases Nat.eq_zero_or_pos t.length with h0 | h0
  · have HNA : Hid ((⟨#[]⟩ : ByteArray).size ≤ 1000000000) := by show (0 : Nat) ≤ _; omega
    rw [h0] at HL3 HV3 ⊢
    clear hv3 hl3 h0
    go_enter Tryd.func5, Tryd.ntmps5
    go_wp2_with fail
    refine HL.out.mono ?_
    rintro e w' ⟨rfl, rfl⟩
    go_wp2_with fail
    refine HL2.out.mono ?_
    rintro e w' ⟨rfl, rfl⟩
    go_wp2_with fail
    refine HL3.out.mono ?_
    rintro e w' ⟨rfl, rfl⟩
    go_wp2_with fail
    refine (parent_any w _ p HV.out HF.out).mono ?_
    rintro e w1 ⟨v11, rfl, hs1, hb1⟩
    have HB1 := Lib.hid hb1
    have HS1_1 := Lib.hid hs1
    obtain ⟨B1, d1, rfl⟩ := hs1.form
    clear hs1 hb1
    go_wp2_with fail
    refine (rparent_any w1 _ p (HV.out.next HB1.out) HF.out).mono ?_
    rintro e w2 ⟨v12, rfl, hs2, hb2⟩
    have HB2 := Lib.hid (HB1.out.trans (hb2.mono HB1.out.size))
    have HS2_2 := Lib.hid hs2
    have HS1_2 := Lib.hid (HS1_1.out.next hb2)
    obtain ⟨B2, d2, rfl⟩ := hs2.form
    clear hs2 hb2 HB1 HS1_1
    go_wp2_with fail
    refine (join_any w2 _ p _ (HV.out.next HB2.out) HF.out HNA.out).mono ?_
    rintro e w3 ⟨v13, rfl, hs3, hb3⟩
    have HB3 := Lib.hid (HB2.out.trans (hb3.mono HB2.out.size))
    have HS3_3 := Lib.hid hs3
    have HS1_3 := Lib.hid (HS1_2.out.next hb3)
    have HS2_3 := Lib.hid (HS2_2.out.next hb3)
    obtain ⟨B3, d3, rfl⟩ := hs3.form
    clear hs3 hb3 HB2 HS1_2 HS2_2
    go_wp2_with fail
    refine (rjoin_any w3 _ p _ (HV.out.next HB3.out) HF.out HNA.out).mono ?_
    rintro e w4 ⟨v14, rfl, hs4, hb4⟩
    have HB4 := Lib.hid (HB3.out.trans (hb4.mono HB3.out.size))
    have HS4_4 := Lib.hid hs4
    have HS1_4 := Lib.hid (HS1_3.out.next hb4)
    have HS2_4 := Lib.hid (HS2_3.out.next hb4)
    have HS3_4 := Lib.hid (HS3_3.out.next hb4)
    obtain ⟨B4, d4, rfl⟩ := hs4.form
    clear hs4 hb4 HB3 HS1_3 HS2_3 HS3_3
    go_wp2_with fail
    refine (move_any w4 _ _ _ p f t (HV.out.next HB4.out) (HV2.out.next HB4.out) (HV3.out.next HB4.out) HF.out HF2.out HF3.out).mono ?_
    rintro e w5 ⟨v15, rfl, hs5, hb5⟩
    have HB5 := Lib.hid (HB4.out.trans (hb5.mono HB4.out.size))
    have HS5_5 := Lib.hid hs5
    have HS1_5 := Lib.hid (HS1_4.out.next hb5)
    have HS2_5 := Lib.hid (HS2_4.out.next hb5)
    have HS3_5 := Lib.hid (HS3_4.out.next hb5)
    have HS4_5 := Lib.hid (HS4_4.out.next hb5)
    obtain ⟨B5, d5, rfl⟩ := hs5.form
    clear hs5 hb5 HB4 HS1_4 HS2_4 HS3_4 HS4_4
    go_wp2_with fail
    refine (rmove_any w5 _ _ _ p f t (HV.out.next HB5.out) (HV2.out.next HB5.out) (HV3.out.next HB5.out) HF.out HF2.out HF3.out).mono ?_
    rintro e w6 ⟨v16, rfl, hs6, hb6⟩
    have HB6 := Lib.hid (HB5.out.trans (hb6.mono HB5.out.size))
    have HS6_6 := Lib.hid hs6
    have HS1_6 := Lib.hid (HS1_5.out.next hb6)
    have HS2_6 := Lib.hid (HS2_5.out.next hb6)
    have HS3_6 := Lib.hid (HS3_5.out.next hb6)
    have HS4_6 := Lib.hid (HS4_5.out.next hb6)
    have HS5_6 := Lib.hid (HS5_5.out.next hb6)
    obtain ⟨B6, d6, rfl⟩ := hs6.form
    clear hs6 hb6 HB5 HS1_5 HS2_5 HS3_5 HS4_5 HS5_5
    go_wp2_with fail
    have HSA := same_any _ _ _ _ _ HS1_6.out HS2_6.out HP1.out HP1.out
    rw [decide_eq_true rfl] at HSA
    refine HSA.mono ?_
    clear HSA
    rintro e w' ⟨rfl, m0, rfl⟩
    go_wp2_with fail
    have HSA := same_any _ _ _ _ _ (HS3_6.out.next (drew_below _ m0)) (HS4_6.out.next (drew_below _ m0)) (HP2.out _) (HP2.out _)
    rw [decide_eq_true rfl] at HSA
    refine HSA.mono ?_
    clear HSA
    rintro e w' ⟨rfl, m1, rfl⟩
    go_wp2_with fail
    have HSA := same_any _ _ _ _ _ (HS5_6.out.next (drew_below _ (m0 + m1))) (HS6_6.out.next (drew_below _ (m0 + m1))) HP3.out HP3.out
    rw [decide_eq_true rfl] at HSA
    refine HSA.mono ?_
    clear HSA
    rintro e w' ⟨rfl, m2, rfl⟩
    go_wp2_with fail
    have HD := Lib.hid (HB6.out.trans ((drew_below _ (m0 + m1 + m2)).mono HB6.out.size))
    refine (awake_any _ (HM.out.next HD.out)).mono ?_
    rintro e w7 ⟨rfl, hb7⟩
    have HB7 := Lib.hid (HD.out.trans (hb7.mono HD.out.size))
    clear hb7
    go_wp2_with fail
    go_ret
    exact ⟨rfl, HB7.out⟩
  · obtain ⟨n, hn⟩ : ∃ n, t.length = n + 1 := ⟨t.length - 1, by omega⟩
    have hlt : n < t.length := by omega
    have HNA : Hid ((t[n]).size ≤ 1000000000) := by show (t[n]).size ≤ _; exact (long_fit hl3).2 _ (List.getElem_mem _)
    obtain ⟨b, off, rfl, hbl, hc⟩ := hv3.at h0
    have hcell := hc n hlt
    simp only [encS] at hcell
    have hnb : n ≤ 1000000 := by have := (long_fit hl3).1; omega
    have i1 : (0 : Int) < (n : Int) + 1 := by omega
    have i2 : (n : Int) + 1 - 1 = (n : Int) := by omega
    have i3 : ((n + 1 : Nat) : Int) = (n : Int) + 1 := by omega
    have i4 : n < n + 1 := by omega
    rw [hn] at HL3 HV3 ⊢
    clear hv3 hl3 h0 hc hbl hn
    go_enter Tryd.func5, Tryd.ntmps5
    go_wp2_with fail
    refine HL.out.mono ?_
    rintro e w' ⟨rfl, rfl⟩
    go_wp2_with fail
    refine HL2.out.mono ?_
    rintro e w' ⟨rfl, rfl⟩
    go_wp2_with fail
    refine HL3.out.mono ?_
    rintro e w' ⟨rfl, rfl⟩
    go_wp2_with fail
    refine (parent_any w _ p HV.out HF.out).mono ?_
    rintro e w1 ⟨v11, rfl, hs1, hb1⟩
    have HB1 := Lib.hid hb1
    have HS1_1 := Lib.hid hs1
    obtain ⟨B1, d1, rfl⟩ := hs1.form
    clear hs1 hb1
    go_wp2_with fail
    refine (rparent_any w1 _ p (HV.out.next HB1.out) HF.out).mono ?_
    rintro e w2 ⟨v12, rfl, hs2, hb2⟩
    have HB2 := Lib.hid (HB1.out.trans (hb2.mono HB1.out.size))
    have HS2_2 := Lib.hid hs2
    have HS1_2 := Lib.hid (HS1_1.out.next hb2)
    obtain ⟨B2, d2, rfl⟩ := hs2.form
    clear hs2 hb2 HB1 HS1_1
    go_wp2_with fail
    refine (join_any w2 _ p _ (HV.out.next HB2.out) HF.out HNA.out).mono ?_
    rintro e w3 ⟨v13, rfl, hs3, hb3⟩
    have HB3 := Lib.hid (HB2.out.trans (hb3.mono HB2.out.size))
    have HS3_3 := Lib.hid hs3
    have HS1_3 := Lib.hid (HS1_2.out.next hb3)
    have HS2_3 := Lib.hid (HS2_2.out.next hb3)
    obtain ⟨B3, d3, rfl⟩ := hs3.form
    clear hs3 hb3 HB2 HS1_2 HS2_2
    go_wp2_with fail
    refine (rjoin_any w3 _ p _ (HV.out.next HB3.out) HF.out HNA.out).mono ?_
    rintro e w4 ⟨v14, rfl, hs4, hb4⟩
    have HB4 := Lib.hid (HB3.out.trans (hb4.mono HB3.out.size))
    have HS4_4 := Lib.hid hs4
    have HS1_4 := Lib.hid (HS1_3.out.next hb4)
    have HS2_4 := Lib.hid (HS2_3.out.next hb4)
    have HS3_4 := Lib.hid (HS3_3.out.next hb4)
    obtain ⟨B4, d4, rfl⟩ := hs4.form
    clear hs4 hb4 HB3 HS1_3 HS2_3 HS3_3
    go_wp2_with fail
    refine (move_any w4 _ _ _ p f t (HV.out.next HB4.out) (HV2.out.next HB4.out) (HV3.out.next HB4.out) HF.out HF2.out HF3.out).mono ?_
    rintro e w5 ⟨v15, rfl, hs5, hb5⟩
    have HB5 := Lib.hid (HB4.out.trans (hb5.mono HB4.out.size))
    have HS5_5 := Lib.hid hs5
    have HS1_5 := Lib.hid (HS1_4.out.next hb5)
    have HS2_5 := Lib.hid (HS2_4.out.next hb5)
    have HS3_5 := Lib.hid (HS3_4.out.next hb5)
    have HS4_5 := Lib.hid (HS4_4.out.next hb5)
    obtain ⟨B5, d5, rfl⟩ := hs5.form
    clear hs5 hb5 HB4 HS1_4 HS2_4 HS3_4 HS4_4
    go_wp2_with fail
    refine (rmove_any w5 _ _ _ p f t (HV.out.next HB5.out) (HV2.out.next HB5.out) (HV3.out.next HB5.out) HF.out HF2.out HF3.out).mono ?_
    rintro e w6 ⟨v16, rfl, hs6, hb6⟩
    have HB6 := Lib.hid (HB5.out.trans (hb6.mono HB5.out.size))
    have HS6_6 := Lib.hid hs6
    have HS1_6 := Lib.hid (HS1_5.out.next hb6)
    have HS2_6 := Lib.hid (HS2_5.out.next hb6)
    have HS3_6 := Lib.hid (HS3_5.out.next hb6)
    have HS4_6 := Lib.hid (HS4_5.out.next hb6)
    have HS5_6 := Lib.hid (HS5_5.out.next hb6)
    obtain ⟨B6, d6, rfl⟩ := hs6.form
    clear hs6 hb6 HB5 HS1_5 HS2_5 HS3_5 HS4_5 HS5_5
    go_wp2_with fail
    have HSA := same_any _ _ _ _ _ HS1_6.out HS2_6.out HP1.out HP1.out
    rw [decide_eq_true rfl] at HSA
    refine HSA.mono ?_
    clear HSA
    rintro e w' ⟨rfl, m0, rfl⟩
    go_wp2_with fail
    have HSA := same_any _ _ _ _ _ (HS3_6.out.next (drew_below _ m0)) (HS4_6.out.next (drew_below _ m0)) (HP2.out _) (HP2.out _)
    rw [decide_eq_true rfl] at HSA
    refine HSA.mono ?_
    clear HSA
    rintro e w' ⟨rfl, m1, rfl⟩
    go_wp2_with fail
    have HSA := same_any _ _ _ _ _ (HS5_6.out.next (drew_below _ (m0 + m1))) (HS6_6.out.next (drew_below _ (m0 + m1))) HP3.out HP3.out
    rw [decide_eq_true rfl] at HSA
    refine HSA.mono ?_
    clear HSA
    rintro e w' ⟨rfl, m2, rfl⟩
    go_wp2_with fail
    have HD := Lib.hid (HB6.out.trans ((drew_below _ (m0 + m1 + m2)).mono HB6.out.size))
    refine (awake_any _ (HM.out.next HD.out)).mono ?_
    rintro e w7 ⟨rfl, hb7⟩
    have HB7 := Lib.hid (HD.out.trans (hb7.mono HD.out.size))
    clear hb7
    go_wp2_with fail
    go_ret
    exact ⟨rfl, HB7.out⟩
end Go.Proofs.YtgfmfeaapffdfaaDoor
