/- The law PathsMoves: it returns true. Conditions: the slices hold what is said of them; the library's variable MaxLen holds a number. -/
import Derived.Test.YthopikmekhencaaDoorThree
namespace Go.Proofs.YthopikmekhencaaDoor
open Go.RowKit

theorem moves_facts {p q r t : Path} (h1 : (moveR p r t).2 = 0) (h2 : (moveR q r t).2 = 0) : ∃ x y k, moveR p r t = (x, 0) ∧ moveR q r t = (y, 0) ∧ moveR x t r = (p, 0) ∧ undR x t = (true, 0) ∧ compR p q = (k, 0) ∧ compR x y = (k, 0) ∧ Fit x ∧ Fit y := by
  obtain ⟨u, rfl, e1, z1, z2, z3, z4⟩ := move_ok h1
  obtain ⟨s, rfl, e2, y1, _, _, y4⟩ := move_ok h2
  refine ⟨t ++ u, t ++ s, pc u s, e1, e2, move_is z4 z3 z2 z1, ?_, ?_, ?_, fit_ok z4, fit_ok y4⟩
  · unfold undR; rw [if_pos (both_ok z4 z3), (un_iff _ _).2 ⟨u, rfl⟩]
  · unfold compR; rw [if_pos (both_ok z1 y1), pc_app]
  · unfold compR; rw [if_pos (both_ok z4 y4), pc_app]

set_option maxRecDepth 100000 in
set_option maxHeartbeats 32000000 in
theorem law_moves (w : World) (a b c v : Value) (p q r t : Path) (ha : SL encS w w.heap.size a p) (hb : SL encS w w.heap.size b q) (hc : SL encS w w.heap.size c r) (hv : SL encS w w.heap.size v t) (hm : ML w) :
    Calls Tryd.prog 10 #[.agg #[a, b, c], v] w fun e w' => e = .returned (.bool true) ∧ Below w.heap.size w w' := by
  obtain ⟨A1, c1, rfl⟩ := ha.form
  obtain ⟨A2, c2, rfl⟩ := hb.form
  obtain ⟨A3, c3, rfl⟩ := hc.form
  obtain ⟨A4, c4, rfl⟩ := hv.form
  obtain ⟨W0, hW0⟩ : ∃ W0, W0 = w.alloc (.cells #[.slice A1 p.length c1, .slice A2 q.length c2, .slice A3 r.length c3] 51) := ⟨_, rfl⟩
  have B0 : Hid (Below w.heap.size w W0) := by rw [hW0]; exact (Below.refl _ _).alloc (Nat.le_refl _) _
  have BC : Hid (∀ w', Below W0.heap.size W0 w' → w'.cell? ⟨w.heap.size, 0, none⟩ = some (.slice A1 p.length c1) ∧ w'.cell? ⟨w.heap.size, 1, none⟩ = some (.slice A2 q.length c2) ∧ w'.cell? ⟨w.heap.size, 2, none⟩ = some (.slice A3 r.length c3)) := fun w' h => by rw [hW0] at h; exact box_three h
  have HA := Lib.hid (ha.next B0.out)
  have HB := Lib.hid (hb.next B0.out)
  have HC := Lib.hid (hc.next B0.out)
  have HV := Lib.hid (hv.next B0.out)
  have HM := Lib.hid (hm.next B0.out)
  have HL1 := Lib.hid (long_any W0 _ p HA.out)
  have HL2 := Lib.hid (long_any W0 _ q HB.out)
  have HL3 := Lib.hid (long_any W0 _ r HC.out)
  have HL4 := Lib.hid (long_any W0 _ t HV.out)
  have HAW := Lib.hid (awake_any W0 HM.out)
  have HW0 := Lib.hid hW0
  clear ha hb hc hm hW0 hv
  cases hl1 : longB p with
  | true =>
    rw [hl1] at HL1
    clear hl1
    go_enter Tryd.func10, Tryd.ntmps10
    go_wp2_with fail
    rw [← HW0.out]
    obtain ⟨y0, y1, y2⟩ := BC.out W0 (Below.refl _ _)
    refine HL1.out.mono ?_
    rintro e w' ⟨rfl, rfl⟩
    go_wp2_with fail
    refine HAW.out.mono ?_
    rintro e w' ⟨rfl, hx⟩
    have HX := Lib.hid hx
    clear hx y0 y1 y2
    go_wp2_with fail
    go_ret
    exact ⟨rfl, B0.out.trans (HX.out.mono B0.out.size)⟩
  | false =>
  rw [hl1] at HL1
  cases hl2 : longB q with
  | true =>
    rw [hl2] at HL2
    clear hl2
    go_enter Tryd.func10, Tryd.ntmps10
    go_wp2_with fail
    rw [← HW0.out]
    obtain ⟨y0, y1, y2⟩ := BC.out W0 (Below.refl _ _)
    refine HL1.out.mono ?_
    rintro e w' ⟨rfl, rfl⟩
    go_wp2_with fail
    refine HL2.out.mono ?_
    rintro e w' ⟨rfl, rfl⟩
    go_wp2_with fail
    refine HAW.out.mono ?_
    rintro e w' ⟨rfl, hx⟩
    have HX := Lib.hid hx
    clear hx y0 y1 y2
    go_wp2_with fail
    go_ret
    exact ⟨rfl, B0.out.trans (HX.out.mono B0.out.size)⟩
  | false =>
  rw [hl2] at HL2
  cases hl3 : longB r with
  | true =>
    rw [hl3] at HL3
    clear hl3
    go_enter Tryd.func10, Tryd.ntmps10
    go_wp2_with fail
    rw [← HW0.out]
    obtain ⟨y0, y1, y2⟩ := BC.out W0 (Below.refl _ _)
    refine HL1.out.mono ?_
    rintro e w' ⟨rfl, rfl⟩
    go_wp2_with fail
    refine HL2.out.mono ?_
    rintro e w' ⟨rfl, rfl⟩
    go_wp2_with fail
    refine HL3.out.mono ?_
    rintro e w' ⟨rfl, rfl⟩
    go_wp2_with fail
    refine HAW.out.mono ?_
    rintro e w' ⟨rfl, hx⟩
    have HX := Lib.hid hx
    clear hx y0 y1 y2
    go_wp2_with fail
    go_ret
    exact ⟨rfl, B0.out.trans (HX.out.mono B0.out.size)⟩
  | false =>
  rw [hl3] at HL3
  cases hl4 : longB t with
  | true =>
    rw [hl4] at HL4
    clear hl4
    go_enter Tryd.func10, Tryd.ntmps10
    go_wp2_with fail
    rw [← HW0.out]
    obtain ⟨y0, y1, y2⟩ := BC.out W0 (Below.refl _ _)
    refine HL1.out.mono ?_
    rintro e w' ⟨rfl, rfl⟩
    go_wp2_with fail
    refine HL2.out.mono ?_
    rintro e w' ⟨rfl, rfl⟩
    go_wp2_with fail
    refine HL3.out.mono ?_
    rintro e w' ⟨rfl, rfl⟩
    go_wp2_with fail
    refine HL4.out.mono ?_
    rintro e w' ⟨rfl, rfl⟩
    go_wp2_with fail
    refine HAW.out.mono ?_
    rintro e w' ⟨rfl, hx⟩
    have HX := Lib.hid hx
    clear hx y0 y1 y2
    go_wp2_with fail
    go_ret
    exact ⟨rfl, B0.out.trans (HX.out.mono B0.out.size)⟩
  | false =>
  rw [hl4] at HL4
  have HF1 := Lib.hid (long_fit hl1)
  have HF2 := Lib.hid (long_fit hl2)
  have HF3 := Lib.hid (long_fit hl3)
  have HF4 := Lib.hid (long_fit hl4)
  have HP1 := Lib.hid (move_any W0 _ _ _ p r t HA.out HC.out HV.out HF1.out HF3.out HF4.out)
  have HP2 := Lib.hid (fun w' (h : Below W0.heap.size W0 w') => move_any w' _ _ _ q r t (HB.out.next h) (HC.out.next h) (HV.out.next h) HF2.out HF3.out HF4.out)
  clear hl1 hl2 hl3 hl4
  by_cases he1 : (moveR p r t).2 = 0
  case neg =>
    have iL : (moveR p r t).1.length = 0 := by rw [path_none p r t rfl he1]; rfl
    have i1 := int_some he1
    have i2 := int_some' he1
    clear he1
    go_enter Tryd.func10, Tryd.ntmps10
    go_wp2_with fail
    rw [← HW0.out]
    obtain ⟨y0, y1, y2⟩ := BC.out W0 (Below.refl _ _)
    refine HL1.out.mono ?_
    rintro e w' ⟨rfl, rfl⟩
    go_wp2_with fail
    refine HL2.out.mono ?_
    rintro e w' ⟨rfl, rfl⟩
    go_wp2_with fail
    refine HL3.out.mono ?_
    rintro e w' ⟨rfl, rfl⟩
    go_wp2_with fail
    refine HL4.out.mono ?_
    rintro e w' ⟨rfl, rfl⟩
    go_wp2_with fail
    refine HP1.out.mono ?_
    rintro e w1 ⟨v1, rfl, hs1, hb1⟩
    have HB1 := Lib.hid hb1
    obtain ⟨D1, d1, rfl⟩ := hs1.form
    clear hs1 hb1
    clear y0 y1 y2
    obtain ⟨y0, y1, y2⟩ := BC.out w1 HB1.out
    go_wp2_with fail
    refine (HP2.out w1 HB1.out).mono ?_
    rintro e w2 ⟨v2, rfl, hs2, hb2⟩
    have HB2 := Lib.hid (HB1.out.trans (hb2.mono HB1.out.size))
    obtain ⟨D2, d2, rfl⟩ := hs2.form
    clear hs2 hb2
    clear y0 y1 y2
    obtain ⟨y0, y1, y2⟩ := BC.out w2 HB2.out
    go_wp2_with fail
    refine (awake_any _ (HM.out.next HB2.out)).mono ?_
    rintro e wz ⟨rfl, hz⟩
    have HZ := Lib.hid (B0.out.trans ((HB2.out.trans (hz.mono HB2.out.size)).mono B0.out.size))
    clear hz y0 y1 y2
    go_wp2_with fail
    go_ret
    exact ⟨rfl, HZ.out⟩
  by_cases he2 : (moveR q r t).2 = 0
  case neg =>
    obtain ⟨x, hx⟩ : ∃ x, moveR p r t = (x, 0) := ⟨(moveR p r t).1, by rw [← he1]⟩
    rw [hx] at HP1
    have i1 := int_some he2
    clear he1 he2 hx
    go_enter Tryd.func10, Tryd.ntmps10
    go_wp2_with fail
    rw [← HW0.out]
    obtain ⟨y0, y1, y2⟩ := BC.out W0 (Below.refl _ _)
    refine HL1.out.mono ?_
    rintro e w' ⟨rfl, rfl⟩
    go_wp2_with fail
    refine HL2.out.mono ?_
    rintro e w' ⟨rfl, rfl⟩
    go_wp2_with fail
    refine HL3.out.mono ?_
    rintro e w' ⟨rfl, rfl⟩
    go_wp2_with fail
    refine HL4.out.mono ?_
    rintro e w' ⟨rfl, rfl⟩
    go_wp2_with fail
    refine HP1.out.mono ?_
    intro e w1 hx
    obtain ⟨v1, rfl, hs1, hb1⟩ := pathE_ok hx
    have HB1 := Lib.hid hb1
    obtain ⟨D1, d1, rfl⟩ := hs1.form
    clear hs1 hb1 hx
    clear y0 y1 y2
    obtain ⟨y0, y1, y2⟩ := BC.out w1 HB1.out
    go_wp2_with fail
    refine (HP2.out w1 HB1.out).mono ?_
    rintro e w2 ⟨v2, rfl, hs2, hb2⟩
    have HB2 := Lib.hid (HB1.out.trans (hb2.mono HB1.out.size))
    obtain ⟨D2, d2, rfl⟩ := hs2.form
    clear hs2 hb2
    clear y0 y1 y2
    obtain ⟨y0, y1, y2⟩ := BC.out w2 HB2.out
    go_wp2_with fail
    refine (awake_any _ (HM.out.next HB2.out)).mono ?_
    rintro e wz ⟨rfl, hz⟩
    have HZ := Lib.hid (B0.out.trans ((HB2.out.trans (hz.mono HB2.out.size)).mono B0.out.size))
    clear hz y0 y1 y2
    go_wp2_with fail
    go_ret
    exact ⟨rfl, HZ.out⟩
  obtain ⟨x, y, k, f1, f2, f3, f4, f5, f6, g1, g2⟩ := moves_facts he1 he2
  have F1 := Lib.hid f1
  have F2 := Lib.hid f2
  have F3 := Lib.hid f3
  have F4 := Lib.hid f4
  have F5 := Lib.hid f5
  have F6 := Lib.hid f6
  have G1 := Lib.hid g1
  have G2 := Lib.hid g2
  rw [F1.out] at HP1
  rw [F2.out] at HP2
  clear f1 f2 f3 f4 f5 f6 g1 g2 he1 he2
  go_enter Tryd.func10, Tryd.ntmps10
  go_wp2_with fail
  rw [← HW0.out]
  obtain ⟨y0, y1, y2⟩ := BC.out W0 (Below.refl _ _)
  refine HL1.out.mono ?_
  rintro e w' ⟨rfl, rfl⟩
  go_wp2_with fail
  refine HL2.out.mono ?_
  rintro e w' ⟨rfl, rfl⟩
  go_wp2_with fail
  refine HL3.out.mono ?_
  rintro e w' ⟨rfl, rfl⟩
  go_wp2_with fail
  refine HL4.out.mono ?_
  rintro e w' ⟨rfl, rfl⟩
  go_wp2_with fail
  refine HP1.out.mono ?_
  intro e w1 hx
  obtain ⟨v1, rfl, hs, hb⟩ := pathE_ok hx
  have HB1 := Lib.hid hb
  have HS1 := Lib.hid hs
  obtain ⟨D1, d1, rfl⟩ := hs.form
  clear hs
  clear hb
  try clear hx
  clear y0 y1 y2
  obtain ⟨y0, y1, y2⟩ := BC.out w1 HB1.out
  go_wp2_with fail
  refine (HP2.out w1 HB1.out).mono ?_
  intro e w2 hx
  obtain ⟨v2, rfl, hs, hb⟩ := pathE_ok hx
  have HB2 := Lib.hid (HB1.out.trans (hb.mono HB1.out.size))
  have HS1 := Lib.hid (HS1.out.next hb)
  have HS2 := Lib.hid hs
  obtain ⟨D2, d2, rfl⟩ := hs.form
  clear hs
  clear hb
  try clear hx
  clear y0 y1 y2
  obtain ⟨y0, y1, y2⟩ := BC.out w2 HB2.out
  go_wp2_with fail
  have H3 := move_any w2 _ _ _ x t r HS1.out (HV.out.next HB2.out) (HC.out.next HB2.out) G1.out HF4.out HF3.out
  rw [F3.out] at H3
  refine H3.mono ?_
  intro e w3 hx
  obtain ⟨v3, rfl, hs, hb⟩ := pathE_ok hx
  have HB3 := Lib.hid (HB2.out.trans (hb.mono HB2.out.size))
  have HS1 := Lib.hid (HS1.out.next hb)
  have HS2 := Lib.hid (HS2.out.next hb)
  have HS3 := Lib.hid hs
  obtain ⟨D3, d3, rfl⟩ := hs.form
  clear hs
  clear hb
  try clear hx
  clear y0 y1 y2
  obtain ⟨y0, y1, y2⟩ := BC.out w3 HB3.out
  go_wp2_with fail
  clear H3
  have H4 := pUnder_any w3 _ _ x t HS1.out (HV.out.next HB3.out) G1.out HF4.out
  rw [F4.out] at H4
  refine H4.mono ?_
  intro e w4 hx
  obtain ⟨rfl, hb⟩ : e = .returned (.tuple #[.bool true, .int .i64 0]) ∧ Below w3.heap.size w3 w4 := hx
  have HB4 := Lib.hid (HB3.out.trans (hb.mono HB3.out.size))
  have HS1 := Lib.hid (HS1.out.next hb)
  have HS2 := Lib.hid (HS2.out.next hb)
  have HS3 := Lib.hid (HS3.out.next hb)
  clear hb
  try clear hx
  clear y0 y1 y2
  obtain ⟨y0, y1, y2⟩ := BC.out w4 HB4.out
  go_wp2_with fail
  clear H4
  have H5 := pCompare_any w4 _ _ p q (HA.out.next HB4.out) (HB.out.next HB4.out) HF1.out HF2.out
  rw [F5.out] at H5
  refine H5.mono ?_
  intro e w5 hx
  obtain ⟨rfl, hb⟩ : e = .returned (.tuple #[.int .i64 k, .int .i64 0]) ∧ Below w4.heap.size w4 w5 := hx
  have HB5 := Lib.hid (HB4.out.trans (hb.mono HB4.out.size))
  have HS1 := Lib.hid (HS1.out.next hb)
  have HS2 := Lib.hid (HS2.out.next hb)
  have HS3 := Lib.hid (HS3.out.next hb)
  clear hb
  try clear hx
  clear y0 y1 y2
  obtain ⟨y0, y1, y2⟩ := BC.out w5 HB5.out
  go_wp2_with fail
  clear H5
  have H6 := pCompare_any w5 _ _ x y HS1.out HS2.out G1.out G2.out
  rw [F6.out] at H6
  refine H6.mono ?_
  intro e w6 hx
  obtain ⟨rfl, hb⟩ : e = .returned (.tuple #[.int .i64 k, .int .i64 0]) ∧ Below w5.heap.size w5 w6 := hx
  have HB6 := Lib.hid (HB5.out.trans (hb.mono HB5.out.size))
  have HS3 := Lib.hid (HS3.out.next hb)
  clear hb
  try clear hx
  clear y0 y1 y2
  obtain ⟨y0, y1, y2⟩ := BC.out w6 HB6.out
  go_wp2_with fail
  clear H6
  have HSA := same_any w6 _ _ _ _ HS3.out (HA.out.next HB6.out) HF1.out.1 HF1.out.1
  rw [decide_eq_true rfl] at HSA
  refine HSA.mono ?_
  clear HSA
  rintro e w7 ⟨rfl, m, rfl⟩
  have HB7 := Lib.hid (HB6.out.trans ((drew_below w6 m).mono HB6.out.size))
  clear y0 y1 y2
  obtain ⟨y0, y1, y2⟩ := BC.out _ HB7.out
  go_wp2_with fail
  refine (awake_any _ (HM.out.next HB7.out)).mono ?_
  rintro e wz ⟨rfl, hz⟩
  have HZ := Lib.hid (B0.out.trans ((HB7.out.trans (hz.mono HB7.out.size)).mono B0.out.size))
  clear hz y0 y1 y2
  go_wp2_with fail
  go_ret
  exact ⟨rfl, HZ.out⟩
end Go.Proofs.YthopikmekhencaaDoor
