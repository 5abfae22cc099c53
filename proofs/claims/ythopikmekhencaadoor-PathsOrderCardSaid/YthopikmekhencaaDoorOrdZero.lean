/- The law PathsOrder where compare gives 0. Conditions: the slices hold paths; the library's variable MaxLen holds a number. -/
import Derived.Test.YthopikmekhencaaDoorOrdBase
namespace Go.Proofs.YthopikmekhencaaDoor
open Go.RowKit

set_option maxRecDepth 100000 in
set_option maxHeartbeats 32000000 in
theorem law_order_zero (w : World) (a b c : Value) (p q r : Path) (ha : SL encS w w.heap.size a p) (hb : SL encS w w.heap.size b q) (hc : SL encS w w.heap.size c r) (hm : ML w) (hl1 : longB p = false) (hl2 : longB q = false) (hl3 : longB r = false) (hk1 : checkE p = 0) (hk2 : checkE q = 0) (hk3 : checkE r = 0) (hs : pc p q = 0) :
    Calls Tryd.prog 8 #[.agg #[a, b, c]] w fun e w' => e = .returned (.bool true) ∧ Below w.heap.size w w' := by
  obtain ⟨A1, c1, rfl⟩ := ha.form
  obtain ⟨A2, c2, rfl⟩ := hb.form
  obtain ⟨A3, c3, rfl⟩ := hc.form
  obtain ⟨W0, hW0⟩ : ∃ W0, W0 = w.alloc (.cells #[.slice A1 p.length c1, .slice A2 q.length c2, .slice A3 r.length c3] 51) := ⟨_, rfl⟩
  have B0 : Hid (Below w.heap.size w W0) := by rw [hW0]; exact (Below.refl _ _).alloc (Nat.le_refl _) _
  have BC : Hid (∀ w', Below W0.heap.size W0 w' → w'.cell? ⟨w.heap.size, 0, none⟩ = some (.slice A1 p.length c1) ∧ w'.cell? ⟨w.heap.size, 1, none⟩ = some (.slice A2 q.length c2) ∧ w'.cell? ⟨w.heap.size, 2, none⟩ = some (.slice A3 r.length c3)) := fun w' h => by rw [hW0] at h; exact box_three h
  have HA := Lib.hid (ha.next B0.out)
  have HB := Lib.hid (hb.next B0.out)
  have HC := Lib.hid (hc.next B0.out)
  have HM := Lib.hid (hm.next B0.out)
  have HL1 := Lib.hid (long_any W0 _ p HA.out)
  have HL2 := Lib.hid (long_any W0 _ q HB.out)
  have HL3 := Lib.hid (long_any W0 _ r HC.out)
  have HW0 := Lib.hid hW0
  clear ha hb hc hm hW0
  have HF1 := Lib.hid (long_fit hl1)
  have HF2 := Lib.hid (long_fit hl2)
  have HF3 := Lib.hid (long_fit hl3)
  have HK1 := Lib.hid (check_any W0 _ p HA.out HF1.out.2)
  have HK2 := Lib.hid (check_any W0 _ q HB.out HF2.out.2)
  have HK3 := Lib.hid (check_any W0 _ r HC.out HF3.out.2)
  rw [hk1] at HK1
  rw [hk2] at HK2
  rw [hk3] at HK3
  rw [hl1] at HL1
  rw [hl2] at HL2
  rw [hl3] at HL3
  clear hl1 hl2 hl3
  obtain ⟨k1, k2, k3, u, x, f1, f2, f3, f4, f5, f6, f7, f8, f9, f10, f11, f12, f13, f14, f15, f16, f17, f18, f19⟩ := order_facts hk1 hk2 hk3
  have F1 := Lib.hid f1
  have F2 := Lib.hid f2
  have F3 := Lib.hid f3
  have F4 := Lib.hid f4
  have F5 := Lib.hid f5
  have F6 := Lib.hid f6
  have F7 := Lib.hid f7
  have F8 := Lib.hid f8
  have F9 := Lib.hid f9
  have F10 := Lib.hid f10
  have F11 := Lib.hid f11
  have F12 := Lib.hid f12
  have F13 := Lib.hid f13
  have F15 := Lib.hid f15
  have F16 := Lib.hid f16
  have F17 := Lib.hid f17
  have F18 := Lib.hid f18
  clear hk1 hk2 hk3 f1 f2 f3 f4 f5 f6 f7 f8 f9 f10 f11 f12 f13 f15 f16 f17 f18
  have E0 : Hid ((x.length = p.length) ∨ (¬ x.length = p.length ∧ x.length = q.length) ∨ (∃ (g1 : x.length < p.length) (g2 : x.length < q.length), (p[x.length].toList == q[x.length].toList) = false)) := by
    by_cases e1 : x.length = p.length
    · exact .inl e1
    by_cases e2 : x.length = q.length
    · exact .inr (.inl ⟨e1, e2⟩)
    have g1 : x.length < p.length := by have := F16.out; omega
    have g2 : x.length < q.length := by have := F17.out; omega
    exact .inr (.inr ⟨g1, g2, toList_beq_ne (F18.out g1 g2)⟩)
  obtain rfl : k1 = 0 := f19.trans hs
  clear f19 hs f14
  obtain rfl := F13.out rfl
  by_cases j2 : k2 ≤ 0
  · have G10 : decide ((0 : Int) = 0) = true := by decide
    rw [G10] at F10
    have j3 : k3 ≤ 0 := F11.out (by decide) j2
    clear G10 F11 F12 F13
    go_enter Tryd.func8, Tryd.ntmps8
    go_wp2_with fail
    rw [← HW0.out]
    obtain ⟨y0, y1, y2⟩ := BC.out W0 (Below.refl _ _)
    refine HL1.out.mono ?_
    rintro e w' ⟨rfl, rfl⟩
    go_wp2_with fail
    refine HL2.out.mono ?_
    rintro e w' ⟨rfl, rfl⟩
    go_wp2_with fail
    refine HL3.out.mono ?_
    rintro e w' ⟨rfl, rfl⟩
    go_wp2_with fail
    refine HK1.out.mono ?_
    rintro e w' ⟨rfl, rfl⟩
    go_wp2_with fail
    refine HK2.out.mono ?_
    rintro e w' ⟨rfl, rfl⟩
    go_wp2_with fail
    refine HK3.out.mono ?_
    rintro e w' ⟨rfl, rfl⟩
    go_wp2_with fail
    have HQ := pCompare_any W0 _ _ p q HA.out HB.out HF1.out HF2.out
    rw [F1.out] at HQ
    refine HQ.mono ?_
    clear HQ
    intro e w1 hx
    obtain ⟨rfl, hb⟩ : e = .returned (.tuple #[.int .i64 (0), .int .i64 0]) ∧ Below W0.heap.size W0 w1 := hx
    have HB1 := Lib.hid hb
    clear hb
    try clear hx
    clear y0 y1 y2
    obtain ⟨y0, y1, y2⟩ := BC.out w1 HB1.out
    go_wp2_with fail
    have HQ := pCompare_any w1 _ _ q p (HB.out.next HB1.out) (HA.out.next HB1.out) HF2.out HF1.out
    rw [F2.out] at HQ
    refine HQ.mono ?_
    clear HQ
    intro e w2 hx
    obtain ⟨rfl, hb⟩ : e = .returned (.tuple #[.int .i64 (0), .int .i64 0]) ∧ Below w1.heap.size w1 w2 := hx
    have HB2 := Lib.hid (HB1.out.trans (hb.mono HB1.out.size))
    clear hb
    try clear hx
    clear y0 y1 y2
    obtain ⟨y0, y1, y2⟩ := BC.out w2 HB2.out
    go_wp2_with fail
    have HQ := pCompare_any w2 _ _ q r (HB.out.next HB2.out) (HC.out.next HB2.out) HF2.out HF3.out
    rw [F3.out] at HQ
    refine HQ.mono ?_
    clear HQ
    intro e w3 hx
    obtain ⟨rfl, hb⟩ : e = .returned (.tuple #[.int .i64 k2, .int .i64 0]) ∧ Below w2.heap.size w2 w3 := hx
    have HB3 := Lib.hid (HB2.out.trans (hb.mono HB2.out.size))
    clear hb
    try clear hx
    clear y0 y1 y2
    obtain ⟨y0, y1, y2⟩ := BC.out w3 HB3.out
    go_wp2_with fail
    have HQ := pCompare_any w3 _ _ p r (HA.out.next HB3.out) (HC.out.next HB3.out) HF1.out HF3.out
    rw [F4.out] at HQ
    refine HQ.mono ?_
    clear HQ
    intro e w4 hx
    obtain ⟨rfl, hb⟩ : e = .returned (.tuple #[.int .i64 k3, .int .i64 0]) ∧ Below w3.heap.size w3 w4 := hx
    have HB4 := Lib.hid (HB3.out.trans (hb.mono HB3.out.size))
    clear hb
    try clear hx
    clear y0 y1 y2
    obtain ⟨y0, y1, y2⟩ := BC.out w4 HB4.out
    go_wp2_with fail
    have HSA := same_any w4 _ _ p q (HA.out.next HB4.out) (HB.out.next HB4.out) HF1.out.1 HF2.out.1
    rw [F10.out] at HSA
    refine HSA.mono ?_
    clear HSA
    rintro e wx ⟨rfl, m, rfl⟩
    have HB5 := Lib.hid (HB4.out.trans ((drew_below w4 m).mono HB4.out.size))
    obtain ⟨w5, hw5⟩ : ∃ w5, w5 = w4.drewN m := ⟨_, rfl⟩
    rw [← hw5] at HB5 ⊢
    clear hw5
    clear y0 y1 y2
    obtain ⟨y0, y1, y2⟩ := BC.out w5 HB5.out
    go_wp2_with fail
    have HQ := pUnder_any w5 _ _ p q (HA.out.next HB5.out) (HB.out.next HB5.out) HF1.out HF2.out
    rw [F5.out] at HQ
    refine HQ.mono ?_
    clear HQ
    intro e w6 hx
    obtain ⟨rfl, hb⟩ : e = .returned (.tuple #[.bool true, .int .i64 0]) ∧ Below w5.heap.size w5 w6 := hx
    have HB6 := Lib.hid (HB5.out.trans (hb.mono HB5.out.size))
    clear hb
    try clear hx
    clear y0 y1 y2
    obtain ⟨y0, y1, y2⟩ := BC.out w6 HB6.out
    go_wp2_with fail
    have HQ := pCommon_any w6 _ _ p q (HA.out.next HB6.out) (HB.out.next HB6.out) HF1.out HF2.out
    rw [F6.out] at HQ
    refine HQ.mono ?_
    clear HQ
    intro e w7 hx
    obtain ⟨v7, rfl, hs, hb⟩ := pathE_ok hx
    have HB7 := Lib.hid (HB6.out.trans (hb.mono HB6.out.size))
    have HS := Lib.hid hs
    obtain ⟨D, d, rfl⟩ := hs.form
    clear hs
    clear hb
    try clear hx
    clear y0 y1 y2
    obtain ⟨y0, y1, y2⟩ := BC.out w7 HB7.out
    go_wp2_with fail
    have HQ := pUnder_any w7 _ _ p x (HA.out.next HB7.out) HS.out HF1.out F15.out
    rw [F7.out] at HQ
    refine HQ.mono ?_
    clear HQ
    intro e w8 hx
    obtain ⟨rfl, hb⟩ : e = .returned (.tuple #[.bool true, .int .i64 0]) ∧ Below w7.heap.size w7 w8 := hx
    have HB8 := Lib.hid (HB7.out.trans (hb.mono HB7.out.size))
    have HS := Lib.hid (HS.out.next hb)
    clear hb
    try clear hx
    clear y0 y1 y2
    obtain ⟨y0, y1, y2⟩ := BC.out w8 HB8.out
    go_wp2_with fail
    have HQ := pUnder_any w8 _ _ q x (HB.out.next HB8.out) HS.out HF2.out F15.out
    rw [F8.out] at HQ
    refine HQ.mono ?_
    clear HQ
    intro e w9 hx
    obtain ⟨rfl, hb⟩ : e = .returned (.tuple #[.bool true, .int .i64 0]) ∧ Below w8.heap.size w8 w9 := hx
    have HB9 := Lib.hid (HB8.out.trans (hb.mono HB8.out.size))
    have HS := Lib.hid (HS.out.next hb)
    clear hb
    try clear hx
    clear y0 y1 y2
    obtain ⟨y0, y1, y2⟩ := BC.out w9 HB9.out
    go_wp2_with fail
    have HSA := same_any w9 _ _ x q HS.out (HB.out.next HB9.out) F15.out.1 HF2.out.1
    rw [F9.out] at HSA
    refine HSA.mono ?_
    clear HSA
    rintro e wx ⟨rfl, m2, rfl⟩
    have HB10 := Lib.hid (HB9.out.trans ((drew_below w9 m2).mono HB9.out.size))
    obtain ⟨w10, hw10⟩ : ∃ w10, w10 = w9.drewN m2 := ⟨_, rfl⟩
    rw [← hw10] at HB10 ⊢
    clear hw10
    clear y0 y1 y2
    obtain ⟨y0, y1, y2⟩ := BC.out w10 HB10.out
    go_wp2_with fail
    refine wp_region_still_tail 40 rfl (by kernel_rfl) ?_
    simp only [List.take_succ_cons, List.take_zero, List.drop_succ_cons, List.drop_zero]
    refine WS.out ?_
    rcases E0.out with e1 | ⟨e1, e2⟩ | ⟨g1, g2, e3⟩
    · have HB11 : Hid (Below W0.heap.size W0 w10.drew) := HB10.out.drew
      rw [e1]
      clear e1 E0
      iterate 40 (refine ws_step (fun K hK => ?_); go_simp; refine hK _ ?_; clear hK K)
      refine ws_nil ?_
      go_wp2_with fail
      refine (awake_any _ (HM.out.next HB11.out)).mono ?_
      rintro e wz ⟨rfl, hz⟩
      have HZ := Lib.hid (B0.out.trans ((HB11.out.trans (hz.mono HB11.out.size)).mono B0.out.size))
      clear hz y0 y1 y2
      go_wp2_with fail
      go_ret
      exact ⟨rfl, HZ.out⟩
    · have HB11 : Hid (Below W0.heap.size W0 w10.drew) := HB10.out.drew
      rw [e2] at e1 ⊢
      have b1 : ((q.length : Int) == (p.length : Int)) = false := by rw [beq_eq_false_iff_ne]; omega
      clear e2 e1 E0
      iterate 40 (refine ws_step (fun K hK => ?_); go_simp; refine hK _ ?_; clear hK K)
      refine ws_nil ?_
      go_wp2_with fail
      refine (awake_any _ (HM.out.next HB11.out)).mono ?_
      rintro e wz ⟨rfl, hz⟩
      have HZ := Lib.hid (B0.out.trans ((HB11.out.trans (hz.mono HB11.out.size)).mono B0.out.size))
      clear hz y0 y1 y2
      go_wp2_with fail
      go_ret
      exact ⟨rfl, HZ.out⟩
    · have HB11 : Hid (Below W0.heap.size W0 w10.drew) := HB10.out.drew
      have b1 : ((x.length : Int) == (p.length : Int)) = false := by rw [beq_eq_false_iff_ne]; omega
      have b2 : ((x.length : Int) == (q.length : Int)) = false := by rw [beq_eq_false_iff_ne]; omega
      have l1 : (x.length : Int) < (p.length : Int) := by omega
      have l2 : (x.length : Int) < (q.length : Int) := by omega
      have hnb : x.length ≤ 1000000 := F15.out.1
      obtain ⟨bp, op, rfl, _, hcp⟩ := (HA.out.next HB10.out).at (by omega)
      obtain ⟨bq, oq, rfl, _, hcq⟩ := (HB.out.next HB10.out).at (by omega)
      have cp := hcp x.length g1
      have cq := hcq x.length g2
      simp only [encS] at cp cq
      clear hcp hcq E0
      iterate 40 (refine ws_step (fun K hK => ?_); go_simp; refine hK _ ?_; clear hK K)
      refine ws_nil ?_
      go_wp2_with fail
      refine (awake_any _ (HM.out.next HB11.out)).mono ?_
      rintro e wz ⟨rfl, hz⟩
      have HZ := Lib.hid (B0.out.trans ((HB11.out.trans (hz.mono HB11.out.size)).mono B0.out.size))
      clear hz y0 y1 y2
      go_wp2_with fail
      go_ret
      exact ⟨rfl, HZ.out⟩
  · have G10 : decide ((0 : Int) = 0) = true := by decide
    rw [G10] at F10
    clear G10 F11 F12 F13
    go_enter Tryd.func8, Tryd.ntmps8
    go_wp2_with fail
    rw [← HW0.out]
    obtain ⟨y0, y1, y2⟩ := BC.out W0 (Below.refl _ _)
    refine HL1.out.mono ?_
    rintro e w' ⟨rfl, rfl⟩
    go_wp2_with fail
    refine HL2.out.mono ?_
    rintro e w' ⟨rfl, rfl⟩
    go_wp2_with fail
    refine HL3.out.mono ?_
    rintro e w' ⟨rfl, rfl⟩
    go_wp2_with fail
    refine HK1.out.mono ?_
    rintro e w' ⟨rfl, rfl⟩
    go_wp2_with fail
    refine HK2.out.mono ?_
    rintro e w' ⟨rfl, rfl⟩
    go_wp2_with fail
    refine HK3.out.mono ?_
    rintro e w' ⟨rfl, rfl⟩
    go_wp2_with fail
    have HQ := pCompare_any W0 _ _ p q HA.out HB.out HF1.out HF2.out
    rw [F1.out] at HQ
    refine HQ.mono ?_
    clear HQ
    intro e w1 hx
    obtain ⟨rfl, hb⟩ : e = .returned (.tuple #[.int .i64 (0), .int .i64 0]) ∧ Below W0.heap.size W0 w1 := hx
    have HB1 := Lib.hid hb
    clear hb
    try clear hx
    clear y0 y1 y2
    obtain ⟨y0, y1, y2⟩ := BC.out w1 HB1.out
    go_wp2_with fail
    have HQ := pCompare_any w1 _ _ q p (HB.out.next HB1.out) (HA.out.next HB1.out) HF2.out HF1.out
    rw [F2.out] at HQ
    refine HQ.mono ?_
    clear HQ
    intro e w2 hx
    obtain ⟨rfl, hb⟩ : e = .returned (.tuple #[.int .i64 (0), .int .i64 0]) ∧ Below w1.heap.size w1 w2 := hx
    have HB2 := Lib.hid (HB1.out.trans (hb.mono HB1.out.size))
    clear hb
    try clear hx
    clear y0 y1 y2
    obtain ⟨y0, y1, y2⟩ := BC.out w2 HB2.out
    go_wp2_with fail
    have HQ := pCompare_any w2 _ _ q r (HB.out.next HB2.out) (HC.out.next HB2.out) HF2.out HF3.out
    rw [F3.out] at HQ
    refine HQ.mono ?_
    clear HQ
    intro e w3 hx
    obtain ⟨rfl, hb⟩ : e = .returned (.tuple #[.int .i64 k2, .int .i64 0]) ∧ Below w2.heap.size w2 w3 := hx
    have HB3 := Lib.hid (HB2.out.trans (hb.mono HB2.out.size))
    clear hb
    try clear hx
    clear y0 y1 y2
    obtain ⟨y0, y1, y2⟩ := BC.out w3 HB3.out
    go_wp2_with fail
    have HQ := pCompare_any w3 _ _ p r (HA.out.next HB3.out) (HC.out.next HB3.out) HF1.out HF3.out
    rw [F4.out] at HQ
    refine HQ.mono ?_
    clear HQ
    intro e w4 hx
    obtain ⟨rfl, hb⟩ : e = .returned (.tuple #[.int .i64 k3, .int .i64 0]) ∧ Below w3.heap.size w3 w4 := hx
    have HB4 := Lib.hid (HB3.out.trans (hb.mono HB3.out.size))
    clear hb
    try clear hx
    clear y0 y1 y2
    obtain ⟨y0, y1, y2⟩ := BC.out w4 HB4.out
    go_wp2_with fail
    have HSA := same_any w4 _ _ p q (HA.out.next HB4.out) (HB.out.next HB4.out) HF1.out.1 HF2.out.1
    rw [F10.out] at HSA
    refine HSA.mono ?_
    clear HSA
    rintro e wx ⟨rfl, m, rfl⟩
    have HB5 := Lib.hid (HB4.out.trans ((drew_below w4 m).mono HB4.out.size))
    obtain ⟨w5, hw5⟩ : ∃ w5, w5 = w4.drewN m := ⟨_, rfl⟩
    rw [← hw5] at HB5 ⊢
    clear hw5
    clear y0 y1 y2
    obtain ⟨y0, y1, y2⟩ := BC.out w5 HB5.out
    go_wp2_with fail
    have HQ := pUnder_any w5 _ _ p q (HA.out.next HB5.out) (HB.out.next HB5.out) HF1.out HF2.out
    rw [F5.out] at HQ
    refine HQ.mono ?_
    clear HQ
    intro e w6 hx
    obtain ⟨rfl, hb⟩ : e = .returned (.tuple #[.bool true, .int .i64 0]) ∧ Below w5.heap.size w5 w6 := hx
    have HB6 := Lib.hid (HB5.out.trans (hb.mono HB5.out.size))
    clear hb
    try clear hx
    clear y0 y1 y2
    obtain ⟨y0, y1, y2⟩ := BC.out w6 HB6.out
    go_wp2_with fail
    have HQ := pCommon_any w6 _ _ p q (HA.out.next HB6.out) (HB.out.next HB6.out) HF1.out HF2.out
    rw [F6.out] at HQ
    refine HQ.mono ?_
    clear HQ
    intro e w7 hx
    obtain ⟨v7, rfl, hs, hb⟩ := pathE_ok hx
    have HB7 := Lib.hid (HB6.out.trans (hb.mono HB6.out.size))
    have HS := Lib.hid hs
    obtain ⟨D, d, rfl⟩ := hs.form
    clear hs
    clear hb
    try clear hx
    clear y0 y1 y2
    obtain ⟨y0, y1, y2⟩ := BC.out w7 HB7.out
    go_wp2_with fail
    have HQ := pUnder_any w7 _ _ p x (HA.out.next HB7.out) HS.out HF1.out F15.out
    rw [F7.out] at HQ
    refine HQ.mono ?_
    clear HQ
    intro e w8 hx
    obtain ⟨rfl, hb⟩ : e = .returned (.tuple #[.bool true, .int .i64 0]) ∧ Below w7.heap.size w7 w8 := hx
    have HB8 := Lib.hid (HB7.out.trans (hb.mono HB7.out.size))
    have HS := Lib.hid (HS.out.next hb)
    clear hb
    try clear hx
    clear y0 y1 y2
    obtain ⟨y0, y1, y2⟩ := BC.out w8 HB8.out
    go_wp2_with fail
    have HQ := pUnder_any w8 _ _ q x (HB.out.next HB8.out) HS.out HF2.out F15.out
    rw [F8.out] at HQ
    refine HQ.mono ?_
    clear HQ
    intro e w9 hx
    obtain ⟨rfl, hb⟩ : e = .returned (.tuple #[.bool true, .int .i64 0]) ∧ Below w8.heap.size w8 w9 := hx
    have HB9 := Lib.hid (HB8.out.trans (hb.mono HB8.out.size))
    have HS := Lib.hid (HS.out.next hb)
    clear hb
    try clear hx
    clear y0 y1 y2
    obtain ⟨y0, y1, y2⟩ := BC.out w9 HB9.out
    go_wp2_with fail
    have HSA := same_any w9 _ _ x q HS.out (HB.out.next HB9.out) F15.out.1 HF2.out.1
    rw [F9.out] at HSA
    refine HSA.mono ?_
    clear HSA
    rintro e wx ⟨rfl, m2, rfl⟩
    have HB10 := Lib.hid (HB9.out.trans ((drew_below w9 m2).mono HB9.out.size))
    obtain ⟨w10, hw10⟩ : ∃ w10, w10 = w9.drewN m2 := ⟨_, rfl⟩
    rw [← hw10] at HB10 ⊢
    clear hw10
    clear y0 y1 y2
    obtain ⟨y0, y1, y2⟩ := BC.out w10 HB10.out
    go_wp2_with fail
    refine wp_region_still_tail 40 rfl (by kernel_rfl) ?_
    simp only [List.take_succ_cons, List.take_zero, List.drop_succ_cons, List.drop_zero]
    refine WS.out ?_
    rcases E0.out with e1 | ⟨e1, e2⟩ | ⟨g1, g2, e3⟩
    · have HB11 : Hid (Below W0.heap.size W0 w10.drew) := HB10.out.drew
      rw [e1]
      clear e1 E0
      iterate 40 (refine ws_step (fun K hK => ?_); go_simp; refine hK _ ?_; clear hK K)
      refine ws_nil ?_
      go_wp2_with fail
      refine (awake_any _ (HM.out.next HB11.out)).mono ?_
      rintro e wz ⟨rfl, hz⟩
      have HZ := Lib.hid (B0.out.trans ((HB11.out.trans (hz.mono HB11.out.size)).mono B0.out.size))
      clear hz y0 y1 y2
      go_wp2_with fail
      go_ret
      exact ⟨rfl, HZ.out⟩
    · have HB11 : Hid (Below W0.heap.size W0 w10.drew) := HB10.out.drew
      rw [e2] at e1 ⊢
      have b1 : ((q.length : Int) == (p.length : Int)) = false := by rw [beq_eq_false_iff_ne]; omega
      clear e2 e1 E0
      iterate 40 (refine ws_step (fun K hK => ?_); go_simp; refine hK _ ?_; clear hK K)
      refine ws_nil ?_
      go_wp2_with fail
      refine (awake_any _ (HM.out.next HB11.out)).mono ?_
      rintro e wz ⟨rfl, hz⟩
      have HZ := Lib.hid (B0.out.trans ((HB11.out.trans (hz.mono HB11.out.size)).mono B0.out.size))
      clear hz y0 y1 y2
      go_wp2_with fail
      go_ret
      exact ⟨rfl, HZ.out⟩
    · have HB11 : Hid (Below W0.heap.size W0 w10.drew) := HB10.out.drew
      have b1 : ((x.length : Int) == (p.length : Int)) = false := by rw [beq_eq_false_iff_ne]; omega
      have b2 : ((x.length : Int) == (q.length : Int)) = false := by rw [beq_eq_false_iff_ne]; omega
      have l1 : (x.length : Int) < (p.length : Int) := by omega
      have l2 : (x.length : Int) < (q.length : Int) := by omega
      have hnb : x.length ≤ 1000000 := F15.out.1
      obtain ⟨bp, op, rfl, _, hcp⟩ := (HA.out.next HB10.out).at (by omega)
      obtain ⟨bq, oq, rfl, _, hcq⟩ := (HB.out.next HB10.out).at (by omega)
      have cp := hcp x.length g1
      have cq := hcq x.length g2
      simp only [encS] at cp cq
      clear hcp hcq E0
      iterate 40 (refine ws_step (fun K hK => ?_); go_simp; refine hK _ ?_; clear hK K)
      refine ws_nil ?_
      go_wp2_with fail
      refine (awake_any _ (HM.out.next HB11.out)).mono ?_
      rintro e wz ⟨rfl, hz⟩
      have HZ := Lib.hid (B0.out.trans ((HB11.out.trans (hz.mono HB11.out.size)).mono B0.out.size))
      clear hz y0 y1 y2
      go_wp2_with fail
      go_ret
      exact ⟨rfl, HZ.out⟩
end Go.Proofs.YthopikmekhencaaDoor
