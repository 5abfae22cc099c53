/- The law PathsOrder: it returns true. Conditions: the slices hold what is said of them; the library's variable MaxLen holds a number. -/
import Derived.Test.YthopikmekhencaaDoorOrdNeg
import Derived.Test.YthopikmekhencaaDoorOrdZero
import Derived.Test.YthopikmekhencaaDoorOrdPos
namespace Go.Proofs.YthopikmekhencaaDoor
open Go.RowKit

set_option maxRecDepth 100000 in
set_option maxHeartbeats 32000000 in
theorem law_order (w : World) (a b c : Value) (p q r : Path) (ha : SL encS w w.heap.size a p) (hb : SL encS w w.heap.size b q) (hc : SL encS w w.heap.size c r) (hm : ML w) :
    Calls Tryd.prog 8 #[.agg #[a, b, c]] w fun e w' => e = .returned (.bool true) ∧ Below w.heap.size w w' := by
  cases hl1 : longB p with
  | true =>
    obtain ⟨A1, c1, rfl⟩ := ha.form
    obtain ⟨A2, c2, rfl⟩ := hb.form
    obtain ⟨A3, c3, rfl⟩ := hc.form
    obtain ⟨W0, hW0⟩ : ∃ W0, W0 = w.alloc (.cells #[.slice A1 p.length c1, .slice A2 q.length c2, .slice A3 r.length c3] 51) := ⟨_, rfl⟩
    have B0 : Hid (Below w.heap.size w W0) := by rw [hW0]; exact (Below.refl _ _).alloc (Nat.le_refl _) _
    have BC : Hid (∀ w', Below W0.heap.size W0 w' → w'.cell? ⟨w.heap.size, 0, none⟩ = some (.slice A1 p.length c1) ∧ w'.cell? ⟨w.heap.size, 1, none⟩ = some (.slice A2 q.length c2) ∧ w'.cell? ⟨w.heap.size, 2, none⟩ = some (.slice A3 r.length c3)) := fun w' h => by rw [hW0] at h; exact box_three h
    have HA := Lib.hid (ha.next B0.out)
    have HB := Lib.hid (hb.next B0.out)
    have HC := Lib.hid (hc.next B0.out)
    have HM := Lib.hid (hm.next B0.out)
    have HL1 := Lib.hid (long_any W0 _ p HA.out)
    have HL2 := Lib.hid (long_any W0 _ q HB.out)
    have HL3 := Lib.hid (long_any W0 _ r HC.out)
    have HAW := Lib.hid (awake_any W0 HM.out)
    have HW0 := Lib.hid hW0
    clear ha hb hc hm hW0
    rw [hl1] at HL1
    clear hl1
    go_enter Tryd.func8, Tryd.ntmps8
    go_wp2_with fail
    rw [← HW0.out]
    obtain ⟨y0, y1, y2⟩ := BC.out W0 (Below.refl _ _)
    refine HL1.out.mono ?_
    rintro e w' ⟨rfl, rfl⟩
    go_wp2_with fail
    refine HAW.out.mono ?_
    rintro e w' ⟨rfl, hx⟩
    have HX := Lib.hid hx
    clear hx y0 y1 y2
    go_wp2_with fail
    go_ret
    exact ⟨rfl, B0.out.trans (HX.out.mono B0.out.size)⟩
  | false =>
  cases hl2 : longB q with
  | true =>
    obtain ⟨A1, c1, rfl⟩ := ha.form
    obtain ⟨A2, c2, rfl⟩ := hb.form
    obtain ⟨A3, c3, rfl⟩ := hc.form
    obtain ⟨W0, hW0⟩ : ∃ W0, W0 = w.alloc (.cells #[.slice A1 p.length c1, .slice A2 q.length c2, .slice A3 r.length c3] 51) := ⟨_, rfl⟩
    have B0 : Hid (Below w.heap.size w W0) := by rw [hW0]; exact (Below.refl _ _).alloc (Nat.le_refl _) _
    have BC : Hid (∀ w', Below W0.heap.size W0 w' → w'.cell? ⟨w.heap.size, 0, none⟩ = some (.slice A1 p.length c1) ∧ w'.cell? ⟨w.heap.size, 1, none⟩ = some (.slice A2 q.length c2) ∧ w'.cell? ⟨w.heap.size, 2, none⟩ = some (.slice A3 r.length c3)) := fun w' h => by rw [hW0] at h; exact box_three h
    have HA := Lib.hid (ha.next B0.out)
    have HB := Lib.hid (hb.next B0.out)
    have HC := Lib.hid (hc.next B0.out)
    have HM := Lib.hid (hm.next B0.out)
    have HL1 := Lib.hid (long_any W0 _ p HA.out)
    have HL2 := Lib.hid (long_any W0 _ q HB.out)
    have HL3 := Lib.hid (long_any W0 _ r HC.out)
    have HAW := Lib.hid (awake_any W0 HM.out)
    have HW0 := Lib.hid hW0
    clear ha hb hc hm hW0
    rw [hl1] at HL1
    rw [hl2] at HL2
    clear hl1 hl2
    go_enter Tryd.func8, Tryd.ntmps8
    go_wp2_with fail
    rw [← HW0.out]
    obtain ⟨y0, y1, y2⟩ := BC.out W0 (Below.refl _ _)
    refine HL1.out.mono ?_
    rintro e w' ⟨rfl, rfl⟩
    go_wp2_with fail
    refine HL2.out.mono ?_
    rintro e w' ⟨rfl, rfl⟩
    go_wp2_with fail
    refine HAW.out.mono ?_
    rintro e w' ⟨rfl, hx⟩
    have HX := Lib.hid hx
    clear hx y0 y1 y2
    go_wp2_with fail
    go_ret
    exact ⟨rfl, B0.out.trans (HX.out.mono B0.out.size)⟩
  | false =>
  cases hl3 : longB r with
  | true =>
    obtain ⟨A1, c1, rfl⟩ := ha.form
    obtain ⟨A2, c2, rfl⟩ := hb.form
    obtain ⟨A3, c3, rfl⟩ := hc.form
    obtain ⟨W0, hW0⟩ : ∃ W0, W0 = w.alloc (.cells #[.slice A1 p.length c1, .slice A2 q.length c2, .slice A3 r.length c3] 51) := ⟨_, rfl⟩
    have B0 : Hid (Below w.heap.size w W0) := by rw [hW0]; exact (Below.refl _ _).alloc (Nat.le_refl _) _
    have BC : Hid (∀ w', Below W0.heap.size W0 w' → w'.cell? ⟨w.heap.size, 0, none⟩ = some (.slice A1 p.length c1) ∧ w'.cell? ⟨w.heap.size, 1, none⟩ = some (.slice A2 q.length c2) ∧ w'.cell? ⟨w.heap.size, 2, none⟩ = some (.slice A3 r.length c3)) := fun w' h => by rw [hW0] at h; exact box_three h
    have HA := Lib.hid (ha.next B0.out)
    have HB := Lib.hid (hb.next B0.out)
    have HC := Lib.hid (hc.next B0.out)
    have HM := Lib.hid (hm.next B0.out)
    have HL1 := Lib.hid (long_any W0 _ p HA.out)
    have HL2 := Lib.hid (long_any W0 _ q HB.out)
    have HL3 := Lib.hid (long_any W0 _ r HC.out)
    have HAW := Lib.hid (awake_any W0 HM.out)
    have HW0 := Lib.hid hW0
    clear ha hb hc hm hW0
    rw [hl1] at HL1
    rw [hl2] at HL2
    rw [hl3] at HL3
    clear hl1 hl2 hl3
    go_enter Tryd.func8, Tryd.ntmps8
    go_wp2_with fail
    rw [← HW0.out]
    obtain ⟨y0, y1, y2⟩ := BC.out W0 (Below.refl _ _)
    refine HL1.out.mono ?_
    rintro e w' ⟨rfl, rfl⟩
    go_wp2_with fail
    refine HL2.out.mono ?_
    rintro e w' ⟨rfl, rfl⟩
    go_wp2_with fail
    refine HL3.out.mono ?_
    rintro e w' ⟨rfl, rfl⟩
    go_wp2_with fail
    refine HAW.out.mono ?_
    rintro e w' ⟨rfl, hx⟩
    have HX := Lib.hid hx
    clear hx y0 y1 y2
    go_wp2_with fail
    go_ret
    exact ⟨rfl, B0.out.trans (HX.out.mono B0.out.size)⟩
  | false =>
  by_cases hk1 : checkE p = 0
  case neg =>
    obtain ⟨A1, c1, rfl⟩ := ha.form
    obtain ⟨A2, c2, rfl⟩ := hb.form
    obtain ⟨A3, c3, rfl⟩ := hc.form
    obtain ⟨W0, hW0⟩ : ∃ W0, W0 = w.alloc (.cells #[.slice A1 p.length c1, .slice A2 q.length c2, .slice A3 r.length c3] 51) := ⟨_, rfl⟩
    have B0 : Hid (Below w.heap.size w W0) := by rw [hW0]; exact (Below.refl _ _).alloc (Nat.le_refl _) _
    have BC : Hid (∀ w', Below W0.heap.size W0 w' → w'.cell? ⟨w.heap.size, 0, none⟩ = some (.slice A1 p.length c1) ∧ w'.cell? ⟨w.heap.size, 1, none⟩ = some (.slice A2 q.length c2) ∧ w'.cell? ⟨w.heap.size, 2, none⟩ = some (.slice A3 r.length c3)) := fun w' h => by rw [hW0] at h; exact box_three h
    have HA := Lib.hid (ha.next B0.out)
    have HB := Lib.hid (hb.next B0.out)
    have HC := Lib.hid (hc.next B0.out)
    have HM := Lib.hid (hm.next B0.out)
    have HL1 := Lib.hid (long_any W0 _ p HA.out)
    have HL2 := Lib.hid (long_any W0 _ q HB.out)
    have HL3 := Lib.hid (long_any W0 _ r HC.out)
    have HAW := Lib.hid (awake_any W0 HM.out)
    have HW0 := Lib.hid hW0
    clear ha hb hc hm hW0
    rw [hl1] at HL1
    rw [hl2] at HL2
    rw [hl3] at HL3
    have HF1 := Lib.hid (long_fit hl1)
    have HF2 := Lib.hid (long_fit hl2)
    have HF3 := Lib.hid (long_fit hl3)
    have HK1 := Lib.hid (check_any W0 _ p HA.out HF1.out.2)
    have i1 := int_some hk1
    clear hl1 hl2 hl3 hk1
    go_enter Tryd.func8, Tryd.ntmps8
    go_wp2_with fail
    rw [← HW0.out]
    obtain ⟨y0, y1, y2⟩ := BC.out W0 (Below.refl _ _)
    refine HL1.out.mono ?_
    rintro e w' ⟨rfl, rfl⟩
    go_wp2_with fail
    refine HL2.out.mono ?_
    rintro e w' ⟨rfl, rfl⟩
    go_wp2_with fail
    refine HL3.out.mono ?_
    rintro e w' ⟨rfl, rfl⟩
    go_wp2_with fail
    refine HK1.out.mono ?_
    rintro e w' ⟨rfl, rfl⟩
    go_wp2_with fail
    refine HAW.out.mono ?_
    rintro e w' ⟨rfl, hx⟩
    have HX := Lib.hid hx
    clear hx y0 y1 y2
    go_wp2_with fail
    go_ret
    exact ⟨rfl, B0.out.trans (HX.out.mono B0.out.size)⟩
  by_cases hk2 : checkE q = 0
  case neg =>
    obtain ⟨A1, c1, rfl⟩ := ha.form
    obtain ⟨A2, c2, rfl⟩ := hb.form
    obtain ⟨A3, c3, rfl⟩ := hc.form
    obtain ⟨W0, hW0⟩ : ∃ W0, W0 = w.alloc (.cells #[.slice A1 p.length c1, .slice A2 q.length c2, .slice A3 r.length c3] 51) := ⟨_, rfl⟩
    have B0 : Hid (Below w.heap.size w W0) := by rw [hW0]; exact (Below.refl _ _).alloc (Nat.le_refl _) _
    have BC : Hid (∀ w', Below W0.heap.size W0 w' → w'.cell? ⟨w.heap.size, 0, none⟩ = some (.slice A1 p.length c1) ∧ w'.cell? ⟨w.heap.size, 1, none⟩ = some (.slice A2 q.length c2) ∧ w'.cell? ⟨w.heap.size, 2, none⟩ = some (.slice A3 r.length c3)) := fun w' h => by rw [hW0] at h; exact box_three h
    have HA := Lib.hid (ha.next B0.out)
    have HB := Lib.hid (hb.next B0.out)
    have HC := Lib.hid (hc.next B0.out)
    have HM := Lib.hid (hm.next B0.out)
    have HL1 := Lib.hid (long_any W0 _ p HA.out)
    have HL2 := Lib.hid (long_any W0 _ q HB.out)
    have HL3 := Lib.hid (long_any W0 _ r HC.out)
    have HAW := Lib.hid (awake_any W0 HM.out)
    have HW0 := Lib.hid hW0
    clear ha hb hc hm hW0
    rw [hl1] at HL1
    rw [hl2] at HL2
    rw [hl3] at HL3
    have HF1 := Lib.hid (long_fit hl1)
    have HF2 := Lib.hid (long_fit hl2)
    have HF3 := Lib.hid (long_fit hl3)
    have HK1 := Lib.hid (check_any W0 _ p HA.out HF1.out.2)
    rw [hk1] at HK1
    have HK2 := Lib.hid (check_any W0 _ q HB.out HF2.out.2)
    have i1 := int_some hk2
    clear hl1 hl2 hl3 hk1 hk2
    go_enter Tryd.func8, Tryd.ntmps8
    go_wp2_with fail
    rw [← HW0.out]
    obtain ⟨y0, y1, y2⟩ := BC.out W0 (Below.refl _ _)
    refine HL1.out.mono ?_
    rintro e w' ⟨rfl, rfl⟩
    go_wp2_with fail
    refine HL2.out.mono ?_
    rintro e w' ⟨rfl, rfl⟩
    go_wp2_with fail
    refine HL3.out.mono ?_
    rintro e w' ⟨rfl, rfl⟩
    go_wp2_with fail
    refine HK1.out.mono ?_
    rintro e w' ⟨rfl, rfl⟩
    go_wp2_with fail
    refine HK2.out.mono ?_
    rintro e w' ⟨rfl, rfl⟩
    go_wp2_with fail
    refine HAW.out.mono ?_
    rintro e w' ⟨rfl, hx⟩
    have HX := Lib.hid hx
    clear hx y0 y1 y2
    go_wp2_with fail
    go_ret
    exact ⟨rfl, B0.out.trans (HX.out.mono B0.out.size)⟩
  by_cases hk3 : checkE r = 0
  case neg =>
    obtain ⟨A1, c1, rfl⟩ := ha.form
    obtain ⟨A2, c2, rfl⟩ := hb.form
    obtain ⟨A3, c3, rfl⟩ := hc.form
    obtain ⟨W0, hW0⟩ : ∃ W0, W0 = w.alloc (.cells #[.slice A1 p.length c1, .slice A2 q.length c2, .slice A3 r.length c3] 51) := ⟨_, rfl⟩
    have B0 : Hid (Below w.heap.size w W0) := by rw [hW0]; exact (Below.refl _ _).alloc (Nat.le_refl _) _
    have BC : Hid (∀ w', Below W0.heap.size W0 w' → w'.cell? ⟨w.heap.size, 0, none⟩ = some (.slice A1 p.length c1) ∧ w'.cell? ⟨w.heap.size, 1, none⟩ = some (.slice A2 q.length c2) ∧ w'.cell? ⟨w.heap.size, 2, none⟩ = some (.slice A3 r.length c3)) := fun w' h => by rw [hW0] at h; exact box_three h
    have HA := Lib.hid (ha.next B0.out)
    have HB := Lib.hid (hb.next B0.out)
    have HC := Lib.hid (hc.next B0.out)
    have HM := Lib.hid (hm.next B0.out)
    have HL1 := Lib.hid (long_any W0 _ p HA.out)
    have HL2 := Lib.hid (long_any W0 _ q HB.out)
    have HL3 := Lib.hid (long_any W0 _ r HC.out)
    have HAW := Lib.hid (awake_any W0 HM.out)
    have HW0 := Lib.hid hW0
    clear ha hb hc hm hW0
    rw [hl1] at HL1
    rw [hl2] at HL2
    rw [hl3] at HL3
    have HF1 := Lib.hid (long_fit hl1)
    have HF2 := Lib.hid (long_fit hl2)
    have HF3 := Lib.hid (long_fit hl3)
    have HK1 := Lib.hid (check_any W0 _ p HA.out HF1.out.2)
    rw [hk1] at HK1
    have HK2 := Lib.hid (check_any W0 _ q HB.out HF2.out.2)
    rw [hk2] at HK2
    have HK3 := Lib.hid (check_any W0 _ r HC.out HF3.out.2)
    have i1 := int_some hk3
    clear hl1 hl2 hl3 hk1 hk2 hk3
    go_enter Tryd.func8, Tryd.ntmps8
    go_wp2_with fail
    rw [← HW0.out]
    obtain ⟨y0, y1, y2⟩ := BC.out W0 (Below.refl _ _)
    refine HL1.out.mono ?_
    rintro e w' ⟨rfl, rfl⟩
    go_wp2_with fail
    refine HL2.out.mono ?_
    rintro e w' ⟨rfl, rfl⟩
    go_wp2_with fail
    refine HL3.out.mono ?_
    rintro e w' ⟨rfl, rfl⟩
    go_wp2_with fail
    refine HK1.out.mono ?_
    rintro e w' ⟨rfl, rfl⟩
    go_wp2_with fail
    refine HK2.out.mono ?_
    rintro e w' ⟨rfl, rfl⟩
    go_wp2_with fail
    refine HK3.out.mono ?_
    rintro e w' ⟨rfl, rfl⟩
    go_wp2_with fail
    refine HAW.out.mono ?_
    rintro e w' ⟨rfl, hx⟩
    have HX := Lib.hid hx
    clear hx y0 y1 y2
    go_wp2_with fail
    go_ret
    exact ⟨rfl, B0.out.trans (HX.out.mono B0.out.size)⟩
  have hs : pc p q = -1 ∨ pc p q = 0 ∨ pc p q = 1 := by have := pc_range p q; omega
  rcases hs with hs | hs | hs
  · exact law_order_neg w a b c p q r ha hb hc hm hl1 hl2 hl3 hk1 hk2 hk3 hs
  · exact law_order_zero w a b c p q r ha hb hc hm hl1 hl2 hl3 hk1 hk2 hk3 hs
  · exact law_order_pos w a b c p q r ha hb hc hm hl1 hl2 hl3 hk1 hk2 hk3 hs
end Go.Proofs.YthopikmekhencaaDoor
