/- The walk of RecordsRound: it returns true. Conditions: slices that hold the values and the bytes. -/
import Derived.Test.YtkbmkheipmbllaaShown
import Derived.Deep.RegionHeldLaw
namespace Go.Proofs.Ytkbmkheipmbllaa
open Go.RowKit

/-- The copy of the argument lies in a block, and its slices hold what they held. -/
structure BX (w : World) (x1 z1 : Value) (l : List Rm.Val) (y : List UInt8) (W : World) : Prop where
  bl : Below w.heap.size w W
  c0 : W.cell? ⟨w.heap.size, 0, none⟩ = some x1
  c1 : W.cell? ⟨w.heap.size, 1, none⟩ = some z1
  lt : w.heap.size < W.heap.size
  vl : VL W W.heap.size x1 l
  sl : SL encB W W.heap.size z1 y
section
variable {w W W' : World} {x1 z1 : Value} {l : List Rm.Val} {y : List UInt8}
theorem BX.next (h : BX w x1 z1 l y W) (hb : Below W.heap.size W W') : BX w x1 z1 l y W' :=
  ⟨h.bl.trans (hb.mono h.bl.size), (hb.cell (p := ⟨w.heap.size, 0, none⟩) h.lt).trans h.c0, (hb.cell (p := ⟨w.heap.size, 1, none⟩) h.lt).trans h.c1, Nat.lt_of_lt_of_le h.lt hb.size, h.vl.next hb, h.sl.next hb⟩
theorem BX.drew (h : BX w x1 z1 l y W) : BX w x1 z1 l y W.drew := h.next ((Below.refl _ _).drew)
theorem BX.first (t : TypeId) (hv : VL w w.heap.size x1 l) (hs : SL encB w w.heap.size z1 y) : BX w x1 z1 l y (w.alloc (.cells #[x1, z1] t)) :=
  have hb : Below w.heap.size w (w.alloc (.cells #[x1, z1] t)) := (Below.refl _ _).alloc (Nat.le_refl _) _
  have hk := Blk.new w #[x1, z1] t
  ⟨hb, hk.cell 0 rfl, hk.cell 1 rfl, by simp, hv.next hb, hs.next hb⟩
end
theorem true_shown {w W : World} {P : Prop} (h : P) (hW : Below w.heap.size w W) : P ∧ Calls Try.prog 10 #[] W fun e w' => e = .returned (.bool true) ∧ Below w.heap.size w w' :=
  ⟨h, (shown_any W).mono (by rintro e w' ⟨rfl, hb⟩; exact ⟨rfl, hW.trans (hb.mono hW.size)⟩)⟩
set_option maxRecDepth 100000 in
set_option maxHeartbeats 4000000 in
theorem law_round (w : World) (fs : List UInt8) (x1 z1 : Value) (l : List Rm.Val) (y : List UInt8) (pt : Nat) (hv : VL w w.heap.size x1 l) (hl : l.length ≤ 9223372036854775807) (hlz : ∀ z ∈ l, z.lst.length ≤ 9223372036854775807) (hs : SL encB w w.heap.size z1 y) (hy : y.length ≤ 9223372036854775807) (hpt : pt < 65536) :
    Calls Try.prog 5 #[.string ⟨fs.toArray⟩, .agg #[x1, z1], .int .u16 (pt : Int)] w fun e w' => e = .returned (.bool true) ∧ Below w.heap.size w w' := by
  obtain ⟨Ay, cy, rfl⟩ := hs.form
  have HX0 := Lib.hid (BX.first 40 hv hs)
  have hokn : Hid (Rm.okN l) := hv.okN
  have HLZ := Lib.hid hlz
  have hshn : Hid (∀ W, Below w.heap.size w W → Calls Try.prog 10 #[] W fun e w' => e = .returned (.bool true) ∧ Below w.heap.size w w') := fun W hW => (true_shown trivial hW).2
  clear hv hs hlz
  by_cases h70 : (70 : Int) < (fs.length : Int)
  · go_enter Try.func5, Try.ntmps5
    go_wp2_with fail
    refine (hshn.out _ HX0.out.bl).mono ?_
    rintro e w2 ⟨rfl, hB⟩
    have HB := Lib.hid hB
    clear hB
    go_wp2_with fail
    go_ret
    exact ⟨rfl, HB.out⟩
  go_enter Try.func5, Try.ntmps5
  go_wp2_with fail
  refine (far_any _ _ _ l HX0.out.vl hl).mono ?_
  rintro e w1 ⟨rfl, hb⟩
  have HX1 := Lib.hid (HX0.out.next hb)
  obtain ⟨p0, p1⟩ : w1.cell? ⟨w.heap.size, 0, none⟩ = some x1 ∧ w1.cell? ⟨w.heap.size, 1, none⟩ = some (.slice Ay y.length cy) := ⟨HX1.out.c0, HX1.out.c1⟩
  clear hb HX0
  by_cases hfar : farB l = true
  · rw [hfar]
    clear hfar
    go_wp2_with fail
    refine (hshn.out _ HX1.out.bl).mono ?_
    rintro e w2 ⟨rfl, hB⟩
    have HB := Lib.hid hB
    clear hB
    go_wp2_with fail
    go_ret
    exact ⟨rfl, HB.out⟩
  have hfar : farB l = false := by simpa using hfar
  have hl70 : l.length ≤ 70 := by
    unfold farB at hfar
    simp only [Bool.or_eq_false_iff, decide_eq_false_iff_not] at hfar
    omega
  rw [hfar]
  clear hfar
  by_cases h1000 : (1000 : Int) < (y.length : Int)
  · go_wp2_with fail
    refine (hshn.out _ HX1.out.bl).mono ?_
    rintro e w2 ⟨rfl, hB⟩
    have HB := Lib.hid hB
    clear hB
    go_wp2_with fail
    go_ret
    exact ⟨rfl, HB.out⟩
  have HEN := Lib.hid (encode_any w1 _ fs l HX1.out.vl (by omega) (by omega))
  go_wp2_with fail
  refine HEN.out.mono ?_
  rintro e w2 ⟨vB, rfl, hsB, hb⟩
  have HX2 := Lib.hid (HX1.out.next hb)
  obtain ⟨B, n, hr⟩ : ∃ B n, Rm.encR fs l = (B, n) := ⟨_, _, rfl⟩
  have hbad : n ≠ 0 → B = [] := fun h => by have := Rm.encR_bad (fs := fs) (l := l) (by rw [hr]; exact h); rw [hr] at this; exact this
  have hround : n = 0 → Rm.decR fs (B ++ y) = (l, B.length, 0) := fun h => by have := Rm.round (fs := fs) (l := l) y hokn.out (by rw [hr]; exact h); rw [hr] at this; exact this
  have hpart : n = 0 → ∀ k, k < B.length → Rm.decR fs (B.take k) = ([], 0, 10) := fun h k hk => by have := Rm.round_part (fs := fs) (l := l) k hokn.out (by rw [hr]; exact h) (by rw [hr]; exact hk); rw [hr] at this; exact this
  have hlen : n = 0 → B.length ≤ 4000 := fun h => by have := (Rm.encR_ok (fs := fs) (l := l) (by rw [hr]; exact h)).2.2.2.2; rw [hr] at this; exact this
  rw [hr] at hsB ⊢
  simp only at hsB ⊢
  obtain ⟨AB, cB, rfl⟩ := hsB.form
  have HSB := Lib.hid hsB
  obtain ⟨p0, p1⟩ : w2.cell? ⟨w.heap.size, 0, none⟩ = some x1 ∧ w2.cell? ⟨w.heap.size, 1, none⟩ = some (.slice Ay y.length cy) := ⟨HX2.out.c0, HX2.out.c1⟩
  clear hsB hb hr HEN HX1
  by_cases h0 : n = 0
  case neg =>
    have hd0 : ((n : Int) != 0) = true := by rw [bne_iff_ne]; omega
    obtain rfl := hbad h0
    clear hbad hround hpart hlen h0
    go_wp2_with fail
    refine (hshn.out _ HX2.out.bl).mono ?_
    rintro e w3 ⟨rfl, hB⟩
    have HB := Lib.hid hB
    clear hB
    go_wp2_with fail
    go_ret
    exact ⟨rfl, HB.out⟩
  subst h0
  have HRO := Lib.hid (hround rfl)
  have HPA := Lib.hid (hpart rfl)
  have hB4 := hlen rfl
  clear hbad hround hpart hlen
  have HN : Hid ((w2.alloc (.cells #[] 5)).drew.ownsRow w2.heap.size 5 1 (.slice (some ⟨w2.heap.size, 0, none⟩) 0 0) 0 []) := ownsRow_drewN (own_new w2 5) 1
  have hbn : Below w2.heap.size w2 (w2.alloc (.cells #[] 5)).drew := ((Below.refl w2.heap.size w2).alloc (Nat.le_refl _) _).drew
  have HXN := Lib.hid (HX2.out.next hbn)
  have HSN := Lib.hid (HSB.out.next hbn)
  have hzn : (w2.alloc (.cells #[] 5)).drew.heap.size = w2.heap.size + 1 := by show (w2.alloc (.cells #[] 5)).heap.size = _; simp
  have HBN := Lib.hid hbn
  clear hbn
  go_wp2_with fail
  go_region_held_law (fun W => W.cell? ⟨w.heap.size, 1, none⟩ = some (.slice Ay y.length cy)) (first | assumption | exact HXN.out.c1)
    (first
    | (rw [if_pos (by simp [Region.wanted])]
       refine wp_append_sl _ _ rfl w2.heap.size _ (.slice (some ⟨w2.heap.size, 0, none⟩) 0 0) 0 [] rfl HN.out _ B rfl HSN.out (by omega) (by rw [hzn]; omega) ?_
       intro v3 w3 hown hgrow
       rw [List.nil_append, Nat.zero_add] at hown
       have hb3 : Below w2.heap.size w2 w3 := HBN.out.grown hgrow (by rw [hzn]; omega) (fun r e => (World.ownsRow.lt HN.out r e).1)
       have HX3 := Lib.hid (HX2.out.next hb3)
       have HB3 := Lib.hid hb3
       have HO3 := Lib.hid hown
       have p13 := HX3.out.c1
       clear hown hgrow hb3
       simp only [List.getElem_toArray, List.getElem_cons_succ, List.getElem_cons_zero])
    | (rw [if_pos (by simp [Region.wanted])]
       refine wp_append_sl _ _ rfl w2.heap.size _ v3 B.length (B.map encB) rfl HO3.out _ y rfl HX3.out.sl (by omega) (by have := HB3.out.size; omega) ?_
       intro v4 w4 hown hgrow
       have hb4 : Below w2.heap.size w2 w4 := HB3.out.grown hgrow (by have := HB3.out.size; omega) (fun r e => (World.ownsRow.lt HO3.out r e).1)
       have HX4 := Lib.hid (HX2.out.next hb4)
       have HO4 : Hid (SL encB w4 w4.heap.size v4 (B ++ y)) := SL.of_own (by rw [List.length_append]) (by rw [List.map_append]; exact hown)
       have HB4 := Lib.hid hb4
       have p14 := HX4.out.c1
       clear hown hgrow hb4
       simp only [List.getElem_toArray, List.getElem_cons_succ, List.getElem_cons_zero])
    | (go_at_call 16
       refine (decode_any w4 v4 fs (B ++ y) HO4.out (by omega) (by rw [List.length_append]; omega)).mono ?_
       rintro e w5 ⟨v5, rfl, hl5, hb5⟩
       rw [HRO.out] at hl5
       rw [HRO.out]
       simp only at hl5
       have HX5 := Lib.hid (HX4.out.next hb5)
       have HL5 := Lib.hid hl5
       have HB5 : Hid (Below w2.heap.size w2 w5) := HB4.out.trans (hb5.mono HB4.out.size)
       have p15 := HX5.out.c1
       clear hl5 hb5))
  obtain ⟨A5, c5, rfl⟩ := HL5.out.form
  have p05 := HX5.out.c0
  go_wp2_with fail
  refine (vsame_any w5 _ _ _ x1 l HL5.out HX5.out.vl (by omega) HLZ.out).mono ?_
  rintro e w6 ⟨rfl, hb6⟩
  have HX6 := Lib.hid (HX5.out.next hb6)
  have HB6 : Hid (Below w2.heap.size w2 w6) := HB5.out.trans (hb6.mono HB5.out.size)
  have HS6 := Lib.hid (HSB.out.next HB6.out)
  clear hb6
  by_cases hB0 : B.length = 0
  · have hBe : ((B.length : Int) == 0) = true := by rw [beq_iff_eq]; omega
    go_wp2_with fail
    refine (hshn.out _ HX6.out.bl).mono ?_
    rintro e w7 ⟨rfl, hB⟩
    have HB := Lib.hid hB
    clear hB
    go_wp2_with fail
    go_ret
    exact ⟨rfl, HB.out⟩
  have hBe : ((B.length : Int) == 0) = false := by rw [beq_eq_false_iff_ne]; omega
  have hpos : 0 < B.length := Nat.pos_of_ne_zero hB0
  have hkl : pt % B.length < B.length := Nat.mod_lt _ hpos
  have hcapB := HS6.out.cap
  have hkI : ((pt % B.length : Nat) : Int) = (pt : Int) % (B.length : Int) := Int.natCast_emod pt B.length
  have hr0 : (0 : Int) ≤ (pt : Int) % (B.length : Int) := by omega
  have hrc : (pt : Int) % (B.length : Int) ≤ (cB : Int) := by omega
  have HF := Lib.hid (HS6.out.first (k := pt % B.length) (Nat.le_of_lt hkl))
  have HDE := Lib.hid (decode_any w6 _ fs _ HF.out (by omega) (by rw [List.length_take]; omega))
  have HP := Lib.hid (HPA.out _ hkl)
  clear hkI hkl hcapB
  go_wp2_with fail
  refine HDE.out.mono ?_
  rintro e w7 ⟨v7, rfl, hl7, hb7⟩
  rw [HP.out] at hl7
  rw [HP.out]
  simp only at hl7
  have HX7 := Lib.hid (HX6.out.next hb7)
  obtain ⟨A7, c7, rfl⟩ := hl7.form
  clear hl7 hb7
  go_wp2_with fail
  refine (hshn.out _ HX7.out.bl).mono ?_
  rintro e w8 ⟨rfl, hB⟩
  have HB := Lib.hid hB
  clear hB
  go_wp2_with fail
  go_ret
  exact ⟨rfl, HB.out⟩
end Go.Proofs.Ytkbmkheipmbllaa
