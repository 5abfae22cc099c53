/- The walk of RecordsBoth: it returns true. Conditions: slices that hold the values. -/
import Derived.Test.YtkbmkheipmbllaaRow3
import Derived.Deep.RegionHeldLaw
namespace Go.Proofs.Ytkbmkheipmbllaa
open Go.RowKit

/-- The copy of the argument lies in a block, and its slices hold what they held. -/
structure BV (w : World) (x1 z1 : Value) (l m : List Rm.Val) (W : World) : Prop where
  bl : Below w.heap.size w W
  c0 : W.cell? ⟨w.heap.size, 0, none⟩ = some x1
  c1 : W.cell? ⟨w.heap.size, 1, none⟩ = some z1
  lt : w.heap.size < W.heap.size
  vl : VL W w.heap.size x1 l
  vm : VL W w.heap.size z1 m
section
variable {w W W' : World} {x1 z1 : Value} {l m : List Rm.Val}
theorem BV.next (h : BV w x1 z1 l m W) (hb : Below W.heap.size W W') : BV w x1 z1 l m W' :=
  ⟨h.bl.trans (hb.mono h.bl.size), (hb.cell (p := ⟨w.heap.size, 0, none⟩) h.lt).trans h.c0, (hb.cell (p := ⟨w.heap.size, 1, none⟩) h.lt).trans h.c1, Nat.lt_of_lt_of_le h.lt hb.size, h.vl.below hb (Nat.le_of_lt h.lt), h.vm.below hb (Nat.le_of_lt h.lt)⟩
theorem BV.first (t : TypeId) (hv : VL w w.heap.size x1 l) (hs : VL w w.heap.size z1 m) : BV w x1 z1 l m (w.alloc (.cells #[x1, z1] t)) :=
  have hb : Below w.heap.size w (w.alloc (.cells #[x1, z1] t)) := (Below.refl _ _).alloc (Nat.le_refl _) _
  have hk := Blk.new w #[x1, z1] t
  ⟨hb, hk.cell 0 rfl, hk.cell 1 rfl, by simp, hv.below hb (Nat.le_refl _), hs.below hb (Nat.le_refl _)⟩
theorem BV.vl' (h : BV w x1 z1 l m W) : VL W W.heap.size x1 l := h.vl.mono (Nat.le_of_lt h.lt)
theorem BV.vm' (h : BV w x1 z1 l m W) : VL W W.heap.size z1 m := h.vm.mono (Nat.le_of_lt h.lt)
end
theorem cat_str (a b : List UInt8) : (⟨a.toArray⟩ : ByteArray) ++ ⟨b.toArray⟩ = ⟨(a ++ b).toArray⟩ := by
  apply ByteArray.ext
  rw [ByteArray.data_append]
  simp
theorem farB_len {l : List Rm.Val} (h : farB l = false) : l.length ≤ 70 := by
  unfold farB at h
  simp only [Bool.or_eq_false_iff, decide_eq_false_iff_not] at h
  omega
set_option maxRecDepth 100000 in
set_option maxHeartbeats 4000000 in
theorem law_both (w : World) (fs gs : List UInt8) (x1 z1 : Value) (l m : List Rm.Val) (hv : VL w w.heap.size x1 l) (hl : l.length ≤ 9223372036854775807) (hs : VL w w.heap.size z1 m) (hm : m.length ≤ 9223372036854775807) :
    Calls Try.prog 7 #[.string ⟨fs.toArray⟩, .string ⟨gs.toArray⟩, .agg #[x1, z1]] w fun e w' => e = .returned (.bool true) ∧ Below w.heap.size w w' := by
  have HX0 := Lib.hid (BV.first 44 hv hs)
  have hshn : Hid (∀ W, Below w.heap.size w W → Calls Try.prog 10 #[] W fun e w' => e = .returned (.bool true) ∧ Below w.heap.size w w') := fun W hW => (shown_any W).mono (by rintro e w' ⟨rfl, hb⟩; exact ⟨rfl, hW.trans (hb.mono hW.size)⟩)
  clear hv hs
  by_cases h32 : (32 : Int) < (fs.length : Int)
  · go_enter Try.func7, Try.ntmps7
    go_wp2_with fail
    refine (hshn.out _ HX0.out.bl).mono ?_
    rintro e w2 ⟨rfl, hB⟩
    have HB := Lib.hid hB
    clear hB
    go_wp2_with fail
    go_ret
    exact ⟨rfl, HB.out⟩
  by_cases h32t : (32 : Int) < (gs.length : Int)
  · go_enter Try.func7, Try.ntmps7
    go_wp2_with fail
    refine (hshn.out _ HX0.out.bl).mono ?_
    rintro e w2 ⟨rfl, hB⟩
    have HB := Lib.hid hB
    clear hB
    go_wp2_with fail
    go_ret
    exact ⟨rfl, HB.out⟩
  go_enter Try.func7, Try.ntmps7
  go_wp2_with fail
  refine (far_any _ _ _ l HX0.out.vl hl).mono ?_
  rintro e w1 ⟨rfl, hb⟩
  have HX1 := Lib.hid (HX0.out.next hb)
  obtain ⟨p0, p1⟩ : w1.cell? ⟨w.heap.size, 0, none⟩ = some x1 ∧ w1.cell? ⟨w.heap.size, 1, none⟩ = some z1 := ⟨HX1.out.c0, HX1.out.c1⟩
  clear hb HX0
  by_cases hfar : farB l = true
  · rw [hfar]
    clear hfar
    go_wp2_with fail
    refine (hshn.out _ HX1.out.bl).mono ?_
    rintro e w2 ⟨rfl, hB⟩
    have HB := Lib.hid hB
    clear hB
    go_wp2_with fail
    go_ret
    exact ⟨rfl, HB.out⟩
  have hfar : farB l = false := by simpa using hfar
  have hl70 := farB_len hfar
  rw [hfar]
  clear hfar
  go_wp2_with fail
  refine (far_any _ _ _ m HX1.out.vm hm).mono ?_
  rintro e w2 ⟨rfl, hb⟩
  have HX2 := Lib.hid (HX1.out.next hb)
  clear p0 p1
  obtain ⟨p0, p1⟩ : w2.cell? ⟨w.heap.size, 0, none⟩ = some x1 ∧ w2.cell? ⟨w.heap.size, 1, none⟩ = some z1 := ⟨HX2.out.c0, HX2.out.c1⟩
  clear hb HX1
  by_cases hfar : farB m = true
  · rw [hfar]
    clear hfar
    go_wp2_with fail
    refine (hshn.out _ HX2.out.bl).mono ?_
    rintro e w3 ⟨rfl, hB⟩
    have HB := Lib.hid hB
    clear hB
    go_wp2_with fail
    go_ret
    exact ⟨rfl, HB.out⟩
  have hfar : farB m = false := by simpa using hfar
  have hm70 := farB_len hfar
  rw [hfar]
  clear hfar
  have HEN := Lib.hid (encode_any w2 _ fs l HX2.out.vl' (by omega) (by omega))
  go_wp2_with fail
  refine HEN.out.mono ?_
  rintro e w3 ⟨vA, rfl, hsA, hb⟩
  have HX3 := Lib.hid (HX2.out.next hb)
  obtain ⟨B1, n1, hr1⟩ : ∃ B n, Rm.encR fs l = (B, n) := ⟨_, _, rfl⟩
  rw [hr1] at hsA ⊢
  simp only at hsA ⊢
  obtain ⟨A1, c1, rfl⟩ := hsA.form
  have HS3 := Lib.hid hsA
  have HR1 := Lib.hid hr1
  clear p0 p1
  obtain ⟨p0, p1⟩ : w3.cell? ⟨w.heap.size, 0, none⟩ = some x1 ∧ w3.cell? ⟨w.heap.size, 1, none⟩ = some z1 := ⟨HX3.out.c0, HX3.out.c1⟩
  have HEN2 := Lib.hid (encode_any w3 _ gs m HX3.out.vm' (by omega) (by omega))
  clear hsA hb hr1 HEN HX2
  go_wp2_with fail
  refine HEN2.out.mono ?_
  rintro e w4 ⟨vB, rfl, hsB, hb⟩
  have HX4 := Lib.hid (HX3.out.next hb)
  have HS4 := Lib.hid (HS3.out.next hb)
  obtain ⟨B2, n2, hr2⟩ : ∃ B n, Rm.encR gs m = (B, n) := ⟨_, _, rfl⟩
  rw [hr2] at hsB ⊢
  simp only at hsB ⊢
  obtain ⟨A2, c2, rfl⟩ := hsB.form
  have HT4 := Lib.hid hsB
  have HR2 := Lib.hid hr2
  clear p0 p1
  obtain ⟨p0, p1⟩ : w4.cell? ⟨w.heap.size, 0, none⟩ = some x1 ∧ w4.cell? ⟨w.heap.size, 1, none⟩ = some z1 := ⟨HX4.out.c0, HX4.out.c1⟩
  clear hsB hb hr2 HEN2 HX3 HS3
  have hlt4 := HX4.out.lt
  have hbn : Below w4.heap.size w4 (w4.alloc (.cells #[] 49)).drew := ((Below.refl w4.heap.size w4).alloc (Nat.le_refl _) _).drew
  have HN : Hid (RV (w4.alloc (.cells #[] 49)).drew w.heap.size w4.heap.size (.slice (some ⟨w4.heap.size, 0, none⟩) 0 0) []) := RV.new (ownsRow_drewN (own_new3 w4 49) 1)
  have HXN := Lib.hid (HX4.out.next hbn)
  have hzn : (w4.alloc (.cells #[] 49)).drew.heap.size = w4.heap.size + 1 := by show (w4.alloc (.cells #[] 49)).heap.size = _; simp
  have HBN := Lib.hid hbn
  clear hbn
  go_wp2_with fail
  go_region_held_law (fun W => W.cell? ⟨w.heap.size, 0, none⟩ = some x1 ∧ W.cell? ⟨w.heap.size, 1, none⟩ = some z1) (first | (exact ⟨by assumption, by assumption⟩) | exact ⟨HXN.out.c0, HXN.out.c1⟩)
    (first
    | (rw [if_pos (by simp [Region.wanted])]
       refine wp_append_vl _ _ rfl w.heap.size w4.heap.size _ [] l rfl HN.out _ rfl HXN.out.vl (by simp; omega) (by omega) (by omega) ?_
       intro v5 w5 hown hb5
       rw [List.nil_append] at hown
       have hB5 : Below w4.heap.size w4 w5 := HBN.out.trans hb5
       have HX5 := Lib.hid (HX4.out.next hB5)
       have HB5 := Lib.hid hB5
       have HO5 := Lib.hid hown
       have p05 := HX5.out.c0
       have p15 := HX5.out.c1
       have hs5 := hB5.size
       clear hown hb5 hB5
       simp only [List.getElem_toArray, List.getElem_cons_succ, List.getElem_cons_zero])
    | (rw [if_pos (by simp [Region.wanted])]
       refine wp_append_vl _ _ rfl w.heap.size w4.heap.size v5 l m rfl HO5.out _ rfl HX5.out.vm (by omega) (by omega) (by omega) ?_
       intro v6 w6 hown hb6
       have hB6 : Below w4.heap.size w4 w6 := HB5.out.trans hb6
       have HX6 := Lib.hid (HX4.out.next hB6)
       have HB6 := Lib.hid hB6
       have HO6 := Lib.hid (hown.vl (by have := hB6.size; omega))
       have p06 := HX6.out.c0
       have p16 := HX6.out.c1
       clear hown hb6 hB6
       simp only [List.getElem_toArray, List.getElem_cons_succ, List.getElem_cons_zero])
    | (go_at_call 11
       rw [cat_str]
       refine (encode_any w6 v6 (fs ++ gs) (l ++ m) HO6.out (by rw [List.length_append]; omega) (by rw [List.length_append]; omega)).mono ?_
       rintro e w7 ⟨v7, rfl, hs7, hb7⟩
       have HX7 := Lib.hid (HX6.out.next hb7)
       have HS7 := Lib.hid hs7
       have HB7 : Hid (Below w4.heap.size w4 w7) := HB6.out.trans (hb7.mono HB6.out.size)
       have p07 := HX7.out.c0
       have p17 := HX7.out.c1
       clear hs7 hb7))
  all_goals
    obtain ⟨B3, n3, hr3⟩ : ∃ B n, Rm.encR (fs ++ gs) (l ++ m) = (B, n) := ⟨_, _, rfl⟩
    have hs7 := HS7.out
    rw [hr3] at hs7 ⊢
    simp only at hs7 ⊢
    obtain ⟨A3, c3, rfl⟩ := hs7.form
    have HT7 := Lib.hid hs7
    have HR3 := Lib.hid hr3
    clear hs7 hr3 HS7
    by_cases hn1 : n1 = 0
    case neg =>
      have hd0 : ((n1 : Int) != 0) = true := by rw [bne_iff_ne]; omega
      clear hn1
      go_wp2_with fail
      refine (hshn.out _ HX7.out.bl).mono ?_
      rintro e w8 ⟨rfl, hB⟩
      have HB := Lib.hid hB
      clear hB
      go_wp2_with fail
      go_ret
      exact ⟨rfl, HB.out⟩
    by_cases hn2 : n2 = 0
    case neg =>
      subst hn1
      have hd0 : ((n2 : Int) != 0) = true := by rw [bne_iff_ne]; omega
      clear hn2
      go_wp2_with fail
      refine (hshn.out _ HX7.out.bl).mono ?_
      rintro e w8 ⟨rfl, hB⟩
      have HB := Lib.hid hB
      clear hB
      go_wp2_with fail
      go_ret
      exact ⟨rfl, HB.out⟩
    subst hn1 hn2
    have hb := Rm.both (s := fs) (t := gs) (l := l) (m := m) (by rw [HR1.out]) (by rw [HR2.out]) (by omega) (by omega)
    have hk1 := (Rm.encR_ok (fs := fs) (l := l) (by rw [HR1.out])).2.2.2.2
    have hk2 := (Rm.encR_ok (fs := gs) (l := m) (by rw [HR2.out])).2.2.2.2
    rw [HR3.out, HR1.out, HR2.out] at hb
    rw [HR1.out] at hk1
    rw [HR2.out] at hk2
    simp only at hb hk1 hk2
    by_cases h4 : 4000 < B1.length + B2.length
    · rw [if_pos h4] at hb
      simp only [Prod.mk.injEq] at hb
      obtain ⟨rfl, rfl⟩ := hb
      have h4I : (4000 : Int) < (B1.length : Int) + (B2.length : Int) := by omega
      clear h4
      go_wp2_with fail
      refine (hshn.out _ HX7.out.bl).mono ?_
      rintro e w8 ⟨rfl, hB⟩
      have HB := Lib.hid hB
      clear hB
      go_wp2_with fail
      go_ret
      exact ⟨rfl, HB.out⟩
    rw [if_neg h4] at hb
    simp only [Prod.mk.injEq] at hb
    obtain ⟨rfl, rfl⟩ := hb
    have h4I : ¬ (4000 : Int) < (B1.length : Int) + (B2.length : Int) := by omega
    have hlt7 := HX7.out.lt
    have HS7 := Lib.hid (HS4.out.next HB7.out)
    have HQ7 := Lib.hid (HT4.out.next HB7.out)
    have hbn7 : Below w7.heap.size w7 (w7.alloc (.cells #[] 5)) := (Below.refl w7.heap.size w7).alloc (Nat.le_refl _) _
    have HN7 := Lib.hid (own_new w7 5)
    have HSN := Lib.hid (HS7.out.next hbn7)
    have HBN7 := Lib.hid hbn7
    clear hbn7 p0 p1 h4
    go_wp2_with (at_builtin
                 first
                 | (refine wpList_step fun K hK => ?_
                    rw [if_pos (by simp [Region.wanted]; rfl)]
                    refine wp_append_sl _ _ rfl w7.heap.size _ (.slice (some ⟨w7.heap.size, 0, none⟩) 0 0) 0 [] rfl HN7.out _ B1 rfl HSN.out (by omega) (by simp) ?_
                    intro v8 w8 hown8 hgrow8
                    rw [List.nil_append, Nat.zero_add] at hown8
                    have hb8 : Below w7.heap.size w7 w8 := HBN7.out.grown hgrow8 (by simp) (fun r e => (World.ownsRow.lt HN7.out r e).1)
                    have HO8 := Lib.hid hown8
                    have HB8 := Lib.hid hb8
                    have HQ8 := Lib.hid (HQ7.out.next hb8)
                    have hs8 := hb8.size
                    clear hown8 hgrow8 hb8
                    refine hK _ _ ?_
                    clear hK)
                 | (refine wpList_step fun K hK => ?_
                    rw [if_pos (by simp [Region.wanted]; rfl)]
                    refine wp_append_sl _ _ rfl w7.heap.size _ v8 B1.length (B1.map encB) rfl HO8.out _ B2 rfl HQ8.out (by omega) (by omega) ?_
                    intro v9 w9 hown9 hgrow9
                    have hb9 : Below w7.heap.size w7 w9 := HB8.out.grown hgrow9 (by omega) (fun r e => (World.ownsRow.lt HO8.out r e).1)
                    have HO9 : Hid (SL encB w9 w9.heap.size v9 (B1 ++ B2)) := SL.of_own (by rw [List.length_append]) (by rw [List.map_append]; exact hown9)
                    have HT9 := Lib.hid (HT7.out.next hb9)
                    rw [List.length_append] at HT9
                    have HX9 := Lib.hid (HX7.out.next hb9)
                    clear hown9 hgrow9 hb9
                    refine hK _ _ ?_
                    clear hK))
    refine (same_any w9 _ _ _ _ (B1 ++ B2) HT9.out HO9.out (by rw [List.length_append]; omega)).mono ?_
    rintro e w10 ⟨rfl, hb⟩
    have HX10 := Lib.hid (HX9.out.next hb)
    clear hb
    go_wp2_with fail
    refine (hshn.out _ HX10.out.bl).mono ?_
    rintro e w11 ⟨rfl, hB⟩
    have HB := Lib.hid hB
    clear hB
    go_wp2_with fail
    go_ret
    exact ⟨rfl, HB.out⟩
end Go.Proofs.Ytkbmkheipmbllaa
