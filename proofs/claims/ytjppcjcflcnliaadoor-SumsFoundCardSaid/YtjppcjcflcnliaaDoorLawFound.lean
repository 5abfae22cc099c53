/- The walk of SumsFound: it returns true. Conditions: the table of half bytes, a slice that holds the bytes, a byte. -/
import Derived.Test.YtjppcjcflcnliaaDoorLawCrc
import Derived.Test.YtjppcjcflcnliaaDoorPatch
namespace Go.Proofs.YtjppcjcflcnliaaDoor
open Go.RowKit

theorem crc_changed (y : List UInt8) (i : Nat) (c : UInt8) (h : i < y.length) (hc : c ≠ y[i]) : Cm.crc y ≠ Cm.crc (y.set i c) := fun e => by
  have hn : Cm.need y (Cm.crc y) i = 0 := by
    have h0 : Cm.chg y (Cm.crc y) = 0 := (chg_zero y _).2 rfl
    unfold Cm.need
    rw [h0]
    have : ∀ k, Cm.backs k 0 = 0 := fun k => by
      induction k with
      | zero => rfl
      | succ k ih => exact ih
    exact this _
  have := (Cm.crc_set_iff y (Cm.crc y) i c h).1 e.symm
  rw [hn] at this
  exact hc (UInt8.toNat_inj.1 (Cm.xor_eq_zero this))
theorem found_law (y : List UInt8) (at' : Nat) (c : UInt8) (h : at' < y.length) (hc : c ≠ y[at']) : ∃ i, Cm.found y (Cm.crc (y.set at' c)) 0 = some i ∧ i ≤ at' ∧ ∃ hi : i < y.length,
    (Cm.val y (Cm.crc (y.set at' c)) i ≠ y[i].toNat) ∧ (i < at' ∨ Cm.val y (Cm.crc (y.set at' c)) i = c.toNat) ∧ Cm.crc (y.set i (UInt8.ofNat (Cm.val y (Cm.crc (y.set at' c)) i))) = Cm.crc (y.set at' c) := by
  obtain ⟨want, hw⟩ : ∃ want, want = Cm.crc (y.set at' c) := ⟨_, rfl⟩
  rw [← hw]
  have h1 := (Cm.set_iff_val y want at' c h).1 hw.symm
  obtain ⟨i, e1, _, e3, e4⟩ := Cm.found_spec y want _ 0 rfl at' (by omega) h h1.1
  have hi : i < y.length := by omega
  have hv : (UInt8.ofNat (Cm.val y want i)).toNat = Cm.val y want i := by rw [UInt8.toNat_ofNat', Nat.mod_eq_of_lt (Cm.val_lt y want i)]
  have hset : Cm.crc (y.set i (UInt8.ofNat (Cm.val y want i))) = want := (Cm.set_iff_val y want i _ hi).2 ⟨e4, hv⟩
  refine ⟨i, e1, e3, hi, fun he => ?_, ?_, hset⟩
  · have e5 : UInt8.ofNat (Cm.val y want i) = y[i] := UInt8.toNat_inj.1 (by rw [hv, he])
    rw [e5, Cm.set_same y i hi, hw] at hset
    exact crc_changed y at' c h hc hset
  · by_cases hlt : i < at'
    · exact .inl hlt
    · obtain rfl : i = at' := by omega
      exact .inr h1.2.symm
set_option maxRecDepth 100000 in
set_option maxHeartbeats 2000000 in
theorem law_found (w : World) (v : Value) (y : List UInt8) (at' : Int) (nv : Nat) (hT : TB w) (hv : SL encB w w.heap.size v y) (hnv : nv < 256) (hy : y.length ≤ 9223372036854775807) :
    Calls Tryd.prog 7 #[v, .int .i64 at', .int .u8 (nv : Int)] w fun e w' => e = .returned (.bool true) ∧ Below w.heap.size w w' := by
  obtain ⟨A, c0, rfl⟩ := hv.form
  have HV := Lib.hid hv
  have HT := Lib.hid hT
  by_cases hbig : (500 : Int) < (y.length : Int)
  · clear hv hT
    go_enter Tryd.func7, Tryd.ntmps7
    go_wp2_with fail
    refine (shown_any w HT.out).mono ?_
    rintro e w2 ⟨rfl, hB⟩
    have HB := Lib.hid hB
    clear hB
    go_wp2_with fail
    go_ret
    exact ⟨rfl, HB.out⟩
  by_cases hneg : at' < 0
  · clear hv hT
    go_enter Tryd.func7, Tryd.ntmps7
    go_wp2_with fail
    refine (shown_any w HT.out).mono ?_
    rintro e w2 ⟨rfl, hB⟩
    have HB := Lib.hid hB
    clear hB
    go_wp2_with fail
    go_ret
    exact ⟨rfl, HB.out⟩
  by_cases hge : (y.length : Int) ≤ at'
  · clear hv hT
    go_enter Tryd.func7, Tryd.ntmps7
    go_wp2_with fail
    refine (shown_any w HT.out).mono ?_
    rintro e w2 ⟨rfl, hB⟩
    have HB := Lib.hid hB
    clear hB
    go_wp2_with fail
    go_ret
    exact ⟨rfl, HB.out⟩
  obtain ⟨n, rfl⟩ : ∃ n : Nat, at' = (n : Int) := ⟨at'.toNat, by omega⟩
  have hn : n < y.length := by omega
  have hnI : (n : Int) < (y.length : Int) := by omega
  obtain ⟨b, off, hA, hbl, hcell⟩ := hv.at (by omega)
  subst hA
  have hbn := hcell n hn
  unfold encB at hbn
  have HCL := Lib.hid hcell
  by_cases heq : y[n].toNat = nv
  · rw [heq] at hbn
    have hs := int_self nv
    clear hv hT hcell heq hneg hge
    go_enter Tryd.func7, Tryd.ntmps7
    go_wp2_with fail
    refine (shown_any w HT.out).mono ?_
    rintro e w2 ⟨rfl, hB⟩
    have HB := Lib.hid hB
    clear hB
    go_wp2_with fail
    go_ret
    exact ⟨rfl, HB.out⟩
  have hne0 : (((y[n].toNat : Nat) : Int) == (nv : Int)) = false := by rw [beq_eq_false_iff_ne]; omega
  obtain ⟨c, hc⟩ : ∃ c : UInt8, c.toNat = nv := ⟨UInt8.ofNat nv, by rw [UInt8.toNat_ofNat', Nat.mod_eq_of_lt hnv]⟩
  have hcne : c ≠ y[n] := fun h => heq (by rw [← hc, h])
  have hchg := crc_changed y n c hn hcne
  obtain ⟨i, hf, hin, hi, hv1, hv2, hv3⟩ := found_law y n c hn hcne
  have hlset : (y.set n c).length = y.length := List.length_set
  have hcr32 := Cm.crc_lt (y.set n c)
  obtain ⟨z, hz⟩ : ∃ z, z = y.set n c := ⟨_, rfl⟩
  rw [← hz] at hchg hf hv1 hv2 hv3 hlset hcr32
  have hval := Cm.val_lt y (Cm.crc z) i
  obtain ⟨x, hx⟩ : ∃ x, x = Cm.val y (Cm.crc z) i := ⟨_, rfl⟩
  rw [← hx] at hv1 hv2 hv3 hval
  have HX := Lib.hid hx
  have HZ := Lib.hid hz
  have HF := Lib.hid hf
  have HV3 := Lib.hid hv3
  have HLS := Lib.hid hlset
  have HCH := Lib.hid hchg
  obtain ⟨bi, hbi⟩ : ∃ bi, bi = y[i].toNat := ⟨_, rfl⟩
  have hcbi : w.cell? ⟨b, off + i, none⟩ = some (.int .u8 (bi : Int)) := by rw [hbi]; exact hcell i hi
  have hneb : ((x : Int) != (bi : Int)) = true := by rw [bne_iff_ne]; omega
  have HCBI := Lib.hid hcbi
  have hB1 : Below w.heap.size w (w.alloc (.cells #[] 5)) := (Below.refl _ _).alloc (Nat.le_refl _) _
  have HV1 := Lib.hid (hv.next hB1)
  have HN1 := Lib.hid (own_new w 5)
  have HB1 := Lib.hid hB1
  obtain ⟨yn, hyn⟩ : ∃ yn, yn = y[n].toNat := ⟨_, rfl⟩
  rw [← hyn] at hbn hne0
  rw [hc] at hv2
  clear hv hT hcell heq hneg hcne hchg hf hv3 hlset hz hx hbi hcbi hv1 hyn hB1
  go_enter Tryd.func7, Tryd.ntmps7
  go_wp2_with
    (at_builtin
     refine wpList_append_sl rfl _ _ rfl w.heap.size _ _ 0 [] rfl HN1.out _ y rfl HV1.out (by omega) (by simp) ?_
     intro vo w2 hown hgrow
     rw [List.nil_append, Nat.zero_add] at hown
     obtain ⟨g, cap, rfl, ho⟩ := OwnB.of_row (by omega) rfl hown
     have hB2 : Below w.heap.size w w2 := HB1.out.grown hgrow (by simp) (fun k hk => by have : w.heap.size = k := Option.some.inj hk; omega)
     have hcg := ho.cell n hn
     have hfg := ho.free n
     have hng : w.heap.size ≤ g := ho.lt.1
     have hg2 : g < w2.heap.size := ho.lt.2
     have HO := Lib.hid ho
     have HB2 := Lib.hid hB2
     clear hown hgrow ho hB2)
  have hencc : encB c = .int .u8 (nv : Int) := by unfold encB; rw [hc]
  have ho3 := HO.out.set n c
  rw [hencc, ← HZ.out] at ho3
  have hB3 : Below w.heap.size w (w2.setCell ⟨g, n, none⟩ (.int .u8 (nv : Int))) := HB2.out.setCell (by show w.heap.size ≤ g; exact hng) _
  have HT3 : Hid (TB (w2.setCell ⟨g, n, none⟩ (.int .u8 (nv : Int)))) := HT.out.below hB3 HT.out.lt
  have HV3s : Hid (SL encB (w2.setCell ⟨g, n, none⟩ (.int .u8 (nv : Int))) (w2.setCell ⟨g, n, none⟩ (.int .u8 (nv : Int))).heap.size (.slice (some ⟨b, off, none⟩) y.length c0) y) := HV.out.next hB3
  have HO3 := Lib.hid ho3
  have HB3 := Lib.hid hB3
  obtain ⟨w3, hw3⟩ : ∃ w3, w3 = w2.setCell ⟨g, n, none⟩ (.int .u8 (nv : Int)) := ⟨_, rfl⟩
  rw [← hw3] at HT3 HV3s HO3 HB3 ⊢
  clear hw3 ho3 hB3 HO HB2 hcg hfg hencc hg2 HN1 HV1 HB1
  refine (crc_any w3 _ z HT3.out HO3.out.sl (by rw [HLS.out]; exact hy)).mono ?_
  rintro e w4 ⟨rfl, hb⟩
  have HB4 : Hid (Below w.heap.size w w4) := HB3.out.trans (hb.mono HB3.out.size)
  have HT4 : Hid (TB w4) := HT3.out.below hb HT3.out.lt
  have HV4 : Hid (SL encB w4 w4.heap.size (.slice (some ⟨b, off, none⟩) y.length c0) y) := HV3s.out.next hb
  have HO4 : Hid (OwnB w4 w.heap.size g y.length cap z) := HO3.out.below hb
  have HL := locate_ok w4 _ y (Cm.crc z) HT4.out HV4.out hcr32 (by omega) HCH.out
  rw [HF.out] at HL
  have HL2 : Hid (Calls Tryd.prog 25 #[.slice (some ⟨b, off, none⟩) y.length c0, .int .u32 ((Cm.crc z : Nat) : Int)] w4 fun e w' => e = .returned (.tuple #[.int .i64 (i : Int), .int .u8 (x : Int), .int .i64 0]) ∧ Below w4.heap.size w4 w') := by rw [HX.out]; exact HL
  clear hb HL HB3 HT3 HV3s HO3
  go_wp2_with fail
  refine HL2.out.mono ?_
  rintro e w5 ⟨rfl, hb⟩
  have HB5 : Hid (Below w.heap.size w w5) := HB4.out.trans (hb.mono HB4.out.size)
  have HT5 : Hid (TB w5) := HT4.out.below hb HT4.out.lt
  have HO5 : Hid (OwnB w5 w.heap.size g y.length cap z) := HO4.out.below hb
  have hBa : Below w5.heap.size w5 (w5.alloc (.cells #[] 5)) := (Below.refl _ _).alloc (Nat.le_refl _) _
  have HV6 : Hid (SL encB (w5.alloc (.cells #[] 5)) (w5.alloc (.cells #[] 5)).heap.size (.slice (some ⟨b, off, none⟩) y.length c0) y) := (HV4.out.next hb).next hBa
  have HN6 := Lib.hid (own_new w5 5)
  have HBa := Lib.hid hBa
  have hinI : ¬ ((n : Int) < (i : Int)) := by omega
  have hsz5 := HB5.out.size
  clear hb hBa HL2 HB4 HT4 HV4 HO4
  have hd : decide (i < n) = true ∨ (decide (i < n) = false ∧ ((x : Int) == (nv : Int)) = true) := by
    by_cases hlt : i < n
    · exact .inl (decide_eq_true hlt)
    · exact .inr ⟨decide_eq_false hlt, by rw [beq_iff_eq]; omega⟩
  clear hv2
  rcases hd with hd1 | ⟨hd1, hd2⟩
  all_goals
    go_wp2_with
      (at_builtin
       refine wpList_append_sl rfl _ _ rfl w5.heap.size _ _ 0 [] rfl HN6.out _ y rfl HV6.out (by omega) (by simp) ?_
       intro vo w6 hown hgrow
       rw [List.nil_append, Nat.zero_add] at hown
       obtain ⟨g2, cap2, rfl, ho⟩ := OwnB.of_row (by omega) rfl hown
       have hB6 : Below w5.heap.size w5 w6 := HBa.out.grown hgrow (by simp) (fun k hk => by have : w5.heap.size = k := Option.some.inj hk; omega)
       have hcg := ho.cell i hi
       have hfg := ho.free i
       have hng2 : w5.heap.size ≤ g2 := ho.lt.1
       have HO := Lib.hid ho
       have HB6 := Lib.hid hB6
       have hcb6 := (HB6.out.cell (p := ⟨b, off + i, none⟩) (show b < w5.heap.size by omega)).trans ((HB5.out.cell (p := ⟨b, off + i, none⟩) hbl).trans HCBI.out)
       clear hown hgrow ho hB6)
    have hencx : encB (UInt8.ofNat x) = .int .u8 (x : Int) := enc_nat x hval
    have ho7 := HO.out.set i (UInt8.ofNat x)
    rw [hencx] at ho7
    have hB7 : Below w.heap.size w (w6.setCell ⟨g2, i, none⟩ (.int .u8 (x : Int))) := (HB5.out.trans (HB6.out.mono hsz5)).setCell (by show w.heap.size ≤ g2; omega) _
    have hO7 : OwnB (w6.setCell ⟨g2, i, none⟩ (.int .u8 (x : Int))) w.heap.size g y.length cap z := (HO5.out.below HB6.out).kept (grown_setCell w6 g2 i _) (by have := HO5.out.lt.2; simp; omega)
    have HT7 : Hid (TB (w6.setCell ⟨g2, i, none⟩ (.int .u8 (x : Int)))) := HT.out.below hB7 HT.out.lt
    have HB7 := Lib.hid hB7
    have HO7 := Lib.hid hO7
    have HD7 := Lib.hid ho7
    obtain ⟨w7, hw7⟩ : ∃ w7, w7 = w6.setCell ⟨g2, i, none⟩ (.int .u8 (x : Int)) := ⟨_, rfl⟩
    rw [← hw7] at HT7 HB7 HO7 HD7 ⊢
    clear hw7 ho7 hB7 hO7 HO HB6 hcg hfg hencx HN6 HV6 HBa HO5 hcb6
    have HC := crc_any w7 _ _ HT7.out HD7.out.sl (by rw [List.length_set]; exact hy)
    rw [HV3.out] at HC
    have HC2 := Lib.hid HC
    clear HC
    refine HC2.out.mono ?_
    rintro e w8 ⟨rfl, hb⟩
    have HB8 : Hid (Below w.heap.size w w8) := HB7.out.trans (hb.mono HB7.out.size)
    have HT8 : Hid (TB w8) := HT7.out.below hb HT7.out.lt
    have HO8 : Hid (OwnB w8 w.heap.size g y.length cap z) := HO7.out.below hb
    have hs := int_self (Cm.crc z)
    clear hb HC2 HB7 HT7 HO7 HD7
    go_wp2_with fail
    refine (crc_any w8 _ z HT8.out HO8.out.sl (by rw [HLS.out]; exact hy)).mono ?_
    rintro e w9 ⟨rfl, hb⟩
    have HB9 : Hid (Below w.heap.size w w9) := HB8.out.trans (hb.mono HB8.out.size)
    have HT9 : Hid (TB w9) := HT8.out.below hb HT8.out.lt
    clear hb
    go_wp2_with fail
    refine (shown_any w9 HT9.out).mono ?_
    rintro e wa ⟨rfl, hb⟩
    have HBa : Hid (Below w.heap.size w wa) := HB9.out.trans (hb.mono HB9.out.size)
    clear hb
    go_wp2_with fail
    go_ret
    exact ⟨rfl, HBa.out⟩
end Go.Proofs.YtjppcjcflcnliaaDoor
