/- The walk of SumsPatch: it returns true. Conditions: the table of half bytes, a slice that holds the bytes, a number of 32 bits. -/
import Derived.Test.YtjppcjcflcnliaaDoorLawCrc
import Derived.Test.YtjppcjcflcnliaaDoorRPatch
namespace Go.Proofs.YtjppcjcflcnliaaDoor
open Go.RowKit

theorem SL.own {w : World} {base n : Nat} {v : Value} {y : List UInt8} (hn : n = y.length) (h : w.ownsRow base 5 1 v n (y.map encB)) : SL encB w w.heap.size v y := SL.of_own hn h
theorem sl_drewN {w : World} {lim : Nat} {v : Value} {y : List UInt8} (h : SL encB w lim v y) (m : Nat) : SL encB (w.drewN m) lim v y := h
set_option maxRecDepth 100000 in
set_option maxHeartbeats 2000000 in
theorem law_patch (w : World) (v : Value) (y : List UInt8) (at' : Int) (want : Nat) (hT : TB w) (hv : SL encB w w.heap.size v y) (hw : want < 4294967296) (hy : y.length ≤ 9223372036854775807) :
    Calls Tryd.prog 5 #[v, .int .i64 at', .int .u32 (want : Int)] w fun e w' => e = .returned (.bool true) ∧ Below w.heap.size w w' := by
  obtain ⟨A, c0, rfl⟩ := hv.form
  have HT := Lib.hid hT
  by_cases hbig : (2000 : Int) < (y.length : Int)
  · clear hv hT
    go_enter Tryd.func5, Tryd.ntmps5
    go_wp2_with fail
    refine (shown_any w HT.out).mono ?_
    rintro e w2 ⟨rfl, hB⟩
    have HB := Lib.hid hB
    clear hB
    go_wp2_with fail
    go_ret
    exact ⟨rfl, HB.out⟩
  have hy2 : y.length ≤ 2000 := by omega
  have hB1 : Below w.heap.size w (w.alloc (.cells #[] 5)) := (Below.refl _ _).alloc (Nat.le_refl _) _
  have HV1 := Lib.hid (hv.next hB1)
  have HV0 := Lib.hid hv
  have HN1 := Lib.hid (own_new w 5)
  have HB1 := Lib.hid hB1
  have HT1 : Hid (TB (w.alloc (.cells #[] 5))) := hT.below hB1 hT.lt
  clear hv hB1 hT
  go_enter Tryd.func5, Tryd.ntmps5
  go_wp2_with (at_builtin; refine wpList_append_sl rfl _ _ rfl w.heap.size _ _ 0 [] rfl HN1.out _ y rfl HV1.out (by omega) (by simp) ?_; intro vo w2 hown hgrow)
  rw [List.nil_append, Nat.zero_add] at hown
  have hB2 : Below w.heap.size w w2 := HB1.out.grown hgrow (by simp) (fun k hk => by have : w.heap.size = k := Option.some.inj hk; omega)
  have HB2 := Lib.hid hB2
  have HO2 := Lib.hid (SL.own rfl hown)
  have HT2 : Hid (TB w2) := HT.out.below hB2 HT.out.lt
  have HV2 : Hid (SL encB w2 w2.heap.size (.slice A y.length c0) y) := HV0.out.next hB2
  clear hown hgrow hB2 HV1 HN1 HB1 HT1
  by_cases hbad : at' < 0 ∨ (y.length : Int) - 4 < at'
  · have HP1 := Lib.hid (patch_bad w2 _ y at' want HV2.out (by omega) hbad)
    have HP2 := Lib.hid (rpatch_bad w2 _ y at' want HV2.out (by omega) hbad)
    clear hbad
    refine HP1.out.mono ?_
    rintro e w' ⟨rfl, rfl⟩
    go_wp2_with fail
    refine HP2.out.mono ?_
    rintro e w' ⟨rfl, rfl⟩
    go_wp2_with fail
    refine (same_any w2 _ _ _ _ [] (nil_sl w2) (nil_sl w2) (by decide)).mono ?_
    rintro e w' ⟨rfl, m, rfl⟩
    have HS := Lib.hid (same_any (w2.drewN m) _ _ _ _ y (sl_drewN HV2.out m) (sl_drewN HO2.out m) (by omega))
    go_wp2_with fail
    refine HS.out.mono ?_
    rintro e w' ⟨rfl, m2, rfl⟩
    have hTT := (HT2.out.drewN m).drewN m2
    have HBB : Hid (Below w.heap.size w ((w2.drewN m).drewN m2)) := below_drewN (below_drewN HB2.out m) m2
    obtain ⟨w5, hw5⟩ : ∃ w5, w5 = (w2.drewN m).drewN m2 := ⟨_, rfl⟩
    rw [← hw5] at hTT HBB ⊢
    have HTT := Lib.hid (shown_any w5 hTT)
    clear hw5 hTT HS
    have h0 : (((0 : Nat) : Int) == 0) = true := by decide
    go_wp2_with fail
    refine HTT.out.mono ?_
    rintro e w4 ⟨rfl, hb⟩
    have HB4 : Hid (Below w.heap.size w w4) := HBB.out.trans (hb.mono HBB.out.size)
    clear hb
    go_wp2_with fail
    go_ret
    exact ⟨rfl, HB4.out⟩
  · obtain ⟨n, rfl⟩ : ∃ n : Nat, at' = (n : Int) := ⟨at'.toNat, by omega⟩
    have hn : n + 4 ≤ y.length := by omega
    clear hbad
    refine (patch_ok w2 _ y n want HT2.out HV2.out (by omega) hn hw).mono ?_
    rintro e w3 ⟨bs, g, cap, rfl, ho, hge, hb⟩
    have HB3 : Hid (Below w.heap.size w w3) := HB2.out.trans (hb.mono HB2.out.size)
    have HT3 : Hid (TB w3) := HT2.out.below hb HT2.out.lt
    have HV3 : Hid (SL encB w3 w3.heap.size (.slice A y.length c0) y) := HV2.out.next hb
    have HO3 : Hid (SL encB w3 w3.heap.size vo y) := HO2.out.next hb
    have HX3 := Lib.hid ho
    clear hb ho hge HO2 HB2 HT2 HV2
    go_wp2_with fail
    refine (rpatch_ok w3 _ y n want HV3.out (by omega) hn hw).mono ?_
    rintro e w4 ⟨bs2, g2, cap2, rfl, ho2, hge2, hb⟩
    have HB4 : Hid (Below w.heap.size w w4) := HB3.out.trans (hb.mono HB3.out.size)
    have HT4 : Hid (TB w4) := HT3.out.below hb HT3.out.lt
    have HV4 : Hid (SL encB w4 w4.heap.size (.slice A y.length c0) y) := HV3.out.next hb
    have HO4 : Hid (SL encB w4 w4.heap.size vo y) := HO3.out.next hb
    have HX4 : Hid (OwnB w4 bs g y.length cap (Cm.patL y n (Cm.patN y n want) 4)) := HX3.out.below hb
    have HY4 := Lib.hid ho2
    clear hb ho2 hge2 HO3 HB3 HT3 HV3 HX3
    have hcrc := Cm.crc_pat y n want hn hw
    have hlen := Cm.patL_len y n (Cm.patN y n want) 4
    have hoth : ∀ i, i < y.length → (i < n ∨ n + 4 ≤ i) → (Cm.patL y n (Cm.patN y n want) 4)[i]? = y[i]? := fun i hi hor => Cm.patL_other y n _ i hi 4 hor
    obtain ⟨z, hz⟩ : ∃ z, z = Cm.patL y n (Cm.patN y n want) 4 := ⟨_, rfl⟩
    rw [← hz] at hcrc hlen hoth HX4 HY4
    have HCR := Lib.hid hcrc
    have HLE := Lib.hid hlen
    have HOT := Lib.hid hoth
    clear hz hcrc hlen hoth
    go_wp2_with fail
    refine (same_any w4 _ _ _ _ z HX4.out.sl HY4.out.sl (by rw [HLE.out]; omega)).mono ?_
    rintro e w' ⟨rfl, m, rfl⟩
    have HS := Lib.hid (same_any (w4.drewN m) _ _ _ _ y (sl_drewN HV4.out m) (sl_drewN HO4.out m) (by omega))
    go_wp2_with fail
    refine HS.out.mono ?_
    rintro e w' ⟨rfl, m2, rfl⟩
    have HT5 : Hid (TB ((w4.drewN m).drewN m2)) := (HT4.out.drewN m).drewN m2
    have HB5 : Hid (Below w.heap.size w ((w4.drewN m).drewN m2)) := below_drewN (below_drewN HB4.out m) m2
    have HV5 : Hid (SL encB ((w4.drewN m).drewN m2) ((w4.drewN m).drewN m2).heap.size (.slice A y.length c0) y) := HV4.out
    have HX5 : Hid (OwnB ((w4.drewN m).drewN m2) bs g y.length cap z) := (HX4.out.drewN m).drewN m2
    obtain ⟨w5, hw5⟩ : ∃ w5, w5 = (w4.drewN m).drewN m2 := ⟨_, rfl⟩
    rw [← hw5] at HT5 HB5 HV5 HX5 ⊢
    clear hw5 HS HV4 HO4 HX4 HY4 HT4 HB4
    go_wp2_with fail
    go_loopw [12] (fun i wr => ∃ k m3 : Nat, k ≤ y.length ∧ i = .int .i64 k ∧ Hid (wr = w5.drewN m3)) (fun i _ => y.length - (intOf i).toNat)
    case atStart => exact ⟨0, 0, by omega, rfl, rfl⟩
    case round =>
      obtain ⟨k, m3, hk, rfl, HW⟩ := hrel
      by_cases hlt : k < y.length
      · have hltI : (k : Int) < (y.length : Int) := by omega
        obtain ⟨b, off, hA, hb, hc⟩ := HV5.out.at (by omega)
        subst hA
        have hzl : k < z.length := by rw [HLE.out]; exact hlt
        have h1 : wr.cell? ⟨b, off + k, none⟩ = some (encB y[k]) := by rw [HW.out]; exact hc k hlt
        have h2 : wr.cell? ⟨g, k, none⟩ = some (encB z[k]) := by rw [HW.out]; exact HX5.out.cell k hzl
        unfold encB at h1 h2
        have hin : z[k] ≠ y[k] → n ≤ k ∧ k ≤ n + 3 := fun hne => by
          by_cases hor : k < n ∨ n + 4 ≤ k
          · have := HOT.out k hlt hor
            rw [List.getElem?_eq_getElem hzl, List.getElem?_eq_getElem hlt] at this
            exact absurd (Option.some.inj this) hne
          · omega
        by_cases heq : z[k].toNat = y[k].toNat
        · have hne : (((z[k].toNat : Nat) : Int) != ((y[k].toNat : Nat) : Int)) = false := by rw [bne_eq_false_iff_eq, heq]
          obtain ⟨c1, hc1⟩ : ∃ c1, c1 = z[k].toNat := ⟨_, rfl⟩
          obtain ⟨c2, hc2⟩ : ∃ c2, c2 = y[k].toNat := ⟨_, rfl⟩
          rw [← hc1] at h2 hne
          rw [← hc2] at h1 hne
          clear hc hc1 hc2 hin heq
          go_wp2_with fail
          go_quiet (fail)
          go_wp2_with fail
          go_roundw
          case rel => exact ⟨k + 1, _, by omega, by go_num, by rw [HW.out, drew_drew]; rfl⟩
          case measure => simp [intOf]; omega
        · have hne : (((z[k].toNat : Nat) : Int) != ((y[k].toNat : Nat) : Int)) = true := by rw [bne_iff_ne]; omega
          have hr := hin (fun h => heq (by rw [h]))
          have d1 : decide ((k : Int) < (n : Int)) = false := decide_eq_false (by omega)
          have d2 : decide ((n : Int) + 3 < (k : Int)) = false := decide_eq_false (by omega)
          have d3 : decide (k < n) = false := decide_eq_false (by omega)
          obtain ⟨c1, hc1⟩ : ∃ c1, c1 = z[k].toNat := ⟨_, rfl⟩
          obtain ⟨c2, hc2⟩ : ∃ c2, c2 = y[k].toNat := ⟨_, rfl⟩
          rw [← hc1] at h2 hne
          rw [← hc2] at h1 hne
          clear hc hc1 hc2 hin heq
          go_wp2_with fail
          go_quiet (fail)
          go_wp2_with fail
          go_roundw
          case rel => exact ⟨k + 1, _, by omega, by go_num, by rw [HW.out, drew_drew]; rfl⟩
          case measure => simp [intOf]; omega
      · have hltI : ¬ ((k : Int) < (y.length : Int)) := by omega
        have hsl : SL encB wr wr.heap.size (.slice (some ⟨g, 0, none⟩) y.length cap) z := by rw [HW.out]; exact HX5.out.sl
        have htb : TB wr := by rw [HW.out]; exact HT5.out.drewN m3
        have HBr : Hid (Below w.heap.size w wr) := by rw [HW.out]; exact below_drewN HB5.out m3
        have HC := crc_any wr _ z htb hsl (by rw [HLE.out]; exact hy)
        rw [HCR.out] at HC
        have HC2 := Lib.hid HC
        have HTr := Lib.hid htb
        have hs := int_self want
        clear HC hsl htb HW
        go_wp2_with fail
        refine HC2.out.mono ?_
        rintro e w6 ⟨rfl, hb⟩
        have HB6 : Hid (Below w.heap.size w w6) := HBr.out.trans (hb.mono HBr.out.size)
        have HT6 : Hid (TB w6) := HTr.out.below hb HTr.out.lt
        clear hb HC2
        go_wp2_with fail
        refine (shown_any w6 HT6.out).mono ?_
        rintro e w7 ⟨rfl, hb⟩
        have HB7 : Hid (Below w.heap.size w w7) := HB6.out.trans (hb.mono HB6.out.size)
        clear hb
        go_wp2_with fail
        go_ret
        exact ⟨rfl, HB7.out⟩
end Go.Proofs.YtjppcjcflcnliaaDoor
