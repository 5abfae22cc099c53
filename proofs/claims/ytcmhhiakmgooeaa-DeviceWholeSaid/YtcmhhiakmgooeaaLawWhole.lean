/- The law DeviceWhole: it is true. Condition: slices that hold the writes. -/
import Derived.Test.YtcmhhiakmgooeaaTri
namespace Go.Proofs.Ytcmhhiakmgooeaa
open Go.RowKit Go.Maps

theorem op_new (w : World) : OP (w.alloc (.cells #[] 49)) w.heap.size (.slice (some ⟨w.heap.size, 0, none⟩) 0 0) [] :=
  ⟨rfl, .inr ⟨w.heap.size, 0, #[], rfl, Nat.le_refl _, heap_alloc_new w _, Nat.le_refl _, by simp [maxLen], rfl, rfl⟩⟩
theorem made_int (n : Nat) : (madeCells #[Value.int .i64 0] n).toList = List.replicate n (Value.int .i64 0) := toList_madeCells_one _ _
set_option maxRecDepth 100000 in
set_option maxHeartbeats 8000000 in
theorem law_whole (w : World) (v u : Value) (l m : List Pt) (hv : PL w v l) (hl : l.length ≤ 9223372036854775807) (hu : PL w u m) (hm : m.length ≤ 9223372036854775807) (hnil : m = [] → u = .slice none 0 0 ∨ ∃ ad c, u = .slice (some ad) 0 c) :
    Calls Try.prog 5 #[v, u] w fun e w' => e = .returned (.bool true) ∧ Below w.heap.size w w' := by
  obtain ⟨A, c0, rfl⟩ := hv.form
  obtain ⟨AU, cu, rfl⟩ := hu.form
  have HV := Lib.hid hv
  have HU := Lib.hid hu
  have HNIL := Lib.hid hnil
  clear hv hu hnil
  by_cases h60 : 60 < l.length
  · have h60I : (60 : Int) < (l.length : Int) := by omega
    go_enter Try.func5, Try.ntmps5
    go_wp2_with fail
    refine (awake_any _).mono ?_
    rintro e w' ⟨rfl, hb⟩
    have HB := Lib.hid hb
    clear hb
    go_wp2_with fail
    go_ret
    exact ⟨rfl, HB.out⟩
  have h60I : ¬ (60 : Int) < (l.length : Int) := by omega
  by_cases h61 : 60 < m.length
  · have h61I : (60 : Int) < (m.length : Int) := by omega
    go_enter Try.func5, Try.ntmps5
    go_wp2_with fail
    refine (awake_any _).mono ?_
    rintro e w' ⟨rfl, hb⟩
    have HB := Lib.hid hb
    clear hb
    go_wp2_with fail
    go_ret
    exact ⟨rfl, HB.out⟩
  have h61I : ¬ (60 : Int) < (m.length : Int) := by omega
  have HB0 : Hid (Below w.heap.size w (w.alloc (.cells #[] 49))) := (Below.refl _ _).alloc (Nat.le_refl _) _
  go_enter Try.func5, Try.ntmps5
  go_wp2_with (at_builtin; refine wpList_append_pl rfl _ _ rfl w.heap.size _ rfl (op_new w) _ m rfl (HU.out.below HB0.out) HNIL.out (by omega) (by simp) ?_; intro v1 w1 ho1 hg1 hk1)
  have HO1 := Lib.hid ho1
  have HB1 : Hid (Below w.heap.size w w1) := HB0.out.grown hg1 (by simp) hk1
  obtain ⟨A1, c1, rfl⟩ := ho1.form
  clear ho1 hg1 hk1
  go_wp2_with fail
  go_loopw [5] (fun i wr => ∃ k : Nat, k ≤ m.length ∧ i = .int .i64 k ∧ Hid (OP wr w.heap.size (.slice A1 m.length c1) (offL m k)) ∧ Hid (Below w.heap.size w wr)) (fun i _ => m.length - (intOf i).toNat)
  case atStart => exact ⟨0, by omega, rfl, by rw [offL_zero]; exact HO1.out, HB1.out⟩
  case round =>
    obtain ⟨k, hk, rfl, HO, HB⟩ := hrel
    by_cases hlt : k < m.length
    · have hltI : (k : Int) < (m.length : Int) := by omega
      obtain ⟨g, hA, hg1, hg2⟩ := OP.at HO.out (by rw [offL_len]; omega)
      subst hA
      obtain ⟨hc, hz⟩ := HO.out.cell (by rw [offL_len]) k (by rw [offL_len]; exact hlt)
      have HO2 := Lib.hid (OP.off hlt HO.out)
      have HB2 : Hid (Below w.heap.size w (wr.setCell ⟨g, k * 3 + 2, none⟩ (.bool false))) := HB.out.setCell (by show w.heap.size ≤ g; exact hg1) _
      obtain ⟨fb, hfb⟩ : ∃ fb, fb = ((offL m k)[k]'(by rw [offL_len]; exact hlt)).f := ⟨_, rfl⟩
      rw [← hfb] at hc
      clear hfb hg1 hg2
      go_wp2_with fail
      go_roundw
      case rel => exact ⟨k + 1, by omega, by go_num, HO2.out, HB2.out⟩
      case measure => simp [intOf]; omega
    · obtain rfl : k = m.length := by omega
      have hltI : ¬ ((m.length : Int) < (m.length : Int)) := by omega
      rw [offL_all] at HO
      have HT : Hid (PL wr (.slice A1 m.length c1) (m.map Pt.noF)) := HO.out.pl
      have HVr : Hid (PL wr (.slice A l.length c0) l) := HV.out.below HB.out
      obtain ⟨M, hM⟩ : ∃ M, M = m.map Pt.noF := ⟨_, rfl⟩
      have HML : Hid (m.length = M.length) := by rw [hM]; simp [Hid]
      have HMF : Hid (∀ p ∈ M, p.f = false) := by rw [hM]; exact noF_all m
      have hm60 : M.length ≤ 60 := by rw [hM, List.length_map]; omega
      rw [← hM] at HT
      clear hM HO HO1 HB1 h60 h61
      have hl60 : l.length ≤ 60 := by omega
      rw [HML.out] at HT ⊢
      rw [HML.out] at hltI
      obtain ⟨st, hst⟩ : ∃ st, st = List.replicate 64 Dv.zeroS := ⟨_, rfl⟩
      have hsl : st.length = 64 := by rw [hst]; simp
      have HNEW : Hid (∀ W : World, Calls Try.prog 10 #[.int .i64 64] W fun e w' => ∃ b F, e = .returned (.tuple #[.pointer (some ⟨b, 0, none⟩), .int .i64 0]) ∧ Own W w' b F (sAw st [] 0)) := fun W => by rw [hst]; exact new_step W 64 64 rfl (by omega) (by omega)
      have HL := Lib.hid hsl
      clear hst hsl
      go_wp2_with fail
      refine (HNEW.out _).mono ?_
      rintro e w1 ⟨b1, F1, rfl, ho⟩
      have O1 := Lib.hid ho
      clear ho
      go_wp2_with fail
      refine (HNEW.out _).mono ?_
      rintro e w2 ⟨b2, F2, rfl, ho⟩
      have O2 := Lib.hid ho
      clear ho
      go_wp2_with fail
      refine (HNEW.out _).mono ?_
      rintro e w3 ⟨b3, F3, rfl, ho⟩
      have T0 := Lib.hid (Tri.make O1.out O2.out ho)
      clear ho O1 O2
      obtain ⟨⟨S1, C1⟩, hS⟩ : ∃ s, s = putL (st, []) l := ⟨_, rfl⟩
      have HS1 : Hid (putL (st, []) l = (S1, C1)) := hS.symm
      obtain ⟨S2, hS2⟩ : ∃ s, Dv.put S1 C1 = s := ⟨_, rfl⟩
      have HS2 := Lib.hid hS2
      have HL2 : Hid (S2.length = 64) := by rw [← hS2, Dv.put_length]; have := (putL_len (st, []) l).1; rw [← hS] at this; exact this.trans HL.out
      obtain ⟨MW, hMW⟩ : ∃ s, s = M.map Pt.wr := ⟨_, rfl⟩
      have HMW : Hid (putL (S2, []) M = (S2, MW)) := by rw [hMW]; exact putL_noF S2 [] M HMF.out
      have HMWL : Hid (MW.length = M.length) := by rw [hMW]; simp [Hid]
      obtain ⟨S3, hS3⟩ : ∃ s, Dv.put S2 MW = s := ⟨_, rfl⟩
      have HS3 := Lib.hid hS3
      have HL3 : Hid (S3.length = 64) := by rw [← hS3, Dv.put_length]; exact HL2.out
      have HMW3 : Hid (putL (S3, []) M = (S3, MW)) := by rw [hMW]; exact putL_noF S3 [] M HMF.out
      clear hS hS2 hMW hS3
      go_wp2_with fail
      refine (T0.out.put _ l HVr.out HL.out rfl (by omega) (by omega) HS1.out rfl).mono ?_
      rintro e w4 ⟨rfl, ht⟩
      have T1 := Lib.hid ht.rot
      clear ht T0
      go_wp2_with fail
      refine (T1.out.put _ l HVr.out HL.out rfl (by omega) (by omega) HS1.out rfl).mono ?_
      rintro e w5 ⟨rfl, ht⟩
      have T2 := Lib.hid ht.rot
      clear ht T1
      go_wp2_with fail
      refine (T2.out.put _ l HVr.out HL.out rfl (by omega) (by omega) HS1.out rfl).mono ?_
      rintro e w6 ⟨rfl, ht⟩
      have T3 := Lib.hid ht.rot
      clear ht T2
      go_wp2_with fail
      refine (T3.out.flush HS2.out).mono ?_
      rintro e w7 ⟨rfl, ht⟩
      have T4 := Lib.hid ht.rot
      clear ht T3
      go_wp2_with fail
      refine (T4.out.flush HS2.out).mono ?_
      rintro e w8 ⟨rfl, ht⟩
      have T5 := Lib.hid ht.rot
      clear ht T4
      go_wp2_with fail
      refine (T5.out.flush HS2.out).mono ?_
      rintro e w9 ⟨rfl, ht⟩
      have T6 := Lib.hid ht.rot
      clear ht T5
      go_wp2_with fail
      refine (T6.out.put _ M HT.out HL2.out rfl (by omega) (by omega) HMW.out rfl).mono ?_
      rintro e w10 ⟨rfl, ht⟩
      have T7 := Lib.hid ht.rot
      clear ht T6
      go_wp2_with fail
      refine (T7.out.put _ M HT.out HL2.out rfl (by omega) (by omega) HMW.out rfl).mono ?_
      rintro e w11 ⟨rfl, ht⟩
      have T8 := Lib.hid ht.rot.rot
      clear ht T7
      obtain ⟨i0, hi, hz0, hz1, hz2⟩ := info_parts info_int
      go_wp2_with (refine wpList_make_full _ rfl _ _ 37 rfl w11.heap.size 3 i0 _ 1 Try.underlying37 hi hz0 hz1 _ _ _ _ M.length rfl rfl rfl rfl (by rw [hz2]; omega) (by unfold maxLen; omega) (Nat.le_refl _) ?_; intro w12 ho12 hg12)
      have HU0 : Hid (UpTo w12 w11.heap.size (.slice (some ⟨w11.heap.size, 0, none⟩) M.length M.length) M.length 0) := by
        have h := ho12
        rw [Nat.mul_one, show (Value.int .i64 0).cells = #[Value.int .i64 0] from rfl, made_int] at h
        exact h
      have HB12 : Hid (Below w11.heap.size w11 w12) := (Below.refl _ _).grown hg12 (Nat.le_refl _) (fun k hk => by cases hk)
      obtain ⟨g, hg⟩ : ∃ g, g = w11.heap.size := ⟨_, rfl⟩
      have HG : Hid (g = w11.heap.size) := hg
      rw [← hg] at HU0 HB12 ⊢
      clear ho12 hg12 hg hi hz0 hz1 hz2 HNIL HU HB0
      obtain ⟨wm, hwm⟩ : ∃ wm, wm = wr := ⟨_, rfl⟩
      subst hwm
      go_wp2_with fail
      go_loopw [13] (fun i wx => ∃ k : Nat, k ≤ M.length ∧ i = .int .i64 k ∧ Hid (UpTo wx g (.slice (some ⟨g, 0, none⟩) M.length M.length) M.length k) ∧ Hid (Below g w11 wx)) (fun i _ => M.length - (intOf i).toNat)
      case atStart => exact ⟨0, by omega, rfl, HU0.out, HB12.out⟩
      case round =>
        obtain ⟨k, hk, rfl, HK, HBK⟩ := hrel
        by_cases hlt : k < M.length
        · have hltI2 : (k : Int) < (M.length : Int) := by omega
          obtain ⟨hc, hz⟩ := HK.out.cell hlt
          have HK2 := Lib.hid (HK.out.set hlt)
          have HBK2 : Hid (Below g w11 (wr.setCell ⟨g, k, none⟩ (.int .i64 (k : Int)))) := HBK.out.setCell (by show g ≤ g; omega) _
          go_wp2_with fail
          go_roundw
          case rel => exact ⟨k + 1, by omega, by go_num, HK2.out, HBK2.out⟩
          case measure => simp [intOf]; omega
        · obtain rfl : k = M.length := by omega
          have hrl : (List.range M.length).length = M.length := by simp
          have HOK : Hid (SL encI wr wr.heap.size (.slice (some ⟨g, 0, none⟩) M.length M.length) ((List.range M.length).map fun (j : Nat) => (j : Int))) := HK.out.all.sl
          have HKL : Hid (((List.range M.length).map fun (j : Nat) => (j : Int)).length ≤ 1000000) := by rw [List.length_map, hrl]; show M.length ≤ 1000000; omega
          have HKE : Hid (keepE MW.length ((List.range M.length).map fun (j : Nat) => (j : Int)) = 0) := by rw [HMWL.out]; exact HK.out.keepE
          have HKW : Hid (Dv.put S2 (keptW MW ((List.range M.length).map fun (j : Nat) => (j : Int))) = S3) := by rw [← HMWL.out, keep_all]; exact HS3.out
          have HBK2 : Hid (Below w11.heap.size w11 wr) := by rw [← HG.out]; exact HBK.out
          have T9 := Lib.hid (T8.out.below HBK2.out)
          obtain ⟨tk, htk⟩ : ∃ tk, tk = 0 + l.length + M.length := ⟨_, rfl⟩
          obtain ⟨tl, htl⟩ : ∃ tl, tl = 0 + l.length := ⟨_, rfl⟩
          have htk2 : tk ≤ 200 := by omega
          have htl2 : tl ≤ 100 := by omega
          rw [← htk, ← htl] at T9
          clear hrl T8 HBK2 HBK htk htl hlt
          go_wp2_with fail
          refine (T9.out.diff rfl (fun _ _ => rfl)).mono ?_
          rintro e w13 ⟨⟨A3, c3, rfl⟩, hb⟩
          have T10 := Lib.hid (T9.out.below hb)
          have HOK2 := Lib.hid (HOK.out.next hb)
          clear hb T9 HOK
          go_wp2_with fail
          refine (T10.out.crash _ _ HOK2.out HKL.out HKE.out HKW.out).mono ?_
          rintro e w14 ⟨rfl, ht⟩
          have T11 := Lib.hid ht.rot
          clear ht T10
          go_wp2_with fail
          refine (T11.out.flush HS3.out).mono ?_
          rintro e w15 ⟨rfl, ht⟩
          have T12 := Lib.hid ht.rot.rot
          clear ht T11
          go_wp2_with fail
          refine (T12.out.diff rfl (fun _ _ => rfl)).mono ?_
          rintro e w16 ⟨⟨A4, c4, rfl⟩, hb⟩
          have T13 := Lib.hid (T12.out.below hb)
          clear hb T12
          go_wp2_with fail
          refine (T13.out.put _ M HT.out HL3.out rfl (by omega) (by omega) HMW3.out rfl).mono ?_
          rintro e w17 ⟨rfl, ht⟩
          have T14 := Lib.hid ht
          clear ht T13
          go_wp2_with fail
          refine (T14.out.crash _ [] (SL.nil _ _) (by simp) (Up.nil _).keep (S1 := S3) rfl).mono ?_
          rintro e w18 ⟨rfl, ht⟩
          have T15 := Lib.hid ht.rot.rot
          clear ht T14
          go_wp2_with fail
          refine (T15.out.put _ M HT.out HL2.out rfl (by omega) (by omega) HMW.out rfl).mono ?_
          rintro e w19 ⟨rfl, ht⟩
          have T16 := Lib.hid ht
          clear ht T15
          go_wp2_with fail
          refine (T16.out.crash _ [] (SL.nil _ _) (by simp) (Up.nil _).keep (S1 := S2) rfl).mono ?_
          rintro e w20 ⟨rfl, ht⟩
          have T17 := Lib.hid ht.rot
          clear ht T16
          go_wp2_with fail
          refine (T17.out.diff rfl (fun _ _ => rfl)).mono ?_
          rintro e w21 ⟨⟨A5, c5, rfl⟩, hb⟩
          have T18 := Lib.hid (T17.out.below hb).rot.rot
          clear hb T17
          go_wp2_with fail
          refine (HNEW.out _).mono ?_
          rintro e w22 ⟨b4, F4, rfl, ho⟩
          obtain ⟨Fc, _, _, Oc, _⟩ := T18.out
          have hap := apart_new Oc.lt ho.new
          have OC := Lib.hid (Oc.below ho.bel)
          have OD := Lib.hid (ho.base Oc.bel)
          have HAP : Hid (∀ i ∈ Fc, i ∉ F4) := hap
          clear ho Oc hap T18
          go_wp2_with fail
          refine (put_any wm w22 b4 F4 st [] 0 OD.out _ l HVr.out HL.out (by simp; omega) (by omega)).mono ?_
          rintro e w23 ⟨rfl, F5, ho, hf, hn⟩
          rw [HS1.out] at ho
          have OD2 := Lib.hid ho
          have OC2 := Lib.hid (OC.out.other hf OD.out.new HAP.out)
          clear ho hf hn OC OD HAP
          have HRD : Hid (∀ n, n < (sAw S2 [] tl).st.length → Dv.reads (sAw S2 [] tl) n = Dv.reads (sAw S1 C1 (0 + l.length)) n) := fun n hn => by
            have h1 : n < S1.length := by
              have h2 : n < S2.length := hn
              rw [← HS2.out, Dv.put_length] at h2; exact h2
            show Dv.readF (S2.getD n Dv.zeroS) n [] = Dv.readF (S1.getD n Dv.zeroS) n C1
            rw [← HS2.out]
            exact read_put S1 C1 n h1
          have HLN : Hid ((sAw S2 [] tl).st.length = (sAw S1 C1 (0 + l.length)).st.length) := by show S2.length = S1.length; rw [← HS2.out, Dv.put_length]
          go_wp2_with fail
          refine (diff_same OC2.out.dev OD2.out.dev HLN.out HRD.out).mono ?_
          rintro e w24 ⟨⟨A6, c6, rfl⟩, hb⟩
          have HB24 := Lib.hid (OC2.out.bel.trans (hb.mono OC2.out.bel.size))
          clear hb
          go_wp2_with fail
          refine (awake_any _).mono ?_
          rintro e w25 ⟨rfl, hb⟩
          have HFIN : Hid (Below w.heap.size w w25) := HB.out.trans ((HB24.out.trans (hb.mono HB24.out.size)).mono HB.out.size)
          clear hb
          go_wp2_with fail
          go_ret
          exact ⟨rfl, HFIN.out⟩
end Go.Proofs.Ytcmhhiakmgooeaa
