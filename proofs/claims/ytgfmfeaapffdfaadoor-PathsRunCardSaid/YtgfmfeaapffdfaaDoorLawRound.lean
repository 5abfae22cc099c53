/- The law PathsRound: it returns true. Conditions: the slice holds what is said of it; the library's variable MaxLen holds a number. -/
import Derived.Test.YtgfmfeaapffdfaaDoorLawChanges
namespace Go.Proofs.YtgfmfeaapffdfaaDoor
open Go.RowKit

theorem pathE_ok {w w' : World} {q : Path} {e : Ending} (h : PathE w (q, 0) e w') : ∃ v, e = .returned (.tuple #[v, .int .i64 0]) ∧ SL encS w' w'.heap.size v q ∧ Below w.heap.size w w' := h
theorem textE_ok {w w' : World} {s : ByteArray} {e : Ending} (h : TextE w (s, 0) e w') : e = .returned (.tuple #[.string s, .int .i64 0]) ∧ Below w.heap.size w w' := h
theorem parE_ok {w w' : World} {q : Path} {s : ByteArray} {k : Nat} {e : Ending} (h : ParE w (q, s, k) e w') : ∃ v, e = .returned (.tuple #[v, .string s, .int .i64 (k : Int)]) ∧ SL encS w' w'.heap.size v q ∧ Below w.heap.size w w' := h
theorem fit_ok {p : Path} (h : checkE p = 0) : Fit p := by
  have hz := (checkE_zero p).1 h
  exact ⟨by omega, fun s hs => by have := (nameE_ok (hz.2 s hs)).2.1; omega⟩
theorem text_size {p : Path} (h : checkE p = 0) : (textOf p).size ≤ 1000000 := by
  have hz := (checkE_zero p).1 h
  have hjl := jn_len (p.map bs) (names_len hz.2)
  rw [List.length_map] at hjl
  have hb : bs (textOf p) = 47 :: jn (p.map bs) := rfl
  rw [← bs_len, hb, List.length_cons]
  omega
theorem join_parent {p : Path} (h : checkE p = 0) (n : Nat) (hn : p.length = n + 1) : joinR (p.take n) (p[n]'(by omega)) = (p, 0) := by
  have hz := (checkE_zero p).1 h
  have h1 : checkE (p.take n) = 0 := (checkE_zero _).2 ⟨by rw [List.length_take]; omega, fun s hs => hz.2 s (List.mem_of_mem_take hs)⟩
  have h2 : nameE (p[n]'(by omega)) = 0 := hz.2 _ (List.getElem_mem _)
  unfold joinR
  rw [if_pos h1, if_pos h2, if_neg (by rw [List.length_take]; omega), ← List.take_succ_eq_append_getElem (by omega)]
  rw [List.take_of_length_le (by omega)]

set_option maxRecDepth 100000 in
set_option maxHeartbeats 32000000 in
theorem law_round (w : World) (v : Value) (p : Path) (s : ByteArray) (hv : SL encS w w.heap.size v p) (hm : ML w) :
    Calls Tryd.prog 7 #[v, .string s] w fun e w' => e = .returned (.bool true) ∧ Below w.heap.size w w' := by
  have HL := Lib.hid (long_any w v p hv)
  have HAW := Lib.hid (awake_any w hm)
  cases hl : longB p with
  | true =>
    rw [hl] at HL
    obtain ⟨A, c, rfl⟩ := hv.form
    clear hv hm hl
    go_enter Tryd.func7, Tryd.ntmps7
    go_wp2_with fail
    refine HL.out.mono ?_
    rintro e w' ⟨rfl, rfl⟩
    go_wp2_with fail
    refine HAW.out.mono ?_
    rintro e w' ⟨rfl, hb⟩
    go_wp2_with fail
    go_ret
    exact ⟨rfl, hb⟩
  | false =>
  rw [hl] at HL
  by_cases h6 : 600 < s.size
  · have i6 : (600 : Int) < (s.size : Int) := by omega
    obtain ⟨A, c, rfl⟩ := hv.form
    clear hv hm hl h6
    go_enter Tryd.func7, Tryd.ntmps7
    go_wp2_with fail
    refine HL.out.mono ?_
    rintro e w' ⟨rfl, rfl⟩
    go_wp2_with fail
    refine HAW.out.mono ?_
    rintro e w' ⟨rfl, hb⟩
    go_wp2_with fail
    go_ret
    exact ⟨rfl, hb⟩
  have i6 : ¬ (600 : Int) < (s.size : Int) := by omega
  have HF := Lib.hid (long_fit hl)
  have HV := Lib.hid hv
  have HM := Lib.hid hm
  have HPR := Lib.hid (parse_any w s (by omega) hm)
  have HPO := Lib.hid (print_parse s)
  obtain ⟨A, c, rfl⟩ := hv.form
  clear hv hm hl h6 HAW
  go_enter Tryd.func7, Tryd.ntmps7
  go_wp2_with fail
  refine HL.out.mono ?_
  rintro e w' ⟨rfl, rfl⟩
  go_wp2_with fail
  clear HL
  by_cases he : (parseR s).2 = 0
  · have HQ := HPO.out he
    obtain ⟨q, hq⟩ : ∃ q, parseR s = (q, 0) := ⟨(parseR s).1, by rw [← he]⟩
    rw [hq] at HPR HQ
    have HQF : Hid (Fit q) := fit_ok HQ.1
    have HQP : Hid (printR q = (s, 0)) := by show printR q = _; unfold printR; rw [if_pos HQ.1, HQ.2]
    clear HPO HQ he hq
    refine HPR.out.mono ?_
    intro e w1 hx
    obtain ⟨v1, rfl, hs1, hb1⟩ := pathE_ok hx
    have HS1 := Lib.hid hs1
    have HB1 := Lib.hid hb1
    obtain ⟨A1, c1, rfl⟩ := hs1.form
    clear hs1 hb1 HPR hx
    go_wp2_with fail
    refine (print_any w1 _ q HS1.out HQF.out).mono ?_
    rw [HQP.out]
    intro e w2 hx
    obtain ⟨rfl, hb2⟩ := textE_ok hx
    have HB2 := Lib.hid (HB1.out.trans (hb2.mono HB1.out.size))
    clear hb2 HB1 HS1 HQF HQP hx
    go_wp2_with fail
    have iss : (s.toList == s.toList) = true := by simp
    have HPP := Lib.hid (print_any w2 _ p (HV.out.next HB2.out) HF.out)
    by_cases hE : checkE p = 0
    · have HPE : Hid (printR p = (textOf p, 0)) := by show printR p = _; unfold printR; rw [if_pos hE]
      have HTS := Lib.hid (text_size hE)
      have HPK := Lib.hid (parse_print p hE)
      have HPL := Lib.hid HF.out.1
      rw [HPE.out] at HPP
      refine HPP.out.mono ?_
      intro e w3 hx
      obtain ⟨rfl, hb3⟩ := textE_ok hx
      have HB3 := Lib.hid (HB2.out.trans (hb3.mono HB2.out.size))
      clear hb3 HB2 hx HPP HPE
      go_wp2_with fail
      refine (parse_any w3 _ HTS.out (HM.out.next HB3.out)).mono ?_
      rw [HPK.out]
      intro e w4 hx
      obtain ⟨v4, rfl, hs4, hb4⟩ := pathE_ok hx
      have HS4 := Lib.hid hs4
      have HB4 := Lib.hid (HB3.out.trans (hb4.mono HB3.out.size))
      obtain ⟨A4, c4, rfl⟩ := hs4.form
      clear hs4 hb4 HB3 hx HPK HTS
      go_wp2_with fail
      have HSA := same_any w4 _ _ _ _ (HV.out.next HB4.out) HS4.out HPL.out HPL.out
      rw [decide_eq_true rfl] at HSA
      refine HSA.mono ?_
      clear HSA
      rintro e w5 ⟨rfl, m, rfl⟩
      have HB5 := Lib.hid (HB4.out.trans ((drew_below w4 m).mono HB4.out.size))
      clear HB4 HS4
      go_wp2_with fail
      have HPX := Lib.hid (parent_any _ _ p (HV.out.next HB5.out) HF.out)
      by_cases h0 : p.length = 0
      · have HPN : Hid (parR p = ([], ⟨#[]⟩, 4)) := by show parR p = _; unfold parR; rw [if_pos hE, dif_pos h0]
        rw [HPN.out] at HPX
        rw [h0] at HPX ⊢
        clear h0 hE
        refine HPX.out.mono ?_
        intro e w6 hx
        obtain ⟨v6, rfl, hs6, hb6⟩ := parE_ok hx
        have HB6 := Lib.hid (HB5.out.trans (hb6.mono HB5.out.size))
        obtain ⟨A6, c6, rfl⟩ := hs6.form
        clear hs6 hb6 hx HPX HPN
        go_wp2_with fail
        refine (awake_any _ (HM.out.next HB6.out)).mono ?_
        rintro e w7 ⟨rfl, hb7⟩
        have HB7 := Lib.hid (HB6.out.trans (hb7.mono HB6.out.size))
        clear hb7
        go_wp2_with fail
        go_ret
        exact ⟨rfl, HB7.out⟩
      · obtain ⟨n, hn⟩ : ∃ n, p.length = n + 1 := ⟨p.length - 1, by omega⟩
        obtain ⟨x, hpx⟩ : ∃ x : ByteArray, p[n]'(by omega) = x := ⟨_, rfl⟩
        have HPN : Hid (parR p = (p.take n, x, 0)) := by
          show parR p = _
          unfold parR
          rw [if_pos hE, dif_neg h0]
          have e : p.length - 1 = n := by omega
          simp only [e, hpx]
        have HJP := Lib.hid (join_parent hE n hn)
        rw [hpx] at HJP
        have HNS : Hid (x.size ≤ 1000000000) := by rw [← hpx]; exact HF.out.2 _ (List.getElem_mem _)
        have HFT := Lib.hid (HF.out.take n)
        have HLT : Hid ((p.take n).length = n) := by show (p.take n).length = n; rw [List.length_take]; omega
        have hz := int_some' h0
        rw [HPN.out] at HPX
        clear h0 hE hpx hn
        refine HPX.out.mono ?_
        intro e w6 hx
        obtain ⟨v6, rfl, hs6, hb6⟩ := parE_ok hx
        have HS6 := Lib.hid hs6
        have HB6 := Lib.hid (HB5.out.trans (hb6.mono HB5.out.size))
        obtain ⟨A6, c6, rfl⟩ := hs6.form
        rw [HLT.out] at HS6 ⊢
        clear hs6 hb6 hx HPX HPN
        go_wp2_with fail
        refine (join_any w6 _ _ _ HS6.out HFT.out HNS.out).mono ?_
        rw [HJP.out]
        intro e w7 hx
        obtain ⟨v7, rfl, hs7, hb7⟩ := pathE_ok hx
        have HS7 := Lib.hid hs7
        have HB7 := Lib.hid (HB6.out.trans (hb7.mono HB6.out.size))
        obtain ⟨A7, c7, rfl⟩ := hs7.form
        clear hs7 hb7 hx
        go_wp2_with fail
        have HSA := same_any w7 _ _ _ _ (HV.out.next HB7.out) HS7.out HPL.out HPL.out
        rw [decide_eq_true rfl] at HSA
        refine HSA.mono ?_
        clear HSA
        rintro e w8 ⟨rfl, m2, rfl⟩
        have HB8 := Lib.hid (HB7.out.trans ((drew_below w7 m2).mono HB7.out.size))
        go_wp2_with fail
        refine (awake_any _ (HM.out.next HB8.out)).mono ?_
        rintro e w9 ⟨rfl, hb9⟩
        have HB9 := Lib.hid (HB8.out.trans (hb9.mono HB8.out.size))
        clear hb9
        go_wp2_with fail
        go_ret
        exact ⟨rfl, HB9.out⟩
    · have HPE : Hid (printR p = (⟨#[]⟩, checkE p)) := by show printR p = _; unfold printR; rw [if_neg hE]
      have he1 := int_some hE
      rw [HPE.out] at HPP
      clear HPE hE
      refine HPP.out.mono ?_
      rintro e w3 ⟨rfl, hb3⟩
      have HB3 := Lib.hid (HB2.out.trans (hb3.mono HB2.out.size))
      clear hb3 HB2 HPP
      go_wp2_with fail
      refine (check_any w3 _ p (HV.out.next HB3.out) HF.out.2).mono ?_
      rintro e w4 ⟨rfl, rfl⟩
      go_wp2_with fail
      refine (awake_any _ (HM.out.next HB3.out)).mono ?_
      rintro e w9 ⟨rfl, hb9⟩
      have HB9 := Lib.hid (HB3.out.trans (hb9.mono HB3.out.size))
      clear hb9
      go_wp2_with fail
      go_ret
      exact ⟨rfl, HB9.out⟩
  · have he0 := int_some' he
    clear HPO he
    refine HPR.out.mono ?_
    rintro e w2 ⟨v1, rfl, hs1, hb1⟩
    have HB2 := Lib.hid hb1
    obtain ⟨A1, c1, rfl⟩ := hs1.form
    clear hs1 hb1 HPR
    go_wp2_with fail
    have HPP := Lib.hid (print_any w2 _ p (HV.out.next HB2.out) HF.out)
    by_cases hE : checkE p = 0
    · have HPE : Hid (printR p = (textOf p, 0)) := by show printR p = _; unfold printR; rw [if_pos hE]
      have HTS := Lib.hid (text_size hE)
      have HPK := Lib.hid (parse_print p hE)
      have HPL := Lib.hid HF.out.1
      rw [HPE.out] at HPP
      refine HPP.out.mono ?_
      intro e w3 hx
      obtain ⟨rfl, hb3⟩ := textE_ok hx
      have HB3 := Lib.hid (HB2.out.trans (hb3.mono HB2.out.size))
      clear hb3 HB2 hx HPP HPE
      go_wp2_with fail
      refine (parse_any w3 _ HTS.out (HM.out.next HB3.out)).mono ?_
      rw [HPK.out]
      intro e w4 hx
      obtain ⟨v4, rfl, hs4, hb4⟩ := pathE_ok hx
      have HS4 := Lib.hid hs4
      have HB4 := Lib.hid (HB3.out.trans (hb4.mono HB3.out.size))
      obtain ⟨A4, c4, rfl⟩ := hs4.form
      clear hs4 hb4 HB3 hx HPK HTS
      go_wp2_with fail
      have HSA := same_any w4 _ _ _ _ (HV.out.next HB4.out) HS4.out HPL.out HPL.out
      rw [decide_eq_true rfl] at HSA
      refine HSA.mono ?_
      clear HSA
      rintro e w5 ⟨rfl, m, rfl⟩
      have HB5 := Lib.hid (HB4.out.trans ((drew_below w4 m).mono HB4.out.size))
      clear HB4 HS4
      go_wp2_with fail
      have HPX := Lib.hid (parent_any _ _ p (HV.out.next HB5.out) HF.out)
      by_cases h0 : p.length = 0
      · have HPN : Hid (parR p = ([], ⟨#[]⟩, 4)) := by show parR p = _; unfold parR; rw [if_pos hE, dif_pos h0]
        rw [HPN.out] at HPX
        rw [h0] at HPX ⊢
        clear h0 hE
        refine HPX.out.mono ?_
        intro e w6 hx
        obtain ⟨v6, rfl, hs6, hb6⟩ := parE_ok hx
        have HB6 := Lib.hid (HB5.out.trans (hb6.mono HB5.out.size))
        obtain ⟨A6, c6, rfl⟩ := hs6.form
        clear hs6 hb6 hx HPX HPN
        go_wp2_with fail
        refine (awake_any _ (HM.out.next HB6.out)).mono ?_
        rintro e w7 ⟨rfl, hb7⟩
        have HB7 := Lib.hid (HB6.out.trans (hb7.mono HB6.out.size))
        clear hb7
        go_wp2_with fail
        go_ret
        exact ⟨rfl, HB7.out⟩
      · obtain ⟨n, hn⟩ : ∃ n, p.length = n + 1 := ⟨p.length - 1, by omega⟩
        obtain ⟨x, hpx⟩ : ∃ x : ByteArray, p[n]'(by omega) = x := ⟨_, rfl⟩
        have HPN : Hid (parR p = (p.take n, x, 0)) := by
          show parR p = _
          unfold parR
          rw [if_pos hE, dif_neg h0]
          have e : p.length - 1 = n := by omega
          simp only [e, hpx]
        have HJP := Lib.hid (join_parent hE n hn)
        rw [hpx] at HJP
        have HNS : Hid (x.size ≤ 1000000000) := by rw [← hpx]; exact HF.out.2 _ (List.getElem_mem _)
        have HFT := Lib.hid (HF.out.take n)
        have HLT : Hid ((p.take n).length = n) := by show (p.take n).length = n; rw [List.length_take]; omega
        have hz := int_some' h0
        rw [HPN.out] at HPX
        clear h0 hE hpx hn
        refine HPX.out.mono ?_
        intro e w6 hx
        obtain ⟨v6, rfl, hs6, hb6⟩ := parE_ok hx
        have HS6 := Lib.hid hs6
        have HB6 := Lib.hid (HB5.out.trans (hb6.mono HB5.out.size))
        obtain ⟨A6, c6, rfl⟩ := hs6.form
        rw [HLT.out] at HS6 ⊢
        clear hs6 hb6 hx HPX HPN
        go_wp2_with fail
        refine (join_any w6 _ _ _ HS6.out HFT.out HNS.out).mono ?_
        rw [HJP.out]
        intro e w7 hx
        obtain ⟨v7, rfl, hs7, hb7⟩ := pathE_ok hx
        have HS7 := Lib.hid hs7
        have HB7 := Lib.hid (HB6.out.trans (hb7.mono HB6.out.size))
        obtain ⟨A7, c7, rfl⟩ := hs7.form
        clear hs7 hb7 hx
        go_wp2_with fail
        have HSA := same_any w7 _ _ _ _ (HV.out.next HB7.out) HS7.out HPL.out HPL.out
        rw [decide_eq_true rfl] at HSA
        refine HSA.mono ?_
        clear HSA
        rintro e w8 ⟨rfl, m2, rfl⟩
        have HB8 := Lib.hid (HB7.out.trans ((drew_below w7 m2).mono HB7.out.size))
        go_wp2_with fail
        refine (awake_any _ (HM.out.next HB8.out)).mono ?_
        rintro e w9 ⟨rfl, hb9⟩
        have HB9 := Lib.hid (HB8.out.trans (hb9.mono HB8.out.size))
        clear hb9
        go_wp2_with fail
        go_ret
        exact ⟨rfl, HB9.out⟩
    · have HPE : Hid (printR p = (⟨#[]⟩, checkE p)) := by show printR p = _; unfold printR; rw [if_neg hE]
      have he1 := int_some hE
      rw [HPE.out] at HPP
      clear HPE hE
      refine HPP.out.mono ?_
      rintro e w3 ⟨rfl, hb3⟩
      have HB3 := Lib.hid (HB2.out.trans (hb3.mono HB2.out.size))
      clear hb3 HB2 HPP
      go_wp2_with fail
      refine (check_any w3 _ p (HV.out.next HB3.out) HF.out.2).mono ?_
      rintro e w4 ⟨rfl, rfl⟩
      go_wp2_with fail
      refine (awake_any _ (HM.out.next HB3.out)).mono ?_
      rintro e w9 ⟨rfl, hb9⟩
      have HB9 := Lib.hid (HB3.out.trans (hb9.mono HB3.out.size))
      clear hb9
      go_wp2_with fail
      go_ret
      exact ⟨rfl, HB9.out⟩
end Go.Proofs.YtgfmfeaapffdfaaDoor
