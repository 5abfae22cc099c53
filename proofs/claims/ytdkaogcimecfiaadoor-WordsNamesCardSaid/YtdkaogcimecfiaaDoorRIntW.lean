/- The walk of the reference's Int. Condition: strings shorter than 10^9 bytes. -/
import Derived.Test.YtdkaogcimecfiaaDoorRInt
namespace Go.Proofs.YtdkaogcimecfiaaDoor
open Go.RowKit

theorem dec_chars (l : List UInt8) (h : decB l = true) : ∀ c ∈ l, (c.toNat : Int) = 45 ∨ (48 ≤ c.toNat ∧ c.toNat ≤ 57) := by
  cases l with
  | nil => intro c hc; simp at hc
  | cons c r =>
    by_cases hc : (c.toNat : Int) = 45
    · obtain rfl : c = 45 := UInt8.toNat_inj.1 (by show c.toNat = 45; omega)
      have hr : r.all dig = true := by
        cases r with
        | nil => rfl
        | cons d r =>
          by_cases hd : (d.toNat : Int) = 48
          · obtain rfl : d = 48 := UInt8.toNat_inj.1 (by show d.toNat = 48; omega)
            rw [dec_minus _ rfl] at h; simp at h
          · rw [dec_strip _ _ hd] at h; exact h
      intro x hx
      rcases List.mem_cons.1 hx with rfl | hx
      · exact .inl hc
      · exact .inr (dig_le x (List.all_eq_true.1 hr x hx))
    · rw [dec_plain c r hc] at h
      simp only [Bool.and_eq_true] at h
      intro x hx
      exact .inr (dig_le x (List.all_eq_true.1 h.2 x hx))
theorem dv_take (s : ByteArray) (k : Nat) (h : k < s.size) : dv 0 ((bs s).take (k + 1)) = if (s[k].toNat : Int) = 45 then dv 0 ((bs s).take k) else dv 0 ((bs s).take k) * 10 + (s[k].toNat - 48) := by
  rw [List.take_succ_eq_append_getElem (by rw [bs_len]; exact h), dv_app, bs_get _ _ h]; rfl
theorem dv_take_le (s : ByteArray) (k : Nat) : dv 0 ((bs s).take k) ≤ dv 0 (bs s) := by
  conv => rhs; rw [← List.take_append_drop k (bs s), dv_app]
  exact dv_le _ _
theorem quo_eq (d : Int) (h0 : 0 ≤ d) (h1 : d ≤ 9) : (-9223372036854775808 + d).tdiv 10 = -((9223372036854775808 - d) / 10) := by
  rw [show -9223372036854775808 + d = -(9223372036854775808 - d) by omega, Int.neg_tdiv, Int.tdiv_eq_ediv_of_nonneg (by omega)]

theorem wrap64_in (x : Int) (h0 : -9223372036854775808 ≤ x) (h1 : x ≤ 9223372036854775807) : wrap64 x = x := by
  unfold wrap64; omega

set_option maxRecDepth 100000 in
set_option maxHeartbeats 2000000 in
theorem rint_any (s : ByteArray) (lo hi : Int) (w : World) (hs : s.size ≤ 1000000000) :
    Calls Tryd.prog 13 #[.string s, .int .i64 lo, .int .i64 hi] w fun e w' => e = .returned (intV (intR (bs s) lo hi)) ∧ w = w' := by
  have HD := Lib.hid (decimal_any s w hs)
  cases hdb : decB (bs s) with
  | false =>
    have hfin : intR (bs s) lo hi = (0, 6) := by unfold intR; rw [if_pos hdb]
    have H := Lib.hid hfin
    have HB := Lib.hid hdb
    clear hfin hdb
    go_enter Tryd.func13, Tryd.ntmps13
    go_wp2_with fail
    refine (HD.out).mono ?_
    rintro e w' ⟨rfl, rfl⟩
    rw [HB.out]
    go_wp2_with fail
    go_ret2
    exact ⟨by rw [H.out]; rfl, rfl⟩
  | true =>
    have hp0 : 0 < s.size := by
      by_cases h : 0 < s.size
      · exact h
      · rw [List.eq_nil_of_length_eq_zero (by rw [bs_len]; omega : (bs s).length = 0)] at hdb; exact absurd hdb (by decide)
    have hfin := intR_dec (bs s) lo hi hdb
    rw [bs_getD s 0 hp0] at hfin
    have H := Lib.hid hfin
    have HB := Lib.hid hdb
    have HCH := Lib.hid (dec_chars (bs s) hdb)
    have HL := Lib.hid (bs_len s)
    clear hfin hdb
    obtain ⟨neg, hneg⟩ : ∃ b, b = ((s[0].toNat : Int) == 45) := ⟨_, rfl⟩
    have hng : decide (s[0].toNat = 45) = neg := by rw [hneg, Bool.eq_iff_iff]; simp; omega
    rw [hng] at H
    have HN : Hid (((s[0].toNat : Int) == 45) = neg) := hneg.symm
    clear hng hneg
    go_enter Tryd.func13, Tryd.ntmps13
    go_wp2_with fail
    refine (HD.out).mono ?_
    rintro e w' ⟨rfl, rfl⟩
    rw [HB.out]
    go_wp2_with fail
    rw [HN.out]
    go_loop [9, 10] (fun n i => ∃ k : Nat, k ≤ s.size ∧ i = .int .i64 k ∧ n = .int .i64 (-(dv 0 ((bs s).take k) : Int)) ∧ Hid (dv 0 ((bs s).take k) ≤ 9223372036854775808)) (fun _ i => s.size - (intOf i).toNat)
    case atStart => exact ⟨0, Nat.zero_le _, rfl, rfl, by show (0 : Nat) ≤ _; omega⟩
    case round =>
      obtain ⟨k, hk, rfl, rfl, HR⟩ := hrel
      obtain ⟨m, hm⟩ : ∃ m, m = dv 0 ((bs s).take k) := ⟨_, rfl⟩
      rw [← hm] at HR ⊢
      have hmle := HR.out
      have HM := Lib.hid hm
      clear hm HR
      by_cases hlt : k < s.size
      · have hnx := dv_take s k hlt
        rw [← HM.out] at hnx
        by_cases h45 : (s[k].toNat : Int) = 45
        · rw [if_pos h45] at hnx
          have HNX := Lib.hid hnx
          clear hnx
          go_wp2_with fail
          go_round
          case rel => exact ⟨k + 1, by omega, by go_num, by rw [HNX.out], by show _ ≤ _; rw [HNX.out]; exact hmle⟩
          case measure => simp [intOf]; omega
        · rw [if_neg h45] at hnx
          have hd := (HCH.out s[k] (by rw [← bs_get s k hlt]; exact List.getElem_mem _)).resolve_left h45
          obtain ⟨x, hx⟩ : ∃ x : Int, x = (s[k].toNat : Int) := ⟨_, rfl⟩
          have hx1 : 48 ≤ x := by omega
          have hx2 : x ≤ 57 := by omega
          have hnx2 : (dv 0 ((bs s).take (k + 1)) : Int) = m * 10 + (x - 48) := by rw [hnx]; omega
          have HNX := Lib.hid hnx2
          have HX : Hid (x = (s[k].toNat : Int)) := hx
          have h45' : ((s[k].toNat : Int) == 45) = false := by rw [beq_eq_false_iff_ne]; exact h45
          have hw8 : IntKind.u8.wrap ((s[k].toNat : Int) - 48) = (s[k].toNat : Int) - 48 := by rw [IntKind.wrap_u8]; omega
          have hlo : (48 : Int) ≤ (s[k].toNat : Int) := by omega
          have hhi : (s[k].toNat : Int) ≤ 57 := by omega
          have hq := quo_eq ((s[k].toNat : Int) - 48) (by omega) (by omega)
          clear hnx hnx2 hd hx h45
          by_cases hov : (9223372036854775808 - ((s[k].toNat : Int) - 48)) / 10 < (m : Int)
          · have hbig : 9223372036854775808 < dv 0 (bs s) := by
              have h1 := dv_take_le s (k + 1)
              have h2 := HNX.out
              have h3 := HX.out
              omega
            have hfin : intR2 (dv 0 (bs s)) neg lo hi = (0, 7) := by unfold intR2; rw [if_pos (.inl hbig)]
            have HF := Lib.hid hfin
            clear hbig hfin
            go_wp2_with fail
            go_ret2
            exact ⟨by rw [H.out, HF.out]; rfl, rfl⟩
          · have hov' : (m : Int) ≤ (9223372036854775808 - ((s[k].toNat : Int) - 48)) / 10 := by omega
            clear hov
            go_wp2_with fail
            go_round
            case rel => exact ⟨k + 1, by omega, by go_num, by
              rw [HNX.out, HX.out]; congr 1; omega, by
              have h2 := HNX.out
              have h3 := HX.out
              show _ ≤ _
              omega⟩
            case measure => simp [intOf]; omega
      · have hmt : m = dv 0 (bs s) := by rw [HM.out, List.take_of_length_le (by rw [HL.out]; omega)]
        rw [← hmt] at H
        clear hmt HM
        cases neg with
        | true =>
          have hin : intR2 m true lo hi = if -(m : Int) < lo ∨ hi < -(m : Int) then (0, 7) else (-(m : Int), 0) := by
            unfold intR2; rw [if_neg (by simp; omega)]; rfl
          rw [hin] at H
          clear hin
          by_cases h1 : -(m : Int) < lo
          · rw [if_pos (.inl h1)] at H
            go_wp2_with fail
            go_ret2
            exact ⟨by rw [H.out]; rfl, rfl⟩
          · by_cases h2 : hi < -(m : Int)
            · rw [if_pos (.inr h2)] at H
              go_wp2_with fail
              go_ret2
              exact ⟨by rw [H.out]; rfl, rfl⟩
            · rw [if_neg (by omega)] at H
              go_wp2_with fail
              go_ret2
              exact ⟨by rw [H.out]; rfl, rfl⟩
        | false =>
          by_cases h0 : m = 9223372036854775808
          · have hin : intR2 m false lo hi = (0, 7) := by unfold intR2; rw [if_pos (.inr ⟨rfl, h0⟩)]
            rw [hin] at H
            have e0 : (-(m : Int) == -9223372036854775808) = true := by rw [beq_iff_eq]; omega
            clear hin h0
            go_wp2_with fail
            go_ret2
            exact ⟨by rw [H.out]; rfl, rfl⟩
          · have hin : intR2 m false lo hi = if (m : Int) < lo ∨ hi < (m : Int) then (0, 7) else ((m : Int), 0) := by
              unfold intR2; rw [if_neg (by simp; omega)]; rfl
            rw [hin] at H
            have e0 : (-(m : Int) == -9223372036854775808) = false := by rw [beq_eq_false_iff_ne]; omega
            have ew : wrap64 (m : Int) = (m : Int) := wrap64_in _ (by omega) (by omega)
            clear hin h0
            by_cases h1 : (m : Int) < lo
            · rw [if_pos (.inl h1)] at H
              go_wp2_with fail
              go_ret2
              exact ⟨by rw [H.out]; rfl, rfl⟩
            · by_cases h2 : hi < (m : Int)
              · rw [if_pos (.inr h2)] at H
                go_wp2_with fail
                go_ret2
                exact ⟨by rw [H.out]; rfl, rfl⟩
              · rw [if_neg (by omega)] at H
                go_wp2_with fail
                go_ret2
                exact ⟨by rw [H.out]; rfl, rfl⟩
end Go.Proofs.YtdkaogcimecfiaaDoor
