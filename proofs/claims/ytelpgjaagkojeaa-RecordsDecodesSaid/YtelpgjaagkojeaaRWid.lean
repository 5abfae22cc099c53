/- The contracts of width and form of the reference. Conditions: a form of at most 10^9 bytes. -/
import Derived.Test.YtelpgjaagkojeaaVal
namespace Go.Proofs.Ytelpgjaagkojeaa
open Go.RowKit

theorem wid_nat (c : UInt8) : Rm.wid c = if c.toNat = 98 then 1 else if c.toNat = 119 then 2 else if c.toNat = 100 then 4 else if c.toNat = 113 then 8 else 0 := by
  unfold Rm.wid
  simp only [← UInt8.toNat_inj]
  rfl
theorem eq_no {a b : Nat} (h : ¬ a = b) : ((a : Int) == (b : Int)) = false := by rw [beq_eq_false_iff_ne]; omega
set_option maxRecDepth 100000 in
theorem width_nat (w : World) (n k : Nat) (hk : k = if n = 98 then 1 else if n = 119 then 2 else if n = 100 then 4 else if n = 113 then 8 else 0) :
    Calls Try.prog 32 #[.int .u8 (n : Int)] w fun e w' => e = .returned (.int .i64 (k : Int)) ∧ w = w' := by
  by_cases h1 : n = 98
  · rw [if_pos h1] at hk
    subst h1 hk
    go_enter Try.func32, Try.ntmps32
    go_wp2_with fail
    go_ret
    exact ⟨rfl, rfl⟩
  rw [if_neg h1] at hk
  have e1 : ((n : Int) == 98) = false := eq_no h1
  by_cases h2 : n = 119
  · rw [if_pos h2] at hk
    subst h2 hk
    clear e1 h1
    go_enter Try.func32, Try.ntmps32
    go_wp2_with fail
    go_ret
    exact ⟨rfl, rfl⟩
  rw [if_neg h2] at hk
  have e2 : ((n : Int) == 119) = false := eq_no h2
  by_cases h3 : n = 100
  · rw [if_pos h3] at hk
    subst h3 hk
    clear e1 h1 e2 h2
    go_enter Try.func32, Try.ntmps32
    go_wp2_with fail
    go_ret
    exact ⟨rfl, rfl⟩
  rw [if_neg h3] at hk
  have e3 : ((n : Int) == 100) = false := eq_no h3
  by_cases h4 : n = 113
  · rw [if_pos h4] at hk
    subst h4 hk
    clear e1 h1 e2 h2 e3 h3
    go_enter Try.func32, Try.ntmps32
    go_wp2_with fail
    go_ret
    exact ⟨rfl, rfl⟩
  rw [if_neg h4] at hk
  have e4 : ((n : Int) == 113) = false := eq_no h4
  subst hk
  clear h1 h2 h3 h4
  go_enter Try.func32, Try.ntmps32
  go_wp2_with fail
  go_ret
  exact ⟨rfl, rfl⟩
theorem width_any (w : World) (c : UInt8) : Calls Try.prog 32 #[.int .u8 (c.toNat : Int)] w fun e w' => e = .returned (.int .i64 (Rm.wid c : Int)) ∧ w = w' :=
  width_nat w c.toNat _ (wid_nat c)
theorem ne_dec (a b : Nat) : ((a : Int) != (b : Int)) = !decide (a = b) := by
  by_cases h : a = b
  · subst h; simp
  · rw [decide_eq_false h, Bool.not_false, bne_iff_ne]; omega
theorem isK_nat (c : UInt8) : Rm.isK c = (decide (0 < Rm.wid c) || decide (c.toNat = 118) || decide (c.toNat = 115) || decide (c.toNat = 108)) := by
  rw [Bool.eq_iff_iff]
  unfold Rm.isK Rm.wid
  simp only [Bool.or_eq_true, beq_iff_eq, decide_eq_true_eq, ← UInt8.toNat_inj]
  split <;> (try split) <;> (try split) <;> (try split) <;> simp_all
set_option maxRecDepth 100000 in
set_option maxHeartbeats 1000000 in
theorem form_any (w : World) (fs : List UInt8) (hf : fs.length ≤ 1000000000) :
    Calls Try.prog 24 #[.string ⟨fs.toArray⟩] w fun e w' => e = .returned (.int .i64 (Rm.formE fs : Int)) ∧ w = w' := by
  by_cases h64 : 64 < fs.length
  · have h64I : (64 : Int) < (fs.length : Int) := by omega
    have hr : Hid (Rm.formE fs = 3) := by unfold Rm.formE; exact if_pos h64
    go_enter Try.func24, Try.ntmps24
    go_wp2_with fail
    go_ret
    exact ⟨by rw [hr.out]; rfl, rfl⟩
  have h64I : ¬ (64 : Int) < (fs.length : Int) := by omega
  have hr : Hid (Rm.formE fs = if fs.all Rm.isK then 0 else 2) := by unfold Rm.formE; exact if_neg h64
  go_enter Try.func24, Try.ntmps24
  go_wp2_with fail
  go_loop [3] (fun i => ∃ k : Nat, k ≤ fs.length ∧ i = .int .i64 k ∧ Hid ((fs.take k).all Rm.isK = true)) (fun i => fs.length - (intOf i).toNat)
  case atStart => exact ⟨0, by omega, rfl, by simp [Hid]⟩
  case round =>
    obtain ⟨k, hk, rfl, HA⟩ := hrel
    by_cases hlt : k < fs.length
    · have hltI : (k : Int) < (fs.length : Int) := by omega
      have hstop : Hid (Rm.isK fs[k] = false → Rm.formE fs = 2) := fun h => by
        rw [hr.out, if_neg]
        intro hall
        have := List.all_eq_true.1 hall _ (List.getElem_mem hlt)
        rw [h] at this; simp at this
      have hnext : Hid (Rm.isK fs[k] = true → (fs.take (k + 1)).all Rm.isK = true) := fun h => by
        rw [List.take_succ_eq_append_getElem hlt, List.all_append, HA.out]
        simpa using h
      have hsz : (⟨fs.toArray⟩ : ByteArray).size = fs.length := by simp [ByteArray.size]
      have hh : k < (⟨fs.toArray⟩ : ByteArray).size := by rw [hsz]; exact hlt
      obtain ⟨c, hc⟩ : ∃ c, c = (⟨fs.toArray⟩ : ByteArray)[k]'hh := ⟨_, rfl⟩
      have hc2 : c = fs[k] := hc
      rw [← hc2] at hstop hnext
      have hkk := isK_nat c
      have HW := Lib.hid (width_any w c)
      rw [hc] at HW
      have d1 : ((((⟨fs.toArray⟩ : ByteArray)[k]'hh).toNat : Int) != 118) = !decide (c.toNat = 118) := by rw [← hc]; exact ne_dec _ _
      have d2 : ((((⟨fs.toArray⟩ : ByteArray)[k]'hh).toNat : Int) != 115) = !decide (c.toNat = 115) := by rw [← hc]; exact ne_dec _ _
      have d3 : ((((⟨fs.toArray⟩ : ByteArray)[k]'hh).toNat : Int) != 108) = !decide (c.toNat = 108) := by rw [← hc]; exact ne_dec _ _
      rw [← hc] at HW
      obtain ⟨u, hu⟩ : ∃ u, u = Rm.wid c := ⟨_, rfl⟩
      rw [← hu] at hkk HW
      clear hu hc2
      rw [hc] at HW
      have HW2 : Hid (Calls Try.prog 32 #[.int .u8 ((((⟨fs.toArray⟩ : ByteArray)[k]'hh).toNat : Nat) : Int)] w fun e w' => e = .returned (.int .i64 (u : Int)) ∧ w = w') := HW.out
      generalize hnn : c.toNat = n at hkk d1 d2 d3
      clear hnn HW hsz hc
      by_cases hu0 : 0 < u
      · have hd : ((u : Int) == 0) = false := by rw [beq_eq_false_iff_ne]; omega
        have hI := Lib.hid (hnext.out (by rw [hkk, decide_eq_true hu0]; rfl))
        clear hkk hu0 d1 d2 d3
        go_wp2_with fail
        refine HW2.out.mono ?_
        rintro e w' ⟨rfl, rfl⟩
        go_wp2_with fail
        go_round
        case rel => exact ⟨k + 1, by omega, by go_num, hI.out⟩
        case measure => simp [intOf]; omega
      obtain rfl : u = 0 := by omega
      clear hu0
      by_cases h1 : n = 118
      · have hI := Lib.hid (hnext.out (by rw [hkk, decide_eq_true h1]; simp))
        rw [decide_eq_true h1] at d1
        simp only [Bool.not_true] at d1
        clear hkk h1 d2 d3
        go_wp2_with fail
        refine HW2.out.mono ?_
        rintro e w' ⟨rfl, rfl⟩
        go_wp2_with fail
        go_round
        case rel => exact ⟨k + 1, by omega, by go_num, hI.out⟩
        case measure => simp [intOf]; omega
      by_cases h2 : n = 115
      · have hI := Lib.hid (hnext.out (by rw [hkk, decide_eq_true h2]; simp))
        rw [decide_eq_false h1] at d1
        rw [decide_eq_true h2] at d2
        simp only [Bool.not_true, Bool.not_false] at d1 d2
        clear hkk h1 h2 d3
        go_wp2_with fail
        refine HW2.out.mono ?_
        rintro e w' ⟨rfl, rfl⟩
        go_wp2_with fail
        go_round
        case rel => exact ⟨k + 1, by omega, by go_num, hI.out⟩
        case measure => simp [intOf]; omega
      by_cases h3 : n = 108
      · have hI := Lib.hid (hnext.out (by rw [hkk, decide_eq_true h3]; simp))
        rw [decide_eq_false h1] at d1
        rw [decide_eq_false h2] at d2
        rw [decide_eq_true h3] at d3
        simp only [Bool.not_true, Bool.not_false] at d1 d2 d3
        clear hkk h1 h2 h3
        go_wp2_with fail
        refine HW2.out.mono ?_
        rintro e w' ⟨rfl, rfl⟩
        go_wp2_with fail
        go_round
        case rel => exact ⟨k + 1, by omega, by go_num, hI.out⟩
        case measure => simp [intOf]; omega
      have hI := Lib.hid (hstop.out (by rw [hkk, decide_eq_false h1, decide_eq_false h2, decide_eq_false h3]; rfl))
      rw [decide_eq_false h1] at d1
      rw [decide_eq_false h2] at d2
      rw [decide_eq_false h3] at d3
      simp only [Bool.not_false] at d1 d2 d3
      clear hkk h1 h2 h3
      go_wp2_with fail
      refine HW2.out.mono ?_
      rintro e w' ⟨rfl, rfl⟩
      go_wp2_with fail
      go_ret
      exact ⟨by rw [hI.out]; rfl, rfl⟩
    · obtain rfl : k = fs.length := by omega
      have hltI : ¬ ((fs.length : Int) < (fs.length : Int)) := by omega
      have HA2 := HA
      rw [List.take_length] at HA2
      go_wp2_with fail
      go_ret
      exact ⟨by rw [hr.out, if_pos HA2.out]; rfl, rfl⟩
end Go.Proofs.Ytelpgjaagkojeaa
