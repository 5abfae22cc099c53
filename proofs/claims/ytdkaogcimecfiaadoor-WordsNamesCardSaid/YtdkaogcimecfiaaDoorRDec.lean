/- The contract of the reference's decimal: it returns what words.isDecimal returns. Condition: strings shorter than 10^9 bytes. -/
import Derived.Test.YtdkaogcimecfiaaDoorInt
namespace Go.Proofs.YtdkaogcimecfiaaDoor
open Go.RowKit

theorem dig_no (c : UInt8) (h : (c.toNat : Int) = 45) : dig c = false := by
  unfold dig digitB; rw [decide_eq_false]; omega
theorem dec_strip (d : UInt8) (r : List UInt8) (hd : (d.toNat : Int) ≠ 48) : decB (45 :: d :: r) = (d :: r).all dig := by
  have e1 : Lib.trimPrefix (45 :: d :: r) [45] = d :: r := by simp [Lib.trimPrefix, Lib.hasPrefix]
  have h48 : d ≠ 48 := by intro e; rw [e] at hd; exact hd rfl
  unfold decB
  rw [e1, show Lib.hasPrefix (45 :: d :: r) [45] = true by simp [Lib.hasPrefix]]
  unfold natB
  rw [decide_eq_false (p := d :: r = [48]) (by simp [h48]), decide_eq_true (p := d :: r ≠ []) (by simp), decide_eq_true (p := (d :: r).getD 0 0 ≠ 48) (by simpa using h48)]
  simp
theorem dec_minus (r : List UInt8) (h : r.getD 0 48 = 48) : decB (45 :: r) = false := by
  have e1 : Lib.trimPrefix (45 :: r) [45] = r := by simp [Lib.trimPrefix, Lib.hasPrefix]
  unfold decB
  rw [e1, show Lib.hasPrefix (45 :: r) [45] = true by simp [Lib.hasPrefix]]
  cases r with
  | nil => rfl
  | cons d r =>
    have hd : d = 48 := h
    subst hd
    unfold natB
    cases r with
    | nil => simp
    | cons => simp
theorem dec_plain (c : UInt8) (r : List UInt8) (h : (c.toNat : Int) ≠ 45) : decB (c :: r) = ((decide (r = []) || decide ((c.toNat : Int) ≠ 48)) && (c :: r).all dig) := by
  have h45 : c ≠ 45 := by intro e; rw [e] at h; exact h rfl
  have e0 : Lib.hasPrefix (c :: r) [45] = false := by simp [Lib.hasPrefix, List.isPrefixOf, Ne.symm h45]
  have e1 : Lib.trimPrefix (c :: r) [45] = c :: r := by simp [Lib.trimPrefix, e0]
  have e48 : c = 48 ↔ (c.toNat : Int) = 48 := ⟨fun e => by rw [e]; rfl, fun e => UInt8.toNat_inj.1 (by show c.toNat = 48; omega)⟩
  unfold decB
  rw [e1, e0]
  unfold natB
  by_cases hc : c = 48
  · subst hc
    cases r <;> simp [dig]
  · have hn : ¬ (c.toNat : Int) = 48 := fun e => hc (e48.2 e)
    rw [decide_eq_false (p := c :: r = [48]) (by simp [hc]), decide_eq_true (p := (c.toNat : Int) ≠ 48) hn, decide_eq_true (p := (c :: r).getD 0 0 ≠ 48) (by simpa using hc), decide_eq_true (p := c :: r ≠ []) (by simp)]
    simp
/-- The loop of decimal at the string that it goes through. -/
theorem bs_pair (s : ByteArray) (h : 2 ≤ s.size) : bs s = s[0] :: s[1] :: (bs s).drop 2 := by
  rw [← bs_drop s 1 (by omega), ← bs_drop s 0 (by omega)]; rfl
theorem bs_cons (s : ByteArray) (h : 1 ≤ s.size) : bs s = s[0] :: (bs s).drop 1 := by
  rw [← bs_drop s 0 (by omega)]; rfl
set_option maxRecDepth 100000 in
set_option maxHeartbeats 1000000 in
theorem decimal_any (s : ByteArray) (w : World) (hs : s.size ≤ 1000000000) :
    Calls Tryd.prog 34 #[.string s] w fun e w' => e = .returned (.bool (decB (bs s))) ∧ w = w' := by
  have HL := Lib.hid (bs_len s)
  by_cases h0 : s.size = 0
  · have hnil : bs s = [] := List.eq_nil_of_length_eq_zero (by rw [HL.out]; exact h0)
    have hfin : decB (bs s) = false := by rw [hnil]; rfl
    have H := Lib.hid hfin
    clear hfin hnil
    go_enter Tryd.func34, Tryd.ntmps34
    go_wp2_with fail
    all_goals
      go_ret
      exact ⟨ret_bool H.out.symm, rfl⟩
  have hp0 : 0 < s.size := by omega
  have ez0 : ((s.size : Int) == 0) = false := by rw [beq_eq_false_iff_ne]; omega
  have EZ0 := Lib.hid ez0
  clear ez0
  by_cases hst : 2 ≤ s.size ∧ ∃ h : 2 ≤ s.size, (s[0].toNat : Int) = 45 ∧ ¬ (s[1].toNat : Int) = 48
  · obtain ⟨h2, _, h45, h48⟩ := hst
    obtain ⟨t, ht⟩ : ∃ t, t = s.extract 1 s.size := ⟨_, rfl⟩
    have hts : t.size = s.size - 1 := by rw [ht]; simp
    have htb : bs t = (bs s).drop 1 := by rw [ht]; exact bs_extract_end s 1
    have ht0 : ∃ h : 0 < t.size, t[0] = s[1] := ⟨by omega, by
      have h1 : (bs t).getD 0 0 = t[0] := bs_getD t 0 (by omega) 0
      rw [← h1, htb, bs_drop s 1 (by omega)]; rfl⟩
    obtain ⟨hp, ht0⟩ := ht0
    have hfin : decB (bs s) = (bs t).all dig := by
      rw [htb, bs_drop s 1 (by omega), bs_pair s h2, show s[0] = 45 from UInt8.toNat_inj.1 (by show s[0].toNat = 45; omega), dec_strip _ _ h48]; rfl
    have H := Lib.hid hfin
    have HLt := Lib.hid (bs_len t)
    have ht48 : ¬ (t[0].toNat : Int) = 48 := by rw [ht0]; exact h48
    have HT : Hid (s.extract 1 s.size = t) := ht.symm
    have e48 : ∀ h : 0 < (s.extract 1 s.size).size, ((((s.extract 1 s.size)[0]'h).toNat : Int) == 48) = false := by
      intro h; rw [beq_eq_false_iff_ne]; subst ht; exact ht48
    have ez : (((s.size - 1 : Nat) : Int) == 0) = false := by rw [beq_eq_false_iff_ne]; omega
    have EZ := Lib.hid ez
    have E48 := Lib.hid e48
    clear hfin ht htb ht0 ez e48
    go_enter Tryd.func34, Tryd.ntmps34
    go_wp2_with fail
    all_goals try (exfalso; rename_i hh; simp only [EZ.out, E48.out, Bool.false_eq_true, or_self] at hh; done)
    all_goals
      (try simp only [EZ.out, E48.out, Bool.or_self])
      simp only [HT.out]
      go_loop [3] (fun i => ∃ k : Nat, k ≤ t.size ∧ i = .int .i64 k ∧ Hid (((bs t).take k).all dig = true)) (fun i => t.size - (intOf i).toNat)
      case atStart => exact ⟨0, Nat.zero_le _, rfl, rfl⟩
      case round =>
        obtain ⟨k, hk, rfl, HR⟩ := hrel
        by_cases hlt : k < t.size
        · by_cases hd : digitB (t[k].toNat : Int) = true
          · have hnx : ((bs t).take (k + 1)).all dig = true := by rw [all_take t dig k hlt, HR.out]; exact hd
            have HN := Lib.hid hnx
            clear hnx
            go_wp2_with (go_at_call 38; refine (rdigit_any _ _).mono ?_; rintro e w' ⟨rfl, rfl⟩)
            go_round
            case rel => exact ⟨k + 1, by omega, by go_num, HN.out⟩
            case measure => simp [intOf]; omega
          · have hno : (bs t).all dig = false := all_no t dig k hlt (by simpa [dig] using hd)
            have HN := Lib.hid hno
            have hd' : digitB (t[k].toNat : Int) = false := by simpa using hd
            clear hno hd
            go_wp2_with (go_at_call 38; refine (rdigit_any _ _).mono ?_; rintro e w' ⟨rfl, rfl⟩)
            go_ret
            exact ⟨ret_bool (by rw [H.out, HN.out]), rfl⟩
        · have hall : (bs t).all dig = true := by rw [← HR.out, List.take_of_length_le (by rw [HLt.out]; omega)]
          have HA := Lib.hid hall
          clear hall
          go_wp2_with fail
          go_ret
          exact ⟨ret_bool (by rw [H.out, HA.out]), rfl⟩
  by_cases h45 : (s[0].toNat : Int) = 45
  · have hfin : decB (bs s) = (bs s).all dig := by
      rw [bs_cons s (by omega), show s[0] = 45 from UInt8.toNat_inj.1 (by show s[0].toNat = 45; omega), dec_minus]
      · rfl
      · by_cases h2 : 2 ≤ s.size
        · have hp1 : 1 < s.size := h2
          rw [bs_drop s 1 hp1]
          have : (s[1].toNat : Int) = 48 := by
            by_cases h : (s[1].toNat : Int) = 48
            · exact h
            · exact absurd ⟨h2, h2, h45, h⟩ hst
          exact UInt8.toNat_inj.1 (by show s[1].toNat = 48; omega)
        · rw [bs_drop_end s 1 (by omega)]; rfl
    have H := Lib.hid hfin
    clear hfin
    by_cases h2 : 2 ≤ s.size
    · have hp1 : 1 < s.size := h2
      have h48 : (s[1].toNat : Int) = 48 := by
        by_cases h : (s[1].toNat : Int) = 48
        · exact h
        · exact absurd ⟨h2, h2, h45, h⟩ hst
      go_enter Tryd.func34, Tryd.ntmps34
      go_wp2_with fail
      (try simp only [EZ0.out])
      go_loop [3] (fun i => ∃ k : Nat, k ≤ s.size ∧ i = .int .i64 k ∧ Hid (((bs s).take k).all dig = true)) (fun i => s.size - (intOf i).toNat)
      case atStart => exact ⟨0, Nat.zero_le _, rfl, rfl⟩
      case round =>
        obtain ⟨k, hk, rfl, HR⟩ := hrel
        by_cases hlt : k < s.size
        · by_cases hd : digitB (s[k].toNat : Int) = true
          · have hnx : ((bs s).take (k + 1)).all dig = true := by rw [all_take s dig k hlt, HR.out]; exact hd
            have HN := Lib.hid hnx
            clear hnx
            go_wp2_with (go_at_call 38; refine (rdigit_any _ _).mono ?_; rintro e w' ⟨rfl, rfl⟩)
            go_round
            case rel => exact ⟨k + 1, by omega, by go_num, HN.out⟩
            case measure => simp [intOf]; omega
          · have hno : (bs s).all dig = false := all_no s dig k hlt (by simpa [dig] using hd)
            have HN := Lib.hid hno
            have hd' : digitB (s[k].toNat : Int) = false := by simpa using hd
            clear hno hd
            go_wp2_with (go_at_call 38; refine (rdigit_any _ _).mono ?_; rintro e w' ⟨rfl, rfl⟩)
            go_ret
            exact ⟨ret_bool (by rw [H.out, HN.out]), rfl⟩
        · have hall : (bs s).all dig = true := by rw [← HR.out, List.take_of_length_le (by rw [HL.out]; omega)]
          have HA := Lib.hid hall
          clear hall
          go_wp2_with fail
          go_ret
          exact ⟨ret_bool (by rw [H.out, HA.out]), rfl⟩
    · skip
      go_enter Tryd.func34, Tryd.ntmps34
      go_wp2_with fail
      (try simp only [EZ0.out])
      go_loop [3] (fun i => ∃ k : Nat, k ≤ s.size ∧ i = .int .i64 k ∧ Hid (((bs s).take k).all dig = true)) (fun i => s.size - (intOf i).toNat)
      case atStart => exact ⟨0, Nat.zero_le _, rfl, rfl⟩
      case round =>
        obtain ⟨k, hk, rfl, HR⟩ := hrel
        by_cases hlt : k < s.size
        · by_cases hd : digitB (s[k].toNat : Int) = true
          · have hnx : ((bs s).take (k + 1)).all dig = true := by rw [all_take s dig k hlt, HR.out]; exact hd
            have HN := Lib.hid hnx
            clear hnx
            go_wp2_with (go_at_call 38; refine (rdigit_any _ _).mono ?_; rintro e w' ⟨rfl, rfl⟩)
            go_round
            case rel => exact ⟨k + 1, by omega, by go_num, HN.out⟩
            case measure => simp [intOf]; omega
          · have hno : (bs s).all dig = false := all_no s dig k hlt (by simpa [dig] using hd)
            have HN := Lib.hid hno
            have hd' : digitB (s[k].toNat : Int) = false := by simpa using hd
            clear hno hd
            go_wp2_with (go_at_call 38; refine (rdigit_any _ _).mono ?_; rintro e w' ⟨rfl, rfl⟩)
            go_ret
            exact ⟨ret_bool (by rw [H.out, HN.out]), rfl⟩
        · have hall : (bs s).all dig = true := by rw [← HR.out, List.take_of_length_le (by rw [HL.out]; omega)]
          have HA := Lib.hid hall
          clear hall
          go_wp2_with fail
          go_ret
          exact ⟨ret_bool (by rw [H.out, HA.out]), rfl⟩
  · have hfin0 : decB (bs s) = ((decide ((bs s).drop 1 = []) || decide ((s[0].toNat : Int) ≠ 48)) && (bs s).all dig) := by
      rw [bs_cons s (by omega), dec_plain _ _ h45]; rfl
    have hdr : (bs s).drop 1 = [] ↔ s.size ≤ 1 := by rw [List.drop_eq_nil_iff, bs_len]
    by_cases hz : 2 ≤ s.size ∧ (s[0].toNat : Int) = 48
    · obtain ⟨h2, hz⟩ := hz
      have hfin : decB (bs s) = false := by
        rw [hfin0, decide_eq_false (p := (bs s).drop 1 = []) (fun h => by have := hdr.1 h; omega), decide_eq_false (p := (s[0].toNat : Int) ≠ 48) (by omega)]; rfl
      have H := Lib.hid hfin
      clear hfin hfin0
      go_enter Tryd.func34, Tryd.ntmps34
      go_wp2_with fail
      all_goals
        go_ret
        exact ⟨ret_bool H.out.symm, rfl⟩
    · have hfin : decB (bs s) = (bs s).all dig := by
        rw [hfin0]
        by_cases h1 : s.size ≤ 1
        · rw [decide_eq_true (hdr.2 h1)]; simp
        · rw [decide_eq_true (p := (s[0].toNat : Int) ≠ 48) (fun h => hz ⟨by omega, h⟩)]; simp
      have H := Lib.hid hfin
      clear hfin hfin0
      by_cases h1 : s.size ≤ 1
      · clear hz
        go_enter Tryd.func34, Tryd.ntmps34
        go_wp2_with fail
        (try simp only [EZ0.out])
        go_loop [3] (fun i => ∃ k : Nat, k ≤ s.size ∧ i = .int .i64 k ∧ Hid (((bs s).take k).all dig = true)) (fun i => s.size - (intOf i).toNat)
        case atStart => exact ⟨0, Nat.zero_le _, rfl, rfl⟩
        case round =>
          obtain ⟨k, hk, rfl, HR⟩ := hrel
          by_cases hlt : k < s.size
          · by_cases hd : digitB (s[k].toNat : Int) = true
            · have hnx : ((bs s).take (k + 1)).all dig = true := by rw [all_take s dig k hlt, HR.out]; exact hd
              have HN := Lib.hid hnx
              clear hnx
              go_wp2_with (go_at_call 38; refine (rdigit_any _ _).mono ?_; rintro e w' ⟨rfl, rfl⟩)
              go_round
              case rel => exact ⟨k + 1, by omega, by go_num, HN.out⟩
              case measure => simp [intOf]; omega
            · have hno : (bs s).all dig = false := all_no s dig k hlt (by simpa [dig] using hd)
              have HN := Lib.hid hno
              have hd' : digitB (s[k].toNat : Int) = false := by simpa using hd
              clear hno hd
              go_wp2_with (go_at_call 38; refine (rdigit_any _ _).mono ?_; rintro e w' ⟨rfl, rfl⟩)
              go_ret
              exact ⟨ret_bool (by rw [H.out, HN.out]), rfl⟩
          · have hall : (bs s).all dig = true := by rw [← HR.out, List.take_of_length_le (by rw [HL.out]; omega)]
            have HA := Lib.hid hall
            clear hall
            go_wp2_with fail
            go_ret
            exact ⟨ret_bool (by rw [H.out, HA.out]), rfl⟩
      · have hz' : ¬ (s[0].toNat : Int) = 48 := fun h => hz ⟨by omega, h⟩
        have e48 : ((s[0].toNat : Int) == 48) = false := by rw [beq_eq_false_iff_ne]; exact hz'
        have E48 := Lib.hid e48
        clear hz e48
        go_enter Tryd.func34, Tryd.ntmps34
        go_wp2_with fail
        all_goals try (exfalso; rename_i hh; simp only [EZ0.out, E48.out, Bool.false_eq_true, or_self] at hh; done)
        (try simp only [EZ0.out, E48.out, Bool.or_self])
        go_loop [3] (fun i => ∃ k : Nat, k ≤ s.size ∧ i = .int .i64 k ∧ Hid (((bs s).take k).all dig = true)) (fun i => s.size - (intOf i).toNat)
        case atStart => exact ⟨0, Nat.zero_le _, rfl, rfl⟩
        case round =>
          obtain ⟨k, hk, rfl, HR⟩ := hrel
          by_cases hlt : k < s.size
          · by_cases hd : digitB (s[k].toNat : Int) = true
            · have hnx : ((bs s).take (k + 1)).all dig = true := by rw [all_take s dig k hlt, HR.out]; exact hd
              have HN := Lib.hid hnx
              clear hnx
              go_wp2_with (go_at_call 38; refine (rdigit_any _ _).mono ?_; rintro e w' ⟨rfl, rfl⟩)
              go_round
              case rel => exact ⟨k + 1, by omega, by go_num, HN.out⟩
              case measure => simp [intOf]; omega
            · have hno : (bs s).all dig = false := all_no s dig k hlt (by simpa [dig] using hd)
              have HN := Lib.hid hno
              have hd' : digitB (s[k].toNat : Int) = false := by simpa using hd
              clear hno hd
              go_wp2_with (go_at_call 38; refine (rdigit_any _ _).mono ?_; rintro e w' ⟨rfl, rfl⟩)
              go_ret
              exact ⟨ret_bool (by rw [H.out, HN.out]), rfl⟩
          · have hall : (bs s).all dig = true := by rw [← HR.out, List.take_of_length_le (by rw [HL.out]; omega)]
            have HA := Lib.hid hall
            clear hall
            go_wp2_with fail
            go_ret
            exact ⟨ret_bool (by rw [H.out, HA.out]), rfl⟩
end Go.Proofs.YtdkaogcimecfiaaDoor
