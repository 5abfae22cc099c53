/- The contract of the reference's Name. Condition: the string has a length that Go's strings can have. -/
import Derived.Test.YtgfmfeaapffdfaaDoorName
namespace Go.Proofs.YtgfmfeaapffdfaaDoor
open Go.RowKit

set_option maxHeartbeats 1000000 in
theorem rname_any (s : ByteArray) (w : World) (hs : s.size ≤ 1000000000) :
    Calls Tryd.prog 18 #[.string s] w fun e w' => e = .returned (.int .i64 (nameE s : Nat)) ∧ w = w' := by
  have HL := Lib.hid (bs_len s)
  by_cases h0 : oddName s = true
  · have hfin : nameE s = 6 := by unfold nameE; rw [if_pos h0]
    have H := Lib.hid hfin
    clear hfin
    rcases odd_first h0 with h | h | h <;>
    · clear h0
      go_enter Tryd.func18, Tryd.ntmps18
      go_wp2_with fail
      go_ret
      exact ⟨ret_int (by rw [H.out]; rfl), rfl⟩
  have HO := Lib.hid h0
  obtain ⟨h1, h2, h3⟩ := odd_no h0
  clear h0
  have g1 : s.toList ≠ [] := by simpa using h1
  have g2 : s.toList ≠ [46] := by simpa using h2
  have g3 : s.toList ≠ [46, 46] := by simpa using h3
  go_enter Tryd.func18, Tryd.ntmps18
  go_wp2_with fail
  go_loop [3] (fun i => ∃ k : Nat, k ≤ s.size ∧ i = .int .i64 k ∧ Hid (((bs s).take k).all okB = true)) (fun i => s.size - (intOf i).toNat)
  case atStart => exact ⟨0, Nat.zero_le _, rfl, by simp [Hid]⟩
  case round =>
    obtain ⟨k, hk, rfl, HR⟩ := hrel
    by_cases hlt : k < s.size
    · rcases okB_three s[k] with ⟨ho, q1, q2, q3⟩ | ⟨ho, q1⟩ | ⟨ho, q1, q2⟩ | ⟨ho, q1, q2, q3⟩
      · have HO2 := Lib.hid ho
        clear ho
        go_wp2_with fail
        go_round
        case rel => exact ⟨k + 1, by omega, by go_num, by
          show ((bs s).take (k + 1)).all okB = true
          rw [all_take _ _ k hlt, HR.out, HO2.out]; rfl⟩
        case measure => simp [intOf]; omega
      all_goals
        have HO2 := Lib.hid (nameE_bad HO.out (all_no s okB k hlt ho))
        clear ho
        go_wp2_with fail
        go_ret
        exact ⟨ret_int (by rw [HO2.out]; rfl), rfl⟩
    · have hall : (bs s).all okB = true := by rw [← HR.out, List.take_of_length_le (by rw [HL.out]; omega)]
      have H2 := Lib.hid (nameE_long HO.out hall)
      clear hall
      by_cases h24 : 24 < s.size
      · go_wp2_with fail
        go_ret
        exact ⟨ret_int (by rw [H2.out, if_pos h24]; rfl), rfl⟩
      · go_wp2_with fail
        go_ret
        exact ⟨ret_int (by rw [H2.out, if_neg h24]; rfl), rfl⟩
end Go.Proofs.YtgfmfeaapffdfaaDoor
