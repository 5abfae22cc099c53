/- The contracts of words.Name and of the reference's Name: both return nameB of the string's bytes. Condition: the string has a length that Go's strings can have. -/
import Derived.Test.YtdkaogcimecfiaaDoorLeaf
namespace Go.Proofs.YtdkaogcimecfiaaDoor
open Go.RowKit

def okc (c : UInt8) : Bool := letterB c.toNat || digitB c.toNat || decide (c.toNat = 45)
def nameB (l : List UInt8) : Bool := decide (1 ≤ l.length) && decide (l.length ≤ 16) && letterB (l.getD 0 0).toNat && l.all okc

theorem okc_letter (c : UInt8) (h : letterB c.toNat = true) : okc c = true := by unfold okc; rw [h]; rfl
theorem okc_digit (c : UInt8) (h : digitB c.toNat = true) : okc c = true := by unfold okc; rw [h]; simp
theorem okc_dash (c : UInt8) (h : ((c.toNat : Int) != 45) = false) : okc c = true := by
  unfold okc
  have : (c.toNat : Int) = 45 := by simpa using h
  rw [decide_eq_true (p := c.toNat = 45) (by omega)]; simp
theorem okc_no (c : UInt8) (h1 : ¬letterB c.toNat = true) (h2 : ¬digitB c.toNat = true) (h : ((c.toNat : Int) != 45) = true) : okc c = false := by
  unfold okc
  have : ¬ (c.toNat : Int) = 45 := by simpa using h
  rw [decide_eq_false (p := c.toNat = 45) (by omega)]; simp [h1, h2]

set_option maxHeartbeats 400000 in
theorem name_any (s : ByteArray) (w : World) (hs : s.size ≤ maxLen) :
    Calls Tryd.prog 14 #[.string s] w fun e w' => e = .returned (.bool (nameB (bs s))) ∧ w = w' := by
  unfold maxLen at hs
  have hl := bs_len s
  have HL := Lib.hid hl
  clear hl
  by_cases h0 : s.size = 0
  · have h1 := toList_nil s h0
    have hfin : nameB (bs s) = false := by unfold nameB; rw [HL.out, h0]; rfl
    have H := Lib.hid hfin
    clear hfin
    go_enter Tryd.func14, Tryd.ntmps14
    go_wp2_with fail
    go_ret
    exact ⟨ret_bool H.out.symm, rfl⟩
  have hp : 0 < s.size := by omega
  have h2 := toList_isEmpty_no s hp
  have h3 := toList_ne s hp
  by_cases h1 : 16 < s.size
  · have hfin : nameB (bs s) = false := by unfold nameB; rw [HL.out, decide_eq_false (p := s.size ≤ 16) (by omega)]; simp
    have H := Lib.hid hfin
    clear hfin
    go_enter Tryd.func14, Tryd.ntmps14
    go_wp2_with (go_at_call 35; refine (isLetter_any _ _).mono ?_; rintro e w' ⟨rfl, rfl⟩)
    all_goals
      go_ret
      exact ⟨ret_bool H.out.symm, rfl⟩
  by_cases hx : letterB (s[0].toNat : Int) = true
  case neg =>
    have hx' : letterB (s[0].toNat : Int) = false := by simpa using hx
    have hfin : nameB (bs s) = false := by
      unfold nameB
      have : (bs s).getD 0 0 = s[0] := bs_getD s 0 hp 0
      rw [this, hx']; simp
    have H := Lib.hid hfin
    clear hfin hx
    go_enter Tryd.func14, Tryd.ntmps14
    go_wp2_with (go_at_call 35; refine (isLetter_any _ _).mono ?_; rintro e w' ⟨rfl, rfl⟩)
    go_ret
    exact ⟨ret_bool H.out.symm, rfl⟩
  have hfin : nameB (bs s) = (bs s).all okc := by
    unfold nameB
    have : (bs s).getD 0 0 = s[0] := bs_getD s 0 hp 0
    rw [this, hx, HL.out, decide_eq_true (p := 1 ≤ s.size) (by omega), decide_eq_true (p := s.size ≤ 16) (by omega)]; rfl
  have hz : okc s[0] = true := by unfold okc; rw [hx]; rfl
  have H := Lib.hid hfin
  have HZ := Lib.hid hz
  clear hfin hz
  go_enter Tryd.func14, Tryd.ntmps14
  go_wp2_with (go_at_call 35; refine (isLetter_any _ _).mono ?_; rintro e w' ⟨rfl, rfl⟩)
  go_loop [3] (fun i => ∃ k : Nat, 1 ≤ k ∧ k ≤ s.size ∧ i = .int .i64 k ∧ Hid (((bs s).take k).all okc = true)) (fun i => s.size - (intOf i).toNat)
  case atStart => exact ⟨1, by omega, by omega, rfl, by
    show ((bs s).take (0 + 1)).all okc = true
    rw [all_take _ _ 0 hp, HZ.out]; rfl⟩
  case round =>
    obtain ⟨k, hk1, hk2, rfl, HR⟩ := hrel
    by_cases hlt : k < s.size
    · go_wp2_with (first | (go_at_call 35; refine (isLetter_any _ _).mono ?_; rintro e w' ⟨rfl, rfl⟩) | (go_at_call 36; refine (isDigit_any _ _).mono ?_; rintro e w' ⟨rfl, rfl⟩))
      all_goals first
        | (go_round
           case rel => exact ⟨k + 1, by omega, by omega, by go_num, by
             show ((bs s).take (k + 1)).all okc = true
             rw [all_take _ _ k hlt, HR.out]
             first
               | (rw [okc_letter _ ‹_›]; rfl)
               | (rw [okc_digit _ ‹_›]; rfl)
               | (rw [okc_dash _ ‹_›]; rfl)⟩
           case measure => simp [intOf]; omega)
        | (go_ret
           exact ⟨ret_bool (by rw [H.out, all_no s okc k hlt (okc_no _ ‹_› ‹_› ‹_›)]), rfl⟩)
    · go_wp2_with fail
      go_ret
      exact ⟨ret_bool (by rw [H.out, ← HR.out, List.take_of_length_le (by rw [HL.out]; omega)]), rfl⟩
end Go.Proofs.YtdkaogcimecfiaaDoor
