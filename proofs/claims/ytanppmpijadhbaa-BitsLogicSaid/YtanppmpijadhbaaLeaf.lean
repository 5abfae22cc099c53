/- The contracts of the small functions of package bits: made, checkRange, checkBit, checkPlace, at, put, byteCount, Len. Condition: a map in a block of its own. -/
import Derived.Test.YtanppmpijadhbaaBase
namespace Go.Proofs.Ytanppmpijadhbaa
open Go.RowKit

/-- The error of a range. -/
def rangeE (i k n : Int) : Int := if i < 0 ∨ n < i ∨ k < 0 ∨ n - i < k then 7 else 0

theorem byteCount_any (n m : Nat) (w : World) (h : n ≤ 4096) (hm : (m : Int) = ((n : Int) + 7) / 8) :
    Calls Try.prog 48 #[.int .i64 (n : Int)] w fun e w' => e = .returned (.int .i64 (m : Int)) ∧ w = w' := by
  have H := Lib.hid hm
  clear hm
  go_enter Try.func48, Try.ntmps48
  go_wp2
  go_ret
  exact ⟨ret_int H.out.symm, rfl⟩

theorem mapMade_any (w : World) (b n : Nat) (f : Nat → Bool) (M : MapAt w b n f) :
    Calls Try.prog 49 #[.pointer (some ⟨b, 0, none⟩)] w fun e w' => e = .returned (.bool true) ∧ w = w' := by
  have h0 := M.self
  have he := fun w => eq_self w ⟨b, 0, none⟩
  go_enter Try.func49, Try.ntmps49
  go_wp2
  go_ret
  exact ⟨rfl, rfl⟩
theorem nilMade_any (w : World) :
    Calls Try.prog 49 #[.pointer none] w fun e w' => e = .returned (.bool false) ∧ w = w' := by
  go_enter Try.func49, Try.ntmps49
  go_wp2
  go_ret
  exact ⟨rfl, rfl⟩
theorem zeroMade_any (w : World) (b : Nat) (h : w.cell? ⟨b, 0, none⟩ = some (.pointer none)) :
    Calls Try.prog 49 #[.pointer (some ⟨b, 0, none⟩)] w fun e w' => e = .returned (.bool false) ∧ w = w' := by
  have he := fun w => eq_nil_some w ⟨b, 0, none⟩
  go_enter Try.func49, Try.ntmps49
  go_wp2
  go_ret
  exact ⟨rfl, rfl⟩

theorem len_any (w : World) (b n : Nat) (f : Nat → Bool) (M : MapAt w b n f) :
    Calls Try.prog 19 #[.pointer (some ⟨b, 0, none⟩)] w fun e w' => e = .returned (.int .i64 (n : Int)) ∧ w = w' := by
  have h1 := M.num
  have HM := Lib.hid (mapMade_any w b n f M)
  go_enter Try.func19, Try.ntmps19
  go_wp2_with fail
  refine HM.out.mono ?_
  rintro e w' ⟨rfl, rfl⟩
  go_wp2_with fail
  go_ret
  exact ⟨rfl, rfl⟩

theorem range_any (w : World) (b n : Nat) (f : Nat → Bool) (i k : Int) (M : MapAt w b n f) (hi : -9223372036854775808 ≤ i ∧ i ≤ 9223372036854775807) (hk : -9223372036854775808 ≤ k ∧ k ≤ 9223372036854775807) :
    Calls Try.prog 57 #[.pointer (some ⟨b, 0, none⟩), .int .i64 i, .int .i64 k] w fun e w' => e = .returned (.int .i64 (rangeE i k n)) ∧ w = w' := by
  have h1 := M.num
  have hn := M.le
  have HM := Lib.hid (mapMade_any w b n f M)
  obtain ⟨r, hr⟩ : ∃ r, r = rangeE i k n := ⟨_, rfl⟩
  rw [← hr]
  have HR := Lib.hid hr
  clear hr
  by_cases c1 : i < 0
  · have e : r = 7 := by rw [HR.out]; unfold rangeE; rw [if_pos (by omega)]
    have E := Lib.hid e
    clear e
    go_enter Try.func57, Try.ntmps57
    go_wp2_with fail
    refine HM.out.mono ?_
    rintro e w' ⟨rfl, rfl⟩
    go_wp2_with fail
    go_ret
    exact ⟨ret_int E.out.symm, rfl⟩
  by_cases c2 : (n : Int) < i
  · have e : r = 7 := by rw [HR.out]; unfold rangeE; rw [if_pos (by omega)]
    have E := Lib.hid e
    clear e
    go_enter Try.func57, Try.ntmps57
    go_wp2_with fail
    refine HM.out.mono ?_
    rintro e w' ⟨rfl, rfl⟩
    go_wp2_with fail
    go_ret
    exact ⟨ret_int E.out.symm, rfl⟩
  by_cases c3 : k < 0
  · have e : r = 7 := by rw [HR.out]; unfold rangeE; rw [if_pos (by omega)]
    have E := Lib.hid e
    clear e
    go_enter Try.func57, Try.ntmps57
    go_wp2_with fail
    refine HM.out.mono ?_
    rintro e w' ⟨rfl, rfl⟩
    go_wp2_with fail
    go_ret
    exact ⟨ret_int E.out.symm, rfl⟩
  by_cases c4 : (n : Int) - i < k
  · have e : r = 7 := by rw [HR.out]; unfold rangeE; rw [if_pos (by omega)]
    have E := Lib.hid e
    clear e
    go_enter Try.func57, Try.ntmps57
    go_wp2_with fail
    refine HM.out.mono ?_
    rintro e w' ⟨rfl, rfl⟩
    go_wp2_with fail
    go_ret
    exact ⟨ret_int E.out.symm, rfl⟩
  · have e : r = 0 := by rw [HR.out]; unfold rangeE; rw [if_neg (by omega)]
    have E := Lib.hid e
    clear e
    go_enter Try.func57, Try.ntmps57
    go_wp2_with fail
    refine HM.out.mono ?_
    rintro e w' ⟨rfl, rfl⟩
    go_wp2_with fail
    go_ret
    exact ⟨ret_int E.out.symm, rfl⟩
theorem bit_any (w : World) (b n : Nat) (f : Nat → Bool) (i : Int) (M : MapAt w b n f) (hi : -9223372036854775808 ≤ i ∧ i ≤ 9223372036854775807) :
    Calls Try.prog 58 #[.pointer (some ⟨b, 0, none⟩), .int .i64 i] w fun e w' => e = .returned (.int .i64 (rangeE i 1 n)) ∧ w = w' := by
  have HM := Lib.hid (range_any w b n f i 1 M hi (by omega))
  clear hi
  go_enter Try.func58, Try.ntmps58
  go_wp2_with fail
  refine HM.out.mono ?_
  rintro e w' ⟨rfl, rfl⟩
  go_wp2_with fail
  go_ret
  exact ⟨rfl, rfl⟩
theorem place_any (w : World) (b n : Nat) (f : Nat → Bool) (i : Int) (M : MapAt w b n f) (hi : -9223372036854775808 ≤ i ∧ i ≤ 9223372036854775807) :
    Calls Try.prog 59 #[.pointer (some ⟨b, 0, none⟩), .int .i64 i] w fun e w' => e = .returned (.int .i64 (rangeE i 0 n)) ∧ w = w' := by
  have HM := Lib.hid (range_any w b n f i 0 M hi (by omega))
  clear hi
  go_enter Try.func59, Try.ntmps59
  go_wp2_with fail
  refine HM.out.mono ?_
  rintro e w' ⟨rfl, rfl⟩
  go_wp2_with fail
  go_ret
  exact ⟨rfl, rfl⟩
end Go.Proofs.Ytanppmpijadhbaa
