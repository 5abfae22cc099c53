/- The walk of WordsNames: it returns true. Conditions: the string is one that Go can have, the numbers are of 64 bits, and the variables hold what their text lays. -/
import Derived.Test.YtdkaogcimecfiaaDoorShown
import Derived.Test.YtdkaogcimecfiaaDoorRDigN
import Derived.Test.YtdkaogcimecfiaaDoorRName
namespace Go.Proofs.YtdkaogcimecfiaaDoor
open Go.RowKit

set_option maxRecDepth 100000 in
set_option maxHeartbeats 2000000 in
theorem law_names (s : ByteArray) (lo hi : Int) (w : World) (hs : s.size ≤ maxLen) (hlo : -9223372036854775808 ≤ lo ∧ lo ≤ 9223372036854775807) (hhi : -9223372036854775808 ≤ hi ∧ hi ≤ 9223372036854775807) (E : Env w) :
    Calls Tryd.prog 3 #[.string s, .int .i64 lo, .int .i64 hi] w fun e w' => e = .returned (.bool true) ∧ Below w.heap.size w w' := by
  have hEs := E.size
  have TE : Hid (∀ W, Below w.heap.size w W → Env W) := fun W hb => E.below hb hEs
  have HLO := Lib.hid hlo
  have HHI := Lib.hid hhi
  clear hlo hhi
  unfold maxLen at hs
  by_cases hbig : 1000 < s.size
  · go_enter Tryd.func3, Tryd.ntmps3
    go_wp2_with fail
    refine (shown_any w E).mono ?_
    rintro e w1 ⟨rfl, hb1⟩
    go_wp2_with fail
    go_ret
    exact ⟨rfl, hb1⟩
  · go_enter Tryd.func3, Tryd.ntmps3
    go_wp2_with fail
    refine (int_any s lo hi w (by omega) E).mono ?_
    rintro e w1 ⟨rfl, hb1⟩
    obtain ⟨r, hr⟩ : ∃ r, r = intR (bs s) lo hi := ⟨_, rfl⟩
    rw [← hr]
    have HR := Lib.hid hr
    clear hr
    obtain ⟨v, c⟩ := r
    simp only [intV]
    go_wp2_with fail
    refine (rint_any s lo hi _ (by omega)).mono ?_
    rw [← HR.out]
    rintro e w2 ⟨rfl, rfl⟩
    simp only [intV]
    go_wp2_with fail
    refine (name_any s _ (by unfold maxLen; omega)).mono ?_
    rintro e w2 ⟨rfl, rfl⟩
    go_wp2_with fail
    refine (rname_any s _ (by unfold maxLen; omega)).mono ?_
    rintro e w2 ⟨rfl, rfl⟩
    go_wp2_with fail
    refine (digits_any lo _ HLO.out.1 HLO.out.2 (TE.out _ hb1)).mono ?_
    rintro e w2 ⟨rfl, hb2⟩
    have hb2' : Below w.heap.size w w2 := hb1.trans (hb2.mono hb1.size)
    obtain ⟨tl, htl⟩ : ∃ t : ByteArray, t = ⟨(Lib.itoa lo).toArray⟩ := ⟨_, rfl⟩
    rw [← htl]
    go_wp2_with fail
    refine (rdigits_any lo _ HLO.out.1 HLO.out.2).mono ?_
    rintro e w3 ⟨rfl, hb3⟩
    have hb3' : Below w.heap.size w w3 := hb2'.trans (hb3.mono hb2'.size)
    rw [← htl]
    clear htl
    go_wp2_with fail
    refine (digits_any hi _ HHI.out.1 HHI.out.2 (TE.out _ hb3')).mono ?_
    rintro e w4 ⟨rfl, hb4⟩
    have hb4' : Below w.heap.size w w4 := hb3'.trans (hb4.mono hb3'.size)
    obtain ⟨th, hth⟩ : ∃ t : ByteArray, t = ⟨(Lib.itoa hi).toArray⟩ := ⟨_, rfl⟩
    rw [← hth]
    go_wp2_with fail
    refine (rdigits_any hi _ HHI.out.1 HHI.out.2).mono ?_
    rintro e w5 ⟨rfl, hb5⟩
    have hb5' : Below w.heap.size w w5 := hb4'.trans (hb5.mono hb4'.size)
    rw [← hth]
    clear hth
    go_wp2_with fail
    refine (shown_any _ (TE.out _ hb5')).mono ?_
    rintro e w6 ⟨rfl, hb6⟩
    have hb6' : Below w.heap.size w w6 := hb5'.trans (hb6.mono hb5'.size)
    go_wp2_with fail
    go_ret
    exact ⟨rfl, hb6'⟩
end Go.Proofs.YtdkaogcimecfiaaDoor
