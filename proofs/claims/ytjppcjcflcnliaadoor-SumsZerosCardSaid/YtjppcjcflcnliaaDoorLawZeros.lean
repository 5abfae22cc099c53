/- The walk of SumsZeros: it returns true. Conditions: the table of half bytes, numbers of 32 and 64 bits. -/
import Derived.Test.YtjppcjcflcnliaaDoorLawCrc
namespace Go.Proofs.YtjppcjcflcnliaaDoor
open Go.RowKit

set_option maxRecDepth 100000 in
set_option maxHeartbeats 1000000 in
theorem law_zeros (w : World) (a b : Nat) (n : Int) (hT : TB w) (ha : a < 4294967296) (hb : b < 4294967296) :
    Calls Tryd.prog 4 #[.int .u32 (a : Int), .int .u32 (b : Int), .int .i64 n] w fun e w' => e = .returned (.bool true) ∧ Below w.heap.size w w' := by
  have HT := Lib.hid hT
  clear hT
  by_cases hmid : 5000 < n ∧ n ≤ 1000000
  · obtain ⟨h1, h2⟩ := hmid
    go_enter Tryd.func4, Tryd.ntmps4
    go_wp2_with fail
    refine (shown_any w HT.out).mono ?_
    rintro e w2 ⟨rfl, hB⟩
    have HB := Lib.hid hB
    clear hB
    go_wp2_with fail
    go_ret
    exact ⟨rfl, HB.out⟩
  by_cases hbad : n < 0 ∨ 1000000 < n
  · have H1 := Lib.hid (zer_bad w a n hbad)
    have H2 := Lib.hid (rzer_bad w a n hbad)
    have H3 := Lib.hid (comb_bad w a b n hbad)
    have H4 := Lib.hid (rcomb_bad w a b n hbad)
    clear hmid
    rcases hbad with h1 | h1
    all_goals
      first
        | have h2 : ¬ (5000 < n) := by omega
        | (have h2 : 5000 < n := by omega
           have h3 : ¬ (n ≤ 1000000) := by omega)
      go_enter Tryd.func4, Tryd.ntmps4
      go_wp2_with fail
      refine H1.out.mono ?_
      rintro e w' ⟨rfl, rfl⟩
      go_wp2_with fail
      refine H2.out.mono ?_
      rintro e w' ⟨rfl, rfl⟩
      go_wp2_with fail
      refine H3.out.mono ?_
      rintro e w' ⟨rfl, rfl⟩
      go_wp2_with fail
      refine H4.out.mono ?_
      rintro e w' ⟨rfl, rfl⟩
      go_wp2_with fail
      refine (shown_any w HT.out).mono ?_
      rintro e w2 ⟨rfl, hB⟩
      have HB := Lib.hid hB
      clear hB
      go_wp2_with fail
      go_ret
      exact ⟨rfl, HB.out⟩
  · obtain ⟨k, rfl⟩ : ∃ k : Nat, n = (k : Int) := ⟨n.toNat, by omega⟩
    have hk : k ≤ 5000 := by omega
    have h2 : ¬ ((5000 : Int) < (k : Int)) := by omega
    clear hmid hbad
    have hs := int_self (zerosN a k)
    have hs2 := int_self (Cm.zs k a ^^^ b)
    go_enter Tryd.func4, Tryd.ntmps4
    go_wp2_with fail
    refine (zer_ok w a k HT.out ha (by omega)).mono ?_
    rintro e w1 ⟨rfl, hB⟩
    have HB1 := Lib.hid hB
    have HT1 : Hid (TB w1) := HT.out.below hB HT.out.lt
    clear hB
    go_wp2_with fail
    refine (rzer_ok w1 a k ha (by omega)).mono ?_
    rintro e w' ⟨rfl, rfl⟩
    go_wp2_with fail
    refine (comb_ok w1 a b k HT1.out ha hb (by omega)).mono ?_
    rintro e w2 ⟨rfl, hB⟩
    have HB2 : Hid (Below w.heap.size w w2) := HB1.out.trans (hB.mono HB1.out.size)
    have HT2 : Hid (TB w2) := HT1.out.below hB HT1.out.lt
    clear hB
    go_wp2_with fail
    refine (rcomb_ok w2 a b k ha hb (by omega)).mono ?_
    rintro e w' ⟨rfl, rfl⟩
    go_wp2_with fail
    refine (shown_any w2 HT2.out).mono ?_
    rintro e w3 ⟨rfl, hB⟩
    have HB3 : Hid (Below w.heap.size w w3) := HB2.out.trans (hB.mono HB2.out.size)
    clear hB
    go_wp2_with fail
    go_ret
    exact ⟨rfl, HB3.out⟩
end Go.Proofs.YtjppcjcflcnliaaDoor
