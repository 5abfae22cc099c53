/- The walk of BitsSearch: it returns true. Conditions: the bytes lie as said, the place is a number of 64 bits. -/
import Derived.Test.YtanppmpijadhbaaMade
import Derived.Test.YtanppmpijadhbaaAwake
import Derived.Test.YtanppmpijadhbaaSpec
import Derived.Outline
namespace Go.Proofs.Ytanppmpijadhbaa
open Go.RowKit

theorem search_true {f : Nat → Bool} {a p : Nat} (h0 : a ≤ p) (h : ∀ j, a ≤ j → j < p → f j = !true) : cnt f a (p - a) = 0 := cnt_none _ fun j h1 h2 => h j h1 (by omega)
theorem search_false {f : Nat → Bool} {a p : Nat} (h0 : a ≤ p) (h : ∀ j, a ≤ j → j < p → f j = !false) : cnt f a (p - a) = p - a := cnt_full fun j h1 h2 => h j h1 (by omega)
def roundV (m : Nat) : Bool := decide (m = 1)
set_option maxRecDepth 100000 in
set_option maxHeartbeats 4000000 in
theorem law_search (w : World) (n : Nat) (s : Int) (v : Value) (y : List UInt8) (hv : SL encB w w.heap.size v y) (hn : n < 65536) (hs : i64 s) (hy : y.length ≤ 9223372036854775807) :
    Calls Try.prog 7 #[.int .u16 (n : Int), v, .int .i64 s] w fun e w' => e = .returned (.bool true) ∧ Below w.heap.size w w' := by
  obtain ⟨A, c0, rfl⟩ := hv.form
  obtain ⟨N, hN⟩ : ∃ N, N = n % 601 := ⟨_, rfl⟩
  obtain ⟨f, hmd⟩ := made_map w n N _ y hv hn hy hN
  have HMD := Lib.hid hmd
  clear hv hmd
  have hN6 : N ≤ 600 := by omega
  have HS := Lib.hid hs
  have hs1 := hs.1
  have hs2 := hs.2
  clear hN hs
  go_enter Try.func7, Try.ntmps7
  go_wp2_with fail
  refine HMD.out.mono ?_
  rintro e w1 ⟨b, vl, rfl, hM, hb, hB⟩
  have HM := Lib.hid hM
  have HB := Lib.hid hB
  have HL := Lib.hid (len_any w1 b N f hM)
  clear hM hB
  go_wp2_with fail
  go_loop [9] (fun i => ∃ m : Nat, m ≤ 2 ∧ i = .int .i64 (m : Int)) (fun i => 2 - (intOf i).toNat)
  case atStart => exact ⟨0, Nat.zero_le _, rfl⟩
  case round =>
    obtain ⟨m, hm, rfl⟩ := hrel
    by_cases hm2 : m = 2
    · subst hm2
      go_wp2_with fail
      refine (awake_any _).mono ?_
      rintro e w2 ⟨rfl, hB2⟩
      have HB2 : Hid (Below w.heap.size w w2) := HB.out.trans (hB2.mono HB.out.size)
      clear hB2
      go_wp2_with fail
      go_ret
      exact ⟨rfl, HB2.out⟩
    · have hmI : (m : Int) < 2 := by omega
      by_cases hin : 0 ≤ s ∧ s ≤ (N : Int)
      case neg =>
        have HX := fun v => Lib.hid (next_bad w1 b N f s v HM.out HS.out hin)
        by_cases h0 : 0 ≤ s
        · have h1 : ¬ s ≤ (N : Int) := by omega
          have HX2 := Lib.hid HX
          clear HX hin
          go_wp2_with fail
          refine (HX2.out _).out.mono ?_
          rintro e w' ⟨rfl, rfl⟩
          go_wp2_with fail
          refine HL.out.mono ?_
          rintro e w' ⟨rfl, rfl⟩
          go_wp2_with fail
          go_round
          case rel => exact ⟨m + 1, by omega, by go_num⟩
          case measure => simp only [intOf]; omega
        · have HX2 := Lib.hid HX
          clear HX hin
          go_wp2_with fail
          refine (HX2.out _).out.mono ?_
          rintro e w' ⟨rfl, rfl⟩
          go_wp2_with fail
          go_round
          case rel => exact ⟨m + 1, by omega, by go_num⟩
          case measure => simp only [intOf]; omega
      case pos =>
        obtain ⟨a, rfl⟩ : ∃ a : Nat, s = (a : Int) := ⟨s.toNat, by omega⟩
        have haN : a ≤ N := by omega
        have hcase : m = 0 ∨ m = 1 := by omega
        clear hin hm hm2 hmI hs1 hs2
        rcases hcase with rfl | rfl
        · obtain ⟨o, ho⟩ : ∃ o, o = runO f N a 1 false := ⟨_, rfl⟩
          have HO := Lib.hid ho
          have hx := next_ok w1 b N f a false HM.out haN
          rw [← ho] at hx
          have HX := Lib.hid hx
          clear ho hx
          cases o with
          | some p =>
            obtain ⟨hp1, hp2, hp3, hp4⟩ := next_some HO.out.symm
            have HC := count_ok w1 b N f a (p - a) HM.out (by omega)
            rw [search_false hp1 hp4] at HC
            have hcast : ((p - a : Nat) : Int) = (p : Int) - (a : Int) := by omega
            rw [hcast] at HC
            have HC2 := Lib.hid HC
            have HG := get_ok w1 b N f p HM.out hp2
            rw [hp3] at HG
            have HG2 := Lib.hid HG
            have HLst := last_ok w1 b N f (p + 1) false HM.out hp2
            rw [last_here hp3, optV_some, show ((p + 1 : Nat) : Int) = (p : Int) + 1 by omega] at HLst
            have HL2 := Lib.hid HLst
            rw [optV_some] at HX
            clear HC HG HLst hp3 hp4 HO hcast
            go_wp2_with fail
            refine HX.out.mono ?_
            rintro e w' ⟨rfl, rfl⟩
            go_wp2_with fail
            refine HL.out.mono ?_
            rintro e w' ⟨rfl, rfl⟩
            go_wp2_with fail
            refine HC2.out.mono ?_
            rintro e w' ⟨rfl, rfl⟩
            go_wp2_with fail
            refine HG2.out.mono ?_
            rintro e w' ⟨rfl, rfl⟩
            go_wp2_with fail
            refine HL2.out.mono ?_
            rintro e w' ⟨rfl, rfl⟩
            go_wp2_with fail
            go_round
            case rel => exact ⟨1, by omega, by go_num⟩
            case measure => simp [intOf]
          | none =>
            have hp4 := fun j h1 h2 => next_none HO.out.symm j h1 h2
            have HC := count_ok w1 b N f a (N - a) HM.out (by omega)
            rw [search_false haN hp4] at HC
            have hcast : ((N - a : Nat) : Int) = (N : Int) - (a : Int) := by omega
            rw [hcast] at HC
            have HC2 := Lib.hid HC
            rw [optV_none] at HX
            clear HC hp4 HO hcast
            go_wp2_with fail
            refine HX.out.mono ?_
            rintro e w' ⟨rfl, rfl⟩
            go_wp2_with fail
            refine HL.out.mono ?_
            rintro e w' ⟨rfl, rfl⟩
            go_wp2_with fail
            refine HL.out.mono ?_
            rintro e w' ⟨rfl, rfl⟩
            go_wp2_with fail
            refine HC2.out.mono ?_
            rintro e w' ⟨rfl, rfl⟩
            go_wp2_with fail
            go_round
            case rel => exact ⟨1, by omega, by go_num⟩
            case measure => simp [intOf]
        · obtain ⟨o, ho⟩ : ∃ o, o = runO f N a 1 true := ⟨_, rfl⟩
          have HO := Lib.hid ho
          have hx := next_ok w1 b N f a true HM.out haN
          rw [← ho] at hx
          have HX := Lib.hid hx
          clear ho hx
          cases o with
          | some p =>
            obtain ⟨hp1, hp2, hp3, hp4⟩ := next_some HO.out.symm
            have HC := count_ok w1 b N f a (p - a) HM.out (by omega)
            rw [search_true hp1 hp4] at HC
            have hcast : ((p - a : Nat) : Int) = (p : Int) - (a : Int) := by omega
            rw [hcast] at HC
            have HC2 := Lib.hid HC
            have HG := get_ok w1 b N f p HM.out hp2
            rw [hp3] at HG
            have HG2 := Lib.hid HG
            have HLst := last_ok w1 b N f (p + 1) true HM.out hp2
            rw [last_here hp3, optV_some, show ((p + 1 : Nat) : Int) = (p : Int) + 1 by omega] at HLst
            have HL2 := Lib.hid HLst
            rw [optV_some] at HX
            clear HC HG HLst hp3 hp4 HO hcast
            go_wp2_with fail
            refine HX.out.mono ?_
            rintro e w' ⟨rfl, rfl⟩
            go_wp2_with fail
            refine HL.out.mono ?_
            rintro e w' ⟨rfl, rfl⟩
            go_wp2_with fail
            refine HC2.out.mono ?_
            rintro e w' ⟨rfl, rfl⟩
            go_wp2_with fail
            refine HG2.out.mono ?_
            rintro e w' ⟨rfl, rfl⟩
            go_wp2_with fail
            refine HL2.out.mono ?_
            rintro e w' ⟨rfl, rfl⟩
            go_wp2_with fail
            go_round
            case rel => exact ⟨2, by omega, by go_num⟩
            case measure => simp [intOf]
          | none =>
            have hp4 := fun j h1 h2 => next_none HO.out.symm j h1 h2
            have HC := count_ok w1 b N f a (N - a) HM.out (by omega)
            rw [search_true haN hp4] at HC
            have hcast : ((N - a : Nat) : Int) = (N : Int) - (a : Int) := by omega
            rw [hcast] at HC
            have HC2 := Lib.hid HC
            rw [optV_none] at HX
            clear HC hp4 HO hcast
            go_wp2_with fail
            refine HX.out.mono ?_
            rintro e w' ⟨rfl, rfl⟩
            go_wp2_with fail
            refine HL.out.mono ?_
            rintro e w' ⟨rfl, rfl⟩
            go_wp2_with fail
            refine HL.out.mono ?_
            rintro e w' ⟨rfl, rfl⟩
            go_wp2_with fail
            refine HC2.out.mono ?_
            rintro e w' ⟨rfl, rfl⟩
            go_wp2_with fail
            go_round
            case rel => exact ⟨2, by omega, by go_num⟩
            case measure => simp [intOf]
end Go.Proofs.Ytanppmpijadhbaa
