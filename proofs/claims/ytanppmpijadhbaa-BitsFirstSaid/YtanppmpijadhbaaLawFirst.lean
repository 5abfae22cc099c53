/- The walk of BitsFirst: it returns true. Condition: the bytes lie as said. -/
import Derived.Test.YtanppmpijadhbaaMade
import Derived.Test.YtanppmpijadhbaaAwake
import Derived.Test.YtanppmpijadhbaaSpec
namespace Go.Proofs.Ytanppmpijadhbaa
open Go.RowKit

set_option maxRecDepth 100000 in
set_option maxHeartbeats 2000000 in
theorem law_first (w : World) (n r : Nat) (v : Value) (y : List UInt8) (hv : SL encB w w.heap.size v y) (hn : n < 65536) (hr : r < 256) (hy : y.length ≤ 9223372036854775807) :
    Calls Try.prog 8 #[.int .u16 (n : Int), v, .int .u8 (r : Int)] w fun e w' => e = .returned (.bool true) ∧ Below w.heap.size w w' := by
  obtain ⟨A, c0, rfl⟩ := hv.form
  obtain ⟨N, hN⟩ : ∃ N, N = n % 601 := ⟨_, rfl⟩
  obtain ⟨f, hmd⟩ := made_map w n N _ y hv hn hy hN
  have HMD := Lib.hid hmd
  clear hv hmd
  have hN6 : N ≤ 600 := by omega
  obtain ⟨k, hk⟩ : ∃ k, k = 1 + r % 20 := ⟨_, rfl⟩
  have hk1 : 1 ≤ k := by omega
  have hk20 : k ≤ 20 := by omega
  have hkI : (1 : Int) + (r : Int) % 20 = (k : Int) := by omega
  have HK := Lib.hid hkI
  clear hN hk
  go_enter Try.func8, Try.ntmps8
  go_wp2_with fail
  refine HMD.out.mono ?_
  rintro e w1 ⟨b, vl, rfl, hM, hb, hB⟩
  have HM := Lib.hid hM
  have HB := Lib.hid hB
  clear hM hB
  have hkI := HK.out
  obtain ⟨o, ho⟩ : ∃ o, o = runO f N 0 k true := ⟨_, rfl⟩
  have HO := Lib.hid ho
  have hrun := run_ok w1 b N f 0 k true HM.out (by omega) hk1 (by omega)
  rw [← ho] at hrun
  have HRun : Hid (Calls Try.prog 34 #[.pointer (some ⟨b, 0, none⟩), .int .i64 0, .int .i64 (k : Int), .bool true] w1 fun e w' => e = .returned (optV o) ∧ w1 = w') := hrun
  have HL := Lib.hid (len_any w1 b N f HM.out)
  clear ho hrun
  cases o with
  | some p =>
    obtain ⟨_, hp2, hp3, hp4⟩ := runO_some HO.out.symm
    have HP3 := Lib.hid hp3
    have HP4 := Lib.hid hp4
    rw [optV_some] at HRun
    clear hp3 hp4 HO
    go_wp2_with fail
    refine HRun.out.mono ?_
    rintro e w' ⟨rfl, rfl⟩
    go_wp2_with fail
    go_loop [12] (fun i => ∃ m : Nat, m ≤ p + 1 ∧ i = .int .i64 (m : Int)) (fun i => p + 1 - (intOf i).toNat)
    case atStart => exact ⟨0, Nat.zero_le _, rfl⟩
    case round =>
      obtain ⟨m, hm, rfl⟩ := hrel
      by_cases hmp : m = p + 1
      · subst hmp
        go_wp2_with fail
        refine HL.out.mono ?_
        rintro e w' ⟨rfl, rfl⟩
        go_wp2_with fail
        refine (awake_any _).mono ?_
        rintro e w2 ⟨rfl, hB2⟩
        have HB2 : Hid (Below w.heap.size w w2) := HB.out.trans (hB2.mono HB.out.size)
        clear hB2
        go_wp2_with fail
        go_ret
        exact ⟨rfl, HB2.out⟩
      · have hmI : (m : Int) ≤ (p : Int) := by omega
        have HC := Lib.hid (count_ok w1 b N f m k HM.out (by omega))
        have hcn := cnt_le f m k
        obtain ⟨c, hc⟩ : ∃ c, c = cnt f m k := ⟨_, rfl⟩
        rw [← hc] at HC hcn
        by_cases hme : m = p
        · subst hme
          have hck : c = k := by rw [hc]; exact (cnt_all k).2 HP3.out
          subst hck
          clear hc
          go_wp2_with fail
          refine HL.out.mono ?_
          rintro e w' ⟨rfl, rfl⟩
          go_wp2_with fail
          refine HC.out.mono ?_
          rintro e w' ⟨rfl, rfl⟩
          go_wp2_with fail
          go_round
          case rel => exact ⟨m + 1, by omega, by go_num⟩
          case measure => simp only [intOf]; omega
        · have hck : c ≠ k := by
            rw [hc]; intro e
            have := (cnt_all k).1 e
            rw [HP4.out m (by omega) (by omega)] at this; cases this
          have hb1 : ((c : Int) == (k : Int)) = false := by rw [beq_eq_false_iff_ne]; omega
          have hb2 : ((m : Int) == (p : Int)) = false := by rw [beq_eq_false_iff_ne]; omega
          clear hc hck hme
          go_wp2_with fail
          refine HL.out.mono ?_
          rintro e w' ⟨rfl, rfl⟩
          go_wp2_with fail
          refine HC.out.mono ?_
          rintro e w' ⟨rfl, rfl⟩
          go_wp2_with fail
          go_round
          case rel => exact ⟨m + 1, by omega, by go_num⟩
          case measure => simp only [intOf]; omega
  | none =>
    have HN0 : Hid (∀ j, j + k ≤ N → allB f true j k = false) := fun j hj => runO_none HO.out.symm j (by omega) hj
    rw [optV_none] at HRun
    clear HO
    go_wp2_with fail
    refine HRun.out.mono ?_
    rintro e w' ⟨rfl, rfl⟩
    go_wp2_with fail
    refine HL.out.mono ?_
    rintro e w' ⟨rfl, rfl⟩
    go_wp2_with fail
    go_loop [12] (fun i => ∃ m : Nat, m ≤ N ∧ i = .int .i64 (m : Int)) (fun i => N - (intOf i).toNat)
    case atStart => exact ⟨0, Nat.zero_le _, rfl⟩
    case round =>
      obtain ⟨m, hm, rfl⟩ := hrel
      have hmI : (m : Int) ≤ (N : Int) := by omega
      by_cases hmk : m + k ≤ N
      case neg =>
        have hmkI : ¬ (m : Int) + (k : Int) ≤ (N : Int) := by omega
        go_wp2_with fail
        refine HL.out.mono ?_
        rintro e w' ⟨rfl, rfl⟩
        go_wp2_with fail
        refine (awake_any _).mono ?_
        rintro e w2 ⟨rfl, hB2⟩
        have HB2 : Hid (Below w.heap.size w w2) := HB.out.trans (hB2.mono HB.out.size)
        clear hB2
        go_wp2_with fail
        go_ret
        exact ⟨rfl, HB2.out⟩
      case pos =>
        have hmkI : (m : Int) + (k : Int) ≤ (N : Int) := by omega
        have HC := Lib.hid (count_ok w1 b N f m k HM.out (by omega))
        have hcn := cnt_le f m k
        obtain ⟨c, hc⟩ : ∃ c, c = cnt f m k := ⟨_, rfl⟩
        rw [← hc] at HC hcn
        have hck : c ≠ k := by
          rw [hc]; intro e
          have := (cnt_all k).1 e
          rw [HN0.out m hmk] at this; cases this
        have hb1 : ((c : Int) == (k : Int)) = false := by rw [beq_eq_false_iff_ne]; omega
        by_cases hmN : (m : Int) = (N : Int)
        · exfalso; omega
        have hb2 : ((m : Int) == (N : Int)) = false := by rw [beq_eq_false_iff_ne]; omega
        clear hc hck hmN
        go_wp2_with fail
        refine HL.out.mono ?_
        rintro e w' ⟨rfl, rfl⟩
        go_wp2_with fail
        refine HC.out.mono ?_
        rintro e w' ⟨rfl, rfl⟩
        go_wp2_with fail
        go_round
        case rel => exact ⟨m + 1, by omega, by go_num⟩
        case measure => simp only [intOf]; omega
end Go.Proofs.Ytanppmpijadhbaa
