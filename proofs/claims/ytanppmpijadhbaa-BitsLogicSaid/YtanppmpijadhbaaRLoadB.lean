/- The contract of the reference's Load. Condition: the bytes lie as said. -/
import Derived.Test.YtanppmpijadhbaaRLoad
namespace Go.Proofs.Ytanppmpijadhbaa
open Go.RowKit

theorem form_off {n : Nat} {y : List UInt8} (hl : y.length = (n + 7) / 8) (hf : formB n y = true) (i : Nat) (hi : n ≤ i) : Bm.bitsY y i = false := by
  refine Bm.bitsY_off y n hl (fun h => ?_) i hi
  unfold formB at hf
  rw [decide_eq_false h] at hf
  simp only [Bool.false_or, Bool.and_eq_true, decide_eq_true_eq] at hf
  exact hf.2
theorem form_of_off {n : Nat} {y : List UInt8} (hl : y.length = (n + 7) / 8) (h : ∀ j, n ≤ j → j < 8 * y.length → Bm.bitsY y j = false) : formB n y = true := by
  unfold formB
  rw [decide_eq_true hl, Bool.true_and]
  by_cases h8 : n % 8 = 0
  · rw [decide_eq_true h8]; rfl
  · rw [decide_eq_true (p := (y.getD (n / 8) 0).toNat / 2 ^ (n % 8) = 0), Bool.or_true]
    apply Nat.eq_of_testBit_eq
    intro j
    rw [Nat.testBit_div_two_pow, Nat.zero_testBit]
    by_cases hj : j + n % 8 < 8
    · have := h (8 * (n / 8) + (j + n % 8)) (by omega) (by omega)
      unfold Bm.bitsY at this
      rw [show (8 * (n / 8) + (j + n % 8)) / 8 = n / 8 by omega, show (8 * (n / 8) + (j + n % 8)) % 8 = j + n % 8 by omega] at this
      first | exact this | (rw [Nat.add_comm]; exact this)
    · exact Nat.testBit_lt_two_pow (Nat.lt_of_lt_of_le (UInt8.toNat_lt _) (Nat.pow_le_pow_right (by omega) (by omega)))
set_option maxRecDepth 100000 in
set_option maxHeartbeats 1000000 in
theorem rload_ok (w : World) (n : Nat) (v : Value) (y : List UInt8) (hv : SL encB w w.heap.size v y) (hn : n ≤ 4096) (hl : y.length = (n + 7) / 8) (hf : formB n y = true) :
    Calls Try.prog 18 #[.int .i64 (n : Int), v] w fun e w' => e = .returned (.tuple #[.slice (some ⟨w.heap.size, 0, none⟩) n n, .int .i64 0]) ∧ OwnT w' w.heap.size w.heap.size n (Bm.bitsY y) ∧ Below w.heap.size w w' := by
  obtain ⟨A, c, rfl⟩ := hv.form
  have HN := Lib.hid (rnew_ok w n hn)
  have h1 : ((y.length : Int) != ((n : Int) + 7) / 8) = false := by rw [bne_eq_false_iff_eq]; omega
  have HV := Lib.hid hv
  have HF := Lib.hid hf
  have HLN := Lib.hid hl
  have hyl : y.length ≤ 512 := by omega
  clear hv hf hl
  go_enter Try.func18, Try.ntmps18
  go_wp2_with fail
  refine HN.out.mono ?_
  rintro e w1 ⟨rfl, ho, hb⟩
  have HO := Lib.hid ho
  have HB := Lib.hid hb
  clear ho hb
  go_wp2_with fail
  go_loopw [8] (fun i wr => ∃ k : Nat, k ≤ 8 * y.length ∧ i = .int .i64 (k : Int) ∧ OwnT wr w.heap.size w.heap.size n (Bm.cut (Bm.bitsY y) k) ∧ Below w.heap.size w wr ∧ Hid (∀ j, n ≤ j → j < k → Bm.bitsY y j = false)) (fun i _ => 8 * y.length - (intOf i).toNat)
  case atStart => exact ⟨0, Nat.zero_le _, rfl, by rw [Bm.cut_zero]; exact HO.out, HB.out, fun j _ h => by omega⟩
  case round =>
    obtain ⟨k, hk, rfl, ho, hB, HZ⟩ := hrel
    by_cases hlt : k < 8 * y.length
    · have hltI : (k : Int) < 8 * (y.length : Int) := by omega
      obtain ⟨b, off, hA, hb, hc⟩ := HV.out.at (by omega)
      subst hA
      have hq : k / 8 < y.length := by omega
      have hqI : (k : Int) / 8 < (y.length : Int) := by omega
      have hcell := (hB.cell (p := ⟨b, off + k / 8, none⟩) hb).trans (hc _ hq)
      unfold encB at hcell
      have hbit := bitsY_val y k hq
      by_cases hkn : k < n
      · have hknI : (k : Int) < (n : Int) := by omega
        have hrow := ho.cell hkn
        have hfz := ho.free k
        have hst := (ho.set (i := k) (Bm.bitsY y k)).congr (fun i _ => upd_cut i)
        have HS := Lib.hid hst
        have HB2 := Lib.hid hB
        clear hst ho hB HO HB hc
        go_wp2_with fail
        go_roundw
        case rel => exact ⟨k + 1, by omega, by go_num, HS.out, HB2.out.setCell (Nat.le_refl _) _, fun j h1 h2 => HZ.out j h1 (by omega)⟩
        case measure => simp only [intOf]; omega
      · have hknI : ¬ (k : Int) < (n : Int) := by omega
        have HO2 : Hid (OwnT wr w.heap.size w.heap.size n (Bm.cut (Bm.bitsY y) (k + 1))) := ho.congr (fun i hi => by
          unfold Bm.cut; rw [decide_eq_true (p := i < k) (by omega), decide_eq_true (p := i < k + 1) (by omega)])
        have HB2 := Lib.hid hB
        clear ho hB HO HB hc
        cases hbt : Bm.bitsY y k with
        | true =>
          exact absurd (form_off HLN.out HF.out k (by omega)) (by rw [hbt]; simp)
        | false =>
          rw [hbt] at hbit
          have HBT := Lib.hid hbt
          clear hbt
          go_wp2_with fail
          go_roundw
          case rel => exact ⟨k + 1, by omega, by go_num, HO2.out, HB2.out, fun j h1 h2 => by
            by_cases e : j = k
            · rw [e]; exact HBT.out
            · exact HZ.out j h1 (by omega)⟩
          case measure => simp only [intOf]; omega
    · have hltI : ¬ (k : Int) < 8 * (y.length : Int) := by omega
      have HO2 : Hid (OwnT wr w.heap.size w.heap.size n (Bm.bitsY y)) := ho.congr (fun i hi => by
        unfold Bm.cut; rw [decide_eq_true (p := i < k) (by have := HLN.out; omega), Bool.true_and])
      have HB2 := Lib.hid hB
      clear ho hB
      go_wp2_with fail
      go_ret2
      exact ⟨rfl, HO2.out, HB2.out⟩
set_option maxRecDepth 100000 in
set_option maxHeartbeats 1000000 in
theorem rload_form (w : World) (n : Nat) (v : Value) (y : List UInt8) (hv : SL encB w w.heap.size v y) (hn : n ≤ 4096) (hl : y.length = (n + 7) / 8) (hf : formB n y = false) :
    Calls Try.prog 18 #[.int .i64 (n : Int), v] w fun e w' => e = .returned (.tuple #[.slice none 0 0, .int .i64 6]) ∧ Below w.heap.size w w' := by
  obtain ⟨A, c, rfl⟩ := hv.form
  have HN := Lib.hid (rnew_ok w n hn)
  have h1 : ((y.length : Int) != ((n : Int) + 7) / 8) = false := by rw [bne_eq_false_iff_eq]; omega
  have HV := Lib.hid hv
  have HF := Lib.hid hf
  have HLN := Lib.hid hl
  have hyl : y.length ≤ 512 := by omega
  clear hv hf hl
  go_enter Try.func18, Try.ntmps18
  go_wp2_with fail
  refine HN.out.mono ?_
  rintro e w1 ⟨rfl, ho, hb⟩
  have HO := Lib.hid ho
  have HB := Lib.hid hb
  clear ho hb
  go_wp2_with fail
  go_loopw [8] (fun i wr => ∃ k : Nat, k ≤ 8 * y.length ∧ i = .int .i64 (k : Int) ∧ OwnT wr w.heap.size w.heap.size n (Bm.cut (Bm.bitsY y) k) ∧ Below w.heap.size w wr ∧ Hid (∀ j, n ≤ j → j < k → Bm.bitsY y j = false)) (fun i _ => 8 * y.length - (intOf i).toNat)
  case atStart => exact ⟨0, Nat.zero_le _, rfl, by rw [Bm.cut_zero]; exact HO.out, HB.out, fun j _ h => by omega⟩
  case round =>
    obtain ⟨k, hk, rfl, ho, hB, HZ⟩ := hrel
    by_cases hlt : k < 8 * y.length
    · have hltI : (k : Int) < 8 * (y.length : Int) := by omega
      obtain ⟨b, off, hA, hb, hc⟩ := HV.out.at (by omega)
      subst hA
      have hq : k / 8 < y.length := by omega
      have hqI : (k : Int) / 8 < (y.length : Int) := by omega
      have hcell := (hB.cell (p := ⟨b, off + k / 8, none⟩) hb).trans (hc _ hq)
      unfold encB at hcell
      have hbit := bitsY_val y k hq
      by_cases hkn : k < n
      · have hknI : (k : Int) < (n : Int) := by omega
        have hrow := ho.cell hkn
        have hfz := ho.free k
        have hst := (ho.set (i := k) (Bm.bitsY y k)).congr (fun i _ => upd_cut i)
        have HS := Lib.hid hst
        have HB2 := Lib.hid hB
        clear hst ho hB HO HB hc
        go_wp2_with fail
        go_roundw
        case rel => exact ⟨k + 1, by omega, by go_num, HS.out, HB2.out.setCell (Nat.le_refl _) _, fun j h1 h2 => HZ.out j h1 (by omega)⟩
        case measure => simp only [intOf]; omega
      · have hknI : ¬ (k : Int) < (n : Int) := by omega
        have HO2 : Hid (OwnT wr w.heap.size w.heap.size n (Bm.cut (Bm.bitsY y) (k + 1))) := ho.congr (fun i hi => by
          unfold Bm.cut; rw [decide_eq_true (p := i < k) (by omega), decide_eq_true (p := i < k + 1) (by omega)])
        have HB2 := Lib.hid hB
        clear ho hB HO HB hc
        cases hbt : Bm.bitsY y k with
        | true =>
          rw [hbt] at hbit
          clear hbt
          go_wp2_with fail
          go_ret2
          exact ⟨rfl, HB2.out⟩
        | false =>
          rw [hbt] at hbit
          have HBT := Lib.hid hbt
          clear hbt
          go_wp2_with fail
          go_roundw
          case rel => exact ⟨k + 1, by omega, by go_num, HO2.out, HB2.out, fun j h1 h2 => by
            by_cases e : j = k
            · rw [e]; exact HBT.out
            · exact HZ.out j h1 (by omega)⟩
          case measure => simp only [intOf]; omega
    · have hltI : ¬ (k : Int) < 8 * (y.length : Int) := by omega
      exfalso
      have := form_of_off HLN.out (fun j h1 h2 => HZ.out j h1 (by omega))
      rw [HF.out] at this; cases this
end Go.Proofs.Ytanppmpijadhbaa
