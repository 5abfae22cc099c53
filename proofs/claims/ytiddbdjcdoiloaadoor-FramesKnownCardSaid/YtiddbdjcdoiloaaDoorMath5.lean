/- A pattern of bits xored into a string of bytes, and what it does to the crc: plain facts. No condition. -/
import Derived.Test.YtiddbdjcdoiloaaDoorMath4
namespace Go.Proofs.YtiddbdjcdoiloaaDoor.Cm

/-- The bytes of which the first k bits of the pattern were changed, from the bit p on. -/
def flipB (y : List UInt8) (at' : Nat) : UInt8 := UInt8.ofNat ((y.getD (at' / 8) 0).toNat ^^^ 2 ^ (at' % 8))
def flipL (y : List UInt8) (p pat : Nat) : Nat → List UInt8
  | 0 => y
  | k + 1 => if pat.testBit k ∧ p + k < 8 * y.length then (flipL y p pat k).set ((p + k) / 8) (flipB (flipL y p pat k) (p + k)) else flipL y p pat k
def chgB (n p pat : Nat) : Nat → Bool
  | 0 => false
  | k + 1 => chgB n p pat k || (pat.testBit k && decide (p + k < 8 * n))
theorem flipL_len (y : List UInt8) (p pat : Nat) : ∀ k, (flipL y p pat k).length = y.length
  | 0 => rfl
  | k + 1 => by
    unfold flipL
    split
    · rw [List.length_set, flipL_len y p pat k]
    · exact flipL_len y p pat k
theorem flip_lt (a i : Nat) (ha : a < 256) (hi : i < 8) : a ^^^ 2 ^ i < 256 := Nat.xor_lt_two_pow (n := 8) ha (show 2 ^ i < 2 ^ 8 from Nat.pow_lt_pow_right (by omega) hi)
theorem flipB_nat (y : List UInt8) (at' : Nat) : (flipB y at').toNat = (y.getD (at' / 8) 0).toNat ^^^ 2 ^ (at' % 8) := by
  unfold flipB
  rw [UInt8.toNat_ofNat', Nat.mod_eq_of_lt (flip_lt _ _ (UInt8.toNat_lt _) (Nat.mod_lt _ (by omega)))]
theorem getD_set (y : List UInt8) (i j : Nat) (c : UInt8) (h : i < y.length) : (y.set i c).getD j 0 = if i = j then c else y.getD j 0 := by
  rw [List.getD_eq_getElem?_getD, List.getD_eq_getElem?_getD]
  by_cases e : i = j
  · subst e; rw [if_pos rfl, List.getElem?_set_self h]; rfl
  · rw [if_neg e, List.getElem?_set_ne e]
theorem bitY_set (y : List UInt8) (at' i : Nat) (h : at' < 8 * y.length) : bitY (y.set (at' / 8) (flipB y at')) i = (bitY y i ^^ decide (i = at')) := by
  unfold bitY
  rw [getD_set _ _ _ _ (by omega)]
  by_cases e : at' / 8 = i / 8
  · rw [if_pos e, flipB_nat, e, Nat.testBit_xor, Nat.testBit_two_pow]
    congr 1
    rw [Bool.eq_iff_iff]; simp only [decide_eq_true_eq]; omega
  · rw [if_neg e, decide_eq_false (by intro h2; exact e (by rw [h2])), Bool.xor_false]
theorem flipL_bit (y : List UInt8) (p pat : Nat) : ∀ k i, i < 8 * y.length → bitY (flipL y p pat k) i = (bitY y i ^^ (decide (p ≤ i ∧ i < p + k) && pat.testBit (i - p)))
  | 0, i, _ => by
    rw [decide_eq_false (by omega), Bool.false_and, Bool.xor_false]; rfl
  | k + 1, i, hi => by
    have ih := flipL_bit y p pat k i hi
    unfold flipL
    by_cases hk : pat.testBit k = true ∧ p + k < 8 * y.length
    · rw [if_pos hk, bitY_set _ _ _ (by rw [flipL_len]; exact hk.2), ih, Bool.xor_assoc]
      congr 1
      by_cases e : i = p + k
      · subst e
        rw [decide_eq_false (by omega), decide_eq_true rfl, decide_eq_true (by omega), Nat.add_sub_cancel_left, hk.1]; rfl
      · rw [decide_eq_false e, Bool.xor_false]
        congr 1
        rw [Bool.eq_iff_iff]; simp only [decide_eq_true_eq]; omega
    · rw [if_neg hk, ih]
      congr 1
      by_cases e : i = p + k
      · subst e
        have : pat.testBit k = false := by
          cases hb : pat.testBit k with
          | false => rfl
          | true => exact absurd ⟨hb, hi⟩ hk
        rw [Nat.add_sub_cancel_left, this, Bool.and_false, Bool.and_false]
      · congr 1
        rw [Bool.eq_iff_iff]; simp only [decide_eq_true_eq]; omega
theorem chgB_iff (n p pat : Nat) : ∀ k, chgB n p pat k = true ↔ ∃ j, j < k ∧ pat.testBit j = true ∧ p + j < 8 * n
  | 0 => by simp [chgB]
  | k + 1 => by
    unfold chgB
    rw [Bool.or_eq_true, chgB_iff n p pat k, Bool.and_eq_true, decide_eq_true_eq]
    refine ⟨fun h => ?_, fun ⟨j, h1, h2, h3⟩ => ?_⟩
    · rcases h with ⟨j, h1, h2⟩ | ⟨h1, h2⟩
      · exact ⟨j, by omega, h2⟩
      · exact ⟨k, by omega, h1, h2⟩
    · by_cases e : j = k
      · subst e; exact .inr ⟨h2, h3⟩
      · exact .inl ⟨j, by omega, h2, h3⟩
theorem burst_law (y : List UInt8) (p pat : Nat) (hp : p < 8 * y.length) (h32 : pat < 4294967296) : (crc y = crc (flipL y p pat 32)) ↔ chgB y.length p pat 32 = false := by
  have hbit : ∀ i, i < 8 * y.length → bitY (flipL y p pat 32) i = (bitY y i ^^ (decide (p ≤ i) && (pat % 2 ^ (8 * y.length - p)).testBit (i - p))) := fun i hi => by
    rw [flipL_bit y p pat 32 i hi, Nat.testBit_mod_two_pow]
    congr 1
    by_cases h1 : p ≤ i
    · rw [decide_eq_true h1, Bool.true_and, decide_eq_true (p := i - p < 8 * y.length - p) (by omega), Bool.true_and]
      by_cases h2 : i < p + 32
      · rw [decide_eq_true ⟨h1, h2⟩, Bool.true_and]
      · rw [decide_eq_false (by omega), Bool.false_and]
        exact (Nat.testBit_lt_two_pow (Nat.lt_of_lt_of_le (show pat < 2 ^ 32 from h32) (Nat.pow_le_pow_right (by omega) (by omega)))).symm
    · rw [decide_eq_false h1, decide_eq_false (by omega), Bool.false_and, Bool.false_and]
  have hb := burst y (flipL y p pat 32) p (pat % 2 ^ (8 * y.length - p)) (0 ^^^ top) (flipL_len y p pat 32).symm (by omega) (Nat.lt_of_le_of_lt (Nat.mod_le _ _) h32) (Nat.mod_lt _ (Nat.two_pow_pos _)) hbit
  have h0 : pat % 2 ^ (8 * y.length - p) = 0 ↔ chgB y.length p pat 32 = false := by
    refine ⟨fun h => ?_, fun h => ?_⟩
    · cases hc : chgB y.length p pat 32 with
      | false => rfl
      | true =>
        obtain ⟨j, h1, h2, h3⟩ := (chgB_iff _ _ _ _).1 hc
        have : (pat % 2 ^ (8 * y.length - p)).testBit j = true := by rw [Nat.testBit_mod_two_pow, h2, decide_eq_true (by omega)]; rfl
        rw [h, Nat.zero_testBit] at this
        cases this
    · apply Nat.eq_of_testBit_eq
      intro j
      rw [Nat.zero_testBit, Nat.testBit_mod_two_pow]
      by_cases h1 : j < 8 * y.length - p
      · rw [decide_eq_true h1, Bool.true_and]
        cases h2 : pat.testBit j with
        | false => rfl
        | true =>
          have hj : j < 32 := by
            rcases Nat.lt_or_ge j 32 with h3 | h3
            · exact h3
            · rw [Nat.testBit_lt_two_pow (Nat.lt_of_lt_of_le (show pat < 2 ^ 32 from h32) (Nat.pow_le_pow_right (by omega) h3))] at h2; cases h2
          rw [(chgB_iff _ _ _ _).2 ⟨j, hj, h2, by omega⟩] at h
          cases h
      · rw [decide_eq_false h1, Bool.false_and]
  rw [← h0, ← hb]
  unfold crc on
  exact ⟨fun h => xor_inj h, fun h => by rw [h]⟩
end Go.Proofs.YtiddbdjcdoiloaaDoor.Cm
