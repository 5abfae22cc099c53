/- The contract of the reference's Int: it returns what words.Int returns. Condition: strings shorter than 10^9 bytes. -/
import Derived.Test.YtdkaogcimecfiaaDoorRDec
import Derived.Lib.ParseIntBTie
namespace Go.Proofs.YtdkaogcimecfiaaDoor
open Go.RowKit

/-- The number that digits spell; hyphens are passed by. -/
def dv (acc : Nat) : List UInt8 → Nat
  | [] => acc
  | c :: r => dv (if (c.toNat : Int) = 45 then acc else acc * 10 + (c.toNat - 48)) r
theorem dv_app (acc : Nat) (l r : List UInt8) : dv acc (l ++ r) = dv (dv acc l) r := by
  induction l generalizing acc with
  | nil => rfl
  | cons c l ih => exact ih _
theorem dv_le (acc : Nat) (l : List UInt8) : acc ≤ dv acc l := by
  induction l generalizing acc with
  | nil => exact Nat.le_refl _
  | cons c l ih =>
    refine Nat.le_trans ?_ (ih _)
    split <;> omega
theorem dig_le (c : UInt8) (h : dig c = true) : 48 ≤ c.toNat ∧ c.toNat ≤ 57 := by
  unfold dig digitB at h
  have := of_decide_eq_true h
  omega
theorem parse_dv (l : List UInt8) (h : l.all dig = true) (acc : Nat) (ha : acc < 18446744073709551616) :
    Lib.parseUint10 acc l = if dv acc l < 18446744073709551616 then .ok (dv acc l) else .range := by
  induction l generalizing acc with
  | nil => rw [show dv acc [] = acc from rfl, if_pos ha]; rfl
  | cons c l ih =>
    rw [List.all_cons, Bool.and_eq_true] at h
    have hc := dig_le c h.1
    have hd : dv acc (c :: l) = dv (acc * 10 + (c.toNat - 48)) l := by
      show dv (if (c.toNat : Int) = 45 then acc else acc * 10 + (c.toNat - 48)) l = _
      rw [if_neg (by omega)]
    have hle := dv_le (acc * 10 + (c.toNat - 48)) l
    rw [hd]
    rw [Lib.parseUint10, if_pos hc]
    split
    · rw [if_neg (by omega)]
    · split
      · rw [if_neg (by omega)]
      · rw [ih h.2 _ (by omega)]
/-- What Int returns, said of the number that the digits spell. -/
def intR2 (m : Nat) (neg : Bool) (lo hi : Int) : Int × Nat :=
  if 9223372036854775808 < m ∨ (neg = false ∧ m = 9223372036854775808) then (0, 7) else
    if (if neg then -(m : Int) else (m : Int)) < lo ∨ hi < (if neg then -(m : Int) else (m : Int)) then (0, 7) else ((if neg then -(m : Int) else (m : Int)), 0)
theorem intR_dec (l : List UInt8) (lo hi : Int) (h : decB l = true) : intR l lo hi = intR2 (dv 0 l) (decide ((l.getD 0 0).toNat = 45)) lo hi := by
  cases l with
  | nil => exact absurd h (by decide)
  | cons c r =>
    unfold intR
    rw [if_neg (by rw [h]; simp), Lib.parseIntB_64]
    by_cases hc : (c.toNat : Int) = 45
    · obtain rfl : c = 45 := UInt8.toNat_inj.1 (by show c.toNat = 45; omega)
      have hr : r.all dig = true ∧ r ≠ [] := by
        cases r with
        | nil => exact absurd h (by decide)
        | cons d r =>
          by_cases hd : (d.toNat : Int) = 48
          · obtain rfl : d = 48 := UInt8.toNat_inj.1 (by show d.toNat = 48; omega)
            rw [dec_minus _ rfl] at h; simp at h
          · rw [dec_strip _ _ hd] at h
            exact ⟨h, by simp⟩
      have hdv : dv 0 (45 :: r) = dv 0 r := rfl
      rw [hdv]
      unfold Lib.atoiAll Lib.parseMag intR2
      simp only [show (45 : UInt8).toNat = 45 from rfl, or_true, if_true, hr.2, if_false, parse_dv r hr.1 0 (by omega), not_true_eq_false, false_and, true_and, List.getD_cons_zero, decide_true, Bool.true_eq_false, or_false]
      by_cases h1 : dv 0 r < 18446744073709551616
      · rw [if_pos h1]
        by_cases h2 : 9223372036854775808 < dv 0 r
        · simp [h2]
        · simp [h2]
      · rw [if_neg h1]
        rw [if_pos (by omega)]
    · have hall : (c :: r).all dig = true := by rw [dec_plain c r hc] at h; simp only [Bool.and_eq_true] at h; exact h.2
      have hb := dig_le c (by rw [List.all_cons, Bool.and_eq_true] at hall; exact hall.1)
      unfold Lib.atoiAll Lib.parseMag intR2
      have n1 : ¬ c.toNat = 45 := by omega
      have n2 : ¬ c.toNat = 43 := by omega
      simp only [n1, n2, or_self, if_false, List.getD_cons_zero, decide_false, parse_dv (c :: r) hall 0 (by omega), true_and, reduceCtorEq, not_false_eq_true, false_and, Bool.false_eq_true]
      by_cases h1 : dv 0 (c :: r) < 18446744073709551616
      · rw [if_pos h1]
        by_cases h2 : 9223372036854775808 ≤ dv 0 (c :: r)
        · rw [if_pos (by omega)]; simp [h2]
        · rw [if_neg (by omega)]; simp [h2]
      · rw [if_neg h1]
        rw [if_pos (by omega)]
end Go.Proofs.YtdkaogcimecfiaaDoor
