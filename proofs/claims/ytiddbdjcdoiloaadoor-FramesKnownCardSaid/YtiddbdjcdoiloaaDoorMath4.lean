/- Four bytes that lead to a crc: plain facts. No condition. -/
import Derived.Test.YtiddbdjcdoiloaaDoorMath3
namespace Go.Proofs.YtiddbdjcdoiloaaDoor.Cm

theorem step_low (r X : Nat) : step (r ^^^ X) 0 = step r (X % 256) ^^^ X / 256 := by
  have h := split_xor 8 X
  rw [show (2 : Nat) ^ 8 = 256 from rfl] at h
  unfold step
  rw [Nat.xor_zero]
  conv => lhs; rw [h, Nat.xor_comm (256 * (X / 256)), ← Nat.xor_assoc, halves_xor]
  rw [show 256 * (X / 256) = 2 ^ 8 * (X / 256) from rfl, halves_even]
def byteAt (X k : Nat) : UInt8 := UInt8.ofNat (X / 256 ^ k)
theorem byteAt_nat (X k : Nat) : (byteAt X k).toNat = X / 256 ^ k % 256 := by unfold byteAt; rw [UInt8.toNat_ofNat']
theorem go_four (r X : Nat) (h : X < 4294967296) : go r [byteAt X 0, byteAt X 1, byteAt X 2, byteAt X 3] = zs 4 (r ^^^ X) := by
  have e1 : zs 4 (r ^^^ X) = zs 3 (step (r ^^^ X) 0) := rfl
  have e2 : ∀ q, zs 3 q = zs 2 (step q 0) := fun _ => rfl
  have e3 : ∀ q, zs 2 q = zs 1 (step q 0) := fun _ => rfl
  have e4 : ∀ q, zs 1 q = step q 0 := fun _ => rfl
  rw [e1, step_low, e2, step_low, e3, step_low, e4, step_low]
  have b0 : (byteAt X 0).toNat = X % 256 := by rw [byteAt_nat]; omega
  have b1 : (byteAt X 1).toNat = X / 256 % 256 := by rw [byteAt_nat]
  have b2 : (byteAt X 2).toNat = X / 256 / 256 % 256 := by rw [byteAt_nat]; omega
  have b3 : (byteAt X 3).toNat = X / 256 / 256 / 256 % 256 := by rw [byteAt_nat]; omega
  rw [go_cons, go_cons, go_cons, go_cons, go_nil, b0, b1, b2, b3, show X / 256 / 256 / 256 / 256 = 0 by omega, Nat.xor_zero]
/-- The number whose bytes are laid from at on. -/
def patN (y : List UInt8) (at' want : Nat) : Nat := go top (y.take at') ^^^ backs 4 (unGo (want ^^^ top) (y.drop (at' + 4)))
/-- The bytes of which the first k were laid. -/
def patL (y : List UInt8) (at' X : Nat) : Nat → List UInt8
  | 0 => y
  | k + 1 => (patL y at' X k).set (at' + k) (byteAt X k)
theorem top_lt : top < 4294967296 := by decide
theorem patN_lt (y : List UInt8) (at' want : Nat) (h : want < 4294967296) : patN y at' want < 4294967296 :=
  xor_lt (go_lt _ top_lt) (backs_lt 4 (unGo_lt (xor_lt h top_lt) _))
theorem patL_len (y : List UInt8) (at' X : Nat) : ∀ k, (patL y at' X k).length = y.length
  | 0 => rfl
  | k + 1 => by unfold patL; rw [List.length_set, patL_len y at' X k]
theorem patL_other (y : List UInt8) (at' X i : Nat) (hi : i < y.length) : ∀ k, i < at' ∨ at' + k ≤ i → (patL y at' X k)[i]? = y[i]?
  | 0, _ => rfl
  | k + 1, h => by
    unfold patL
    rw [List.getElem?_set_ne (by omega)]
    exact patL_other y at' X i hi k (by omega)
theorem patL_four (y : List UInt8) (at' X : Nat) (h : at' + 4 ≤ y.length) : patL y at' X 4 = y.take at' ++ ([byteAt X 0, byteAt X 1, byteAt X 2, byteAt X 3] ++ y.drop (at' + 4)) := by
  have hl : (y.take at').length = at' := by simp; omega
  apply List.ext_getElem?
  intro i
  by_cases hi : i < at'
  · rw [List.getElem?_append_left (by rw [hl]; exact hi), List.getElem?_take_of_lt hi]
    exact patL_other y at' X i (by omega) 4 (.inl hi)
  · rw [List.getElem?_append_right (by rw [hl]; omega), hl]
    by_cases h4 : at' + 4 ≤ i
    · rw [List.getElem?_append_right (by simp; omega), List.getElem?_drop]
      by_cases hlt : i < y.length
      · rw [patL_other y at' X i hlt 4 (.inr h4)]
        congr 1
        simp only [List.length_cons, List.length_nil]; omega
      · rw [List.getElem?_eq_none (by rw [patL_len]; omega), List.getElem?_eq_none (by simp only [List.length_cons, List.length_nil]; omega)]
    · have e : ∃ j, i = at' + j ∧ j < 4 := ⟨i - at', by omega, by omega⟩
      obtain ⟨j, rfl, hj⟩ := e
      rw [Nat.add_sub_cancel_left]
      unfold patL patL patL patL patL
      rcases j with _ | _ | _ | _ | j
      · rw [List.getElem?_set_ne (by omega), List.getElem?_set_ne (by omega), List.getElem?_set_ne (by omega), List.getElem?_set_self (by omega)]; rfl
      · rw [List.getElem?_set_ne (by omega), List.getElem?_set_ne (by omega), List.getElem?_set_self (by simp; omega)]; rfl
      · rw [List.getElem?_set_ne (by omega), List.getElem?_set_self (by simp; omega)]; rfl
      · rw [List.getElem?_set_self (by simp; omega)]; rfl
      · omega
theorem crc_pat (y : List UInt8) (at' want : Nat) (h : at' + 4 ≤ y.length) (hw : want < 4294967296) : crc (patL y at' (patN y at' want) 4) = want := by
  unfold crc on
  rw [patL_four y at' _ h, Nat.zero_xor, go_append, go_append, go_four _ _ (patN_lt y at' want hw)]
  unfold patN
  rw [← Nat.xor_assoc, Nat.xor_self, Nat.zero_xor, zs_backs, go_unGo, xor_xor]
theorem unGo_step (r : Nat) (y : List UInt8) (k : Nat) (h : k < y.length) : unGo r (y.drop k) = back (unGo r (y.drop (k + 1))) ^^^ y[k].toNat := by
  rw [List.drop_eq_getElem_cons h]; rfl
theorem unGo_end (r : Nat) (y : List UInt8) : unGo r (y.drop y.length) = r := by rw [List.drop_length]; rfl
end Go.Proofs.YtiddbdjcdoiloaaDoor.Cm
