/- Checksums of bytes: half bytes, matrices, bursts, mixes: plain facts on natural numbers. No condition. -/
import Derived.Test.YtiddbdjcdoiloaaDoorMath
namespace Go.Proofs.YtiddbdjcdoiloaaDoor.Cm

/-! ### half a byte -/
def tab (k : Nat) : Nat := halves 4 k
theorem halves_even : ∀ (k q : Nat), halves k (2 ^ k * q) = q
  | 0, q => by simp [halves]
  | k + 1, q => by
    unfold halves
    rw [half_even (by rw [Nat.pow_succ, Nat.mul_right_comm]; omega), show 2 ^ (k + 1) * q / 2 = 2 ^ k * q by rw [Nat.pow_succ, Nat.mul_right_comm]; omega]
    exact halves_even k q
theorem split_xor (k r : Nat) : r = 2 ^ k * (r / 2 ^ k) ^^^ r % 2 ^ k := by
  have h : 2 ^ k * (r / 2 ^ k) + r % 2 ^ k = r := Nat.div_add_mod r _
  have h2 : r % 2 ^ k < 2 ^ k := Nat.mod_lt _ (Nat.two_pow_pos k)
  apply Nat.eq_of_testBit_eq
  intro i
  rw [Nat.testBit_xor]
  conv => lhs; rw [← h]
  rw [Nat.testBit_two_pow_mul_add _ h2, Nat.testBit_two_pow_mul]
  by_cases hi : i < k
  · rw [if_pos hi]; simp [show ¬ k ≤ i by omega]
  · rw [if_neg hi, Nat.testBit_lt_two_pow (Nat.lt_of_lt_of_le h2 (Nat.pow_le_pow_right (by omega) (by omega)))]; simp [show k ≤ i by omega]
theorem halves_tab (r : Nat) : halves 4 r = r / 16 ^^^ tab (r % 16) := by
  conv => lhs; rw [split_xor 4 r]
  rw [halves_xor, halves_even]; rfl
theorem step_two (r c : Nat) : halves 4 (halves 4 (r ^^^ c)) = step r c := (halves_add 4 4 _).symm

/-! ### matrices: linear maps by what they make of each bit -/
def Lin (f : Nat → Nat) : Prop := (∀ a b, f (a ^^^ b) = f a ^^^ f b) ∧ ∀ a, a < 4294967296 → f a < 4294967296
theorem lin_zs (k : Nat) : Lin (zs k) := ⟨zs_xor k, fun _ h => zs_lt k h⟩
theorem Lin.zero {f : Nat → Nat} (h : Lin f) : f 0 = 0 := by
  have := h.1 0 0
  rw [Nat.xor_self, Nat.xor_self] at this; exact this
theorem Lin.comp {f g : Nat → Nat} (hf : Lin f) (hg : Lin g) : Lin (fun a => g (f a)) :=
  ⟨fun a b => by show g (f (a ^^^ b)) = g (f a) ^^^ g (f b); rw [hf.1, hg.1], fun a h => hg.2 _ (hf.2 a h)⟩
theorem mod_next (r i : Nat) : r % 2 ^ (i + 1) = r % 2 ^ i ^^^ (if r.testBit i then 2 ^ i else 0) := by
  have h2 : r % 2 ^ i < 2 ^ i := Nat.mod_lt _ (Nat.two_pow_pos i)
  apply Nat.eq_of_testBit_eq
  intro j
  rw [Nat.testBit_xor, Nat.testBit_mod_two_pow, Nat.testBit_mod_two_pow]
  split
  · rename_i hb
    rw [Nat.testBit_two_pow]
    by_cases e : i = j
    · subst e; simp [hb]
    · have : (j < i + 1) = (j < i) := by rw [eq_iff_iff]; omega
      simp [e, this]
  · rename_i hb
    rw [Nat.zero_testBit]
    by_cases e : i = j
    · subst e; simp [hb]
    · have : (j < i + 1) = (j < i) := by rw [eq_iff_iff]; omega
      simp [this]
theorem Lin.next_yes {f : Nat → Nat} (h : Lin f) (r i : Nat) (hb : r.testBit i = true) : f (r % 2 ^ i) ^^^ f (2 ^ i) = f (r % 2 ^ (i + 1)) := by
  rw [mod_next, if_pos hb, h.1]
theorem Lin.next_no {f : Nat → Nat} (_ : Lin f) (r i : Nat) (hb : r.testBit i = false) : f (r % 2 ^ i) = f (r % 2 ^ (i + 1)) := by
  rw [mod_next, if_neg (by rw [hb]; decide), Nat.xor_zero]

/-! ### a byte bit by bit -/
def bitY (y : List UInt8) (i : Nat) : Bool := (y.getD (i / 8) 0).toNat.testBit (i % 8)
/-- n bits from the bit s on, one after the other. -/
def ser (f : Nat → Bool) : Nat → Nat → Nat → Nat
  | _, 0, r => r
  | s, n + 1, r => ser f (s + 1) n (half (r ^^^ (f s).toNat))
theorem ser_congr {f g : Nat → Bool} : ∀ (n s t r : Nat), (∀ j, j < n → f (s + j) = g (t + j)) → ser f s n r = ser g t n r
  | 0, _, _, _, _ => rfl
  | n + 1, s, t, r, h => by
    unfold ser
    have h0 := h 0 (by omega)
    rw [Nat.add_zero, Nat.add_zero] at h0
    rw [h0]
    exact ser_congr n _ _ _ fun j hj => by
      have := h (j + 1) (by omega)
      rw [show s + 1 + j = s + (j + 1) by omega, show t + 1 + j = t + (j + 1) by omega]; exact this
theorem ser_add (f : Nat → Bool) : ∀ (m n s r : Nat), ser f s (m + n) r = ser f (s + m) n (ser f s m r)
  | 0, n, s, r => by rw [Nat.zero_add, Nat.add_zero]; rfl
  | m + 1, n, s, r => by
    rw [show m + 1 + n = (m + n) + 1 by omega]
    show ser f (s + 1) (m + n) _ = ser f (s + (m + 1)) n (ser f (s + 1) m _)
    rw [ser_add f m n (s + 1), show s + 1 + m = s + (m + 1) by omega]
theorem toNat_mod2 (c : Nat) : (c.testBit 0).toNat = c % 2 := by
  rw [Nat.testBit_zero]; rcases Nat.mod_two_eq_zero_or_one c with e | e <;> simp [e]
theorem ser_bits : ∀ (n r c : Nat), c < 2 ^ n → ser c.testBit 0 n r = halves n (r ^^^ c)
  | 0, r, c, h => by obtain rfl : c = 0 := by simpa using h
                     rw [Nat.xor_zero]; rfl
  | n + 1, r, c, h => by
    have hs := split_xor 1 c
    rw [Nat.pow_one] at hs
    have e : ser c.testBit (0 + 1) n (half (r ^^^ (c.testBit 0).toNat)) = ser (c / 2).testBit 0 n (half (r ^^^ (c.testBit 0).toNat)) :=
      ser_congr n _ _ _ fun j _ => by rw [← Nat.testBit_succ]; congr 1; omega
    show ser c.testBit (0 + 1) n (half (r ^^^ (c.testBit 0).toNat)) = halves n (half (r ^^^ c))
    rw [e, ser_bits n _ (c / 2) (by rw [Nat.pow_succ] at h; omega), toNat_mod2]
    congr 1
    conv => rhs; rw [hs, ← Nat.xor_assoc, xor_swap, half_xor]
    rw [show half (2 * (c / 2)) = c / 2 by rw [half_even (by omega)]; omega]
theorem ser_xor (f g : Nat → Bool) : ∀ (n s a b : Nat), ser (fun i => f i ^^ g i) s n (a ^^^ b) = ser f s n a ^^^ ser g s n b
  | 0, _, _, _ => rfl
  | n + 1, s, a, b => by
    unfold ser
    rw [← ser_xor f g n, ← half_xor]
    congr 2
    have : (f s ^^ g s).toNat = (f s).toNat ^^^ (g s).toNat := by cases f s <;> cases g s <;> rfl
    rw [this, Nat.xor_assoc, ← Nat.xor_assoc b, Nat.xor_comm b, Nat.xor_assoc, ← Nat.xor_assoc]
theorem bitY_cons (c : UInt8) (y : List UInt8) (j : Nat) : bitY (c :: y) (8 + j) = bitY y j := by
  unfold bitY
  rw [show (8 + j) / 8 = j / 8 + 1 by omega, show (8 + j) % 8 = j % 8 by omega]; rfl
theorem go_ser : ∀ (y : List UInt8) (r : Nat), go r y = ser (bitY y) 0 (8 * y.length) r
  | [], _ => rfl
  | c :: y, r => by
    rw [go_cons, List.length_cons, show 8 * (y.length + 1) = 8 + 8 * y.length by omega, ser_add]
    have e1 : ser (bitY (c :: y)) 0 8 r = step r c.toNat := by
      unfold step
      rw [← ser_bits 8 r c.toNat c.toNat_lt]
      exact ser_congr 8 0 0 r fun j hj => by
        unfold bitY
        rw [Nat.zero_add, show j / 8 = 0 by omega, show j % 8 = j by omega]; rfl
    rw [e1, go_ser y]
    exact ser_congr _ _ _ _ fun j _ => by rw [Nat.zero_add, Nat.zero_add, bitY_cons]
theorem ser_none (f : Nat → Bool) : ∀ (n s : Nat), (∀ j, j < n → f (s + j) = false) → ser f s n 0 = 0
  | 0, _, _ => rfl
  | n + 1, s, h => by
    unfold ser
    have h0 := h 0 (by omega)
    rw [Nat.add_zero] at h0
    rw [h0, show half (0 ^^^ false.toNat) = 0 from rfl]
    exact ser_none f n _ fun j hj => by rw [show s + 1 + j = s + (j + 1) by omega]; exact h (j + 1) (by omega)
/-- A change of the bits of a pattern from the bit p on. -/
theorem burst (y z : List UInt8) (p pat r : Nat) (hl : y.length = z.length) (hp : p ≤ 8 * y.length) (h32 : pat < 4294967296) (hc : pat < 2 ^ (8 * y.length - p))
    (hb : ∀ i, i < 8 * y.length → bitY z i = (bitY y i ^^ (decide (p ≤ i) && pat.testBit (i - p)))) :
    (go r y = go r z) ↔ pat = 0 := by
  have e : go r y ^^^ go r z = halves (8 * y.length - p) pat := by
    rw [go_ser, go_ser, ← hl, ← ser_xor, Nat.xor_self]
    have h1 : ser (fun i => bitY y i ^^ bitY z i) 0 (8 * y.length) 0 = ser (fun i => decide (p ≤ i) && pat.testBit (i - p)) 0 (8 * y.length) 0 :=
      ser_congr _ _ _ _ fun j hj => by rw [Nat.zero_add, hb j hj, ← Bool.xor_assoc, Bool.xor_self, Bool.false_xor]
    rw [h1]
    conv => lhs; rw [show 8 * y.length = p + (8 * y.length - p) by omega]
    rw [ser_add, ser_none _ p 0 (fun j hj => by rw [decide_eq_false (by omega)]; rfl)]
    have := ser_bits (8 * y.length - p) 0 pat hc
    rw [Nat.zero_xor] at this
    rw [← this]
    exact ser_congr _ _ _ _ fun j _ => by
      rw [decide_eq_true (by omega), Bool.true_and, Nat.zero_add]; congr 1; omega
  refine ⟨fun h => ?_, fun h => ?_⟩
  · rw [h, Nat.xor_self] at e
    by_cases h0 : pat = 0
    · exact h0
    · exact absurd e.symm (halves_ne _ h32 h0)
  · rw [h, halves_zero] at e
    exact xor_eq_zero e
end Go.Proofs.YtiddbdjcdoiloaaDoor.Cm
