/- Words and bytes of a row of bits that a function gives: plain facts on natural numbers. No condition. -/
namespace Go.Proofs.Ytanppmpijadhbaa.Bm
def wordN (f : Nat → Bool) : Nat → Nat
  | 0 => 0
  | j + 1 => 2 ^ j * (f j).toNat + wordN f j
theorem wordN_lt (f : Nat → Bool) : ∀ n, wordN f n < 2 ^ n
  | 0 => by simp [wordN]
  | n + 1 => by
    have := wordN_lt f n
    unfold wordN
    cases f n <;> simp <;> omega
theorem toNat_testBit (b : Bool) (j : Nat) : (b.toNat).testBit j = (decide (j = 0) && b) := by
  cases b <;> cases j <;> simp [Nat.testBit_succ]
theorem wordN_testBit (f : Nat → Bool) : ∀ n i, (wordN f n).testBit i = (decide (i < n) && f i)
  | 0, i => by simp [wordN]
  | n + 1, i => by
    unfold wordN
    rw [Nat.testBit_two_pow_mul_add _ (wordN_lt f n), wordN_testBit f n]
    by_cases h : i < n
    · simp [h, Nat.lt_succ_of_lt h]
    · rw [if_neg h, toNat_testBit]
      by_cases h2 : i = n
      · subst h2; simp
      · have : ¬ i < n + 1 := by omega
        have h3 : ¬ i - n = 0 := by omega
        simp [this, h3]
def chunk (f : Nat → Bool) (s n : Nat) : Nat := wordN (fun j => f (s + j)) n
theorem chunk_lt (f : Nat → Bool) (s n : Nat) : chunk f s n < 2 ^ n := wordN_lt _ _
theorem chunk_bit (f : Nat → Bool) (s n i : Nat) : (chunk f s n).testBit i = (decide (i < n) && f (s + i)) := wordN_testBit _ _ _
theorem chunk_ext {f : Nat → Bool} {s n x : Nat} (hx : x < 2 ^ n) (h : ∀ j, j < n → x.testBit j = f (s + j)) : x = chunk f s n := by
  apply Nat.eq_of_testBit_eq
  intro i
  rw [chunk_bit]
  by_cases hi : i < n
  · simp [hi, h i hi]
  · simp only [hi, decide_false, Bool.false_and]
    exact Nat.testBit_lt_two_pow (Nat.lt_of_lt_of_le hx (Nat.pow_le_pow_right (by omega) (by omega)))
theorem chunk_congr {f g : Nat → Bool} {s n : Nat} (h : ∀ j, j < n → f (s + j) = g (s + j)) : chunk f s n = chunk g s n :=
  chunk_ext (chunk_lt _ _ _) fun j hj => by rw [chunk_bit]; simp [hj, h j hj]
def upd (f : Nat → Bool) (i : Nat) (v : Bool) : Nat → Bool := fun j => if j = i then v else f j
def word (f : Nat → Bool) (k : Nat) : Nat := chunk f (64 * k) 64
theorem word_lt (f : Nat → Bool) (k : Nat) : word f k < 18446744073709551616 := chunk_lt f _ 64
theorem word_at (f : Nat → Bool) (i : Nat) : word f (i / 64) / 2 ^ (i % 64) % 2 = (f i).toNat := by
  have h := chunk_bit f (64 * (i / 64)) 64 (i % 64)
  rw [Nat.testBit_eq_decide_div_mod_eq] at h
  have e : 64 * (i / 64) + i % 64 = i := Nat.div_add_mod i 64
  rw [e, decide_eq_true (p := i % 64 < 64) (Nat.mod_lt _ (by omega)), Bool.true_and] at h
  have h2 : word f (i / 64) / 2 ^ (i % 64) % 2 < 2 := Nat.mod_lt _ (by omega)
  unfold word at *
  cases hf : f i
  · rw [hf] at h; simp at h; simp; omega
  · rw [hf] at h; simp at h; simp; omega
theorem word_upd_other (f : Nat → Bool) (i k : Nat) (v : Bool) (h : k ≠ i / 64) : word (upd f i v) k = word f k :=
  chunk_congr fun j hj => by unfold upd; rw [if_neg (by omega)]
theorem word_put_true (f : Nat → Bool) (i : Nat) : word f (i / 64) ||| 2 ^ (i % 64) = word (upd f i true) (i / 64) := by
  refine chunk_ext (Nat.or_lt_two_pow (word_lt f _) (Nat.pow_lt_pow_right (by omega) (Nat.mod_lt _ (by omega)))) fun j hj => ?_
  rw [Nat.testBit_or, Nat.testBit_two_pow, show (word f (i / 64)).testBit j = _ from chunk_bit _ _ _ _]
  unfold upd
  have e : (64 * (i / 64) + j = i) ↔ i % 64 = j := by omega
  by_cases h : i % 64 = j
  · rw [if_pos (e.2 h)]; simp [h]
  · rw [if_neg (fun x => h (e.1 x))]; simp [h, hj]
theorem word_put_false (f : Nat → Bool) (i : Nat) : word f (i / 64) &&& (18446744073709551615 - 2 ^ (i % 64)) = word (upd f i false) (i / 64) := by
  have hlt : 2 ^ (i % 64) < 2 ^ 64 := Nat.pow_lt_pow_right (by omega) (Nat.mod_lt _ (by omega))
  refine chunk_ext (Nat.lt_of_le_of_lt Nat.and_le_left (word_lt f _)) fun j hj => ?_
  rw [Nat.testBit_and, show (18446744073709551615 - 2 ^ (i % 64) : Nat) = 2 ^ 64 - (2 ^ (i % 64) + 1) by omega, Nat.testBit_two_pow_sub_succ hlt, Nat.testBit_two_pow,
    show (word f (i / 64)).testBit j = _ from chunk_bit _ _ _ _]
  unfold upd
  have e : (64 * (i / 64) + j = i) ↔ i % 64 = j := by omega
  by_cases h : i % 64 = j
  · rw [if_pos (e.2 h)]; simp [h]
  · rw [if_neg (fun x => h (e.1 x))]; simp [h, hj]
theorem word_and (f g : Nat → Bool) (k : Nat) : word f k &&& word g k = word (fun i => f i && g i) k :=
  chunk_ext (Nat.lt_of_le_of_lt Nat.and_le_left (word_lt f _)) fun j hj => by
    rw [Nat.testBit_and]; unfold word; rw [chunk_bit, chunk_bit]; simp [hj]
theorem word_or (f g : Nat → Bool) (k : Nat) : word f k ||| word g k = word (fun i => f i || g i) k :=
  chunk_ext (Nat.or_lt_two_pow (word_lt f _) (word_lt g _)) fun j hj => by
    rw [Nat.testBit_or]; unfold word; rw [chunk_bit, chunk_bit]; simp [hj]
theorem word_xor (f g : Nat → Bool) (k : Nat) : word f k ^^^ word g k = word (fun i => f i != g i) k :=
  chunk_ext (Nat.xor_lt_two_pow (word_lt f _) (word_lt g _)) fun j hj => by
    rw [Nat.testBit_xor]; unfold word; rw [chunk_bit, chunk_bit]; simp [hj]
theorem word_zero (k : Nat) : word (fun _ => false) k = 0 :=
  (chunk_ext (by omega) fun j _ => by simp).symm
theorem word_byte (f : Nat → Bool) (i : Nat) : word f (i * 8 / 64) / 2 ^ (i * 8 % 64) % 256 = chunk f (8 * i) 8 := by
  refine chunk_ext (n := 8) (Nat.mod_lt _ (by omega)) fun j hj => ?_
  rw [show (256 : Nat) = 2 ^ 8 from rfl, Nat.testBit_mod_two_pow, Nat.testBit_div_two_pow]
  unfold word
  rw [chunk_bit]
  have e : 64 * (i * 8 / 64) + (j + i * 8 % 64) = 8 * i + j := by omega
  have e2 : j + i * 8 % 64 < 64 := by omega
  simp [hj, e, e2]
/-- the bits below n -/
def cut (f : Nat → Bool) (n : Nat) : Nat → Bool := fun i => decide (i < n) && f i
theorem word_load (f : Nat → Bool) (i : Nat) : word (cut f (8 * i)) (i * 8 / 64) ||| chunk f (8 * i) 8 * 2 ^ (i * 8 % 64) = word (cut f (8 * (i + 1))) (i * 8 / 64) := by
  have hlt : chunk f (8 * i) 8 * 2 ^ (i * 8 % 64) < 2 ^ 64 := by
    have h1 := chunk_lt f (8 * i) 8
    have h2 : 2 ^ (i * 8 % 64) ≤ 2 ^ 56 := Nat.pow_le_pow_right (by omega) (by omega)
    calc chunk f (8 * i) 8 * 2 ^ (i * 8 % 64) < 2 ^ 8 * 2 ^ (i * 8 % 64) := Nat.mul_lt_mul_of_pos_right h1 (Nat.two_pow_pos _)
      _ ≤ 2 ^ 8 * 2 ^ 56 := Nat.mul_le_mul_left _ h2
      _ = 2 ^ 64 := by decide
  refine chunk_ext (Nat.or_lt_two_pow (word_lt _ _) hlt) fun j hj => ?_
  rw [Nat.testBit_or, Nat.testBit_mul_two_pow, show (word (cut f (8 * i)) (i * 8 / 64)).testBit j = _ from chunk_bit _ _ _ _, chunk_bit]
  unfold cut
  by_cases h1 : i * 8 % 64 ≤ j
  · have e : 8 * i + (j - i * 8 % 64) = 64 * (i * 8 / 64) + j := by omega
    have e1 : ¬ 64 * (i * 8 / 64) + j < 8 * i := by omega
    have e2 : (64 * (i * 8 / 64) + j < 8 * (i + 1)) ↔ (j - i * 8 % 64 < 8) := by omega
    simp [h1, hj, e, e1, e2]
  · have e1 : 64 * (i * 8 / 64) + j < 8 * i := by omega
    have e2 : 64 * (i * 8 / 64) + j < 8 * (i + 1) := by omega
    simp [h1, hj, e1, e2]
theorem word_load_other (f : Nat → Bool) (i k : Nat) (h : k ≠ i * 8 / 64) : word (cut f (8 * (i + 1))) k = word (cut f (8 * i)) k :=
  chunk_congr fun j hj => by
    unfold cut
    by_cases h1 : 64 * k + j < 8 * i
    · have : 64 * k + j < 8 * (i + 1) := by omega
      simp [h1, this]
    · have : ¬ 64 * k + j < 8 * (i + 1) := by omega
      simp [h1, this]
theorem wordN_same {f g : Nat → Bool} : ∀ n, (∀ j, j < n → f j = g j) → wordN f n = wordN g n
  | 0, _ => rfl
  | n + 1, h => by unfold wordN; rw [h n (by omega), wordN_same n fun j hj => h j (by omega)]
theorem wordN_add {f : Nat → Bool} {i : Nat} (hf : f i = false) : ∀ n, i < n → wordN (upd f i true) n = wordN f n + 2 ^ i
  | 0, h => by omega
  | n + 1, h => by
    unfold wordN
    by_cases e : i = n
    · subst e
      rw [wordN_same i (fun j hj => show upd f i true j = f j by unfold upd; rw [if_neg (by omega)])]
      have : upd f i true i = true := by unfold upd; rw [if_pos rfl]
      rw [this, hf]; simp; omega
    · rw [wordN_add hf n (by omega)]
      have : upd f i true n = f n := by unfold upd; rw [if_neg (by omega)]
      rw [this]; omega
theorem chunk_add {f : Nat → Bool} {s n i : Nat} (h1 : s ≤ i) (h2 : i < s + n) (hf : f i = false) : chunk (upd f i true) s n = chunk f s n + 2 ^ (i - s) := by
  unfold chunk
  rw [← wordN_add (f := fun j => f (s + j)) (i := i - s) (by rw [show s + (i - s) = i by omega]; exact hf) n (by omega)]
  refine wordN_same n fun j _ => ?_
  unfold upd
  by_cases e : s + j = i
  · rw [if_pos e, if_pos (by omega)]
  · rw [if_neg e, if_neg (by omega)]
/-- The bits of a list of bytes. -/
def bitsY (y : List UInt8) : Nat → Bool := fun i => (y.getD (i / 8) 0).toNat.testBit (i % 8)
theorem chunk_bitsY (y : List UInt8) (i : Nat) : chunk (bitsY y) (8 * i) 8 = (y.getD i 0).toNat := by
  symm
  refine chunk_ext (n := 8) (UInt8.toNat_lt _) fun j hj => ?_
  unfold bitsY
  rw [show (8 * i + j) / 8 = i by omega, show (8 * i + j) % 8 = j by omega]
theorem cut_zero (f : Nat → Bool) : cut f 0 = fun _ => false := by
  funext i; simp [cut]
theorem cut_all {f : Nat → Bool} {n m : Nat} (h : ∀ i, n ≤ i → f i = false) (hm : n ≤ m) : cut f m = f := by
  funext i
  unfold cut
  by_cases hi : i < m
  · simp [hi]
  · simp [hi, h i (by omega)]
theorem cut_off {f : Nat → Bool} {n : Nat} (h : ∀ i, n ≤ i → f i = false) (m i : Nat) (hi : n ≤ i) : cut f m i = false := by
  unfold cut; rw [h i hi]; simp
theorem bitsY_off (y : List UInt8) (n : Nat) (hl : y.length = (n + 7) / 8) (hz : n % 8 ≠ 0 → (y.getD (n / 8) 0).toNat / 2 ^ (n % 8) = 0) (i : Nat) (hi : n ≤ i) : bitsY y i = false := by
  unfold bitsY
  by_cases h : i / 8 < y.length
  · have e : i / 8 = n / 8 := by omega
    have hn : n % 8 ≠ 0 := by omega
    have h0 := hz hn
    rw [e, Nat.testBit_eq_decide_div_mod_eq, decide_eq_false_iff_not]
    have h1 : (y.getD (n / 8) 0).toNat < 2 ^ (n % 8) := by
      rcases Nat.div_eq_zero_iff.1 h0 with h | h
      · have := Nat.two_pow_pos (n % 8); omega
      · exact h
    rw [Nat.div_eq_of_lt (Nat.lt_of_lt_of_le h1 (Nat.pow_le_pow_right (by omega) (by omega)))]
    omega
  · rw [List.getD_eq_getElem?_getD, List.getElem?_eq_none (by omega)]; simp
end Go.Proofs.Ytanppmpijadhbaa.Bm
