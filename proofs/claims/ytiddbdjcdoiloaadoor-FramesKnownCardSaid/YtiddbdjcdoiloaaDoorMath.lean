/- Checksums of bytes: plain facts on natural numbers. No condition. -/
namespace Go.Proofs.YtiddbdjcdoiloaaDoor.Cm

/-- What is xored for an odd number. -/
def poly : Nat := 3988292384
def top : Nat := 4294967295
def half (r : Nat) : Nat := if r % 2 = 1 then r / 2 ^^^ poly else r / 2
def halves : Nat → Nat → Nat
  | 0, r => r
  | k + 1, r => halves k (half r)
def unhalf (r : Nat) : Nat := if 2147483648 ≤ r then (r ^^^ poly) * 2 + 1 else r * 2
def unhalves : Nat → Nat → Nat
  | 0, r => r
  | k + 1, r => unhalves k (unhalf r)
def step (r c : Nat) : Nat := halves 8 (r ^^^ c)
def go (r : Nat) (y : List UInt8) : Nat := y.foldl (fun r c => step r c.toNat) r
def on (h : Nat) (y : List UInt8) : Nat := go (h ^^^ top) y ^^^ top
def crc (y : List UInt8) : Nat := on 0 y
/-- Some bytes 0. -/
def zs : Nat → Nat → Nat
  | 0, r => r
  | k + 1, r => zs k (step r 0)
def back (r : Nat) : Nat := unhalves 8 r
def backs : Nat → Nat → Nat
  | 0, r => r
  | k + 1, r => backs k (back r)

theorem xor_half (a b : Nat) : (a ^^^ b) / 2 = a / 2 ^^^ b / 2 := by
  apply Nat.eq_of_testBit_eq
  intro i
  simp [Nat.testBit_xor, ← Nat.testBit_succ]
theorem xor_mod2 (a b : Nat) : (a ^^^ b) % 2 = (a % 2 + b % 2) % 2 := by
  have h : ∀ x : Nat, x % 2 = (x.testBit 0).toNat := fun x => by
    rw [Nat.testBit_zero]; rcases Nat.mod_two_eq_zero_or_one x with e | e <;> simp [e]
  rw [h, Nat.testBit_xor, h a, h b]
  cases a.testBit 0 <;> cases b.testBit 0 <;> rfl
theorem xor_zero4 (a b p : Nat) : a ^^^ p ^^^ (b ^^^ p) = a ^^^ b := by
  rw [Nat.xor_assoc, ← Nat.xor_assoc p b p, Nat.xor_comm p b, Nat.xor_assoc b p p, Nat.xor_self, Nat.xor_zero]
theorem xor_swap (a b p : Nat) : a ^^^ b ^^^ p = a ^^^ p ^^^ b := by
  rw [Nat.xor_assoc, Nat.xor_comm b p, ← Nat.xor_assoc]
theorem xor_xor (a b : Nat) : a ^^^ b ^^^ b = a := by rw [Nat.xor_assoc, Nat.xor_self, Nat.xor_zero]
theorem xor_inj {a b c : Nat} (h : a ^^^ c = b ^^^ c) : a = b := by
  have := congrArg (· ^^^ c) h
  simpa only [xor_xor] using this
theorem xor_eq_zero {a b : Nat} (h : a ^^^ b = 0) : a = b := by
  have := congrArg (· ^^^ b) h
  simpa only [xor_xor, Nat.zero_xor] using this
theorem half_odd {r : Nat} (h : r % 2 = 1) : half r = r / 2 ^^^ poly := if_pos h
theorem half_even {r : Nat} (h : r % 2 = 0) : half r = r / 2 := if_neg (by omega)
theorem half_xor (a b : Nat) : half (a ^^^ b) = half a ^^^ half b := by
  have e := xor_mod2 a b
  rcases Nat.mod_two_eq_zero_or_one a with ha | ha <;> rcases Nat.mod_two_eq_zero_or_one b with hb | hb
  · rw [half_even ha, half_even hb, half_even (by omega), xor_half]
  · rw [half_even ha, half_odd hb, half_odd (by omega), xor_half, Nat.xor_assoc]
  · rw [half_odd ha, half_even hb, half_odd (by omega), xor_half, xor_swap]
  · rw [half_odd ha, half_odd hb, half_even (by omega), xor_half, xor_zero4]
theorem half_zero : half 0 = 0 := rfl
theorem halves_xor : ∀ (k a b : Nat), halves k (a ^^^ b) = halves k a ^^^ halves k b
  | 0, _, _ => rfl
  | k + 1, a, b => by unfold halves; rw [half_xor, halves_xor k]
theorem halves_zero : ∀ k, halves k 0 = 0
  | 0 => rfl
  | k + 1 => by unfold halves; rw [half_zero, halves_zero k]
theorem half_lt {r : Nat} (h : r < 4294967296) : half r < 4294967296 := by
  unfold half
  split
  · exact Nat.xor_lt_two_pow (n := 32) (by omega) (by unfold poly; omega)
  · omega
theorem halves_lt : ∀ (k : Nat) {r : Nat}, r < 4294967296 → halves k r < 4294967296
  | 0, _, h => h
  | k + 1, _, h => halves_lt k (half_lt h)
theorem byte_lt {c : Nat} (h : c < 256) : c < 4294967296 := by omega
theorem xor_lt {a b : Nat} (ha : a < 4294967296) (hb : b < 4294967296) : a ^^^ b < 4294967296 := Nat.xor_lt_two_pow (n := 32) ha hb
theorem step_lt {r c : Nat} (h : r < 4294967296) (hc : c < 256) : step r c < 4294967296 := halves_lt 8 (xor_lt h (byte_lt hc))
theorem step_xor (r d c e : Nat) : step (r ^^^ d) (c ^^^ e) = step r c ^^^ step d e := by
  unfold step
  rw [← halves_xor]
  congr 1
  rw [Nat.xor_assoc, ← Nat.xor_assoc d c e, Nat.xor_comm d c, Nat.xor_assoc c d e, ← Nat.xor_assoc]
theorem step_split (r c : Nat) : step r c = step (r ^^^ c) 0 := by unfold step; rw [Nat.xor_zero]
theorem go_nil (r : Nat) : go r [] = r := rfl
theorem go_cons (r : Nat) (c : UInt8) (y : List UInt8) : go r (c :: y) = go (step r c.toNat) y := rfl
theorem go_append (r : Nat) (x y : List UInt8) : go r (x ++ y) = go (go r x) y := List.foldl_append
theorem go_snoc (r : Nat) (x : List UInt8) (c : UInt8) : go r (x ++ [c]) = step (go r x) c.toNat := go_append r x [c]
theorem go_lt : ∀ (y : List UInt8) {r : Nat}, r < 4294967296 → go r y < 4294967296
  | [], _, h => h
  | c :: y, _, h => go_lt y (step_lt h c.toNat_lt)
theorem on_lt {h : Nat} (y : List UInt8) (hh : h < 4294967296) : on h y < 4294967296 :=
  xor_lt (go_lt y (xor_lt hh (by unfold top; omega))) (by unfold top; omega)
theorem crc_lt (y : List UInt8) : crc y < 4294967296 := on_lt y (by omega)
theorem zs_xor : ∀ (k a b : Nat), zs k (a ^^^ b) = zs k a ^^^ zs k b
  | 0, _, _ => rfl
  | k + 1, a, b => by
    unfold zs
    have := step_xor a b 0 0
    rw [Nat.xor_self] at this
    rw [this, zs_xor k]
theorem zs_zero : ∀ k, zs k 0 = 0
  | 0 => rfl
  | k + 1 => by unfold zs; rw [show step 0 0 = 0 from rfl, zs_zero k]
theorem zs_lt : ∀ (k : Nat) {r : Nat}, r < 4294967296 → zs k r < 4294967296
  | 0, _, h => h
  | k + 1, _, h => zs_lt k (step_lt h (by omega))
theorem zs_add : ∀ (m n r : Nat), zs (m + n) r = zs n (zs m r)
  | 0, n, r => by rw [Nat.zero_add]; rfl
  | m + 1, n, r => by rw [show m + 1 + n = (m + n) + 1 by omega]; show zs (m + n) (step r 0) = zs n (zs m (step r 0)); exact zs_add m n _
theorem zs_succ (k r : Nat) : zs (k + 1) r = step (zs k r) 0 := by rw [zs_add k 1]; rfl
/-- A difference of the register, and what becomes of it. -/
theorem go_diff : ∀ (y : List UInt8) (r d : Nat), go (r ^^^ d) y = go r y ^^^ zs y.length d
  | [], _, _ => rfl
  | c :: y, r, d => by
    rw [go_cons, go_cons]
    have := step_xor r d c.toNat 0
    rw [Nat.xor_zero] at this
    rw [this, go_diff y]
    rfl
theorem go_zero : ∀ (k r : Nat), go r (List.replicate k 0) = zs k r
  | 0, _ => rfl
  | k + 1, r => by rw [List.replicate_succ, go_cons, go_zero k]; rfl
/- going back -/
theorem poly_bit (i : Nat) (h : 32 ≤ i) : poly.testBit i = false := Nat.testBit_lt_two_pow (Nat.lt_of_lt_of_le (show poly < 2 ^ 32 by decide) (Nat.pow_le_pow_right (by omega) h))
theorem low_of_top {r : Nat} (h : r < 4294967296) (h1 : 2147483648 ≤ r) : r ^^^ poly < 2147483648 := by
  apply Nat.lt_pow_two_of_testBit (n := 31)
  intro i hi
  rw [Nat.testBit_xor]
  rcases Nat.lt_or_ge i 32 with h2 | h2
  · obtain rfl : i = 31 := by omega
    rw [show poly.testBit 31 = true by decide, Nat.testBit_eq_decide_div_mod_eq, decide_eq_true (show r / 2 ^ 31 % 2 = 1 by omega)]; rfl
  · rw [poly_bit i h2, Nat.testBit_lt_two_pow (Nat.lt_of_lt_of_le (show r < 2 ^ 32 by omega) (Nat.pow_le_pow_right (by omega) h2))]; rfl
theorem top_of_low {r : Nat} (h : r < 2147483648) : 2147483648 ≤ r ^^^ poly ∧ r ^^^ poly < 4294967296 := by
  refine ⟨?_, xor_lt (by omega) (by decide)⟩
  apply Nat.le_of_not_lt
  intro hlt
  have h1 : (r ^^^ poly).testBit 31 = false := Nat.testBit_lt_two_pow (by omega)
  rw [Nat.testBit_xor, show poly.testBit 31 = true by decide, Nat.testBit_lt_two_pow (show r < 2 ^ 31 by omega)] at h1
  exact absurd h1 (by decide)
theorem unhalf_lt {r : Nat} (h : r < 4294967296) : unhalf r < 4294967296 := by
  unfold unhalf
  split
  · rename_i h1; have := low_of_top h h1; omega
  · omega
theorem unhalf_half {r : Nat} (h : r < 4294967296) : unhalf (half r) = r := by
  unfold half unhalf
  split
  · rename_i h1
    have := top_of_low (r := r / 2) (by omega)
    rw [if_pos this.1, xor_xor]; omega
  · rename_i h1
    rw [if_neg (by omega)]; omega
theorem half_unhalf (r : Nat) : half (unhalf r) = r := by
  unfold unhalf
  split
  · rw [half_odd (by omega), show ((r ^^^ poly) * 2 + 1) / 2 = r ^^^ poly by omega, xor_xor]
  · rw [half_even (by omega)]; omega
theorem half_ne {r : Nat} (h : r < 4294967296) (h0 : r ≠ 0) : half r ≠ 0 := fun e => h0 (by rw [← unhalf_half h, e]; rfl)
theorem halves_ne : ∀ (k : Nat) {r : Nat}, r < 4294967296 → r ≠ 0 → halves k r ≠ 0
  | 0, _, _, h => h
  | k + 1, _, h, h0 => halves_ne k (half_lt h) (half_ne h h0)
theorem unhalves_lt : ∀ (k : Nat) {r : Nat}, r < 4294967296 → unhalves k r < 4294967296
  | 0, _, h => h
  | k + 1, _, h => unhalves_lt k (unhalf_lt h)
theorem halves_succ : ∀ (k r : Nat), halves (k + 1) r = half (halves k r)
  | 0, _ => rfl
  | k + 1, r => halves_succ k (half r)
theorem unhalves_succ : ∀ (k r : Nat), unhalves (k + 1) r = unhalf (unhalves k r)
  | 0, _ => rfl
  | k + 1, r => unhalves_succ k (unhalf r)
theorem halves_add : ∀ (m n r : Nat), halves (m + n) r = halves n (halves m r)
  | 0, n, r => by rw [Nat.zero_add]; rfl
  | m + 1, n, r => by rw [show m + 1 + n = (m + n) + 1 by omega]; exact halves_add m n _
theorem unhalves_halves : ∀ (k : Nat) {r : Nat}, r < 4294967296 → unhalves k (halves k r) = r
  | 0, _, _ => rfl
  | k + 1, r, h => by rw [halves_succ]; show unhalves k (unhalf (half (halves k r))) = r; rw [unhalf_half (halves_lt k h), unhalves_halves k h]
theorem halves_unhalves : ∀ (k r : Nat), halves k (unhalves k r) = r
  | 0, _ => rfl
  | k + 1, r => by rw [unhalves_succ]; show halves k (half (unhalf (unhalves k r))) = r; rw [half_unhalf, halves_unhalves k]
theorem back_lt {r : Nat} (h : r < 4294967296) : back r < 4294967296 := unhalves_lt 8 h
theorem back_step {r c : Nat} (h : r < 4294967296) (hc : c < 256) : back (step r c) ^^^ c = r := by
  unfold back step
  rw [unhalves_halves 8 (xor_lt h (byte_lt hc)), xor_xor]
theorem step_back (r c : Nat) : step (back r ^^^ c) c = r := by
  unfold back step
  rw [xor_xor, halves_unhalves 8]
theorem backs_lt : ∀ (k : Nat) {r : Nat}, r < 4294967296 → backs k r < 4294967296
  | 0, _, h => h
  | k + 1, _, h => backs_lt k (back_lt h)
theorem backs_succ : ∀ (k r : Nat), backs (k + 1) r = back (backs k r)
  | 0, _ => rfl
  | k + 1, r => backs_succ k (back r)
theorem back_step0 {r : Nat} (h : r < 4294967296) : back (step r 0) = r := by have := back_step h (c := 0) (by omega); simpa using this
theorem step_back0 (r : Nat) : step (back r) 0 = r := by have := step_back r 0; simpa using this
theorem backs_zs : ∀ (k : Nat) {r : Nat}, r < 4294967296 → backs k (zs k r) = r
  | 0, _, _ => rfl
  | k + 1, r, h => by rw [zs_succ]; show backs k (back (step (zs k r) 0)) = r; rw [back_step0 (zs_lt k h), backs_zs k h]
theorem zs_backs : ∀ (k r : Nat), zs k (backs k r) = r
  | 0, _ => rfl
  | k + 1, r => by rw [backs_succ]; show zs k (step (back (backs k r)) 0) = r; rw [step_back0, zs_backs k]
/-- What stood in the register before the bytes y, if r stands there after them. -/
def unGo (r : Nat) : List UInt8 → Nat
  | [] => r
  | c :: y => back (unGo r y) ^^^ c.toNat
theorem unGo_lt {r : Nat} (h : r < 4294967296) : ∀ y : List UInt8, unGo r y < 4294967296
  | [] => h
  | c :: y => xor_lt (back_lt (unGo_lt h y)) (byte_lt c.toNat_lt)
theorem go_unGo (r : Nat) : ∀ y : List UInt8, go (unGo r y) y = r
  | [] => rfl
  | c :: y => by rw [go_cons]; unfold unGo; rw [step_back, go_unGo r y]
theorem unGo_go : ∀ (y : List UInt8) {r : Nat}, r < 4294967296 → unGo (go r y) y = r
  | [], _, _ => rfl
  | c :: y, r, h => by rw [go_cons]; unfold unGo; rw [unGo_go y (step_lt h c.toNat_lt), back_step h c.toNat_lt]
end Go.Proofs.YtiddbdjcdoiloaaDoor.Cm
