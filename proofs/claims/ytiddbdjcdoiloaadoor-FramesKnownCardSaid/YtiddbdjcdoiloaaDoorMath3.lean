/- The mix of bytes, single changes of a string of bytes, and what they do to its checksums: plain facts. No condition. -/
import Derived.Test.YtiddbdjcdoiloaaDoorMath2
namespace Go.Proofs.YtiddbdjcdoiloaaDoor.Cm

def P : Nat := 4294967291
def mstep (m : Nat × Nat) (c : UInt8) : Nat × Nat := ((m.1 + c.toNat) % 4294967291, (m.2 + (m.1 + c.toNat) % 4294967291) % 4294967291)
def mgo (m : Nat × Nat) (y : List UInt8) : Nat × Nat := y.foldl mstep m
def mval (m : Nat × Nat) : Nat := m.2 * 4294967296 + m.1
def mix (y : List UInt8) : Nat := mval (mgo (1, 0) y)
def mixed (h : Nat) : Nat × Nat := (h % 4294967296, h / 4294967296)
def isMix (h : Nat) : Prop := h % 4294967296 < 4294967291 ∧ h / 4294967296 < 4294967291
def okM (m : Nat × Nat) : Prop := m.1 < 4294967291 ∧ m.2 < 4294967291
theorem mgo_cons (m : Nat × Nat) (c : UInt8) (y : List UInt8) : mgo m (c :: y) = mgo (mstep m c) y := rfl
theorem mgo_append (m : Nat × Nat) (x y : List UInt8) : mgo m (x ++ y) = mgo (mgo m x) y := List.foldl_append
theorem mgo_snoc (m : Nat × Nat) (x : List UInt8) (c : UInt8) : mgo m (x ++ [c]) = mstep (mgo m x) c := mgo_append m x [c]
theorem mstep_ok (m : Nat × Nat) (c : UInt8) : okM (mstep m c) := ⟨Nat.mod_lt _ (by omega), Nat.mod_lt _ (by omega)⟩
theorem mgo_ok : ∀ (y : List UInt8) {m : Nat × Nat}, okM m → okM (mgo m y)
  | [], _, h => h
  | c :: y, m, _ => mgo_ok y (mstep_ok m c)
theorem mval_lt {m : Nat × Nat} (h : okM m) : mval m < 18446744073709551616 := by
  have := h.1; have := h.2; unfold mval; omega
theorem mixed_mval {m : Nat × Nat} (h : okM m) : mixed (mval m) = m := by
  have h1 := h.1; have := h.2
  unfold mixed mval
  have e1 : (m.2 * 4294967296 + m.1) % 4294967296 = m.1 := by omega
  have e2 : (m.2 * 4294967296 + m.1) / 4294967296 = m.2 := by omega
  rw [e1, e2]
theorem mval_mixed (h : Nat) : mval (mixed h) = h := by unfold mval mixed; simp only; omega
theorem isMix_mval {m : Nat × Nat} (h : okM m) : isMix (mval m) := by
  have e := mixed_mval h
  have e1 : (mval m) % 4294967296 = m.1 := congrArg Prod.fst e
  have e2 : (mval m) / 4294967296 = m.2 := congrArg Prod.snd e
  unfold isMix; rw [e1, e2]; exact h
theorem one_ok : okM (1, 0) := by unfold okM; omega
theorem mix_isMix (y : List UInt8) : isMix (mix y) := isMix_mval (mgo_ok y one_ok)
theorem mixed_mix (y : List UInt8) : mixed (mix y) = mgo (1, 0) y := mixed_mval (mgo_ok y one_ok)
/- sums -/
def sum : List UInt8 → Nat
  | [] => 0
  | c :: y => c.toNat + sum y
def sums : List UInt8 → Nat
  | [] => 0
  | c :: y => (y.length + 1) * c.toNat + sums y
theorem sum_snoc : ∀ (y : List UInt8) (c : UInt8), sum (y ++ [c]) = sum y + c.toNat
  | [], c => by simp [sum]
  | d :: y, c => by rw [List.cons_append]; unfold sum; rw [sum_snoc y c]; omega
theorem sums_snoc : ∀ (y : List UInt8) (c : UInt8), sums (y ++ [c]) = sums y + sum y + c.toNat
  | [], c => by simp [sums, sum]
  | d :: y, c => by
    have e1 : sums (d :: y ++ [c]) = ((y ++ [c]).length + 1) * d.toNat + sums (y ++ [c]) := rfl
    have e2 : sums (d :: y) = (y.length + 1) * d.toNat + sums y := rfl
    have e3 : sum (d :: y) = d.toNat + sum y := rfl
    rw [e1, e2, e3, sums_snoc y c, List.length_append, show y.length + [c].length + 1 = (y.length + 1) + 1 from rfl, Nat.add_mul (y.length + 1) 1, Nat.one_mul]; omega
theorem sum_le : ∀ y : List UInt8, sum y ≤ 255 * y.length
  | [] => by simp [sum]
  | c :: y => by have := sum_le y; have := c.toNat_lt; unfold sum; rw [List.length_cons]; omega
theorem mgo_fst : ∀ (y : List UInt8) {m : Nat × Nat}, okM m → (mgo m y).1 = (m.1 + sum y) % 4294967291
  | [], m, h => by have := h.1; show m.1 = (m.1 + 0) % 4294967291; omega
  | c :: y, m, _ => by
    rw [mgo_cons, mgo_fst y (mstep_ok m c)]
    show ((m.1 + c.toNat) % 4294967291 + sum y) % 4294967291 = (m.1 + (c.toNat + sum y)) % 4294967291
    omega
theorem mgo_snd : ∀ (y : List UInt8) {m : Nat × Nat}, okM m → (mgo m y).2 = (m.2 + y.length * m.1 + sums y) % 4294967291
  | [], m, h => by have := h.2; show m.2 = (m.2 + 0 * m.1 + 0) % 4294967291; omega
  | c :: y, m, _ => by
    rw [mgo_cons, mgo_snd y (mstep_ok m c)]
    show ((m.2 + (m.1 + c.toNat) % 4294967291) % 4294967291 + y.length * ((m.1 + c.toNat) % 4294967291) + sums y) % 4294967291 = (m.2 + (y.length + 1) * m.1 + ((y.length + 1) * c.toNat + sums y)) % 4294967291
    have e1 : (y.length * ((m.1 + c.toNat) % 4294967291)) % 4294967291 = (y.length * (m.1 + c.toNat)) % 4294967291 := Nat.mul_mod_mod _ _ _
    have e2 : y.length * (m.1 + c.toNat) = y.length * m.1 + y.length * c.toNat := Nat.mul_add _ _ _
    have e3 : (y.length + 1) * m.1 = y.length * m.1 + m.1 := by rw [Nat.add_mul, Nat.one_mul]
    have e4 : (y.length + 1) * c.toNat = y.length * c.toNat + c.toNat := by rw [Nat.add_mul, Nat.one_mul]
    rw [e3, e4]
    generalize y.length * ((m.1 + c.toNat) % 4294967291) = A at *
    generalize y.length * (m.1 + c.toNat) = B at *
    generalize y.length * m.1 = C at *
    generalize y.length * c.toNat = D at *
    omega
theorem mix_fst (y : List UInt8) : (mgo (1, 0) y).1 = (1 + sum y) % 4294967291 := mgo_fst y one_ok
theorem mix_snd (y : List UInt8) : (mgo (1, 0) y).2 = (y.length + sums y) % 4294967291 := by
  rw [mgo_snd y one_ok]; simp
/-- What Roll makes of a mix. -/
def rollA (a out inn : Nat) : Nat := (a + inn + 4294967291 - out) % 4294967291
def rollB (b a n out : Nat) : Nat := (b + a + 4294967291 - n * out - 1) % 4294967291
def roll (m : Nat × Nat) (n out inn : Nat) : Nat × Nat := (rollA m.1 out inn, rollB m.2 (rollA m.1 out inn) n out)
theorem roll_ok (m : Nat × Nat) (n out inn : Nat) : okM (roll m n out inn) := ⟨Nat.mod_lt _ (by omega), Nat.mod_lt _ (by omega)⟩
theorem roll_next (c d : UInt8) (y : List UInt8) (h : y.length < 1000000) : roll (mgo (1, 0) (c :: y)) (y.length + 1) c.toNat d.toNat = mgo (1, 0) (y ++ [d]) := by
  have hc := c.toNat_lt
  have hd := d.toNat_lt
  have f1 := mix_fst (c :: y)
  have f2 := mix_snd (c :: y)
  have g1 := mix_fst (y ++ [d])
  have g2 := mix_snd (y ++ [d])
  rw [show sum (c :: y) = c.toNat + sum y from rfl] at f1
  rw [show sums (c :: y) = (y.length + 1) * c.toNat + sums y from rfl, List.length_cons] at f2
  rw [sum_snoc] at g1
  rw [sums_snoc, List.length_append, List.length_singleton] at g2
  have hM : (y.length + 1) * c.toNat ≤ 1000000 * 255 := Nat.mul_le_mul (by omega) (by omega)
  apply Prod.ext
  · rw [g1]; show rollA _ _ _ = _; rw [f1]; unfold rollA; omega
  · rw [g2]; show rollB _ (rollA _ _ _) _ _ = _; rw [f1, f2]; unfold rollB rollA
    generalize (y.length + 1) * c.toNat = M at *
    omega
/- one byte changed -/
theorem sum_set : ∀ (y : List UInt8) (i : Nat) (v : UInt8) (h : i < y.length), sum (y.set i v) + y[i].toNat = sum y + v.toNat
  | c :: y, 0, v, _ => by simp [sum]; omega
  | c :: y, i + 1, v, h => by
    have := sum_set y i v (by simpa using h)
    simp only [List.set_cons_succ, sum, List.getElem_cons_succ]; omega
theorem mix_set (y : List UInt8) (i : Nat) (v : UInt8) (h : i < y.length) (hv : v ≠ y[i]) : mix (y.set i v) ≠ mix y := by
  intro e
  have e2 : mixed (mix (y.set i v)) = mixed (mix y) := by rw [e]
  rw [mixed_mix, mixed_mix] at e2
  have e3 := congrArg Prod.fst e2
  rw [mix_fst, mix_fst] at e3
  have hs := sum_set y i v h
  have h1 := y[i].toNat_lt
  have h2 := v.toNat_lt
  have h3 : v.toNat ≠ y[i].toNat := fun x => hv (UInt8.toNat_inj.1 x)
  omega
theorem set_same (y : List UInt8) (i : Nat) (h : i < y.length) : y.set i y[i] = y := by simp
theorem split_at (y : List UInt8) (i : Nat) (h : i < y.length) : y = y.take i ++ (y[i] :: y.drop (i + 1)) := by simp
theorem set_split (y : List UInt8) (i : Nat) (v : UInt8) (h : i < y.length) : y.set i v = y.take i ++ (v :: y.drop (i + 1)) := List.set_eq_take_append_cons_drop .. |>.trans (by rw [if_pos h])
theorem go_set (r : Nat) (y : List UInt8) (i : Nat) (v : UInt8) (h : i < y.length) : go r (y.set i v) = go r y ^^^ zs (y.length - i) (v.toNat ^^^ y[i].toNat) := by
  conv => rhs; lhs; rw [split_at y i h]
  rw [set_split y i v h, go_append, go_append, go_cons, go_cons]
  have e1 : step (go r (y.take i)) v.toNat = step (go r (y.take i)) y[i].toNat ^^^ step (v.toNat ^^^ y[i].toNat) 0 := by
    have := step_xor (go r (y.take i)) (v.toNat ^^^ y[i].toNat) y[i].toNat 0
    rw [Nat.xor_zero] at this
    rw [← this]
    unfold step
    congr 1
    rw [Nat.xor_assoc, xor_xor]
  rw [e1, go_diff]
  congr 1
  rw [show y.length - i = (y.length - (i + 1)) + 1 by omega, List.length_drop]
  rfl
/-- The number that a change of the byte i to reach the crc want must xor. -/
def chg (y : List UInt8) (want : Nat) : Nat := crc y ^^^ want
def need (y : List UInt8) (want i : Nat) : Nat := backs (y.length - i) (chg y want)
theorem crc_set (y : List UInt8) (i : Nat) (v : UInt8) (h : i < y.length) : crc (y.set i v) = crc y ^^^ zs (y.length - i) (v.toNat ^^^ y[i].toNat) := by
  unfold crc on; rw [go_set _ y i v h, xor_swap]
theorem crc_set_iff (y : List UInt8) (want i : Nat) (v : UInt8) (h : i < y.length) : crc (y.set i v) = want ↔ v.toNat ^^^ y[i].toNat = need y want i := by
  have hb : v.toNat ^^^ y[i].toNat < 4294967296 := xor_lt (byte_lt v.toNat_lt) (byte_lt y[i].toNat_lt)
  rw [crc_set y i v h]
  unfold need chg
  refine ⟨fun e => ?_, fun e => ?_⟩
  · rw [← e, ← Nat.xor_assoc, Nat.xor_self, Nat.zero_xor, backs_zs _ hb]
  · rw [e, zs_backs, ← Nat.xor_assoc, Nat.xor_self, Nat.zero_xor]
theorem chg_lt (y : List UInt8) {want : Nat} (h : want < 4294967296) : chg y want < 4294967296 := xor_lt (crc_lt y) h
theorem need_lt (y : List UInt8) {want : Nat} (h : want < 4294967296) (i : Nat) : need y want i < 4294967296 := backs_lt _ (chg_lt y h)
/-- The value that a byte gets. -/
def val (y : List UInt8) (want i : Nat) : Nat := (y.getD i 0).toNat ^^^ need y want i % 256
theorem val_lt (y : List UInt8) (want i : Nat) : val y want i < 256 := Nat.xor_lt_two_pow (n := 8) (UInt8.toNat_lt _) (Nat.mod_lt _ (by omega))
theorem xor_eq_iff {a b c : Nat} : a ^^^ b = c ↔ a = b ^^^ c :=
  ⟨fun h => by rw [← h, Nat.xor_comm a b, ← Nat.xor_assoc, Nat.xor_self, Nat.zero_xor], fun h => by rw [h, Nat.xor_comm b c, xor_xor]⟩
theorem set_iff_val (y : List UInt8) (want i : Nat) (v : UInt8) (h : i < y.length) : crc (y.set i v) = want ↔ need y want i < 256 ∧ v.toNat = val y want i := by
  rw [crc_set_iff y want i v h]
  have e : y.getD i 0 = y[i] := by rw [List.getD_eq_getElem?_getD, List.getElem?_eq_getElem h]; rfl
  unfold val
  rw [e]
  refine ⟨fun hh => ?_, fun ⟨h1, h2⟩ => ?_⟩
  · have hlt : need y want i < 256 := by rw [← hh]; exact Nat.xor_lt_two_pow (n := 8) v.toNat_lt y[i].toNat_lt
    exact ⟨hlt, by rw [Nat.mod_eq_of_lt hlt]; exact xor_eq_iff.1 hh⟩
  · rw [Nat.mod_eq_of_lt h1] at h2; exact xor_eq_iff.2 h2
/-- The answer of Locate: the least index whose need is below 256, from k on. -/
def findFrom (y : List UInt8) (want : Nat) : Nat → Nat → Option Nat
  | _, 0 => none
  | k, n + 1 => if need y want k < 256 then some k else findFrom y want (k + 1) n
def found (y : List UInt8) (want k : Nat) : Option Nat := findFrom y want k (y.length - k)
theorem found_end (y : List UInt8) (want : Nat) : found y want y.length = none := by unfold found; rw [Nat.sub_self]; rfl
theorem found_here (y : List UInt8) (want k : Nat) (h : k < y.length) (hn : need y want k < 256) : found y want k = some k := by
  unfold found; rw [show y.length - k = (y.length - (k + 1)) + 1 by omega]; unfold findFrom; rw [if_pos hn]
theorem found_next (y : List UInt8) (want k : Nat) (h : k < y.length) (hn : ¬ need y want k < 256) : found y want k = found y want (k + 1) := by
  unfold found
  conv => lhs; rw [show y.length - k = (y.length - (k + 1)) + 1 by omega]
  show (if need y want k < 256 then some k else findFrom y want (k + 1) (y.length - (k + 1))) = _
  rw [if_neg hn]
theorem found_spec (y : List UInt8) (want : Nat) : ∀ (n k : Nat), n = y.length - k → ∀ at', k ≤ at' → at' < y.length → need y want at' < 256 → ∃ i, found y want k = some i ∧ k ≤ i ∧ i ≤ at' ∧ need y want i < 256
  | 0, k, hn, a, h1, h2, _ => by omega
  | n + 1, k, hn, a, h1, h2, h3 => by
    by_cases h : need y want k < 256
    · exact ⟨k, found_here y want k (by omega) h, Nat.le_refl _, h1, h⟩
    · rw [found_next y want k (by omega) h]
      have hne : k ≠ a := fun e => h (by rw [e]; exact h3)
      obtain ⟨i, e1, e2, e3, e4⟩ := found_spec y want n (k + 1) (by omega) a (by omega) h2 h3
      exact ⟨i, e1, by omega, e3, e4⟩
end Go.Proofs.YtiddbdjcdoiloaaDoor.Cm
