/- Records: plain facts on forms, values and bytes. No condition. -/
namespace Go.Proofs.Ytelpgjaagkojeaa.Rm

/-- How many bytes a number of a kind has; 0: another kind. -/
def wid (c : UInt8) : Nat := if c = 98 then 1 else if c = 119 then 2 else if c = 100 then 4 else if c = 113 then 8 else 0
def isK (c : UInt8) : Bool := c == 98 || c == 119 || c == 100 || c == 113 || c == 118 || c == 115 || c == 108
structure Val where
  num : Nat
  str : List UInt8
  lst : List UInt32
deriving DecidableEq
def v0 : Val := ⟨0, [], []⟩
/-- A number in so many bytes. -/
def low : Nat → Nat → List UInt8
  | 0, _ => []
  | k + 1, n => UInt8.ofNat n :: low k (n / 256)
theorem low_len : ∀ k n, (low k n).length = k
  | 0, _ => rfl
  | k + 1, n => by simp [low, low_len k]
theorem low_snoc : ∀ k n, low (k + 1) n = low k n ++ [UInt8.ofNat (n / 256 ^ k)]
  | 0, n => by simp [low]
  | k + 1, n => by
    show UInt8.ofNat n :: low (k + 1) (n / 256) = _
    rw [low_snoc k]
    simp only [low, List.cons_append]
    rw [Nat.div_div_eq_div_mul, Nat.pow_succ, Nat.mul_comm (256 ^ k)]
def num : List UInt8 → Nat
  | [] => 0
  | c :: r => c.toNat + 256 * num r
theorem num_lt : ∀ b, num b < 256 ^ b.length
  | [] => by simp [num]
  | c :: r => by
    have h := num_lt r
    have hc := c.toNat_lt
    simp only [num, List.length_cons, Nat.pow_succ]
    omega
theorem num_low : ∀ k n, n < 256 ^ k → num (low k n) = n
  | 0, n, h => by simp at h; subst h; rfl
  | k + 1, n, h => by
    simp only [low, num]
    rw [num_low k _ (by rw [Nat.pow_succ] at h; exact Nat.div_lt_of_lt_mul (by omega)), UInt8.toNat_ofNat']
    omega
theorem low_num : ∀ b, low b.length (num b) = b
  | [] => rfl
  | c :: r => by
    have hc := c.toNat_lt
    simp only [num, List.length_cons, low]
    rw [show (c.toNat + 256 * num r) / 256 = num r by omega, low_num r]
    congr 1
    apply UInt8.toNat_inj.1
    rw [UInt8.toNat_ofNat']
    omega
theorem num_snoc : ∀ (b : List UInt8) (c : UInt8), num (b ++ [c]) = num b + c.toNat * 256 ^ b.length
  | [], c => by simp [num]
  | d :: r, c => by
    simp only [List.cons_append, num, num_snoc r c, List.length_cons, Nat.pow_succ]
    rw [Nat.mul_add, Nat.add_assoc]
    congr 2
    rw [Nat.mul_comm 256, Nat.mul_assoc]
theorem num_app : ∀ (b d : List UInt8), num (b ++ d) = num b + 256 ^ b.length * num d
  | [], d => by simp [num]
  | c :: r, d => by
    simp only [List.cons_append, num, num_app r d, List.length_cons, Nat.pow_succ]
    rw [Nat.mul_add, Nat.add_assoc, Nat.mul_comm (256 ^ r.length) 256, Nat.mul_assoc]
/-- A number in groups of 7 bits. -/
def grp : Nat → Nat → List UInt8
  | 0, _ => []
  | f + 1, n => if n < 128 then [UInt8.ofNat n] else UInt8.ofNat (n % 128 + 128) :: grp f (n / 128)
def grps (n : Nat) : List UInt8 := grp 10 n
theorem grp_small (f n : Nat) (h : n < 128) : grp (f + 1) n = [UInt8.ofNat n] := if_pos h
theorem grp_big (f n : Nat) (h : ¬ n < 128) : grp (f + 1) n = UInt8.ofNat (n % 128 + 128) :: grp f (n / 128) := if_neg h
theorem grp_pos : ∀ f n, 0 < (grp (f + 1) n).length := fun f n => by unfold grp; split <;> simp
theorem grp_len : ∀ f n, (grp f n).length ≤ f
  | 0, _ => by simp [grp]
  | f + 1, n => by
    unfold grp
    split
    · simp
    · have := grp_len f (n / 128); simp; omega
/-- What is read of a number in groups: the number, how many bytes, the error. -/
def pg : Nat → Nat → Nat → List UInt8 → Nat × Nat × Nat
  | 0, _, _, _ => (0, 0, 6)
  | _ + 1, _, _, [] => (0, 0, 10)
  | f + 1, i, acc, c :: r =>
    if i = 9 ∧ 1 < c.toNat % 128 then (0, 0, 6) else
    if c.toNat < 128 then (if 0 < i ∧ c.toNat % 128 = 0 then (0, 0, 6) else (acc + c.toNat % 128 * 128 ^ i, i + 1, 0))
    else pg f (i + 1) (acc + c.toNat % 128 * 128 ^ i) r
def pgs (b : List UInt8) : Nat × Nat × Nat := pg 10 0 0 b
theorem ofNat_small {n : Nat} (h : n < 256) : (UInt8.ofNat n).toNat = n := by rw [UInt8.toNat_ofNat']; omega
theorem pg_grp : ∀ f i acc n rest, f + i = 10 → n < 128 ^ f → (0 < i → 0 < n) → n * 128 ^ i < 2 ^ 64 → 0 < f → pg f i acc (grp f n ++ rest) = (acc + n * 128 ^ i, i + (grp f n).length, 0) := by
  intro f
  induction f with
  | zero => intro i acc n rest h1 h2 h3 h4 h5; omega
  | succ f ih =>
    intro i acc n rest h1 h2 h3 h4 _
    have h9 : i = 9 → n < 2 := by
      intro e; subst e
      have : n * 128 ^ 9 < 2 * 128 ^ 9 := by omega
      exact Nat.lt_of_mul_lt_mul_right this
    by_cases hs : n < 128
    · rw [grp_small _ _ hs]
      have ho := ofNat_small (n := n) (by omega)
      simp only [List.cons_append, List.nil_append, pg, ho]
      rw [if_neg (by intro ⟨h, h'⟩; have := h9 h; omega), if_pos hs, if_neg (by intro ⟨h, h'⟩; have := h3 h; omega), Nat.mod_eq_of_lt hs]
      simp
    · rw [grp_big _ _ hs]
      have ho := ofNat_small (n := n % 128 + 128) (by omega)
      have hi : i ≠ 9 := fun e => by have := h9 e; omega
      simp only [List.cons_append, pg, ho]
      rw [if_neg (by intro ⟨h, h'⟩; exact hi h), if_neg (by omega), show (n % 128 + 128) % 128 = n % 128 by omega]
      have hm : n / 128 * 128 ^ (i + 1) = n / 128 * 128 * 128 ^ i := by rw [Nat.pow_succ, Nat.mul_comm (128 ^ i) 128, Nat.mul_assoc]
      have hsum : n % 128 * 128 ^ i + n / 128 * 128 ^ (i + 1) = n * 128 ^ i := by
        rw [hm, ← Nat.add_mul]; congr 1; omega
      have hf : 0 < f := by
        rcases Nat.eq_zero_or_pos f with e | e
        · subst e; simp at h2; omega
        · exact e
      rw [ih (i + 1) _ _ rest (by omega) (by rw [Nat.pow_succ] at h2; exact Nat.div_lt_of_lt_mul (by omega)) (by omega) (by omega) hf]
      simp only [List.length_cons, Prod.mk.injEq]
      refine ⟨by omega, by omega, trivial⟩
theorem pg_part : ∀ f i acc n k, f + i = 10 → n < 128 ^ f → n * 128 ^ i < 2 ^ 64 → k < (grp f n).length → pg f i acc ((grp f n).take k) = (0, 0, 10) := by
  intro f
  induction f with
  | zero => intro i acc n k h1 h2 h4 hk; simp [grp] at hk
  | succ f ih =>
    intro i acc n k h1 h2 h4 hk
    have h9 : i = 9 → n < 2 := by
      intro e; subst e
      have : n * 128 ^ 9 < 2 * 128 ^ 9 := by omega
      exact Nat.lt_of_mul_lt_mul_right this
    cases k with
    | zero => rw [List.take_zero]; rfl
    | succ k =>
      by_cases hs : n < 128
      · rw [grp_small _ _ hs] at hk; simp at hk
      · rw [grp_big _ _ hs] at hk ⊢
        have ho := ofNat_small (n := n % 128 + 128) (by omega)
        have hi : i ≠ 9 := fun e => by have := h9 e; omega
        simp only [List.take_succ_cons, pg, ho]
        rw [if_neg (by intro ⟨h, h'⟩; exact hi h), if_neg (by omega)]
        have hm : n / 128 * 128 ^ (i + 1) = n / 128 * 128 * 128 ^ i := by rw [Nat.pow_succ, Nat.mul_comm (128 ^ i) 128, Nat.mul_assoc]
        have hsum : n % 128 * 128 ^ i + n / 128 * 128 ^ (i + 1) = n * 128 ^ i := by
          rw [hm, ← Nat.add_mul]; congr 1; omega
        exact ih (i + 1) _ _ k (by omega) (by rw [Nat.pow_succ] at h2; exact Nat.div_lt_of_lt_mul (by omega)) (by omega) (by simpa using hk)
theorem pg_bounds : ∀ f i acc b n u, pg f i acc b = (n, u, 0) → f + i = 10 → i < u ∧ u - i ≤ b.length ∧ u ≤ 10 ∧
    ∃ m, n = acc + m * 128 ^ i ∧ (0 < i → 0 < m) ∧ m < 128 ^ f ∧ (i = 9 → m < 2) ∧ b.take (u - i) = grp f m := by
  intro f
  induction f with
  | zero => intro i acc b n u h _; simp [pg] at h
  | succ f ih =>
    intro i acc b n u h h1
    cases b with
    | nil => simp [pg] at h
    | cons c r =>
      have hc := c.toNat_lt
      simp only [pg] at h
      split at h
      · simp at h
      · rename_i h9
        split at h
        · rename_i hs
          split at h
          · simp at h
          · rename_i h0
            simp only [Prod.mk.injEq, and_true] at h
            obtain ⟨rfl, rfl⟩ := h
            refine ⟨by omega, by simp, by omega, c.toNat % 128, rfl, by omega, ?_, by omega, ?_⟩
            · have : 128 ^ 1 ≤ 128 ^ (f + 1) := Nat.pow_le_pow_right (by omega) (by omega)
              omega
            · rw [show i + 1 - i = 1 by omega, List.take_succ_cons, List.take_zero, grp_small _ _ (by omega), Nat.mod_eq_of_lt hs]
              congr 1
              apply UInt8.toNat_inj.1
              rw [UInt8.toNat_ofNat']; omega
        · rename_i hs
          obtain ⟨a1, a2, a3, m, e1, e2, e3, e4, e5⟩ := ih (i + 1) _ r n u h (by omega)
          have hm : m * 128 ^ (i + 1) = m * 128 * 128 ^ i := by rw [Nat.pow_succ, Nat.mul_comm (128 ^ i) 128, Nat.mul_assoc]
          refine ⟨by omega, by simp only [List.length_cons]; omega, a3, c.toNat % 128 + m * 128, ?_, by have := e2 (by omega); omega, ?_, ?_, ?_⟩
          · rw [e1, hm, Nat.add_mul]; omega
          · rw [Nat.pow_succ]; omega
          · intro e9
            subst e9
            have : f = 0 := by omega
            subst this
            simp [pg] at h
          · have hmp := e2 (by omega)
            rw [show u - i = (u - (i + 1)) + 1 by omega, List.take_succ_cons, e5, grp_big _ _ (by omega), show (c.toNat % 128 + m * 128) / 128 = m by omega]
            congr 1
            apply UInt8.toNat_inj.1
            rw [UInt8.toNat_ofNat']; omega
theorem pgs_grps (n : Nat) (rest : List UInt8) (h : n < 2 ^ 64) : pgs (grps n ++ rest) = (n, (grps n).length, 0) := by
  unfold pgs grps
  rw [pg_grp 10 0 0 n rest rfl (by omega) (by omega) (by omega) (by omega)]
  simp
theorem pgs_part (n k : Nat) (h : n < 2 ^ 64) (hk : k < (grps n).length) : pgs ((grps n).take k) = (0, 0, 10) :=
  pg_part 10 0 0 n k rfl (by omega) (by omega) hk
theorem pgs_back (b : List UInt8) (n u : Nat) (h : pgs b = (n, u, 0)) : 0 < u ∧ u ≤ b.length ∧ u ≤ 10 ∧ b.take u = grps n := by
  obtain ⟨a1, a2, a3, m, e1, e2, e3, e4, e5⟩ := pg_bounds 10 0 0 b n u h rfl
  have : n = m := by simp at e1; exact e1
  subst this
  exact ⟨by omega, by omega, a3, e5⟩
theorem grps_len (n : Nat) : 0 < (grps n).length ∧ (grps n).length ≤ 10 := ⟨grp_pos 9 n, grp_len 10 n⟩

/-! ### values -/
def isN (c : UInt8) : Bool := c == 98 || c == 119 || c == 100 || c == 113 || c == 118
/-- The error of a value. -/
def valE (c : UInt8) (v : Val) : Nat :=
  if c = 115 then (if v.num ≠ 0 ∨ v.lst ≠ [] then 2 else if 400 < v.str.length then 3 else 0)
  else if c = 108 then (if v.num ≠ 0 ∨ v.str ≠ [] then 2 else if 60 < v.lst.length then 3 else 0)
  else if v.str ≠ [] ∨ v.lst ≠ [] then 2 else if 0 < wid c ∧ 256 ^ wid c ≤ v.num then 7 else 0
def lowL : List UInt32 → List UInt8
  | [] => []
  | x :: l => low 4 x.toNat ++ lowL l
theorem lowL_len : ∀ l, (lowL l).length = 4 * l.length
  | [] => rfl
  | x :: l => by simp [lowL, lowL_len l, low_len]; omega
theorem lowL_snoc : ∀ l x, lowL (l ++ [x]) = lowL l ++ low 4 x.toNat
  | [], x => by simp [lowL]
  | y :: l, x => by simp [lowL, lowL_snoc l x]
/-- The bytes of a value. -/
def valB (c : UInt8) (v : Val) : List UInt8 :=
  if c = 115 then grps v.str.length ++ v.str
  else if c = 108 then grps v.lst.length ++ lowL v.lst
  else if c = 118 then grps v.num else low (wid c) v.num
def encL : List UInt8 → List Val → List UInt8 × Nat
  | c :: fs, v :: l => if valE c v ≠ 0 then ([], valE c v) else if (encL fs l).2 ≠ 0 then ([], (encL fs l).2) else (valB c v ++ (encL fs l).1, 0)
  | _, _ => ([], 0)
def formE (fs : List UInt8) : Nat := if 64 < fs.length then 3 else if fs.all isK then 0 else 2
/-- What Encode returns. -/
def encR (fs : List UInt8) (l : List Val) : List UInt8 × Nat :=
  if formE fs ≠ 0 then ([], formE fs) else if l.length ≠ fs.length then ([], 2)
  else if (encL fs l).2 ≠ 0 then ([], (encL fs l).2) else if 4000 < (encL fs l).1.length then ([], 3) else ((encL fs l).1, 0)
def words (b : List UInt8) : Nat → List UInt32
  | 0 => []
  | k + 1 => UInt32.ofNat (num (b.take 4)) :: words (b.drop 4) k
theorem words_len : ∀ k b, (words b k).length = k
  | 0, _ => rfl
  | k + 1, b => by simp [words, words_len k]
theorem words_snoc : ∀ k b, words b (k + 1) = words b k ++ [UInt32.ofNat (num ((b.drop (4 * k)).take 4))]
  | 0, b => by simp [words]
  | k + 1, b => by
    show UInt32.ofNat (num (b.take 4)) :: words (b.drop 4) (k + 1) = _
    rw [words_snoc k]
    simp only [words, List.cons_append, List.drop_drop]
    rw [show 4 + 4 * k = 4 * (k + 1) by omega]
/-- What is read of a value: the value, how many bytes, the error. -/
def one (c : UInt8) (b : List UInt8) : Val × Nat × Nat :=
  if 0 < wid c then (if b.length < wid c then (v0, 0, 10) else (⟨num (b.take (wid c)), [], []⟩, wid c, 0))
  else if (pgs b).2.2 ≠ 0 then (v0, 0, (pgs b).2.2)
  else if c = 118 then (⟨(pgs b).1, [], []⟩, (pgs b).2.1, 0)
  else if c = 115 then (if 400 < (pgs b).1 then (v0, 0, 3) else if b.length - (pgs b).2.1 < (pgs b).1 then (v0, 0, 10) else (⟨0, (b.drop (pgs b).2.1).take (pgs b).1, []⟩, (pgs b).2.1 + (pgs b).1, 0))
  else (if 60 < (pgs b).1 then (v0, 0, 3) else if b.length - (pgs b).2.1 < 4 * (pgs b).1 then (v0, 0, 10) else (⟨0, [], words (b.drop (pgs b).2.1) (pgs b).1⟩, (pgs b).2.1 + 4 * (pgs b).1, 0))
def dec : List UInt8 → List UInt8 → List Val × Nat × Nat
  | [], _ => ([], 0, 0)
  | c :: fs, b => if (one c b).2.2 ≠ 0 then ([], 0, (one c b).2.2)
    else if (dec fs (b.drop (one c b).2.1)).2.2 ≠ 0 then ([], 0, (dec fs (b.drop (one c b).2.1)).2.2)
    else ((one c b).1 :: (dec fs (b.drop (one c b).2.1)).1, (one c b).2.1 + (dec fs (b.drop (one c b).2.1)).2.1, 0)
/-- What Decode returns. -/
def decR (fs : List UInt8) (b : List UInt8) : List Val × Nat × Nat :=
  if formE fs ≠ 0 then ([], 0, formE fs) else if (dec fs b).2.2 ≠ 0 then ([], 0, (dec fs b).2.2) else if 4000 < (dec fs b).2.1 then ([], 0, 3) else dec fs b
/-- What Whole returns. -/
def wholeR (fs : List UInt8) (b : List UInt8) : List Val × Nat :=
  if (decR fs b).2.2 ≠ 0 then ([], (decR fs b).2.2) else if (decR fs b).2.1 < b.length then ([], 6) else ((decR fs b).1, 0)

theorem isK_cases {c : UInt8} (h : isK c = true) : c = 98 ∨ c = 119 ∨ c = 100 ∨ c = 113 ∨ c = 118 ∨ c = 115 ∨ c = 108 := by
  unfold isK at h
  simp only [Bool.or_eq_true, beq_iff_eq] at h
  rcases h with (((((h | h) | h) | h) | h) | h) | h <;> simp [h]
theorem words_lowL : ∀ (l : List UInt32) (rest : List UInt8), words (lowL l ++ rest) l.length = l
  | [], _ => rfl
  | x :: l, rest => by
    have hx := x.toNat_lt
    simp only [lowL, List.length_cons, words, List.append_assoc]
    rw [List.take_left' (low_len 4 _), List.drop_left' (low_len 4 _), words_lowL l, num_low 4 _ (by omega)]
    congr 1
    exact UInt32.ofNat_toNat
theorem lowL_words : ∀ (k : Nat) (b : List UInt8), 4 * k ≤ b.length → lowL (words b k) = b.take (4 * k)
  | 0, b, _ => by simp [words, lowL]
  | k + 1, b, h => by
    simp only [words, lowL]
    rw [lowL_words k _ (by rw [List.length_drop]; omega)]
    have hl : (b.take 4).length = 4 := by rw [List.length_take]; omega
    have hn := num_lt (b.take 4)
    rw [hl] at hn
    rw [UInt32.toNat_ofNat', Nat.mod_eq_of_lt (by omega)]
    have := low_num (b.take 4)
    rw [hl] at this
    rw [this, show 4 * (k + 1) = 4 + 4 * k by omega, List.take_add]
theorem valE_ok {c : UInt8} {v : Val} (h : isK c = true) (he : valE c v = 0) (hn : v.num < 2 ^ 64) :
    (c = 115 ∧ v = ⟨0, v.str, []⟩ ∧ v.str.length ≤ 400) ∨ (c = 108 ∧ v = ⟨0, [], v.lst⟩ ∧ v.lst.length ≤ 60) ∨ (c = 118 ∧ v = ⟨v.num, [], []⟩) ∨ (0 < wid c ∧ c ≠ 115 ∧ c ≠ 108 ∧ c ≠ 118 ∧ v = ⟨v.num, [], []⟩ ∧ v.num < 256 ^ wid c) := by
  obtain ⟨n, s, l⟩ := v
  unfold valE at he
  simp only at he hn ⊢
  rcases isK_cases h with rfl | rfl | rfl | rfl | rfl | rfl | rfl <;> simp [wid] at he ⊢
  case inr.inr.inr.inr.inl => exact he
  all_goals
    split at he
    · simp at he
    · rename_i hno
      rw [not_or] at hno; simp at hno; simp [hno]
      split at he
      · simp at he
      · omega
theorem valB_len_pos {c : UInt8} {v : Val} (h : isK c = true) : 0 < (valB c v).length := by
  unfold valB
  have h1 := (grps_len v.str.length).1
  have h2 := (grps_len v.lst.length).1
  have h3 := (grps_len v.num).1
  rcases isK_cases h with rfl | rfl | rfl | rfl | rfl | rfl | rfl <;> simp [wid, low_len] <;> omega
/-- What is read of a value that was written. -/
theorem one_valB {c : UInt8} {v : Val} (rest : List UInt8) (h : isK c = true) (he : valE c v = 0) (hn : v.num < 2 ^ 64) : one c (valB c v ++ rest) = (v, (valB c v).length, 0) := by
  rcases valE_ok h he hn with ⟨rfl, e, hl⟩ | ⟨rfl, e, hl⟩ | ⟨rfl, e⟩ | ⟨hw, h1, h2, h3, e, hl⟩
  · have hp := pgs_grps v.str.length (v.str ++ rest) (by omega)
    unfold one valB
    rw [if_neg (show ¬ 0 < wid 115 by decide), if_pos rfl, List.append_assoc, hp]
    simp only [ne_eq, not_true_eq_false, if_false, if_true, List.length_append]
    rw [if_neg (show ¬ (115 : UInt8) = 118 by decide), if_neg (by omega), if_neg (by omega), List.drop_left, List.take_left]
    rw [e]
  · have hp := pgs_grps v.lst.length (lowL v.lst ++ rest) (by omega)
    unfold one valB
    rw [if_neg (show ¬ 0 < wid 108 by decide), if_neg (show ¬ (108 : UInt8) = 115 by decide), if_pos rfl, List.append_assoc, hp]
    simp only [ne_eq, not_true_eq_false, if_false, List.length_append, lowL_len]
    rw [if_neg (show ¬ (108 : UInt8) = 118 by decide), if_neg (show ¬ (108 : UInt8) = 115 by decide), if_neg (by omega), if_neg (by omega), List.drop_left, words_lowL]
    rw [e]
  · have hp := pgs_grps v.num rest hn
    unfold one valB
    rw [if_neg (show ¬ 0 < wid 118 by decide), if_neg (show ¬ (118 : UInt8) = 115 by decide), if_neg (show ¬ (118 : UInt8) = 108 by decide), if_pos rfl, hp]
    simp only [ne_eq, not_true_eq_false, if_false, if_true]
    rw [e]
  · unfold one valB
    rw [if_pos hw, if_neg h1, if_neg h2, if_neg h3, if_neg (by rw [List.length_append, low_len]; omega), List.take_left' (low_len _ _), num_low _ _ hl, low_len]
    rw [← e]
/-- What is read of a beginning of a value that was written. -/
theorem one_part {c : UInt8} {v : Val} (k : Nat) (h : isK c = true) (he : valE c v = 0) (hn : v.num < 2 ^ 64) (hk : k < (valB c v).length) : (one c ((valB c v).take k)).2.2 = 10 := by
  have key : ∀ (n : Nat) (tl : List UInt8), n < 2 ^ 64 → (k < (grps n).length → pgs ((grps n ++ tl).take k) = (0, 0, 10)) ∧ ((grps n).length ≤ k → pgs ((grps n ++ tl).take k) = (n, (grps n).length, 0)) := by
    intro n tl hn
    refine ⟨fun hlt => ?_, fun hge => ?_⟩
    · rw [List.take_append_of_le_length (by omega)]
      exact pgs_part n k hn hlt
    · rw [List.take_append, List.take_of_length_le hge]
      exact pgs_grps n _ hn
  rcases valE_ok h he hn with ⟨rfl, e, hl⟩ | ⟨rfl, e, hl⟩ | ⟨rfl, e⟩ | ⟨hw, h1, h2, h3, e, hl⟩
  · obtain ⟨k1, k2⟩ := key v.str.length v.str (by omega)
    have hb : valB 115 v = grps v.str.length ++ v.str := if_pos rfl
    rw [hb] at hk ⊢
    unfold one
    rw [if_neg (show ¬ 0 < wid 115 by decide)]
    by_cases hlt : k < (grps v.str.length).length
    · rw [k1 hlt]; rfl
    · rw [k2 (by omega)]
      simp only [ne_eq, not_true_eq_false, if_false]
      rw [List.length_append] at hk
      rw [if_neg (show ¬ (115 : UInt8) = 118 by decide), if_pos trivial, if_neg (by omega), if_pos (by rw [List.length_take, List.length_append]; omega)]
  · obtain ⟨k1, k2⟩ := key v.lst.length (lowL v.lst) (by omega)
    have hb : valB 108 v = grps v.lst.length ++ lowL v.lst := rfl
    rw [hb] at hk ⊢
    unfold one
    rw [if_neg (show ¬ 0 < wid 108 by decide)]
    by_cases hlt : k < (grps v.lst.length).length
    · rw [k1 hlt]; rfl
    · rw [k2 (by omega)]
      simp only [ne_eq, not_true_eq_false, if_false]
      rw [List.length_append, lowL_len] at hk
      rw [if_neg (show ¬ (108 : UInt8) = 118 by decide), if_neg (show ¬ (108 : UInt8) = 115 by decide), if_neg (by omega), if_pos (by rw [List.length_take, List.length_append, lowL_len]; omega)]
  · have hb : valB 118 v = grps v.num := rfl
    rw [hb] at hk ⊢
    unfold one
    rw [if_neg (show ¬ 0 < wid 118 by decide), pgs_part _ _ hn hk]
    rfl
  · have hb : valB c v = low (wid c) v.num := by unfold valB; rw [if_neg h1, if_neg h2, if_neg h3]
    rw [hb, low_len] at hk
    rw [hb]
    unfold one
    rw [if_pos hw, if_pos (by rw [List.length_take, low_len]; omega)]
/-- What was read of a value is written so. -/
theorem one_back {c : UInt8} {b : List UInt8} {v : Val} {n : Nat} (h : isK c = true) (ho : one c b = (v, n, 0)) : valE c v = 0 ∧ n ≤ b.length ∧ valB c v = b.take n := by
  by_cases hw : 0 < wid c
  · unfold one at ho
    rw [if_pos hw] at ho
    split at ho
    · simp at ho
    · rename_i hlen
      simp only [Prod.mk.injEq, and_true] at ho
      obtain ⟨rfl, rfl⟩ := ho
      have hl : (b.take (wid c)).length = wid c := by rw [List.length_take]; omega
      have hn := num_lt (b.take (wid c))
      have hq := low_num (b.take (wid c))
      rw [hl] at hn hq
      have hx : c ≠ 115 ∧ c ≠ 108 ∧ c ≠ 118 := by
        rcases isK_cases h with rfl | rfl | rfl | rfl | rfl | rfl | rfl <;> simp [wid] at hw ⊢
      refine ⟨?_, by omega, ?_⟩
      · unfold valE
        rw [if_neg hx.1, if_neg hx.2.1, if_neg (by simp), if_neg (by intro ⟨_, h'⟩; simp only at h'; omega)]
      · unfold valB
        rw [if_neg hx.1, if_neg hx.2.1, if_neg hx.2.2]
        exact hq
  · unfold one at ho
    rw [if_neg hw] at ho
    obtain ⟨m, u, e, hp⟩ : ∃ m u e, pgs b = (m, u, e) := ⟨_, _, _, rfl⟩
    rw [hp] at ho
    simp only at ho
    split at ho
    · rename_i he; simp only [Prod.mk.injEq] at ho; exact absurd ho.2.2 he
    rename_i he
    have he : e = 0 := by simpa using he
    subst he
    obtain ⟨a1, a2, a3, a4⟩ := pgs_back b m u hp
    split at ho
    · rename_i hc
      subst hc
      simp only [Prod.mk.injEq, and_true] at ho
      obtain ⟨rfl, rfl⟩ := ho
      refine ⟨by simp [valE, wid], a2, ?_⟩
      rw [a4]; rfl
    · rename_i hv
      split at ho
      · rename_i hc
        subst hc
        split at ho
        · simp at ho
        rename_i h4
        split at ho
        · simp at ho
        rename_i h5
        simp only [Prod.mk.injEq, and_true] at ho
        obtain ⟨rfl, rfl⟩ := ho
        have hl : ((b.drop u).take m).length = m := by rw [List.length_take, List.length_drop]; omega
        refine ⟨?_, by omega, ?_⟩
        · simp only [valE, if_true]
          rw [if_neg (by simp), if_neg (by rw [hl]; omega)]
        · show grps ((b.drop u).take m).length ++ (b.drop u).take m = _
          rw [hl, ← a4, List.take_add]
      · rename_i hs
        have hc : c = 108 := by
          rcases isK_cases h with rfl | rfl | rfl | rfl | rfl | rfl | rfl <;> simp [wid] at hw hv hs ⊢
        subst hc
        split at ho
        · simp at ho
        rename_i h4
        split at ho
        · simp at ho
        rename_i h5
        simp only [Prod.mk.injEq, and_true] at ho
        obtain ⟨rfl, rfl⟩ := ho
        refine ⟨?_, by omega, ?_⟩
        · simp only [valE]
          rw [if_neg (by decide), if_pos trivial, if_neg (by simp), if_neg (by rw [words_len]; omega)]
        · show grps (words (b.drop u) m).length ++ lowL (words (b.drop u) m) = _
          rw [words_len, ← a4, lowL_words _ _ (by rw [List.length_drop]; omega), List.take_add]
theorem pg_num_lt : ∀ f i acc b n u, pg f i acc b = (n, u, 0) → f + i = 10 → acc < 128 ^ i → n < 2 ^ 64 := by
  intro f
  induction f with
  | zero => intro i acc b n u h _ _; simp [pg] at h
  | succ f ih =>
    intro i acc b n u h h1 ha
    cases b with
    | nil => simp [pg] at h
    | cons c r =>
      have hc := c.toNat_lt
      have hd : c.toNat % 128 ≤ 127 := by omega
      have hmul : c.toNat % 128 * 128 ^ i ≤ 127 * 128 ^ i := Nat.mul_le_mul_right _ hd
      simp only [pg] at h
      split at h
      · simp at h
      · rename_i h9
        split at h
        · rename_i hs
          split at h
          · simp at h
          · rename_i h0
            simp only [Prod.mk.injEq, and_true] at h
            obtain ⟨rfl, rfl⟩ := h
            by_cases e9 : i = 9
            · subst e9
              have hle : c.toNat % 128 ≤ 1 := by omega
              have : c.toNat % 128 * 128 ^ 9 ≤ 1 * 128 ^ 9 := Nat.mul_le_mul_right _ hle
              omega
            · have hp : 128 ^ (i + 1) ≤ 128 ^ 9 := Nat.pow_le_pow_right (by omega) (by omega)
              rw [Nat.pow_succ] at hp
              omega
        · exact ih (i + 1) _ r n u h (by omega) (by rw [Nat.pow_succ]; omega)
theorem one_num_lt {c : UInt8} {b : List UInt8} {v : Val} {n : Nat} (h : isK c = true) (ho : one c b = (v, n, 0)) : v.num < 2 ^ 64 := by
  by_cases hw : 0 < wid c
  · unfold one at ho
    rw [if_pos hw] at ho
    split at ho
    · simp at ho
    · rename_i hlen
      simp only [Prod.mk.injEq, and_true] at ho
      obtain ⟨rfl, rfl⟩ := ho
      have hn := num_lt (b.take (wid c))
      have hl : (b.take (wid c)).length = wid c := by rw [List.length_take]; omega
      rw [hl] at hn
      refine Nat.lt_of_lt_of_le hn ?_
      rcases isK_cases h with rfl | rfl | rfl | rfl | rfl | rfl | rfl <;> simp [wid]
  · unfold one at ho
    rw [if_neg hw] at ho
    obtain ⟨m, u, e, hp⟩ : ∃ m u e, pgs b = (m, u, e) := ⟨_, _, _, rfl⟩
    rw [hp] at ho
    simp only at ho
    split at ho
    · rename_i he; simp only [Prod.mk.injEq] at ho; exact absurd ho.2.2 he
    rename_i he
    have he : e = 0 := by simpa using he
    subst he
    split at ho
    · simp only [Prod.mk.injEq, and_true] at ho
      obtain ⟨rfl, rfl⟩ := ho
      exact pg_num_lt 10 0 0 b m u hp rfl (by simp)
    · split at ho
      · split at ho
        · simp at ho
        split at ho
        · simp at ho
        simp only [Prod.mk.injEq, and_true] at ho
        obtain ⟨rfl, rfl⟩ := ho
        exact Nat.two_pow_pos 64
      · split at ho
        · simp at ho
        split at ho
        · simp at ho
        simp only [Prod.mk.injEq, and_true] at ho
        obtain ⟨rfl, rfl⟩ := ho
        exact Nat.two_pow_pos 64

/-! ### records -/
theorem encL_nil (l : List Val) : encL [] l = ([], 0) := by cases l <;> rfl
theorem encL_cons (c : UInt8) (fs : List UInt8) (v : Val) (l : List Val) : encL (c :: fs) (v :: l) = if valE c v ≠ 0 then ([], valE c v) else if (encL fs l).2 ≠ 0 then ([], (encL fs l).2) else (valB c v ++ (encL fs l).1, 0) := rfl
theorem encL_app : ∀ (s t : List UInt8) (l m : List Val), s.length = l.length → encL (s ++ t) (l ++ m) = if (encL s l).2 ≠ 0 then ([], (encL s l).2) else if (encL t m).2 ≠ 0 then ([], (encL t m).2) else ((encL s l).1 ++ (encL t m).1, 0)
  | [], t, [], m, _ => by
    simp only [List.nil_append, encL_nil]
    by_cases h : (encL t m).2 = 0
    · simp [h]; rw [← h]
    · simp only [ne_eq, not_true_eq_false, if_false, h, not_false_eq_true, if_true]
      have key : ∀ (fs : List UInt8) (l : List Val), (encL fs l).2 ≠ 0 → encL fs l = ([], (encL fs l).2) := by
        intro fs
        induction fs with
        | nil => intro l h; rw [encL_nil] at h; simp at h
        | cons c fs ih =>
          intro l h
          cases l with
          | nil => simp [encL] at h
          | cons v l =>
            rw [encL_cons] at h ⊢
            by_cases h1 : valE c v ≠ 0
            · rw [if_pos h1]
            · rw [if_neg h1] at h ⊢
              by_cases h2 : (encL fs l).2 ≠ 0
              · rw [if_pos h2]
              · rw [if_neg h2] at h; simp at h
      exact key t m h
  | [], t, v :: l, m, h => by simp at h
  | c :: s, t, [], m, h => by simp at h
  | c :: s, t, v :: l, m, h => by
    have ih := encL_app s t l m (by simpa using h)
    rw [List.cons_append, List.cons_append, encL_cons, encL_cons, ih]
    by_cases h1 : valE c v = 0
    · by_cases h2 : (encL s l).2 = 0
      · by_cases h3 : (encL t m).2 = 0
        · simp [h1, h2, h3]
        · simp [h1, h2, h3]
      · simp [h1, h2]
    · simp [h1]
theorem encL_bad (fs : List UInt8) (l : List Val) (h : (encL fs l).2 ≠ 0) : (encL fs l).1 = [] := by
  have := encL_app [] fs [] l rfl
  simp only [List.nil_append] at this
  rw [this, encL_nil]
  simp [h]
theorem encL_one (c : UInt8) (v : Val) : encL [c] [v] = if valE c v ≠ 0 then ([], valE c v) else (valB c v, 0) := by
  rw [encL_cons, encL_nil]; simp
theorem take_next {α : Type} (l : List α) (i : Nat) (h : i < l.length) : l.take (i + 1) = l.take i ++ [l[i]] := List.take_succ_eq_append_getElem h
theorem encL_next {fs : List UInt8} {l : List Val} {i : Nat} {B : List UInt8} (h1 : i < fs.length) (h2 : i < l.length) (hB : encL (fs.take i) (l.take i) = (B, 0)) (he : valE fs[i] l[i] = 0) : encL (fs.take (i + 1)) (l.take (i + 1)) = (B ++ valB fs[i] l[i], 0) := by
  rw [take_next fs i h1, take_next l i h2, encL_app _ _ _ _ (by simp; omega), hB, encL_one]
  simp [he]
theorem encL_stop {fs : List UInt8} {l : List Val} {i : Nat} {B : List UInt8} (h1 : i < fs.length) (h2 : i < l.length) (hB : encL (fs.take i) (l.take i) = (B, 0)) (he : valE fs[i] l[i] ≠ 0) : encL fs l = ([], valE fs[i] l[i]) := by
  have e1 : fs = fs.take i ++ (fs[i] :: fs.drop (i + 1)) := by simp
  have e2 : l = l.take i ++ (l[i] :: l.drop (i + 1)) := by simp
  have := encL_app (fs.take i) (fs[i] :: fs.drop (i + 1)) (l.take i) (l[i] :: l.drop (i + 1)) (by simp; omega)
  rw [← e1, ← e2, hB, encL_cons] at this
  simpa [he] using this
theorem dec_cons (c : UInt8) (fs b : List UInt8) : dec (c :: fs) b = if (one c b).2.2 ≠ 0 then ([], 0, (one c b).2.2)
    else if (dec fs (b.drop (one c b).2.1)).2.2 ≠ 0 then ([], 0, (dec fs (b.drop (one c b).2.1)).2.2)
    else ((one c b).1 :: (dec fs (b.drop (one c b).2.1)).1, (one c b).2.1 + (dec fs (b.drop (one c b).2.1)).2.1, 0) := rfl
theorem dec_bad : ∀ (fs b : List UInt8), (dec fs b).2.2 ≠ 0 → dec fs b = ([], 0, (dec fs b).2.2)
  | [], b, h => by simp [dec] at h
  | c :: fs, b, h => by
    rw [dec_cons] at h ⊢
    by_cases h1 : (one c b).2.2 ≠ 0
    · rw [if_pos h1]
    · rw [if_neg h1] at h ⊢
      by_cases h2 : (dec fs (b.drop (one c b).2.1)).2.2 ≠ 0
      · rw [if_pos h2]
      · rw [if_neg h2] at h; simp at h
theorem dec_app : ∀ (s t b : List UInt8), dec (s ++ t) b = if (dec s b).2.2 ≠ 0 then ([], 0, (dec s b).2.2) else if (dec t (b.drop (dec s b).2.1)).2.2 ≠ 0 then ([], 0, (dec t (b.drop (dec s b).2.1)).2.2)
    else ((dec s b).1 ++ (dec t (b.drop (dec s b).2.1)).1, (dec s b).2.1 + (dec t (b.drop (dec s b).2.1)).2.1, 0)
  | [], t, b => by
    simp only [List.nil_append, dec, ne_eq, not_true_eq_false, if_false, List.drop_zero, Nat.zero_add]
    by_cases h : (dec t b).2.2 = 0
    · simp [h]; rw [← h]
    · rw [if_pos h]; exact dec_bad t b h
  | c :: s, t, b => by
    rw [List.cons_append, dec_cons, dec_cons, dec_app s t]
    by_cases h1 : (one c b).2.2 = 0
    · by_cases h2 : (dec s (b.drop (one c b).2.1)).2.2 = 0
      · simp only [h1, h2, ne_eq, not_true_eq_false, if_false, List.drop_drop]
        by_cases h3 : (dec t (b.drop ((one c b).2.1 + (dec s (b.drop (one c b).2.1)).2.1))).2.2 = 0
        · simp [h3, Nat.add_assoc]
        · simp [h3]
      · simp [h1, h2]
    · simp [h1]
theorem dec_one (c : UInt8) (b : List UInt8) : dec [c] b = if (one c b).2.2 ≠ 0 then ([], 0, (one c b).2.2) else ([(one c b).1], (one c b).2.1, 0) := by
  rw [dec_cons]; simp [dec]
theorem dec_next {fs b : List UInt8} {i at' n : Nat} {l : List Val} {v : Val} (h : i < fs.length) (hd : dec (fs.take i) b = (l, at', 0)) (ho : one fs[i] (b.drop at') = (v, n, 0)) : dec (fs.take (i + 1)) b = (l ++ [v], at' + n, 0) := by
  rw [take_next fs i h, dec_app, hd, dec_one]
  simp [ho]
theorem dec_stop {fs b : List UInt8} {i at' : Nat} {l : List Val} (h : i < fs.length) (hd : dec (fs.take i) b = (l, at', 0)) (ho : (one fs[i] (b.drop at')).2.2 ≠ 0) : dec fs b = ([], 0, (one fs[i] (b.drop at')).2.2) := by
  have e1 : fs = fs.take i ++ (fs[i] :: fs.drop (i + 1)) := by simp
  have := dec_app (fs.take i) (fs[i] :: fs.drop (i + 1)) b
  rw [← e1, hd, dec_cons] at this
  simpa [ho] using this

def okN (l : List Val) : Prop := ∀ v ∈ l, v.num < 2 ^ 64
theorem dec_enc : ∀ (fs : List UInt8) (l : List Val) (B rest : List UInt8), fs.all isK = true → l.length = fs.length → okN l → encL fs l = (B, 0) → dec fs (B ++ rest) = (l, B.length, 0)
  | [], l, B, rest, _, hl, _, he => by
    rw [encL_nil] at he
    obtain rfl : l = [] := by simpa using hl
    simp only [Prod.mk.injEq, and_true] at he
    subst he; rfl
  | c :: fs, [], B, rest, _, hl, _, he => by simp at hl
  | c :: fs, v :: l, B, rest, hk, hl, hn, he => by
    rw [List.all_cons, Bool.and_eq_true] at hk
    rw [encL_cons] at he
    split at he
    · rename_i h; simp only [Prod.mk.injEq] at he; exact absurd he.2 h
    rename_i h1
    split at he
    · rename_i h; simp only [Prod.mk.injEq] at he; exact absurd he.2 h
    rename_i h2
    simp only [Prod.mk.injEq, and_true] at he
    subst he
    have h1 : valE c v = 0 := by simpa using h1
    have h2 : (encL fs l).2 = 0 := by simpa using h2
    have ho := one_valB ((encL fs l).1 ++ rest) hk.1 h1 (hn v (by simp))
    have hd := dec_enc fs l (encL fs l).1 rest hk.2 (by simpa using hl) (fun x hx => hn x (by simp [hx])) (by rw [← h2])
    rw [List.append_assoc, dec_cons, ho]
    simp only [ne_eq, not_true_eq_false, if_false, List.drop_left, hd, List.length_append]
theorem dec_part : ∀ (fs : List UInt8) (l : List Val) (B : List UInt8) (k : Nat), fs.all isK = true → l.length = fs.length → okN l → encL fs l = (B, 0) → k < B.length → (dec fs (B.take k)).2.2 = 10
  | [], l, B, k, _, hl, _, he, hb => by
    rw [encL_nil] at he
    simp only [Prod.mk.injEq, and_true] at he
    subst he; simp at hb
  | c :: fs, [], B, k, _, hl, _, he, hb => by simp at hl
  | c :: fs, v :: l, B, k, hk, hl, hn, he, hb => by
    rw [List.all_cons, Bool.and_eq_true] at hk
    rw [encL_cons] at he
    split at he
    · rename_i h; simp only [Prod.mk.injEq] at he; exact absurd he.2 h
    rename_i h1
    split at he
    · rename_i h; simp only [Prod.mk.injEq] at he; exact absurd he.2 h
    rename_i h2
    simp only [Prod.mk.injEq, and_true] at he
    subst he
    have h1 : valE c v = 0 := by simpa using h1
    have h2 : (encL fs l).2 = 0 := by simpa using h2
    rw [dec_cons]
    by_cases hlt : k < (valB c v).length
    · rw [List.take_append_of_le_length (by omega), one_part k hk.1 h1 (hn v (by simp)) hlt]
      rfl
    · rw [List.length_append] at hb
      have ho := one_valB ((encL fs l).1.take (k - (valB c v).length)) hk.1 h1 (hn v (by simp))
      have hd := dec_part fs l (encL fs l).1 (k - (valB c v).length) hk.2 (by simpa using hl) (fun x hx => hn x (by simp [hx])) (by rw [← h2]) (by omega)
      rw [List.take_append, List.take_of_length_le (by omega), ho]
      simp [hd]
theorem dec_back : ∀ (fs b : List UInt8) (l : List Val) (n : Nat), fs.all isK = true → dec fs b = (l, n, 0) → n ≤ b.length ∧ l.length = fs.length ∧ okN l ∧ encL fs l = (b.take n, 0)
  | [], b, l, n, _, h => by
    simp only [dec, Prod.mk.injEq, and_true] at h
    obtain ⟨rfl, rfl⟩ := h
    exact ⟨by omega, rfl, fun v hv => by simp at hv, by simp [encL]⟩
  | c :: fs, b, l, n, hk, h => by
    rw [List.all_cons, Bool.and_eq_true] at hk
    obtain ⟨v, m, e, ho⟩ : ∃ v m e, one c b = (v, m, e) := ⟨_, _, _, rfl⟩
    rw [dec_cons, ho] at h
    simp only at h
    split at h
    · rename_i h'; simp only [Prod.mk.injEq] at h; exact absurd h.2.2 h'
    rename_i h1
    have h1 : e = 0 := by simpa using h1
    subst h1
    obtain ⟨l', m', e', hd⟩ : ∃ x y z, dec fs (b.drop m) = (x, y, z) := ⟨_, _, _, rfl⟩
    rw [hd] at h
    simp only at h
    split at h
    · rename_i h'; simp only [Prod.mk.injEq] at h; exact absurd h.2.2 h'
    rename_i h2
    have h2 : e' = 0 := by simpa using h2
    subst h2
    simp only [Prod.mk.injEq, and_true] at h
    obtain ⟨rfl, rfl⟩ := h
    obtain ⟨a1, a2, a3⟩ := one_back hk.1 ho
    obtain ⟨b1, b2, b3, b4⟩ := dec_back fs (b.drop m) l' m' hk.2 hd
    rw [List.length_drop] at b1
    refine ⟨by omega, by simp [b2], fun x hx => ?_, ?_⟩
    · rcases List.mem_cons.1 hx with rfl | hx
      · exact one_num_lt hk.1 ho
      · exact b3 x hx
    · rw [encL_cons, b4]
      simp [a1, a3, List.take_add]
theorem encR_ok {fs : List UInt8} {l : List Val} (h : (encR fs l).2 = 0) : fs.length ≤ 64 ∧ fs.all isK = true ∧ l.length = fs.length ∧ encL fs l = ((encR fs l).1, 0) ∧ (encR fs l).1.length ≤ 4000 := by
  unfold encR at h ⊢
  by_cases h1 : formE fs = 0
  · rw [if_neg (by simp [h1])] at h ⊢
    by_cases h2 : l.length = fs.length
    · rw [if_neg (by simp [h2])] at h ⊢
      by_cases h3 : (encL fs l).2 = 0
      · rw [if_neg (by simp [h3])] at h ⊢
        by_cases h4 : 4000 < (encL fs l).1.length
        · rw [if_pos h4] at h; simp at h
        · rw [if_neg h4]
          unfold formE at h1
          by_cases h5 : 64 < fs.length
          · rw [if_pos h5] at h1; simp at h1
          · rw [if_neg h5] at h1
            by_cases h6 : fs.all isK = true
            · exact ⟨by omega, h6, h2, by rw [← h3], by simpa using h4⟩
            · rw [if_neg h6] at h1; simp at h1
      · rw [if_pos h3] at h; exact absurd h h3
    · rw [if_pos h2] at h; simp at h
  · rw [if_pos h1] at h; exact absurd h h1
theorem formE_ok {fs : List UInt8} (h1 : fs.length ≤ 64) (h2 : fs.all isK = true) : formE fs = 0 := by unfold formE; rw [if_neg (by omega), if_pos h2]
theorem formE_zero {fs : List UInt8} (h : formE fs = 0) : fs.length ≤ 64 ∧ fs.all isK = true := by
  unfold formE at h
  by_cases h5 : 64 < fs.length
  · rw [if_pos h5] at h; simp at h
  · rw [if_neg h5] at h
    by_cases h6 : fs.all isK = true
    · exact ⟨by omega, h6⟩
    · rw [if_neg h6] at h; simp at h
/-- P5.6. -/
theorem round {fs : List UInt8} {l : List Val} (rest : List UInt8) (hn : okN l) (h : (encR fs l).2 = 0) : decR fs ((encR fs l).1 ++ rest) = (l, (encR fs l).1.length, 0) := by
  obtain ⟨h1, h2, h3, h4, h5⟩ := encR_ok h
  have hd := dec_enc fs l _ rest h2 h3 hn h4
  unfold decR
  rw [formE_ok h1 h2, hd]
  simp only [ne_eq, not_true_eq_false, if_false]
  rw [if_neg (by omega)]
theorem round_part {fs : List UInt8} {l : List Val} (k : Nat) (hn : okN l) (h : (encR fs l).2 = 0) (hk : k < (encR fs l).1.length) : decR fs ((encR fs l).1.take k) = ([], 0, 10) := by
  obtain ⟨h1, h2, h3, h4, h5⟩ := encR_ok h
  have hd := dec_part fs l _ k h2 h3 hn h4 hk
  unfold decR
  rw [formE_ok h1 h2, hd]
  simp
theorem encR_bad {fs : List UInt8} {l : List Val} (h : (encR fs l).2 ≠ 0) : (encR fs l).1 = [] := by
  unfold encR at h ⊢
  repeat (first | (split at h; rfl) | (split; rfl))
  all_goals simp_all
/-- P5.7. -/
theorem decR_bad {fs b : List UInt8} (h : (decR fs b).2.2 ≠ 0) : decR fs b = ([], 0, (decR fs b).2.2) := by
  unfold decR at h ⊢
  by_cases h1 : formE fs = 0
  · rw [if_neg (by simp [h1])] at h ⊢
    by_cases h3 : (dec fs b).2.2 = 0
    · rw [if_neg (by simp [h3])] at h ⊢
      by_cases h4 : 4000 < (dec fs b).2.1
      · rw [if_pos h4]
      · rw [if_neg h4] at h; exact absurd h3 h
    · rw [if_pos h3]
  · rw [if_pos h1]
theorem decR_ok {fs b : List UInt8} (h : (decR fs b).2.2 = 0) : formE fs = 0 ∧ decR fs b = dec fs b ∧ (dec fs b).2.2 = 0 ∧ (dec fs b).2.1 ≤ 4000 := by
  unfold decR at h ⊢
  by_cases h1 : formE fs = 0
  · rw [if_neg (by simp [h1])] at h ⊢
    by_cases h3 : (dec fs b).2.2 = 0
    · rw [if_neg (by simp [h3])] at h ⊢
      by_cases h4 : 4000 < (dec fs b).2.1
      · rw [if_pos h4] at h; simp at h
      · rw [if_neg h4]; exact ⟨h1, rfl, h3, by omega⟩
    · rw [if_pos h3] at h; exact absurd h h3
  · rw [if_pos h1] at h; exact absurd h h1
theorem back {fs b : List UInt8} (h : (decR fs b).2.2 = 0) : (decR fs b).2.1 ≤ b.length ∧ okN (decR fs b).1 ∧ encR fs (decR fs b).1 = (b.take (decR fs b).2.1, 0) := by
  obtain ⟨h1, h2, h3, h4⟩ := decR_ok h
  obtain ⟨f1, f2⟩ := formE_zero h1
  rw [h2]
  obtain ⟨a1, a2, a3, a4⟩ := dec_back fs b _ _ f2 (show dec fs b = ((dec fs b).1, (dec fs b).2.1, 0) by rw [← h3])
  refine ⟨a1, a3, ?_⟩
  unfold encR
  rw [h1, a4, if_neg (by simp), if_neg (by simp [a2]), if_neg (by simp), if_neg (by rw [List.length_take]; omega)]
/-- P5.8. -/
theorem both {s t : List UInt8} {l m : List Val} (h1 : (encR s l).2 = 0) (h2 : (encR t m).2 = 0) (hs : s.length ≤ 32) (ht : t.length ≤ 32) :
    encR (s ++ t) (l ++ m) = if 4000 < (encR s l).1.length + (encR t m).1.length then ([], 3) else ((encR s l).1 ++ (encR t m).1, 0) := by
  obtain ⟨a1, a2, a3, a4, a5⟩ := encR_ok h1
  obtain ⟨b1, b2, b3, b4, b5⟩ := encR_ok h2
  have he := encL_app s t l m a3.symm
  rw [a4, b4] at he
  simp only [ne_eq, not_true_eq_false, if_false] at he
  obtain ⟨x, hx⟩ : ∃ x, x = (encR s l).1 := ⟨_, rfl⟩
  obtain ⟨y, hy⟩ : ∃ y, y = (encR t m).1 := ⟨_, rfl⟩
  rw [← hx, ← hy] at he ⊢
  unfold encR
  rw [formE_ok (by rw [List.length_append]; omega) (by rw [List.all_append, a2, b2]; rfl), he, if_neg (by simp), if_neg (by simp; omega), if_neg (by simp)]
  simp only [List.length_append]
end Go.Proofs.Ytelpgjaagkojeaa.Rm
