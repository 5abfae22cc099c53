/- Plain facts on names and paths: what is wrong with them, their order, what two have in common, their texts. No condition. -/
import Derived.Test.YtgfmfeaapffdfaaDoorBase
import Derived.Lib.Bytealg
namespace Go.Proofs.YtgfmfeaapffdfaaDoor

abbrev Path := List ByteArray

/-! ### names -/
def okB (c : UInt8) : Bool := decide (33 ≤ (c.toNat : Int)) && (decide ((c.toNat : Int) ≤ 126) && !((c.toNat : Int) == 47))
def oddName (s : ByteArray) : Bool := s.toList == [] || (s.toList == [46] || s.toList == [46, 46])
def nameE (s : ByteArray) : Nat := if oddName s = true then 6 else if (bs s).all okB then (if 24 < s.size then 3 else 0) else 6
theorem nameE_cases (s : ByteArray) : nameE s = 0 ∨ nameE s = 3 ∨ nameE s = 6 := by
  unfold nameE
  split
  · simp
  · split
    · split <;> simp
    · simp
theorem nameE_ok {s : ByteArray} (h : nameE s = 0) : 0 < s.size ∧ s.size ≤ 24 ∧ (bs s).all okB = true ∧ oddName s = false := by
  unfold nameE at h
  split at h
  · cases h
  · rename_i ho
    split at h
    · rename_i ha
      split at h
      · cases h
      · refine ⟨?_, by omega, ha, by simpa using ho⟩
        rcases Nat.eq_zero_or_pos s.size with h0 | h0
        · exfalso; apply ho; unfold oddName; rw [toList_nil s h0]; rfl
        · exact h0
    · cases h
def pathE : Path → Nat | [] => 0 | s :: r => if nameE s = 0 then pathE r else nameE s
def checkE (p : Path) : Nat := if 8 < p.length then 3 else pathE p
theorem pathE_zero : ∀ (p : Path), pathE p = 0 ↔ ∀ s ∈ p, nameE s = 0
  | [] => by simp [pathE]
  | s :: r => by
    unfold pathE
    by_cases h : nameE s = 0
    · rw [if_pos h, pathE_zero r]; simp [h]
    · rw [if_neg h]; simp [h]
theorem checkE_zero (p : Path) : checkE p = 0 ↔ p.length ≤ 8 ∧ ∀ s ∈ p, nameE s = 0 := by
  unfold checkE
  by_cases h : 8 < p.length
  · rw [if_pos h]; simp; omega
  · rw [if_neg h, pathE_zero]; simp; omega
theorem pathE_step (p : Path) (k : Nat) (h : k < p.length) (h0 : nameE p[k] = 0) : pathE (p.drop k) = pathE (p.drop (k + 1)) := by
  rw [List.drop_eq_getElem_cons h]; show (if nameE p[k] = 0 then _ else _) = _; rw [if_pos h0]
theorem pathE_stop (p : Path) (k : Nat) (h : k < p.length) (h0 : nameE p[k] ≠ 0) : pathE (p.drop k) = nameE p[k] := by
  rw [List.drop_eq_getElem_cons h]; show (if nameE p[k] = 0 then _ else _) = _; rw [if_neg h0]

/-! ### the order -/
open Go.Op (bytesLess) in
theorem bl_irrefl : ∀ (a : List UInt8), bytesLess a a = false
  | [] => by unfold bytesLess; rfl
  | a :: x => by unfold bytesLess; simp [bl_irrefl x, UInt8.lt_irrefl]
open Go.Op (bytesLess) in
theorem bl_total : ∀ (a b : List UInt8), bytesLess a b = false → bytesLess b a = false → a = b
  | [], [] => by simp
  | [], _ :: _ => by simp [bytesLess]
  | _ :: _, [] => by simp [bytesLess]
  | a :: x, b :: y => by
    unfold bytesLess
    intro h1 h2
    simp only [Bool.or_eq_false_iff, decide_eq_false_iff_not, Bool.and_eq_false_imp, beq_iff_eq] at h1 h2
    have hab : a = b := UInt8.le_antisymm (UInt8.not_lt.1 h2.1) (UInt8.not_lt.1 h1.1)
    rw [hab, bl_total x y (h1.2 hab) (h2.2 hab.symm)]
open Go.Op (bytesLess) in
theorem bl_asymm : ∀ (a b : List UInt8), bytesLess a b = true → bytesLess b a = false
  | [], [] => by simp [bytesLess]
  | [], _ :: _ => by simp [bytesLess]
  | _ :: _, [] => by simp [bytesLess]
  | a :: x, b :: y => by
    unfold bytesLess
    intro h
    simp only [Bool.or_eq_true, decide_eq_true_eq, Bool.and_eq_true, beq_iff_eq] at h
    simp only [Bool.or_eq_false_iff, decide_eq_false_iff_not, Bool.and_eq_false_imp, beq_iff_eq]
    rcases h with h | ⟨rfl, h⟩
    · exact ⟨UInt8.not_lt.2 (UInt8.le_of_lt h), fun e => by subst e; exact (UInt8.lt_irrefl _ h).elim⟩
    · exact ⟨UInt8.lt_irrefl _, fun _ => bl_asymm x y h⟩
open Go.Op (bytesLess) in
theorem bl_trans : ∀ (a b c : List UInt8), bytesLess a b = true → bytesLess b c = true → bytesLess a c = true
  | [], [], _ => by simp [bytesLess]
  | _ :: _, [], _ => by simp [bytesLess]
  | _, _ :: _, [] => by simp [bytesLess]
  | [], _ :: _, _ :: _ => by simp [bytesLess]
  | a :: x, b :: y, c :: z => by
    unfold bytesLess
    simp only [Bool.or_eq_true, decide_eq_true_eq, Bool.and_eq_true, beq_iff_eq]
    rintro (h | ⟨rfl, h⟩) (k | ⟨rfl, k⟩)
    · exact .inl (UInt8.lt_trans h k)
    · exact .inl h
    · exact .inl k
    · exact .inr ⟨rfl, bl_trans x y z h k⟩
def nl (a b : ByteArray) : Bool := Go.Op.bytesLess a.toList b.toList
theorem nl_irrefl (a : ByteArray) : nl a a = false := bl_irrefl _
theorem toList_inj {a b : ByteArray} (h : a.toList = b.toList) : a = b := by rw [Lib.toList_data, Lib.toList_data] at h; exact bs_inj h
theorem nl_total {a b : ByteArray} (h : nl a b = false) (k : nl b a = false) : a = b := toList_inj (bl_total _ _ h k)
theorem nl_asymm {a b : ByteArray} (h : nl a b = true) : nl b a = false := bl_asymm _ _ h
theorem nl_trans {a b c : ByteArray} (h : nl a b = true) (k : nl b c = true) : nl a c = true := bl_trans _ _ _ h k
def pl : Path → Path → Bool
  | _, [] => false
  | [], _ :: _ => true
  | a :: x, b :: y => if a = b then pl x y else nl a b
theorem pl_irrefl : ∀ (a : Path), pl a a = false
  | [] => by simp [pl]
  | a :: x => by simp [pl, pl_irrefl x]
theorem pl_total : ∀ (a b : Path), pl a b = false → pl b a = false → a = b
  | [], [] => by simp
  | [], _ :: _ => by simp [pl]
  | _ :: _, [] => by simp [pl]
  | a :: x, b :: y => by
    unfold pl
    intro h1 h2
    by_cases e : a = b
    · subst e; simp only [if_true] at h1 h2; rw [pl_total x y h1 h2]
    · rw [if_neg e] at h1; rw [if_neg (Ne.symm e)] at h2; exact (e (nl_total h1 h2)).elim
theorem pl_asymm : ∀ (a b : Path), pl a b = true → pl b a = false
  | [], [] => by simp [pl]
  | [], _ :: _ => by simp [pl]
  | _ :: _, [] => by simp [pl]
  | a :: x, b :: y => by
    unfold pl
    intro h
    by_cases e : a = b
    · subst e; simp only [if_true] at h ⊢; exact pl_asymm x y h
    · rw [if_neg e] at h; rw [if_neg (Ne.symm e)]; exact nl_asymm h
theorem pl_trans : ∀ (a b c : Path), pl a b = true → pl b c = true → pl a c = true
  | [], [], _ => by simp [pl]
  | _ :: _, [], _ => by simp [pl]
  | _, _ :: _, [] => by simp [pl]
  | [], _ :: _, _ :: _ => by simp [pl]
  | a :: x, b :: y, c :: z => by
    unfold pl
    by_cases e : a = b
    · subst e
      by_cases e2 : a = c
      · subst e2; simp only [if_true]; exact pl_trans x y z
      · simp only [if_true, if_neg e2]; intro _ k; exact k
    · by_cases e2 : b = c
      · subst e2; simp only [if_neg e, if_true]; intro h _; exact h
      · rw [if_neg e, if_neg e2]
        intro h k
        have := nl_trans h k
        by_cases e3 : a = c
        · subst e3; rw [nl_irrefl] at this; cases this
        · rw [if_neg e3]; exact this
def pc (a b : Path) : Int := if pl a b = true then -1 else if pl b a = true then 1 else 0
theorem pc_zero (a b : Path) : pc a b = 0 ↔ a = b := by
  unfold pc
  constructor
  · intro h
    split at h
    · cases h
    · split at h
      · cases h
      · rename_i h1 h2; exact pl_total a b (by simpa using h1) (by simpa using h2)
  · rintro rfl; simp [pl_irrefl]
theorem pc_neg (a b : Path) : pc a b = - pc b a := by
  unfold pc
  by_cases h : pl a b = true
  · have := pl_asymm _ _ h; rw [if_pos h, if_neg (by simp [this]), if_pos h]
  · by_cases k : pl b a = true
    · rw [if_neg h, if_pos k, if_pos k]; rfl
    · rw [if_neg h, if_neg k, if_neg k, if_neg h]; rfl
theorem pc_range (a b : Path) : -1 ≤ pc a b ∧ pc a b ≤ 1 := by
  unfold pc
  split
  · simp
  · split <;> simp
theorem pc_lt (a b : Path) : pc a b = -1 ↔ pl a b = true := by
  unfold pc
  by_cases h : pl a b = true
  · simp [h]
  · by_cases k : pl b a = true <;> simp [h, k]
theorem pc_le (a b : Path) : pc a b ≤ 0 ↔ pl b a = false := by
  unfold pc
  by_cases h : pl a b = true
  · simp [h, pl_asymm _ _ h]
  · by_cases k : pl b a = true <;> simp [h, k]
theorem pl_le_trans {a b c : Path} (h : pl b a = false) (k : pl c b = false) : pl c a = false := by
  cases e : pl c a with
  | false => rfl
  | true =>
    exfalso
    cases e2 : pl a b with
    | true => have := pl_trans _ _ _ e e2; rw [this] at k; cases k
    | false =>
      have := pl_total _ _ e2 h
      subst this; rw [e] at k; cases k

/-! ### what is common -/
def cn : Path → Path → Nat
  | a :: x, b :: y => if a = b then cn x y + 1 else 0
  | _, _ => 0
theorem cn_le : ∀ (p q : Path), cn p q ≤ p.length ∧ cn p q ≤ q.length
  | [], _ => by simp [cn]
  | _ :: _, [] => by simp [cn]
  | a :: x, b :: y => by
    unfold cn
    have := cn_le x y
    split <;> simp <;> omega
theorem cn_comm : ∀ (p q : Path), cn p q = cn q p
  | [], [] => rfl
  | [], _ :: _ => rfl
  | _ :: _, [] => rfl
  | a :: x, b :: y => by
    unfold cn
    by_cases e : a = b
    · subst e; simp only [if_true]; rw [cn_comm x y]
    · rw [if_neg e, if_neg (Ne.symm e)]
theorem cn_take : ∀ (p q : Path), p.take (cn p q) = q.take (cn p q)
  | [], _ => by simp [cn]
  | _ :: _, [] => by simp [cn]
  | a :: x, b :: y => by
    unfold cn
    by_cases e : a = b
    · subst e; simp only [if_true, List.take_succ_cons]; rw [cn_take x y]
    · rw [if_neg e]; simp
theorem cn_diff : ∀ (p q : Path) (h1 : cn p q < p.length) (h2 : cn p q < q.length), p[cn p q] ≠ q[cn p q]
  | [], _, h1, _ => by simp at h1
  | _ :: _, [], _, h2 => by simp at h2
  | a :: x, b :: y, h1, h2 => by
    by_cases e : a = b
    · subst e
      have hc : cn (a :: x) (a :: y) = cn x y + 1 := by show (if a = a then cn x y + 1 else 0) = _; rw [if_pos rfl]
      have := cn_diff x y (by rw [hc] at h1; simpa using h1) (by rw [hc] at h2; simpa using h2)
      simp only [hc, List.getElem_cons_succ]; exact this
    · have hc : cn (a :: x) (b :: y) = 0 := by unfold cn; rw [if_neg e]
      simp only [hc, List.getElem_cons_zero]; exact e
theorem cn_prefix : ∀ (q r : Path), cn (q ++ r) q = q.length
  | [], [] => rfl
  | [], _ :: _ => rfl
  | a :: x, r => by
    show (if a = a then cn (x ++ r) x + 1 else 0) = _
    rw [if_pos rfl, cn_prefix x r]; rfl
def un (p q : Path) : Bool := cn p q == q.length
theorem un_iff (p q : Path) : un p q = true ↔ ∃ r, p = q ++ r := by
  unfold un
  rw [beq_iff_eq]
  constructor
  · intro h
    have := cn_take p q
    rw [h, List.take_length] at this
    exact ⟨p.drop q.length, by conv => lhs; rw [← List.take_append_drop q.length p]
                               rw [this]⟩
  · rintro ⟨r, rfl⟩; exact cn_prefix q r
theorem un_take (p : Path) (n : Nat) : un p (p.take n) = true := (un_iff _ _).2 ⟨p.drop n, (List.take_append_drop n p).symm⟩
theorem cn_take_of (p q : Path) (k : Nat) (h1 : k < p.length) (h2 : k < q.length) (h : p.take k = q.take k) (e : p[k] = q[k]) : p.take (k + 1) = q.take (k + 1) := by
  rw [List.take_succ_eq_append_getElem h1, List.take_succ_eq_append_getElem h2, h, e]
theorem cn_eq : ∀ (k : Nat) (p q : Path), k ≤ p.length → k ≤ q.length → p.take k = q.take k → cn p q = k + cn (p.drop k) (q.drop k)
  | 0, p, q, _, _, _ => by simp
  | k + 1, [], q, h, _, _ => by simp at h
  | k + 1, _ :: _, [], _, h, _ => by simp at h
  | k + 1, a :: x, b :: y, h1, h2, h => by
    simp only [List.take_succ_cons, List.cons.injEq] at h
    obtain ⟨rfl, h⟩ := h
    show (if a = a then cn x y + 1 else 0) = _
    rw [if_pos rfl, cn_eq k x y (by simpa using h1) (by simpa using h2) h]
    simp only [List.drop_succ_cons]; omega
theorem cn_stop (p q : Path) (k : Nat) (h1 : k < p.length) (h2 : k < q.length) (h : p.take k = q.take k) (e : p[k] ≠ q[k]) : cn p q = k := by
  rw [cn_eq k p q (by omega) (by omega) h, List.drop_eq_getElem_cons h1, List.drop_eq_getElem_cons h2]
  show k + (if p[k] = q[k] then _ else 0) = k
  rw [if_neg e]; rfl
theorem cn_end (p q : Path) (k : Nat) (h1 : k ≤ p.length) (h2 : k ≤ q.length) (hk : k = p.length ∨ k = q.length) (h : p.take k = q.take k) : cn p q = k := by
  have := cn_le p q
  rw [cn_eq k p q h1 h2 h]
  rcases hk with rfl | rfl
  · rw [List.drop_length]; simp [cn]
  · rw [List.drop_length]
    cases p.drop q.length <;> simp [cn]
theorem pl_eq : ∀ (k : Nat) (p q : Path), k ≤ p.length → k ≤ q.length → p.take k = q.take k → pl p q = pl (p.drop k) (q.drop k)
  | 0, p, q, _, _, _ => by simp
  | k + 1, [], q, h, _, _ => by simp at h
  | k + 1, _ :: _, [], _, h, _ => by simp at h
  | k + 1, a :: x, b :: y, h1, h2, h => by
    simp only [List.take_succ_cons, List.cons.injEq] at h
    obtain ⟨rfl, h⟩ := h
    show (if a = a then pl x y else _) = _
    rw [if_pos rfl, pl_eq k x y (by simpa using h1) (by simpa using h2) h]
    simp only [List.drop_succ_cons]
theorem pl_stop (p q : Path) (k : Nat) (h1 : k < p.length) (h2 : k < q.length) (h : p.take k = q.take k) (e : p[k] ≠ q[k]) : pl p q = nl p[k] q[k] := by
  rw [pl_eq k p q (by omega) (by omega) h, List.drop_eq_getElem_cons h1, List.drop_eq_getElem_cons h2]
  show (if p[k] = q[k] then _ else _) = _
  rw [if_neg e]
theorem pl_end (p q : Path) (k : Nat) (h1 : k ≤ p.length) (h2 : k ≤ q.length) (hk : k = p.length ∨ k = q.length) (h : p.take k = q.take k) : pl p q = decide (p.length < q.length) := by
  rw [pl_eq k p q h1 h2 h]
  by_cases hq : k = q.length
  · subst hq
    rw [List.drop_length]
    cases hd : p.drop q.length <;> simp [pl] <;> omega
  · have hp : k = p.length := by omega
    subst hp
    rw [List.drop_length]
    rw [List.drop_eq_getElem_cons (show p.length < q.length by omega)]
    simp [pl]; omega
theorem pl_app : ∀ (c a b : Path), pl (c ++ a) (c ++ b) = pl a b
  | [], a, b => rfl
  | x :: c, a, b => by show (if x = x then pl (c ++ a) (c ++ b) else _) = _; rw [if_pos rfl, pl_app c a b]
theorem pc_app (c a b : Path) : pc (c ++ a) (c ++ b) = pc a b := by unfold pc; rw [pl_app, pl_app]
theorem pl_under (a b : Path) (h : un a b = true) : pl a b = false := by
  obtain ⟨r, rfl⟩ := (un_iff a b).1 h
  have := pl_app b r []
  rw [List.append_nil] at this
  rw [this]; cases r <;> rfl
theorem un_common (p q : Path) : un p q = decide (p.take (cn p q) = q) := by
  rw [Bool.eq_iff_iff, decide_eq_true_eq, un_iff]
  constructor
  · rintro ⟨r, rfl⟩; rw [cn_prefix, List.take_left']; rfl
  · intro h; exact ⟨p.drop (cn p q), by conv => lhs; rw [← List.take_append_drop (cn p q) p]
                                        rw [h]⟩

/-! ### names as arrays -/
def pad : Nat → List UInt8 → List UInt8
  | 0, _ => []
  | n + 1, [] => 0 :: pad n []
  | n + 1, c :: l => c :: pad n l
theorem pad_len : ∀ (n : Nat) (l : List UInt8), (pad n l).length = n
  | 0, _ => rfl
  | n + 1, [] => by simp [pad, pad_len n []]
  | n + 1, c :: l => by simp [pad, pad_len n l]
theorem pad_same : ∀ (n : Nat) (a b : List UInt8), a.length ≤ n → b.length ≤ n → (∀ c ∈ a, c ≠ 0) → (∀ c ∈ b, c ≠ 0) → pad n a = pad n b → a = b
  | 0, [], [], _, _, _, _, _ => rfl
  | 0, _ :: _, _, h, _, _, _, _ => by simp at h
  | 0, _, _ :: _, _, h, _, _, _ => by simp at h
  | n + 1, [], [], _, _, _, _, _ => rfl
  | n + 1, [], b :: y, _, _, _, h, e => by simp only [pad, List.cons.injEq] at e; exact (h b (by simp) e.1.symm).elim
  | n + 1, a :: x, [], _, _, h, _, e => by simp only [pad, List.cons.injEq] at e; exact (h a (by simp) e.1).elim
  | n + 1, a :: x, b :: y, h1, h2, h3, h4, e => by
    simp only [pad, List.cons.injEq] at e
    rw [e.1, pad_same n x y (by simpa using h1) (by simpa using h2) (fun c hc => h3 c (by simp [hc])) (fun c hc => h4 c (by simp [hc])) e.2]
theorem pad_cmp : ∀ (n : Nat) (a b : List UInt8), a.length ≤ n → b.length ≤ n → (∀ c ∈ a, c ≠ 0) → (∀ c ∈ b, c ≠ 0) →
    Lib.compareBytes (pad n a) (pad n b) = if Go.Op.bytesLess a b = true then -1 else if Go.Op.bytesLess b a = true then 1 else 0
  | 0, [], [], _, _, _, _ => by simp [pad, Lib.compareBytes, Go.Op.bytesLess]
  | 0, _ :: _, _, h, _, _, _ => by simp at h
  | 0, _, _ :: _, _, h, _, _ => by simp at h
  | n + 1, [], [], _, _, _, _ => by
    have := pad_cmp n [] [] (by simp) (by simp) (by simp) (by simp)
    simpa [pad, Lib.compareBytes, Go.Op.bytesLess, UInt8.lt_irrefl] using this
  | n + 1, [], b :: y, _, _, _, h => by
    have hb : (0 : UInt8) < b := UInt8.lt_of_le_of_ne (UInt8.le_iff_toNat_le.2 (by simp)) (Ne.symm (h b (by simp)))
    simp [pad, Lib.compareBytes, Go.Op.bytesLess, hb]
  | n + 1, a :: x, [], _, _, h, _ => by
    have ha : (0 : UInt8) < a := UInt8.lt_of_le_of_ne (UInt8.le_iff_toNat_le.2 (by simp)) (Ne.symm (h a (by simp)))
    have ha2 : ¬ a < 0 := UInt8.not_lt.2 (UInt8.le_of_lt ha)
    simp [pad, Lib.compareBytes, Go.Op.bytesLess, ha, ha2]
  | n + 1, a :: x, b :: y, h1, h2, h3, h4 => by
    have ih := pad_cmp n x y (by simpa using h1) (by simpa using h2) (fun c hc => h3 c (by simp [hc])) (fun c hc => h4 c (by simp [hc]))
    unfold pad Lib.compareBytes Go.Op.bytesLess
    by_cases h : a < b
    · simp [h]
    · by_cases k : b < a
      · have hne : ¬ a = b := fun e => by subst e; exact h k
        simp [h, k, hne]
      · have e : a = b := UInt8.le_antisymm (UInt8.not_lt.1 k) (UInt8.not_lt.1 h)
        subst e
        simp only [h, if_false, ih]; simp
theorem okB_ne {c : UInt8} (h : okB c = true) : c ≠ 0 := by rintro rfl; revert h; decide
theorem name_bytes {s : ByteArray} (h : nameE s = 0) : ∀ c ∈ bs s, c ≠ 0 := fun c hc => okB_ne (List.all_eq_true.1 (nameE_ok h).2.2.1 c hc)
def padN (s : ByteArray) : List UInt8 := pad 24 (bs s)
theorem padN_len (s : ByteArray) : (padN s).length = 24 := pad_len _ _
theorem padN_inj {s t : ByteArray} (hs : nameE s = 0) (ht : nameE t = 0) : padN s = padN t ↔ s = t := by
  constructor
  · intro h
    exact bs_inj (pad_same 24 _ _ (by rw [bs_len]; exact (nameE_ok hs).2.1) (by rw [bs_len]; exact (nameE_ok ht).2.1) (name_bytes hs) (name_bytes ht) h)
  · rintro rfl; rfl
theorem padN_cmp {s t : ByteArray} (hs : nameE s = 0) (ht : nameE t = 0) (hne : s ≠ t) : Lib.compareBytes (padN s) (padN t) = if nl s t = true then -1 else 1 := by
  have h := pad_cmp 24 (bs s) (bs t) (by rw [bs_len]; exact (nameE_ok hs).2.1) (by rw [bs_len]; exact (nameE_ok ht).2.1) (name_bytes hs) (name_bytes ht)
  unfold padN nl
  rw [h, Lib.toList_data, Lib.toList_data]
  change (if Go.Op.bytesLess (bs s) (bs t) = true then (-1 : Int) else _) = if Go.Op.bytesLess (bs s) (bs t) = true then -1 else 1
  split
  · rfl
  · rename_i h1
    rw [if_pos]
    cases h2 : Go.Op.bytesLess (bs t) (bs s) with
    | true => rfl
    | false => exact (hne (bs_inj (bl_total _ _ (by simpa using h1) h2))).elim
/-- What compare returns where the names part. -/
theorem pc_stop {p q : Path} (k : Nat) (h1 : k < p.length) (h2 : k < q.length) (h : p.take k = q.take k) (e : p[k] ≠ q[k]) (hp : nameE p[k] = 0) (hq : nameE q[k] = 0) : Lib.compareBytes (padN p[k]) (padN q[k]) = pc p q := by
  rw [padN_cmp hp hq e]
  unfold pc
  rw [pl_stop p q k h1 h2 h e]
  split
  · rfl
  · rename_i h3
    rw [if_pos]
    rw [pl_stop q p k h2 h1 h.symm (Ne.symm e)]
    cases h4 : nl q[k] p[k] with
    | true => rfl
    | false => exact (e (nl_total (by simpa using h3) h4)).elim
theorem pc_end {p q : Path} (k : Nat) (h1 : k ≤ p.length) (h2 : k ≤ q.length) (hk : k = p.length ∨ k = q.length) (h : p.take k = q.take k) : pc p q = if (p.length : Int) < q.length then -1 else if (q.length : Int) < p.length then 1 else 0 := by
  unfold pc
  rw [pl_end p q k h1 h2 hk h, pl_end q p k h2 h1 hk.symm h.symm]
  simp
end Go.Proofs.YtgfmfeaapffdfaaDoor
