/- Plain facts on searches and counts. No condition. -/
import Derived.Test.YtanppmpijadhbaaRun
namespace Go.Proofs.Ytanppmpijadhbaa

theorem searchF_some {p : Nat → Bool} : ∀ {m i q : Nat}, searchF p i m = some q → i ≤ q ∧ q < i + m ∧ p q = true ∧ ∀ j, i ≤ j → j < q → p j = false
  | 0, i, q, h => by unfold searchF at h; cases h
  | m + 1, i, q, h => by
    unfold searchF at h
    by_cases hp : p i = true
    · rw [if_pos hp] at h
      obtain rfl := Option.some.inj h
      exact ⟨Nat.le_refl _, by omega, hp, fun j h1 h2 => by omega⟩
    · rw [if_neg hp] at h
      obtain ⟨h1, h2, h3, h4⟩ := searchF_some h
      refine ⟨by omega, by omega, h3, fun j h5 h6 => ?_⟩
      by_cases e : j = i
      · rw [e]; simpa using hp
      · exact h4 j (by omega) h6
theorem searchF_none {p : Nat → Bool} : ∀ {m i : Nat}, searchF p i m = none → ∀ j, i ≤ j → j < i + m → p j = false
  | 0, i, _, j, h1, h2 => by omega
  | m + 1, i, h, j, h1, h2 => by
    unfold searchF at h
    by_cases hp : p i = true
    · rw [if_pos hp] at h; cases h
    · rw [if_neg hp] at h
      by_cases e : j = i
      · rw [e]; simpa using hp
      · exact searchF_none h j (by omega) (by omega)
theorem runO_some {f : Nat → Bool} {n a k p : Nat} {v : Bool} (h : runO f n a k v = some p) : a ≤ p ∧ p + k ≤ n ∧ allB f v p k = true ∧ ∀ j, a ≤ j → j < p → allB f v j k = false := by
  obtain ⟨h1, h2, h3, h4⟩ := searchF_some h
  exact ⟨h1, by omega, h3, h4⟩
theorem runO_none {f : Nat → Bool} {n a k : Nat} {v : Bool} (h : runO f n a k v = none) (j : Nat) (h1 : a ≤ j) (h2 : j + k ≤ n) : allB f v j k = false :=
  searchF_none h j h1 (by omega)
theorem cnt_all {f : Nat → Bool} {i : Nat} : ∀ k, cnt f i k = k ↔ allB f true i k = true
  | 0 => by simp [cnt, allB]
  | k + 1 => by
    have ih := cnt_all (f := f) (i := i) k
    have hle := cnt_le f i k
    have e : allB f true i (k + 1) = (allB f true i k && f (i + k)) := by
      unfold allB
      rw [List.range_succ, List.all_append]
      simp
    rw [e]
    unfold cnt
    cases hf : f (i + k)
    · simp; omega
    · simp only [Bool.toNat_true, Bool.and_true, ← ih]; omega
theorem cnt_none {f : Nat → Bool} {i : Nat} : ∀ k, (∀ j, i ≤ j → j < i + k → f j = false) → cnt f i k = 0
  | 0, _ => rfl
  | k + 1, h => by
    unfold cnt
    rw [cnt_none k fun j h1 h2 => h j h1 (by omega), h (i + k) (by omega) (by omega)]; rfl
theorem cnt_full {f : Nat → Bool} {i k : Nat} (h : ∀ j, i ≤ j → j < i + k → f j = true) : cnt f i k = k := (cnt_all k).2 (allB_true.2 h)
theorem allB_one {f : Nat → Bool} {v : Bool} {i : Nat} : allB f v i 1 = (f i == v) := by
  unfold allB; simp
/-- What Next finds. -/
theorem next_some {f : Nat → Bool} {n a p : Nat} {v : Bool} (h : runO f n a 1 v = some p) : a ≤ p ∧ p < n ∧ f p = v ∧ ∀ j, a ≤ j → j < p → f j = !v := by
  obtain ⟨h1, h2, h3, h4⟩ := runO_some h
  rw [allB_one] at h3
  refine ⟨h1, h2, by simpa using h3, fun j h5 h6 => ?_⟩
  have := h4 j h5 h6
  rw [allB_one] at this
  revert this
  cases f j <;> cases v <;> simp
theorem next_none {f : Nat → Bool} {n a : Nat} {v : Bool} (h : runO f n a 1 v = none) (j : Nat) (h1 : a ≤ j) (h2 : j < n) : f j = !v := by
  have := runO_none h j h1 h2
  rw [allB_one] at this
  revert this
  cases f j <;> cases v <;> simp
theorem last_here {f : Nat → Bool} {v : Bool} {p : Nat} (h : f p = v) : lastF f v (p + 1) = some p := by
  unfold lastF; rw [if_pos h]
theorem optV_some (p : Nat) : optV (some p) = .tuple #[.int .i64 (p : Nat), .int .i64 0] := rfl
theorem optV_none : optV none = .tuple #[.int .i64 0, .int .i64 4] := rfl
end Go.Proofs.Ytanppmpijadhbaa
