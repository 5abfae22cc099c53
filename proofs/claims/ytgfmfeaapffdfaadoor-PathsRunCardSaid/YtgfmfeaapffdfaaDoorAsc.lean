/- Ascending lists of paths: they are unique, insertion keeps them, and those under one path stand together. Pure facts. No condition. -/
import Derived.Test.YtgfmfeaapffdfaaDoorFar
namespace Go.Proofs.YtgfmfeaapffdfaaDoor

/-- Each path is less than every later one. -/
def Asc (l : List Path) : Prop := l.Pairwise (fun a b => pl a b = true)
theorem asc_cons {x : Path} {l : List Path} : Asc (x :: l) ↔ (∀ y ∈ l, pl x y = true) ∧ Asc l := List.pairwise_cons
theorem asc_unique : ∀ (a b : List Path), Asc a → Asc b → (∀ x, x ∈ a ↔ x ∈ b) → a = b
  | [], [], _, _, _ => rfl
  | [], y :: b, _, _, h => absurd ((h y).2 (by simp)) (by simp)
  | x :: a, [], _, _, h => absurd ((h x).1 (by simp)) (by simp)
  | x :: a, y :: b, ha, hb, h => by
    obtain ⟨ha1, ha2⟩ := asc_cons.1 ha
    obtain ⟨hb1, hb2⟩ := asc_cons.1 hb
    have e : x = y := by
      rcases List.mem_cons.1 ((h x).1 (by simp)) with e | hx
      · exact e
      · rcases List.mem_cons.1 ((h y).2 (by simp)) with e | hy
        · exact e.symm
        · have h1 := hb1 x hx
          have h2 := ha1 y hy
          rw [pl_asymm _ _ h1] at h2; cases h2
    subst e
    rw [asc_unique a b ha2 hb2 fun z => ?_]
    constructor
    · intro hz
      rcases List.mem_cons.1 ((h z).1 (by simp [hz])) with e | h'
      · have := ha1 z hz; rw [e, pl_irrefl] at this; cases this
      · exact h'
    · intro hz
      rcases List.mem_cons.1 ((h z).2 (by simp [hz])) with e | h'
      · have := hb1 z hz; rw [e, pl_irrefl] at this; cases this
      · exact h'
theorem asc_nodup {l : List Path} (h : Asc l) : l.Nodup := by
  unfold List.Nodup
  refine List.Pairwise.imp (fun {a b} hab => ?_) h
  intro e; subst e; rw [pl_irrefl] at hab; cases hab
theorem asc_app {a b : List Path} : Asc (a ++ b) ↔ Asc a ∧ Asc b ∧ ∀ x ∈ a, ∀ y ∈ b, pl x y = true := List.pairwise_append
/-- Insertion: what is behind the place is greater, and the one ahead of it is less. -/
theorem asc_insert {x : Path} {l : List Path} {k : Nat} (h : Asc l) (hk : k ≤ l.length) (h1 : ∀ y ∈ l.drop k, pl x y = true) (h2 : ∀ (h0 : 0 < k), pl (l[k - 1]'(by omega)) x = true) : Asc (l.take k ++ x :: l.drop k) := by
  have hs : l = l.take k ++ l.drop k := (List.take_append_drop k l).symm
  rw [hs] at h
  obtain ⟨g1, g2, g3⟩ := asc_app.1 h
  refine asc_app.2 ⟨g1, asc_cons.2 ⟨h1, g2⟩, fun y hy z hz => ?_⟩
  have hyx : pl y x = true := by
    obtain ⟨i, hi, rfl⟩ := List.getElem_of_mem hy
    rw [List.length_take] at hi
    have h0 : 0 < k := by omega
    rw [List.getElem_take]
    by_cases e : i = k - 1
    · subst e; exact h2 h0
    · have hp := List.pairwise_iff_getElem.1 (show (l.take k ++ l.drop k).Pairwise _ from h)
      have hq := List.pairwise_iff_getElem.1 (show l.Pairwise (fun a b => pl a b = true) from by rw [hs]; exact h) i (k - 1) (by omega) (by omega) (by omega)
      exact pl_trans _ _ _ hq (h2 h0)
  rcases List.mem_cons.1 hz with rfl | hz
  · exact hyx
  · exact g3 y hy z hz
theorem perm_insert (x : Path) (l : List Path) (k : Nat) : (l.take k ++ x :: l.drop k).Perm (x :: l) := by
  refine List.perm_middle.trans ?_
  rw [List.take_append_drop]
/-- What lies between two paths under q is under q. -/
theorem un_between : ∀ (q a b c : Path), un a q = true → un c q = true → pl a b = true → pl b c = true → un b q = true := by
  intro q a b c h1 h2 h3 h4
  obtain ⟨r, rfl⟩ := (un_iff _ _).1 h1
  obtain ⟨s, rfl⟩ := (un_iff _ _).1 h2
  rw [un_iff]
  clear h1 h2
  induction q generalizing b with
  | nil => exact ⟨b, rfl⟩
  | cons x q ih =>
    cases b with
    | nil => simp [pl] at h3
    | cons y b =>
      simp only [List.cons_append, pl] at h3 h4
      by_cases e : x = y
      · subst e
        simp only [if_true] at h3 h4
        obtain ⟨t, rfl⟩ := ih b h3 h4
        exact ⟨t, rfl⟩
      · rw [if_neg e] at h3
        rw [if_neg (Ne.symm e)] at h4
        rw [nl_asymm h3] at h4; cases h4
/-- q is the least of those under it. -/
theorem un_least (q a : Path) (h : un a q = true) (hne : a ≠ q) : pl q a = true := by
  obtain ⟨r, rfl⟩ := (un_iff _ _).1 h
  have := pl_app q [] r
  rw [List.append_nil] at this
  rw [this]
  cases r with
  | nil => simp at hne
  | cons x r => rfl
end Go.Proofs.YtgfmfeaapffdfaaDoor
