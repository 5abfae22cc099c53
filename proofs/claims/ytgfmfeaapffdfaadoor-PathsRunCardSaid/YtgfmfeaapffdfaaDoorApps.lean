/- Appending a slice of slices, wherever it lies, to one of the call's own: for the reference's Sort. Conditions: the source's cells hold what is said of them; 10^9 elements at most. -/
import Derived.Test.YtgfmfeaapffdfaaDoorLawSorts0
namespace Go.Proofs.YtgfmfeaapffdfaaDoor
open Go.RowKit

theorem info_path : (Tryd.prog.info? 22).map (fun i => (i.zero, i.size, i.bytes)) = some (some (.slice none 0 0), 1, 24) := by kernel_rfl
/-- A slice value whose cells hold the values. -/
def RV (w : World) (lim : Nat) (u : Value) (us : List Value) : Prop :=
  (us = [] ∧ (u = .slice none 0 0 ∨ ∃ ad c, u = .slice (some ad) 0 c)) ∨
  ∃ b off c, u = .slice (some ⟨b, off, none⟩) us.length c ∧ b < lim ∧ ∀ i (h : i < us.length), w.cell? ⟨b, off + i, none⟩ = some us[i]
theorem wp_append_rv {w : World} {o : Oper} {a : Act} {K : Act → World → Prop} {Q : Exit → Act → World → Prop} (s x : Operand) (ho : o.op = .call { callee := .builtin .append, args := #[s, x], argTypes := #[44, 44] })
    (base lim : Nat) (v : Value) (n : Nat) (xs : List Value) (hs : a.eval s = v) (hown : w.ownsRow base 22 1 v n xs) (u : Value) (us : List Value) (hx : a.eval x = u) (hu : RV w lim u us) (hone : ∀ y ∈ us, y.oneCell' = true) (hb : n + us.length ≤ 100000000) (hbase : base ≤ w.heap.size)
    (h : ∀ v' w', w'.ownsRow base 22 1 v' (n + us.length) (xs ++ us) → w.grownBy w' v.ownBlock → K (a.put o.dst v') w') : o.wp Tryd.prog a w K Q := by
  obtain ⟨i0, hi, hz0, hz1, hz2⟩ := info_parts info_path
  rcases hu with ⟨rfl, rfl | ⟨ad, c, rfl⟩⟩ | ⟨b, off, c, rfl, hl, hc⟩
  · have hrun := run_append_owned_none (P := Tryd.prog) (w := w) base 44 o.type 22 i0 1 Tryd.underlying44 hi v n xs hown
    unfold Oper.wp execOp
    simp only [ho, resolve, invoke, builtin, Sem.run_bind, Sem.run_pure, Result.andThen_ok, List.map_toArray, List.map_cons, List.map_nil, hs, hx, hrun]
    exact h v w (by simpa using hown) ⟨rfl, rfl, rfl, Nat.le_refl _, fun _ _ _ => rfl⟩
  · refine wp_append_own w s x 44 ho base 22 i0 (.slice none 0 0) 1 24 Tryd.underlying44 hi hz0 hz1 hz2 rfl (by decide) v n xs hs hown ad 0 c [] hx rfl (by simp) (by simp) (by unfold maxLen; omega) (by omega) hbase (fun v' w' h1 h2 _ => h v' w' (by simpa using h1) h2)
  · refine wp_append_own w s x 44 ho base 22 i0 (.slice none 0 0) 1 24 Tryd.underlying44 hi hz0 hz1 hz2 rfl (by decide) v n xs hs hown ⟨b, off, none⟩ us.length c us hx (by simp) (fun j y hy => ?_) hone (by unfold maxLen; omega) (by omega) hbase (fun v' w' h1 h2 _ => h v' w' h1 h2)
    have hadd : (⟨b, off, none⟩ : Addr).add j = ⟨b, off + j, none⟩ := by unfold Addr.add; split <;> simp_all
    obtain ⟨hj, rfl⟩ := List.getElem?_eq_some_iff.1 hy
    rw [hadd, hc j hj]
theorem wpList_append_rv {w : World} {ops : Array Oper} {rest : List Oper} {o : Oper} {a : Act} {Q : Exit → Act → World → Prop} (hgd : o.guard = none) (s x : Operand) (ho : o.op = .call { callee := .builtin .append, args := #[s, x], argTypes := #[44, 44] })
    (base lim : Nat) (v : Value) (n : Nat) (xs : List Value) (hs : a.eval s = v) (hown : w.ownsRow base 22 1 v n xs) (u : Value) (us : List Value) (hx : a.eval x = u) (hu : RV w lim u us) (hone : ∀ y ∈ us, y.oneCell' = true) (hb : n + us.length ≤ 100000000) (hbase : base ≤ w.heap.size)
    (h : ∀ v' w', w'.ownsRow base 22 1 v' (n + us.length) (xs ++ us) → w.grownBy w' v.ownBlock → wpList Tryd.prog ops Q rest (a.put o.dst v') w') : wpList Tryd.prog ops Q (o :: rest) a w :=
  wpList_plain hgd fun _ hK => wp_append_rv s x ho base lim v n xs hs hown u us hx hu hone hb hbase fun v' w' h1 h2 => hK _ _ (h v' w' h1 h2)
/-- A row of the call's own holds its values. -/
theorem RV.own {w : World} {base n : Nat} {v : Value} {xs : List Value} (h : w.ownsRow base 22 1 v n xs) (hl : xs.length = n) : RV w w.heap.size v xs := by
  subst hl
  rcases h.2 with ⟨rfl, h0⟩ | ⟨g, cap, cur, rfl, hg, ho, hn, hc, hcur, hx⟩
  · have : xs = [] := by cases xs with | nil => rfl | cons a l => simp at h0
    exact .inl ⟨this, .inl rfl⟩
  · refine .inr ⟨g, 0, cap, rfl, ?_, fun i hi => ?_⟩
    · have := ho; rcases Nat.lt_or_ge g w.heap.size with h | h
      · exact h
      · rw [Array.getElem?_eq_none h] at this; cases this
    · rw [Nat.zero_add, h.cellAt i (by omega)]; simp [hi]
/-- A list of paths, from a row of slices that hold them. -/
theorem LL.of_rv {w : World} {u : Value} {us : List Value} {l : List Path} (h : RV w w.heap.size u us) (hl : us.length = l.length) (hs : ∀ i (h1 : i < us.length) (h2 : i < l.length), SL encS w w.heap.size us[i] l[i]) : LL w w.heap.size u l := by
  rcases h with ⟨rfl, rfl | ⟨ad, c, rfl⟩⟩ | ⟨b, off, c, rfl, hb, hc⟩
  · exact .inl ⟨by cases l with | nil => rfl | cons a r => simp at hl, _, _, rfl⟩
  · exact .inl ⟨by cases l with | nil => rfl | cons a r => simp at hl, _, _, rfl⟩
  · rw [hl]
    exact .inr ⟨b, off, c, rfl, hb, fun i hi => ⟨us[i]'(by omega), hc i (by omega), hs i (by omega) hi⟩⟩
end Go.Proofs.YtgfmfeaapffdfaaDoor
