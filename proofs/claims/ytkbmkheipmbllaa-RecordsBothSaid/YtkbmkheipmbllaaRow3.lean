/- Appends of slices of values to rows of the call's own. Conditions: slices that hold the values, at most 1000 of them. -/
import Derived.Test.YtkbmkheipmbllaaShown
namespace Go.Proofs.Ytkbmkheipmbllaa
open Go.RowKit

theorem own_new3 (w : World) (t : TypeId) : (w.alloc (.cells #[] t)).ownsRow w.heap.size t 3 (.slice (some ⟨w.heap.size, 0, none⟩) 0 0) 0 [] :=
  ⟨rfl, .inr ⟨w.heap.size, 0, #[], rfl, Nat.le_refl _, heap_alloc_last w _, Nat.le_refl _, by simp [maxLen], rfl, rfl⟩⟩
/-- A row of the call's own, of values whose lists lie below. -/
def RV (w : World) (lim base : Nat) (v : Value) (l : List Rm.Val) : Prop :=
  ∃ P : List (Rm.Val × Value), P.map (·.1) = l ∧ w.ownsRow base 49 3 v P.length (P.flatMap vC) ∧ ∀ p ∈ P, SL enc32 w lim p.2 p.1.lst ∧ p.1.num < 18446744073709551616
theorem RV.new {w : World} {lim base : Nat} {v : Value} (h : w.ownsRow base 49 3 v 0 []) : RV w lim base v [] := ⟨[], rfl, h, fun p hp => by simp at hp⟩
theorem RV.vl {w : World} {lim base : Nat} {v : Value} {l : List Rm.Val} (h : RV w lim base v l) (hl : lim ≤ w.heap.size) : VL w w.heap.size v l := by
  obtain ⟨P, rfl, h2, h3⟩ := h
  rcases Go.Joins.ownsRow_forms h2 with ⟨rfl, h0⟩ | ⟨g, cap, rfl⟩
  · have : P = [] := List.eq_nil_of_length_eq_zero h0
    subst this
    exact .inl ⟨rfl, none, 0, rfl⟩
  · refine .inr ⟨g, 0, cap, by rw [List.length_map], (World.ownsRow.lt h2 g rfl).2, fun i hi => ?_⟩
    rw [List.length_map] at hi
    have hc := fun j (hj : j < 3) => (World.ownsRow.cellAt h2 (i * 3 + j) (by omega)).trans (flatV_get P i hi j hj)
    obtain ⟨a1, a2⟩ := h3 P[i] (List.getElem_mem _)
    rw [Nat.zero_add, List.getElem_map]
    exact ⟨P[i].2, hc 0 (by omega), hc 1 (by omega), hc 2 (by omega), a1.mono hl, a2⟩
theorem pairs_of (w : World) (lim b : Nat) : ∀ (l : List Rm.Val) (off : Nat), (∀ i (h : i < l.length), VAt w lim b (off + i * 3) l[i]) →
    ∃ P : List (Rm.Val × Value), P.map (·.1) = l ∧ (∀ j u, (P.flatMap vC)[j]? = some u → w.cell? ⟨b, off + j, none⟩ = some u) ∧ ∀ p ∈ P, SL enc32 w lim p.2 p.1.lst ∧ p.1.num < 18446744073709551616
  | [], _, _ => ⟨[], rfl, fun j u h => by simp at h, fun p hp => by simp at hp⟩
  | x :: l, off, h => by
    obtain ⟨lv, h0, h1, h2, h3, h4⟩ := h 0 (by simp)
    simp only [List.getElem_cons_zero, Nat.zero_mul, Nat.add_zero] at h0 h1 h2 h3 h4
    obtain ⟨P, e, hc, hp⟩ := pairs_of w lim b l (off + 3) (fun i hi => by
      have := h (i + 1) (by simpa using hi)
      rw [List.getElem_cons_succ, show off + (i + 1) * 3 = off + 3 + i * 3 by omega] at this
      exact this)
    refine ⟨(x, lv) :: P, by simp [e], fun j u hu => ?_, fun p hpp => ?_⟩
    · rw [List.flatMap_cons] at hu
      match j, hu with
      | 0, hu => simp [vC] at hu; subst hu; exact h0
      | 1, hu => simp [vC] at hu; subst hu; exact h1
      | 2, hu => simp [vC] at hu; subst hu; exact h2
      | j + 3, hu =>
        have hu' : (P.flatMap vC)[j]? = some u := by simpa [vC] using hu
        have := hc j u hu'
        rw [show off + (j + 3) = off + 3 + j by omega]; exact this
    · rcases List.mem_cons.1 hpp with rfl | hq
      · exact ⟨h3, h4⟩
      · exact hp p hq
theorem flatV_len (P : List (Rm.Val × Value)) : (P.flatMap vC).length = P.length * 3 := by
  induction P with
  | nil => rfl
  | cons p P ih => rw [List.flatMap_cons, List.length_append, ih, List.length_cons]; simp [vC]; omega
theorem SL.one {α : Type} {enc : α → Value} {w : World} {lim : Nat} {v : Value} {l : List α} (h : SL enc w lim v l) : v.oneCell' = true := by
  obtain ⟨A, c, rfl⟩ := h.form; rfl
theorem run_append_bare (base c : Nat) (w : World) (ty : TypeId) (i : TypeInfo) (hi : Try.prog.info? 49 = some i) (v : Value) (n : Nat) (xs : List Value) (hown : w.ownsRow base 49 3 v n xs) :
    (Builtin.append_ #[22, 22] ty #[v, .slice none 0 c]).run Try.prog w = .ok v w := by
  have hu := run_underlying (P := Try.prog) (t := 22) (w := w) Try.underlying22
  rcases hown.2 with ⟨rfl, rfl⟩ | ⟨g, cap, cur, rfl, _, _, hnc, _⟩
  · simp [Builtin.append_, hu, sizeOf, typeInfo, hi, Builtin.lenOf, Builtin.firstCells]
  · simp [Builtin.append_, hu, sizeOf, typeInfo, hi, Builtin.lenOf, Builtin.firstCells, hnc, storeCells]
/-- A slice of values, wherever it lies, appended to a row of the call's own. -/
theorem wp_append_vl {w : World} {o : Oper} {a : Act} {K : Act → World → Prop} {Q : Exit → Act → World → Prop} (s x : Operand) (ho : o.op = .call { callee := .builtin .append, args := #[s, x], argTypes := #[22, 22] })
    (lim base : Nat) (v : Value) (l m : List Rm.Val) (hs : a.eval s = v) (hown : RV w lim base v l) (u : Value) (hx : a.eval x = u) (hu : VL w lim u m) (hb : l.length + m.length ≤ 1000) (hlim : lim ≤ base) (hbase : base ≤ w.heap.size)
    (h : ∀ v' w', RV w' lim base v' (l ++ m) → Below base w w' → K (a.put o.dst v') w') : o.wp Try.prog a w K Q := by
  obtain ⟨i0, hi, hz0, hz1, hz2⟩ := info_parts info_rc
  obtain ⟨P, rfl, h2, h3⟩ := hown
  rw [List.length_map] at hb
  have fin : ∀ (Q : List (Rm.Val × Value)) v' w', Q.map (·.1) = m → (∀ p ∈ Q, SL enc32 w lim p.2 p.1.lst ∧ p.1.num < 18446744073709551616) → w'.ownsRow base 49 3 v' (P.length + Q.length) (P.flatMap vC ++ Q.flatMap vC) → w.grownBy w' v.ownBlock → K (a.put o.dst v') w' := by
    intro Q v' w' hq hqq h4 h5
    have hB : Below base w w' := (Below.refl base w).grown h5 hbase (fun k hk => (World.ownsRow.lt h2 k hk).1)
    refine h v' w' ⟨P ++ Q, by rw [List.map_append, hq], by rw [List.length_append, List.flatMap_append]; exact h4, fun p hp => ?_⟩ hB
    rcases List.mem_append.1 hp with hp | hp
    · exact ⟨(h3 p hp).1.below hB hlim, (h3 p hp).2⟩
    · exact ⟨(hqq p hp).1.below hB hlim, (hqq p hp).2⟩
  rcases hu with ⟨rfl, A, c, rfl⟩ | ⟨b, off, c, rfl, hl, hc⟩
  · cases A with
    | none =>
      have hrun := run_append_bare base c w o.type i0 hi v P.length (P.flatMap vC) h2
      unfold Oper.wp execOp
      simp only [ho, resolve, invoke, builtin, Sem.run_bind, Sem.run_pure, Result.andThen_ok, List.map_toArray, List.map_cons, List.map_nil, hs, hx, hrun]
      exact fin [] v w rfl (fun p hp => by simp at hp) (by simpa using h2) ⟨rfl, rfl, rfl, Nat.le_refl _, fun _ _ _ => rfl⟩
    | some ad =>
      refine wp_append_own w s x 22 ho base 49 i0 _ 3 48 Try.underlying22 hi hz0 hz1 hz2 rfl (by decide) v P.length (P.flatMap vC) hs h2 ad 0 c [] hx rfl (by simp) (by simp) (by unfold maxLen; omega) (by omega) hbase (fun v' w' h1 h2 _ => fin [] v' w' rfl (fun p hp => by simp at hp) (by simpa using h1) h2)
  · obtain ⟨Q, e, hcc, hp⟩ := pairs_of w lim b m off hc
    have hlen : m.length = Q.length := by rw [← e, List.length_map]
    refine wp_append_own w s x 22 ho base 49 i0 _ 3 48 Try.underlying22 hi hz0 hz1 hz2 rfl (by decide) v P.length (P.flatMap vC) hs h2 ⟨b, off, none⟩ m.length c (Q.flatMap vC) hx (by rw [flatV_len, hlen]) (fun j y hy => ?_) (fun y hy => ?_) (by unfold maxLen; omega) (by omega) hbase (fun v' w' h1 h2 _ => fin Q v' w' e hp (by rw [← hlen]; exact h1) h2)
    · have hadd : (⟨b, off, none⟩ : Addr).add j = ⟨b, off + j, none⟩ := by unfold Addr.add; split <;> simp_all
      rw [hadd]; exact hcc j y hy
    · obtain ⟨q, hq, hy⟩ := List.mem_flatMap.1 hy
      simp only [vC, List.mem_cons, List.not_mem_nil, or_false] at hy
      rcases hy with rfl | rfl | rfl
      · rfl
      · rfl
      · exact (hp q hq).1.one
end Go.Proofs.Ytkbmkheipmbllaa
