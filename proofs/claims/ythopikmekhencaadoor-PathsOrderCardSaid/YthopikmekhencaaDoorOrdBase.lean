/- Pure facts for the law PathsOrder, and the walk of a region's head kept closed. No condition. -/
import Derived.Test.YthopikmekhencaaDoorLawMoves
import Derived.StillTailTactics
namespace Go.Proofs.YthopikmekhencaaDoor
open Go.RowKit

/-- A walk of a region's head, closed to unfolding. -/
structure WS (P : Program) (ops : Array Oper) (w : World) (Q : Act → Prop) (l : List Oper) (a : Act) : Prop where
  out : wpStill P ops w Q l a
theorem ws_step {P : Program} {ops : Array Oper} {w : World} {Q : Act → Prop} {a : Act} {o : Oper} {rest : List Oper} (h : ∀ K : Act → Prop, (∀ a, WS P ops w Q rest a → K a) → if Region.wanted o (yielded ops a.tmps) then o.still P a w K else K (a.put o.dst undef)) : WS P ops w Q (o :: rest) a :=
  ⟨h _ (fun _ h => h.out)⟩
theorem ws_nil {P : Program} {ops : Array Oper} {w : World} {Q : Act → Prop} {a : Act} (h : Q a) : WS P ops w Q [] a := ⟨h⟩
theorem order_facts {p q r : Path} (h1 : checkE p = 0) (h2 : checkE q = 0) (h3 : checkE r = 0) : ∃ k1 k2 k3 u x, compR p q = (k1, 0) ∧ compR q p = (-k1, 0) ∧ compR q r = (k2, 0) ∧ compR p r = (k3, 0) ∧ undR p q = (u, 0) ∧ comR p q = (x, 0) ∧ undR p x = (true, 0) ∧ undR q x = (true, 0) ∧ decide (x = q) = u ∧ decide (p = q) = decide (k1 = 0) ∧ (k1 ≤ 0 → k2 ≤ 0 → k3 ≤ 0) ∧ (u = true → 0 ≤ k1) ∧ (k1 = 0 → u = true) ∧ (k1 = -1 ∨ k1 = 0 ∨ k1 = 1) ∧ Fit x ∧ x.length ≤ p.length ∧ x.length ≤ q.length ∧ (∀ (g1 : x.length < p.length) (g2 : x.length < q.length), p[x.length] ≠ q[x.length]) ∧ k1 = pc p q := by
  have z1 := (checkE_zero _).1 h1
  have z2 := (checkE_zero _).1 h2
  have hcl := cn_le p q
  have hx1 : checkE (p.take (cn p q)) = 0 := (checkE_zero _).2 ⟨by rw [List.length_take]; omega, fun s hs => z1.2 s (List.mem_of_mem_take hs)⟩
  have hxl : (p.take (cn p q)).length = cn p q := by rw [List.length_take]; omega
  refine ⟨pc p q, pc q r, pc p r, un p q, p.take (cn p q), ?_, ?_, ?_, ?_, ?_, ?_, ?_, ?_, ?_, ?_, ?_, ?_, ?_, ?_, fit_ok hx1, by omega, by omega, ?_, rfl⟩
  · unfold compR; rw [if_pos (both_ok h1 h2)]
  · unfold compR; rw [if_pos (both_ok h2 h1), pc_neg q p]
  · unfold compR; rw [if_pos (both_ok h2 h3)]
  · unfold compR; rw [if_pos (both_ok h1 h3)]
  · unfold undR; rw [if_pos (both_ok h1 h2)]
  · unfold comR; rw [if_pos (both_ok h1 h2)]
  · unfold undR; rw [if_pos (both_ok h1 hx1), un_take]
  · unfold undR; rw [if_pos (both_ok h2 hx1), cn_take, un_take]
  · exact (un_common p q).symm
  · rw [decide_eq_decide]; exact (pc_zero p q).symm
  · intro a b
    rw [pc_le] at a b ⊢
    exact pl_le_trans a b
  · intro hu
    have := pl_under p q hu
    have h := pc_range p q
    by_cases e : pc p q = -1
    · rw [pc_lt] at e; rw [e] at this; cases this
    · omega
  · intro e
    obtain rfl := (pc_zero p q).1 e
    exact (un_iff _ _).2 ⟨[], by simp⟩
  · have h := pc_range p q; omega
  · intro g1 g2
    simp only [hxl] at g1 g2 ⊢
    exact cn_diff p q g1 g2
end Go.Proofs.YthopikmekhencaaDoor
