/- A write appended to a row of writes of the call's own. Condition: fewer than 1000000 writes. -/
import Derived.Test.YtcmhhiakmgooeaaSettle
import Derived.Maps.AppendAt
import Derived.Deep.RegionHeldLaw
namespace Go.Proofs.Ytcmhhiakmgooeaa
open Go.RowKit Go.Maps

theorem sliceWr : Try.prog.underlying 30 = some (.slice 80) := Try.underlying30
theorem run_append_wr {w : World} (ty : TypeId) (v : Value) (ca : List Dv.Wr) (hc : Cch w 0 v ca) (p : Dv.Wr) (g : Nat) (hb : w.rangeAt g 0 (wrC p)) (hl : ca.length ≤ 1000000) :
    ∃ v' w', (Builtin.append_ #[30, 30] ty #[v, .slice (some ⟨g, 0, none⟩) 1 1]).run Try.prog w = .ok v' w' ∧ Cch w' 0 v' (ca ++ [p]) ∧ w.grownBy w' v.ownBlock ∧ (v'.ownBlock = v.ownBlock ∨ v'.ownBlock = some w.heap.size) := by
  obtain ⟨i0, hi, hz0, hz1, hz2⟩ := info_parts info_wr
  have hlen := wrC_len p
  obtain ⟨v', w', h1, h2, h3, _, h5⟩ := run_append_own_at (P := Try.prog) w 0 30 ty 80 i0 _ 129 136 sliceWr hi hz0 hz1 hz2 (by show (wrC _).toArray.size = 129; exact wrC_size _) (by decide) v ca.length (ca.flatMap wrC) hc ⟨g, 0, none⟩ 1 1 (wrC p) (by rw [hlen]) (fun j u hu => by
    rw [Addr.add_mid]; exact hb j u hu) (wrC_one p) (by unfold maxLen; omega) (by omega) (Nat.zero_le _)
  refine ⟨v', w', h1, ?_, h3, h5⟩
  unfold Cch
  rw [List.length_append, List.flatMap_append]
  simpa using h2
theorem wp_append_wr {o : Oper} {a : Act} {w : World} {K : Act → World → Prop} {Q : Exit → Act → World → Prop} (s x : Operand) (ho : o.op = .call { callee := .builtin .append, args := #[s, x], argTypes := #[30, 30] })
    (v : Value) (ca : List Dv.Wr) (hs : a.eval s = v) (hc : Cch w 0 v ca) (p : Dv.Wr) (g : Nat) (hx : a.eval x = .slice (some ⟨g, 0, none⟩) 1 1) (hb : w.rangeAt g 0 (wrC p)) (hl : ca.length ≤ 1000000)
    (h : ∀ v' w', Cch w' 0 v' (ca ++ [p]) → w.grownBy w' v.ownBlock → (v'.ownBlock = v.ownBlock ∨ v'.ownBlock = some w.heap.size) → K (a.put o.dst v') w') : o.wp Try.prog a w K Q := by
  obtain ⟨v', w', hr, h2, h3, h4⟩ := run_append_wr o.type v ca hc p g hb hl
  unfold Oper.wp execOp
  simp only [ho, resolve, invoke, builtin, Sem.run_bind, Sem.run_pure, Result.andThen_ok, List.map_toArray, List.map_cons, List.map_nil, hs, hx, hr]
  exact h v' w' h2 h3 h4
theorem wpList_append_wr {ops : Array Oper} {rest : List Oper} {o : Oper} {a : Act} {w : World} {Q : Exit → Act → World → Prop} (hgd : o.guard = none) (s x : Operand) (ho : o.op = .call { callee := .builtin .append, args := #[s, x], argTypes := #[30, 30] })
    (v : Value) (ca : List Dv.Wr) (hs : a.eval s = v) (hc : Cch w 0 v ca) (p : Dv.Wr) (g : Nat) (hx : a.eval x = .slice (some ⟨g, 0, none⟩) 1 1) (hb : w.rangeAt g 0 (wrC p)) (hl : ca.length ≤ 1000000)
    (h : ∀ v' w', Cch w' 0 v' (ca ++ [p]) → w.grownBy w' v.ownBlock → (v'.ownBlock = v.ownBlock ∨ v'.ownBlock = some w.heap.size) → wpList Try.prog ops Q rest (a.put o.dst v') w') : wpList Try.prog ops Q (o :: rest) a w :=
  wpList_plain hgd fun _ hK => wp_append_wr s x ho v ca hs hc p g hx hb hl (fun v' w' h1 h2 h3 => hK _ _ (h v' w' h1 h2 h3))
/-- The map behind a write. -/
theorem NW.put {D : MD} {ca : List Dv.Wr} (h : NW D ca) (hm : IsMap D) (n : Nat) (x : Dv.Sec) : NW (D.put (.int .i64 (n : Int)) (.lit (.int .i64 (ca.length : Int)))) (ca ++ [(n, x)]) := fun k hk => by
  rw [Dv.lastI_snoc]
  by_cases e : n = k
  · subst e
    simp only [if_true]
    refine ⟨?_, fun i hi => ?_⟩
    · rw [has_put_same hm (by first | trivial | simp [WideAt.IsKeyLit] | exact ⟨_, rfl⟩)]; rfl
    · obtain rfl := Option.some.inj hi
      rw [atKey_put_same hm (by first | trivial | simp [WideAt.IsKeyLit] | exact ⟨_, rfl⟩)]
  · rw [if_neg e]
    obtain ⟨h1, h2⟩ := h k hk
    have hne : (Lit.int .i64 (k : Int)) ≠ .int .i64 (n : Int) := fun he => by injection he with _ h3; omega
    exact ⟨(has_put_other hne _).trans h1, fun i hi => (atKey_put_other hne _ _).trans (h2 i hi)⟩
end Go.Proofs.Ytcmhhiakmgooeaa
