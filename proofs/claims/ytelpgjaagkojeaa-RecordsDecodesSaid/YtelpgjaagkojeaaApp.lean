/- Appends of slices of bytes to rows of the call's own, copies, and stores into them. Conditions: a slice that holds the bytes, at most 10^9 of them. -/
import Derived.Test.YtelpgjaagkojeaaBase
namespace Go.Proofs.Ytelpgjaagkojeaa
open Go.RowKit

theorem info_u8 : (Try.prog.info? 5).map (fun i => (i.zero, i.size, i.bytes)) = some (some (.int .u8 0), 1, 1) := by kernel_rfl
theorem made_u8 (n : Nat) : (madeCells #[Value.int .u8 0] n).toList = List.replicate n (Value.int .u8 0) := toList_madeCells_one _ _
theorem heap_alloc_last (w : World) (o : Obj) : (w.alloc o).heap[w.heap.size]? = some o := heap_alloc_new w o
theorem own_new (w : World) (t : TypeId) : (w.alloc (.cells #[] t)).ownsRow w.heap.size t 1 (.slice (some ⟨w.heap.size, 0, none⟩) 0 0) 0 [] :=
  ⟨rfl, .inr ⟨w.heap.size, 0, #[], rfl, Nat.le_refl _, heap_alloc_last w _, Nat.le_refl _, by simp [maxLen], rfl, rfl⟩⟩
theorem ownsRow_drewN {w : World} {base : Nat} {t : TypeId} {size n : Nat} {v : Value} {xs : List Value} (h : w.ownsRow base t size v n xs) (m : Nat) : (w.drewN m).ownsRow base t size v n xs := h
theorem encB_one (l : List UInt8) : ∀ u ∈ l.map encB, u.oneCell' = true := fun u hu => by obtain ⟨s, _, rfl⟩ := List.mem_map.1 hu; rfl
/-- A slice of bytes, wherever it lies, appended to one of the call's own. -/
theorem wp_append_sl {w : World} {o : Oper} {a : Act} {K : Act → World → Prop} {Q : Exit → Act → World → Prop} (s x : Operand) (ho : o.op = .call { callee := .builtin .append, args := #[s, x], argTypes := #[25, 25] })
    (base lim : Nat) (v : Value) (n : Nat) (xs : List Value) (hs : a.eval s = v) (hown : w.ownsRow base 5 1 v n xs) (u : Value) (l : List UInt8) (hx : a.eval x = u) (hu : SL encB w lim u l) (hb : n + l.length ≤ 1000000000) (hbase : base ≤ w.heap.size)
    (h : ∀ v' w', w'.ownsRow base 5 1 v' (n + l.length) (xs ++ l.map encB) → w.grownBy w' v.ownBlock → K (a.put o.dst v') w') : o.wp Try.prog a w K Q := by
  obtain ⟨i0, hi, hz0, hz1, hz2⟩ := info_parts info_u8
  rcases hu with ⟨rfl, rfl | ⟨ad, c, rfl⟩⟩ | ⟨b, off, c, rfl, hl, hcap, hc⟩
  · have hrun := run_append_owned_none (P := Try.prog) (w := w) base 25 o.type 5 i0 1 Try.underlying25 hi v n xs hown
    unfold Oper.wp execOp
    simp only [ho, resolve, invoke, builtin, Sem.run_bind, Sem.run_pure, Result.andThen_ok, List.map_toArray, List.map_cons, List.map_nil, hs, hx, hrun]
    exact h v w (by simpa using hown) ⟨rfl, rfl, rfl, Nat.le_refl _, fun _ _ _ => rfl⟩
  · refine wp_append_own w s x 25 ho base 5 i0 (.int .u8 0) 1 1 Try.underlying25 hi hz0 hz1 hz2 rfl (by decide) v n xs hs hown ad 0 c [] hx rfl (by simp) (by simp) (by unfold maxLen; omega) (by omega) hbase (fun v' w' h1 h2 _ => h v' w' (by simpa using h1) h2)
  · refine wp_append_own w s x 25 ho base 5 i0 (.int .u8 0) 1 1 Try.underlying25 hi hz0 hz1 hz2 rfl (by decide) v n xs hs hown ⟨b, off, none⟩ l.length c (l.map encB) hx (by simp) (fun j y hy => ?_) (encB_one l) (by unfold maxLen; omega) (by omega) hbase (fun v' w' h1 h2 _ => h v' w' h1 h2)
    have hadd : (⟨b, off, none⟩ : Addr).add j = ⟨b, off + j, none⟩ := by unfold Addr.add; split <;> simp_all
    rw [List.getElem?_map] at hy
    cases hg : l[j]? with
    | none => rw [hg] at hy; cases hy
    | some e =>
      rw [hg] at hy
      obtain ⟨hj, rfl⟩ := List.getElem?_eq_some_iff.1 hg
      rw [hadd, hc j hj]; exact hy
theorem wpList_append_sl {w : World} {ops : Array Oper} {rest : List Oper} {o : Oper} {a : Act} {Q : Exit → Act → World → Prop} (hgd : o.guard = none) (s x : Operand) (ho : o.op = .call { callee := .builtin .append, args := #[s, x], argTypes := #[25, 25] })
    (base lim : Nat) (v : Value) (n : Nat) (xs : List Value) (hs : a.eval s = v) (hown : w.ownsRow base 5 1 v n xs) (u : Value) (l : List UInt8) (hx : a.eval x = u) (hu : SL encB w lim u l) (hb : n + l.length ≤ 1000000000) (hbase : base ≤ w.heap.size)
    (h : ∀ v' w', w'.ownsRow base 5 1 v' (n + l.length) (xs ++ l.map encB) → w.grownBy w' v.ownBlock → wpList Try.prog ops Q rest (a.put o.dst v') w') : wpList Try.prog ops Q (o :: rest) a w :=
  wpList_plain hgd fun _ hK => wp_append_sl s x ho base lim v n xs hs hown u l hx hu hb hbase fun v' w' h1 h2 => hK _ _ (h v' w' h1 h2)

/-- Bytes of the call's own, in a block from base on. -/
structure OwnB (w : World) (base g n cap : Nat) (y : List UInt8) : Prop where
  len : n = y.length
  row : w.ownsRow base 5 1 (.slice (some ⟨g, 0, none⟩) n cap) n (y.map encB)
section
variable {w w' : World} {base g n cap : Nat} {y : List UInt8}
theorem OwnB.of_row {v : Value} (hn : 0 < n) (hl : n = y.length) (h : w.ownsRow base 5 1 v n (y.map encB)) : ∃ g cap, v = .slice (some ⟨g, 0, none⟩) n cap ∧ OwnB w base g n cap y := by
  rcases Go.Joins.ownsRow_forms h with ⟨_, h0⟩ | ⟨g, cap, rfl⟩
  · omega
  · exact ⟨g, cap, rfl, hl, h⟩
theorem OwnB.sl (h : OwnB w base g n cap y) : SL encB w w.heap.size (.slice (some ⟨g, 0, none⟩) n cap) y := SL.of_own h.len h.row
theorem OwnB.lt (h : OwnB w base g n cap y) : base ≤ g ∧ g < w.heap.size := World.ownsRow.lt h.row g rfl
theorem OwnB.cell (h : OwnB w base g n cap y) (i : Nat) (hi : i < y.length) : w.cell? ⟨g, i, none⟩ = some (encB y[i]) := by
  rw [World.ownsRow.cellAt h.row i (by rw [h.len]; omega)]; simp [hi]
theorem OwnB.free (h : OwnB w base g n cap y) (i : Nat) : w.frozen? ⟨g, i, none⟩ = false := World.ownsRow.frozenAt h.row i
theorem OwnB.set (h : OwnB w base g n cap y) (i : Nat) (c : UInt8) : OwnB (w.setCell ⟨g, i, none⟩ (encB c)) base g n cap (y.set i c) := by
  have := (World.ownsRow.stored h.row i (encB c)).1
  rw [← List.map_set] at this
  exact ⟨by rw [List.length_set]; exact h.len, this⟩
theorem OwnB.kept {r : Option Nat} (h : OwnB w base g n cap y) (hg : w.grownBy w' r) (hr : some g ≠ r) : OwnB w' base g n cap y :=
  ⟨h.len, World.ownsRow.kept h.row hg (.inr (by simpa [Value.ownBlock] using hr))⟩
theorem OwnB.below (h : OwnB w base g n cap y) (hb : Below w.heap.size w w') : OwnB w' base g n cap y := h.kept (grown_below hb none) (by simp)
theorem OwnB.drewN (h : OwnB w base g n cap y) (k : Nat) : OwnB (w.drewN k) base g n cap y := ⟨h.len, h.row⟩
end
theorem enc_nat (x : Nat) (h : x < 256) : encB (UInt8.ofNat x) = .int .u8 (x : Int) := by
  unfold encB; rw [UInt8.toNat_ofNat', Nat.mod_eq_of_lt h]
end Go.Proofs.Ytelpgjaagkojeaa
