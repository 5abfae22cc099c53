/- Rows of numbers of the call's own, rising numbers, long loads in a region of quiet calls. No condition. -/
import Derived.Test.YtcmhhiakmgooeaaPut
import Derived.Lib.QuietBelow
namespace Go.Proofs.Ytcmhhiakmgooeaa
open Go.RowKit Go.Maps

theorem quiet_load_mid {w : World} {g o : Nat} {v : Dv.Sec} (hr : w.rangeAt g o (secC v)) {op : Oper} {a : Act} {K : Act → Prop} (x : Operand) (ho : op.op = .load 58 x) (hx : a.eval x = .pointer (some ⟨g, o, none⟩)) (h : K (a.put op.dst (.agg (secC v).toArray))) :
    Oper.quiet Try.prog op a (fun w' => ∃ p : Regrown, w' = Go.Sort.grow (redrawn w p.d) p.os) K := by
  refine ⟨_, fun W hW => ?_, h⟩
  obtain ⟨p, rfl⟩ := hW
  unfold Oper.quietAt execOp
  simp only [ho, hx, Instr.loadAt, Instr.sureAddr, Sem.run_bind, Sem.run_pure, Result.andThen_ok, run_loadVar_mid _ g o 58 (secC v) _ (range_regrown hr p.d p.os) uSec rfl (by rw [iSec, secC_len])]
  exact ⟨rfl, rfl⟩
theorem range_below {W w' : World} {p o : Nat} {cs : List Value} (h : W.rangeAt p o cs) (hb : Below W.heap.size W w') : w'.rangeAt p o cs := fun j v hv => (hb.cell (p := ⟨p, _, none⟩) (block_lt_of_cell (h j v hv))).trans (h j v hv)
theorem idx_mod (x : UInt8) : (x.toNat : Int).tmod 64 = ((x.toNat % 64 : Nat) : Int) := by
  rw [Int.tmod_eq_emod_of_nonneg (by omega)]; omega
theorem put_put (st : List Dv.Sec) (a c : List Dv.Wr) : Dv.put (Dv.put st a) c = Dv.put st (a ++ c) := by unfold Dv.put; rw [List.foldl_append]
theorem info_int : (Try.prog.info? 3).map (fun i => (i.zero, i.size, i.bytes)) = some (some (.int .i64 0), 1, 8) := by kernel_rfl
/-- Numbers of the call's own. -/
def OK (w : World) (base : Nat) (v : Value) (K : List Nat) : Prop := w.ownsRow base 3 1 v K.length (K.map fun (j : Nat) => Value.int .i64 (j : Int))
theorem wpList_append_k {ops : Array Oper} {rest : List Oper} {o : Oper} {a : Act} {w : World} {Q : Exit → Act → World → Prop} (hgd : o.guard = none) (s x : Operand) (ho : o.op = .call { callee := .builtin .append, args := #[s, x], argTypes := #[37, 37] })
    (base : Nat) (v : Value) (K : List Nat) (hs : a.eval s = v) (hc : OK w base v K) (j : Nat) (g : Nat) (hx : a.eval x = .slice (some ⟨g, 0, none⟩) 1 1) (hb : w.cell? ⟨g, 0, none⟩ = some (.int .i64 (j : Int))) (hl : K.length ≤ 1000000) (hbase : base ≤ w.heap.size)
    (h : ∀ v' w', OK w' base v' (K ++ [j]) → w.grownBy w' v.ownBlock → (∀ k, v.ownBlock = some k → base ≤ k) → wpList Try.prog ops Q rest (a.put o.dst v') w') : wpList Try.prog ops Q (o :: rest) a w := by
  obtain ⟨i0, hi, hz0, hz1, hz2⟩ := info_parts info_int
  refine wpList_append_own _ hgd s x 37 ho base 3 i0 _ 1 8 Try.underlying37 hi hz0 hz1 hz2 rfl (by decide) v K.length _ hs hc ⟨g, 0, none⟩ 1 1 [.int .i64 (j : Int)] hx rfl (fun i u hu => by
    match i, hu with
    | 0, hu => simp at hu; subst hu; simpa [Addr.add] using hb) (fun u hu => by simp at hu; subst hu; rfl) (by unfold maxLen; omega) (by omega) hbase (fun v' w' h1 h2 _ => h v' w' ?_ h2 (fun k hk => (World.ownsRow.lt hc k hk).1))
  unfold OK
  rw [List.length_append, List.map_append]
  simpa using h1
theorem OK.apart {w : World} {base : Nat} {v : Value} {K : List Nat} {t : TypeId} {b : Nat} {cs : Array Value} (h : OK w base v K) (hb : Blk w b cs t) (ht : t ≠ 3) : some b ≠ v.ownBlock := by
  rcases h.2 with ⟨rfl, _⟩ | ⟨g, cap, cur, rfl, _, hg, _⟩
  · simp [Value.ownBlock]
  · intro e
    obtain rfl : b = g := Option.some.inj e
    have : Obj.cells cs t (0, 0) = .cells cur 3 (0, 0) := Option.some.inj (hb.symm.trans hg)
    injection this with _ h2; exact ht h2
theorem OK.sl {w : World} {base : Nat} {v : Value} {K : List Nat} (h : OK w base v K) : SL encI w w.heap.size v (K.map fun (j : Nat) => (j : Int)) :=
  SL.of_own (E := 3) (base := base) (by rw [List.length_map]) (by rw [List.map_map]; exact h)
theorem OK.form {w : World} {base : Nat} {v : Value} {K : List Nat} (h : OK w base v K) : ∃ A c, v = .slice A K.length c := by
  obtain ⟨A, c, e⟩ := h.sl.form
  rw [List.length_map] at e
  exact ⟨A, c, e⟩
/-- Rising numbers below m. -/
def Up (K : List Nat) (m : Nat) : Prop := K.Pairwise (· < ·) ∧ (∀ j ∈ K, j < m) ∧ K.length ≤ m
theorem Up.nil (m : Nat) : Up [] m := ⟨List.Pairwise.nil, by simp, by simp⟩
theorem Up.mono {K : List Nat} {m n : Nat} (h : Up K m) (hn : m ≤ n) : Up K n := ⟨h.1, fun j hj => Nat.lt_of_lt_of_le (h.2.1 j hj) hn, Nat.le_trans h.2.2 hn⟩
theorem Up.snoc {K : List Nat} {m : Nat} (h : Up K m) : Up (K ++ [m]) (m + 1) :=
  ⟨List.pairwise_append.2 ⟨h.1, List.pairwise_singleton _ _, fun a ha b hb => by obtain rfl := List.mem_singleton.1 hb; exact h.2.1 a ha⟩, fun j hj => by
    rcases List.mem_append.1 hj with hj | hj
    · have := h.2.1 j hj; omega
    · obtain rfl := List.mem_singleton.1 hj; omega, by rw [List.length_append, List.length_singleton]; have := h.2.2; omega⟩
theorem Up.keep {K : List Nat} {m : Nat} (h : Up K m) : keepE m (K.map fun (j : Nat) => (j : Int)) = 0 := by
  refine keepE_of (fun i hi => ?_) (fun i h1 h2 => ?_)
  · obtain ⟨j, hj, rfl⟩ := List.mem_map.1 hi
    have := h.2.1 j hj
    omega
  · rw [List.length_map] at h2
    have := List.pairwise_iff_getElem.1 h.1 (i - 1) i (by omega) h2 (by omega)
    simp only [List.getD_eq_getElem?_getD, List.getElem?_map, List.getElem?_eq_getElem h2, List.getElem?_eq_getElem (show i - 1 < K.length by omega), Option.map_some, Option.getD_some]
    omega
theorem below_undrew {B : Nat} {w w' : World} (h : Below B w.drew w') : Below B w w' := ⟨h.os, h.tape, h.output, h.size, h.block⟩
theorem up_len {K : List Nat} {m : Nat} (h : Up K m) (hm : m ≤ 1000000) : K.length ≤ 1000000 := Nat.le_trans h.2.2 hm
end Go.Proofs.Ytcmhhiakmgooeaa
