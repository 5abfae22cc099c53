/- The law DeviceCrash: plain facts, and the loop that looks for the last flush. Condition: a slice that holds the writes. -/
import Derived.Test.YtipffdjdfobaoaaLawReads
namespace Go.Proofs.Ytipffdjdfobaoaa
open Go.RowKit Go.Maps

/-- The number of writes up to the last flush, and what lies behind them. -/
def LastAt (st : List Dv.Sec) (l : List Pt) (t : Nat) : Prop := t ≤ l.length ∧ putL (st, []) l = (Dv.put st ((l.take t).map Pt.wr), (l.drop t).map Pt.wr)
theorem put_put (st : List Dv.Sec) (a c : List Dv.Wr) : Dv.put (Dv.put st a) c = Dv.put st (a ++ c) := by unfold Dv.put; rw [List.foldl_append]
theorem LastAt.nil (st : List Dv.Sec) : LastAt st [] 0 := ⟨Nat.le_refl _, rfl⟩
theorem LastAt.flush {st : List Dv.Sec} {l : List Pt} {k t : Nat} (h : LastAt st (l.take k) t) (hk : k < l.length) (hf : l[k].f = true) : LastAt st (l.take (k + 1)) (k + 1) := by
  have hl : (l.take (k + 1)).length = k + 1 := by rw [List.length_take]; omega
  refine ⟨by omega, ?_⟩
  rw [putL_succ _ l k hk, h.2]
  unfold putF
  rw [hf, if_pos rfl]
  simp only
  have e1 : (l.take (k + 1)).take (k + 1) = l.take (k + 1) := List.take_of_length_le (by omega)
  have e2 : (l.take (k + 1)).drop (k + 1) = [] := List.drop_of_length_le (by omega)
  rw [e1, e2, put_put, ← List.append_assoc, ← List.map_append, List.take_append_drop, List.take_succ_eq_append_getElem hk, List.map_append]
  rfl
theorem LastAt.stay {st : List Dv.Sec} {l : List Pt} {k t : Nat} (h : LastAt st (l.take k) t) (hk : k < l.length) (hf : l[k].f = false) : LastAt st (l.take (k + 1)) t := by
  have hl : (l.take k).length = k := by rw [List.length_take]; omega
  have ht := h.1
  rw [hl] at ht
  refine ⟨by rw [List.length_take]; omega, ?_⟩
  rw [putL_succ _ l k hk, h.2]
  unfold putF
  rw [hf, if_neg (by simp), List.take_succ_eq_append_getElem hk, List.take_append_of_le_length (by omega), List.drop_append_of_le_length (by omega), List.map_append]
  rfl
theorem info_int : (Try.prog.info? 3).map (fun i => (i.zero, i.size, i.bytes)) = some (some (.int .i64 0), 1, 8) := by kernel_rfl
/-- Numbers of the call's own. -/
def OK (w : World) (base : Nat) (v : Value) (K : List Nat) : Prop := w.ownsRow base 3 1 v K.length (K.map fun (j : Nat) => Value.int .i64 (j : Int))
theorem wpList_append_k {ops : Array Oper} {rest : List Oper} {o : Oper} {a : Act} {w : World} {Q : Exit → Act → World → Prop} (hgd : o.guard = none) (s x : Operand) (ho : o.op = .call { callee := .builtin .append, args := #[s, x], argTypes := #[37, 37] })
    (base : Nat) (v : Value) (K : List Nat) (hs : a.eval s = v) (hc : OK w base v K) (j : Nat) (g : Nat) (hx : a.eval x = .slice (some ⟨g, 0, none⟩) 1 1) (hb : w.cell? ⟨g, 0, none⟩ = some (.int .i64 (j : Int))) (hl : K.length ≤ 1000000) (hbase : base ≤ w.heap.size)
    (h : ∀ v' w', OK w' base v' (K ++ [j]) → w.grownBy w' v.ownBlock → (∀ k, v.ownBlock = some k → base ≤ k) → wpList Try.prog ops Q rest (a.put o.dst v') w') : wpList Try.prog ops Q (o :: rest) a w := by
  obtain ⟨i0, hi, hz0, hz1, hz2⟩ := info_parts info_int
  refine wpList_append_own _ hgd s x 37 ho base 3 i0 _ 1 8 Try.underlying37 hi hz0 hz1 hz2 rfl (by decide) v K.length _ hs hc ⟨g, 0, none⟩ 1 1 [.int .i64 (j : Int)] hx rfl (fun i u hu => by
    match i, hu with
    | 0, hu => simp at hu; subst hu; simpa [Addr.add] using hb) (fun u hu => by simp at hu; subst hu; rfl) (by unfold maxLen; omega) (by omega) hbase (fun v' w' h1 h2 _ => h v' w' ?_ h2 (fun k hk => (World.ownsRow.lt hc k hk).1))
  unfold OK
  rw [List.length_append, List.map_append]
  simpa using h1
theorem OK.apart {w : World} {base : Nat} {v : Value} {K : List Nat} {t : TypeId} {b : Nat} {cs : Array Value} (h : OK w base v K) (hb : Blk w b cs t) (ht : t ≠ 3) : some b ≠ v.ownBlock := by
  rcases h.2 with ⟨rfl, _⟩ | ⟨g, cap, cur, rfl, _, hg, _⟩
  · simp [Value.ownBlock]
  · intro e
    obtain rfl : b = g := Option.some.inj e
    have : Obj.cells cs t (0, 0) = .cells cur 3 (0, 0) := Option.some.inj (hb.symm.trans hg)
    injection this with _ h2; exact ht h2
theorem OK.sl {w : World} {base : Nat} {v : Value} {K : List Nat} (h : OK w base v K) : SL encI w w.heap.size v (K.map fun (j : Nat) => (j : Int)) :=
  SL.of_own (E := 3) (base := base) (by rw [List.length_map]) (by rw [List.map_map]; exact h)
theorem OK.form {w : World} {base : Nat} {v : Value} {K : List Nat} (h : OK w base v K) : ∃ A c, v = .slice A K.length c := by
  obtain ⟨A, c, e⟩ := h.sl.form
  rw [List.length_map] at e
  exact ⟨A, c, e⟩
/-- Rising numbers below m. -/
def Up (K : List Nat) (m : Nat) : Prop := K.Pairwise (· < ·) ∧ (∀ j ∈ K, j < m) ∧ K.length ≤ m
theorem Up.nil (m : Nat) : Up [] m := ⟨List.Pairwise.nil, by simp, by simp⟩
theorem Up.mono {K : List Nat} {m n : Nat} (h : Up K m) (hn : m ≤ n) : Up K n := ⟨h.1, fun j hj => Nat.lt_of_lt_of_le (h.2.1 j hj) hn, Nat.le_trans h.2.2 hn⟩
theorem Up.snoc {K : List Nat} {m : Nat} (h : Up K m) : Up (K ++ [m]) (m + 1) :=
  ⟨List.pairwise_append.2 ⟨h.1, List.pairwise_singleton _ _, fun a ha b hb => by obtain rfl := List.mem_singleton.1 hb; exact h.2.1 a ha⟩, fun j hj => by
    rcases List.mem_append.1 hj with hj | hj
    · have := h.2.1 j hj; omega
    · obtain rfl := List.mem_singleton.1 hj; omega, by rw [List.length_append, List.length_singleton]; have := h.2.2; omega⟩
theorem Up.keep {K : List Nat} {m : Nat} (h : Up K m) : keepE m (K.map fun (j : Nat) => (j : Int)) = 0 := by
  refine keepE_of (fun i hi => ?_) (fun i h1 h2 => ?_)
  · obtain ⟨j, hj, rfl⟩ := List.mem_map.1 hi
    have := h.2.1 j hj
    omega
  · rw [List.length_map] at h2
    have := List.pairwise_iff_getElem.1 h.1 (i - 1) i (by omega) h2 (by omega)
    simp only [List.getD_eq_getElem?_getD, List.getElem?_map, List.getElem?_eq_getElem h2, List.getElem?_eq_getElem (show i - 1 < K.length by omega), Option.map_some, Option.getD_some]
    omega
theorem below_undrew {B : Nat} {w w' : World} (h : Below B w.drew w') : Below B w w' := ⟨h.os, h.tape, h.output, h.size, h.block⟩
theorem up_len {K : List Nat} {m : Nat} (h : Up K m) (hm : m ≤ 1000000) : K.length ≤ 1000000 := Nat.le_trans h.2.2 hm
end Go.Proofs.Ytipffdjdfobaoaa
