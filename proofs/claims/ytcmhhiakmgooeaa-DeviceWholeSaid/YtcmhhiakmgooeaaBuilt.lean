/- A write is built of its parts. No condition. -/
import Derived.Test.YtcmhhiakmgooeaaApp
import Derived.Great.BuildSlice
namespace Go.Proofs.Ytcmhhiakmgooeaa
open Go.RowKit Go.Maps

theorem fold_set (vs : List Value) : ∀ (o k : Nat) (l : List Value), o + k + vs.length ≤ l.length →
    (vs.zipIdx k).foldl (fun cs (c, j) => cs.setIfInBounds (o + j) c) l.toArray = (l.take (o + k) ++ vs ++ l.drop (o + k + vs.length)).toArray := by
  induction vs with
  | nil => intro o k l _; simp
  | cons v r ih =>
    intro o k l h
    rw [List.length_cons] at h
    rw [List.zipIdx_cons, List.foldl_cons]
    have h1 : l.toArray.setIfInBounds (o + k) v = (l.set (o + k) v).toArray := by simp
    show List.foldl _ (l.toArray.setIfInBounds (o + k) v) _ = _
    rw [h1, ih o (k + 1) (l.set (o + k) v) (by rw [List.length_set]; omega)]
    congr 1
    have hp : o + k < l.length := by omega
    have ht : (l.set (o + k) v).take (o + (k + 1)) = l.take (o + k) ++ [v] := by
      rw [List.set_eq_take_append_cons_drop, if_pos hp, ← Nat.add_assoc, List.take_append]
      have hl : (l.take (o + k)).length = o + k := by rw [List.length_take]; omega
      rw [hl, List.take_of_length_le (by omega), show o + k + 1 - (o + k) = 1 by omega]
      rfl
    have hd : (l.set (o + k) v).drop (o + (k + 1) + r.length) = l.drop (o + k + (r.length + 1)) := by
      rw [List.drop_set_of_lt (by omega), show o + (k + 1) + r.length = o + k + (r.length + 1) by omega]
    rw [ht, hd]
    simp
theorem fill_set (vs l : List Value) (o : Nat) (h : o + vs.length ≤ l.length) : Array.foldl (fun (cs : Array Value) (x : Value × Nat) => cs.setIfInBounds (o + x.snd) x.fst) l.toArray vs.toArray.zipIdx = (l.take o ++ vs ++ l.drop (o + vs.length)).toArray := by
  have := fold_set vs o 0 l (by omega)
  rw [← Array.foldl_toList, Array.toList_zipIdx]
  simpa using this
theorem places_wr : (match Try.prog.underlying 80 with | some (.struct fields) => fields.toList.mapM (fun f => (Try.prog.info? f.type).map fun i => (f.offset, i.size)) | _ => none) = some [(0, 1), (1, 128)] := by kernel_rfl
theorem built_wr (n : Int) (x : Dv.Sec) : Try.prog.built 80 [(0, .int .i64 n), (1, .agg (secC x).toArray)] = some (.int .i64 n :: secC x).toArray := by
  have hp := places_wr
  obtain ⟨i0, hi, hz0, hz1, hz2⟩ := info_parts info_wr
  unfold Program.built
  rw [hi]
  cases hu : Try.prog.underlying 80 with
  | none => rw [hu] at hp; cases hp
  | some d =>
    rw [hu] at hp
    cases d with
    | struct fields =>
      simp only at hp ⊢
      rw [hz0, hp]
      simp only
      have hs := secC_size x
      have hs2 := wrC_size (0, Dv.zeroS)
      unfold wrV
      simp only [Instr.fill, List.getElem?_toArray, List.getElem?_cons_zero, List.getElem?_cons_succ]
      have h1 := fill_set [Value.int .i64 n] (wrC (0, Dv.zeroS)) 0 (by rw [wrC_len]; simp)
      have h2 := fill_set (secC x) (Value.int .i64 n :: secC Dv.zeroS) 1 (by rw [List.length_cons, secC_len, secC_len]; omega)
      have e1 : ((wrC (0, Dv.zeroS)).take 0 ++ [Value.int .i64 n] ++ (wrC (0, Dv.zeroS)).drop (0 + [Value.int .i64 n].length)) = Value.int .i64 n :: secC Dv.zeroS := rfl
      have e2 : ((Value.int .i64 n :: secC Dv.zeroS).take 1 ++ secC x ++ (Value.int .i64 n :: secC Dv.zeroS).drop (1 + (secC x).length)) = Value.int .i64 n :: secC x := by
        have hd : (Value.int .i64 n :: secC Dv.zeroS).drop (1 + (secC x).length) = [] := List.drop_of_length_le (by rw [List.length_cons, secC_len, secC_len]; omega)
        rw [hd, List.append_nil]; rfl
      rw [e1] at h1
      rw [e2] at h2
      have h1' : Array.foldl (fun (cs : Array Value) (x : Value × Nat) => cs.setIfInBounds (0 + x.snd) x.fst) (wrC (0, Dv.zeroS)).toArray (#[Value.int .i64 n] : Array Value).zipIdx = (Value.int .i64 n :: secC Dv.zeroS).toArray := h1
      have c1 : (Value.int .i64 n).cells.size = 1 := rfl
      have c2 : (Value.agg (wrC (0, Dv.zeroS)).toArray).cells.size = 129 := hs2
      have c3 : (Value.agg (secC x).toArray).cells.size = 128 := hs
      refine (if_neg ?_).trans ?_
      · rw [Bool.or_eq_true, decide_eq_true_iff, decide_eq_true_iff]
        rintro (hh | hh)
        · exact hh c1
        · omega
      · have h1'' : Array.foldl (fun (cs : Array Value) (x : Value × Nat) => cs.setIfInBounds (0 + x.snd) x.fst) (Value.agg (wrC (0, Dv.zeroS)).toArray).cells (Value.int .i64 n).cells.zipIdx = (Value.int .i64 n :: secC Dv.zeroS).toArray := h1
        rw [h1'']
        refine (if_neg ?_).trans ?_
        · rw [Bool.or_eq_true, decide_eq_true_iff, decide_eq_true_iff]
          have c4 : ((Value.int .i64 n :: secC Dv.zeroS).toArray).size = 129 := by rw [List.size_toArray, List.length_cons, secC_len]
          rintro (hh | hh)
          · exact hh c3
          · omega
        · exact congrArg some h2
    | _ => simp at hp
/-- What the walk asks of a write that is built, and of a slice of one write. -/
theorem build_gen (n : Nat) (x : Dv.Sec) : ∃ (zc zm : Array Value) (rg : Array Nat), (∀ w, (zeroValue 80).run Try.prog w = .ok (.agg zc) w) ∧ (zc = #[]) = False ∧ (zc.size < 129) = False ∧
    List.foldl (fun (cs : Array Value) (x : Value × Nat) => cs.setIfInBounds (1 + x.snd) x.fst) (zc.setIfInBounds 0 (.int .i64 (n : Int))) (secC x).zipIdx = (wrC (n, x)).toArray ∧
    Array.range 129 = rg ∧ rg.map (fun i => zc[i % zc.size]!) = zm ∧ zm.size = 129 ∧ List.foldl (fun (cs : Array Value) (x : Value × Nat) => cs.setIfInBounds x.snd x.fst) zm (wrC (n, x)).zipIdx = (wrC (n, x)).toArray := by
  have hs := wrC_size (0, Dv.zeroS)
  refine ⟨(wrC (0, Dv.zeroS)).toArray, _, _, zeroWr, ?_, ?_, ?_, rfl, rfl, by simp, ?_⟩
  · exact eq_false (fun h => by rw [h] at hs; cases hs)
  · exact eq_false (by omega)
  · have h1 : (wrC (0, Dv.zeroS)).toArray.setIfInBounds 0 (.int .i64 (n : Int)) = (Value.int .i64 (n : Int) :: secC Dv.zeroS).toArray := by simp [wrC]
    have h2 := fold_set (secC x) 1 0 (Value.int .i64 (n : Int) :: secC Dv.zeroS) (by rw [List.length_cons, secC_len, secC_len]; omega)
    rw [h1]
    refine Eq.trans h2 ?_
    have hd : (Value.int .i64 (n : Int) :: secC Dv.zeroS).drop (1 + 0 + (secC x).length) = [] := List.drop_of_length_le (by rw [List.length_cons, secC_len, secC_len]; omega)
    rw [hd, List.append_nil]; rfl
  · generalize hq : (Array.range 129).map (fun i => (wrC (0, Dv.zeroS)).toArray[i % (wrC (0, Dv.zeroS)).toArray.size]!) = q
    have hql : q.toList.length = 129 := by rw [← hq]; simp
    have h2 := fold_set (wrC (n, x)) 0 0 q.toList (by rw [wrC_len, hql]; omega)
    have hd : q.toList.drop (0 + 0 + (wrC (n, x)).length) = [] := List.drop_of_length_le (by rw [wrC_len, hql]; omega)
    rw [hd, List.append_nil] at h2
    simpa using h2
/-- A write is appended to a row that lies in blocks from base on. -/
theorem wpList_append_wrB {ops : Array Oper} {rest : List Oper} {o : Oper} {a : Act} {w : World} {Q : Exit → Act → World → Prop} (hgd : o.guard = none) (s x : Operand) (ho : o.op = .call { callee := .builtin .append, args := #[s, x], argTypes := #[30, 30] })
    (base : Nat) (v : Value) (ca : List Dv.Wr) (hs : a.eval s = v) (hc : Cch w base v ca) (p : Dv.Wr) (g : Nat) (hx : a.eval x = .slice (some ⟨g, 0, none⟩) 1 1) (hb : w.rangeAt g 0 (wrC p)) (hl : ca.length ≤ 1000000) (hbase : base ≤ w.heap.size)
    (h : ∀ v' w', Cch w' base v' (ca ++ [p]) → w.grownBy w' v.ownBlock → (∀ k, v.ownBlock = some k → base ≤ k) → wpList Try.prog ops Q rest (a.put o.dst v') w') : wpList Try.prog ops Q (o :: rest) a w := by
  obtain ⟨i0, hi, hz0, hz1, hz2⟩ := info_parts info_wr
  have hlen := wrC_len p
  refine wpList_append_own _ hgd s x 30 ho base 80 i0 _ 129 136 sliceWr hi hz0 hz1 hz2 (by show (wrC _).toArray.size = 129; exact wrC_size _) (by decide) v ca.length (ca.flatMap wrC) hs hc ⟨g, 0, none⟩ 1 1 (wrC p) hx (by rw [hlen]) (fun j u hu => by
    rw [Addr.add_mid]; exact hb j u hu) (wrC_one p) (by unfold maxLen; omega) (by omega) hbase (fun v' w' h1 h2 _ => h v' w' ?_ h2 (fun k hk => (World.ownsRow.lt hc k hk).1))
  unfold Cch
  rw [List.length_append, List.flatMap_append]
  simpa using h1
/-- A slice of one write is built. -/
theorem fill_one (z : Value) (p : Dv.Wr) : Instr.fill (fun i => some (i * 129, 129)) ((Array.range (1 * 129)).map (fun i => z.cells[i % z.cells.size]!)) [(0, .agg (wrC p).toArray)] = some (wrC p).toArray := by
  generalize hq : (Array.range (1 * 129)).map (fun i => z.cells[i % z.cells.size]!) = q
  have hql : q.size = 129 := by rw [← hq]; simp
  have c1 : (Value.agg (wrC p).toArray).cells.size = 129 := wrC_size p
  have h2 := fill_set (wrC p) q.toList 0 (by rw [wrC_len]; simp [hql])
  have hd : q.toList.drop (0 + (wrC p).length) = [] := List.drop_of_length_le (by rw [wrC_len]; simp [hql])
  rw [hd, List.append_nil] at h2
  simp only [Instr.fill]
  refine (if_neg ?_).trans ?_
  · rw [Bool.or_eq_true, decide_eq_true_iff, decide_eq_true_iff]
    rintro (hh | hh)
    · exact hh c1
    · omega
  · have h3 : Array.foldl (fun (cs : Array Value) (x : Value × Nat) => cs.setIfInBounds (0 * 129 + x.snd) x.fst) q (Value.agg (wrC p).toArray).cells.zipIdx = (wrC p).toArray := by
      have e : q.toList.toArray = q := by simp
      rw [e] at h2
      show Array.foldl (fun (cs : Array Value) (x : Value × Nat) => cs.setIfInBounds (0 * 129 + x.snd) x.fst) q (wrC p).toArray.zipIdx = _
      simp only [Nat.zero_mul]
      exact h2
    exact congrArg some h3
theorem wpList_build_wr {ops : Array Oper} {rest : List Oper} {o : Oper} {a : Act} {w : World} {Q : Exit → Act → World → Prop} (hg : o.guard = none) (x : Operand) (ho : o.op = .buildSlice 30 1 #[(0, x)])
    (p : Dv.Wr) (hx : a.eval x = .agg (wrC p).toArray)
    (h : wpList Try.prog ops Q rest (a.put o.dst (.slice (some ⟨w.heap.size, 0, none⟩) 1 1)) (w.alloc (.cells (wrC p).toArray 80))) : wpList Try.prog ops Q (o :: rest) a w := by
  obtain ⟨i0, hi, hz0, hz1, _⟩ := info_parts info_wr
  refine wpList_buildSlice hg 30 80 1 #[(0, x)] ho (wrC p).toArray i0 _ sliceWr hi hz0 (by rw [hz1]; omega) (by rw [hz1]; omega) ?_ h
  rw [hz1]
  have : ((#[(0, x)] : Array (Nat × Operand)).map fun (i, x) => (i, a.eval x)).toList = [(0, .agg (wrC p).toArray)] := by simp [hx]
  rw [this]
  exact fill_one _ p
end Go.Proofs.Ytcmhhiakmgooeaa
