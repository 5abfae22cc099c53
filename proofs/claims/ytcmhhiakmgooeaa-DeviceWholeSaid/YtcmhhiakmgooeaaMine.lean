/- Writes of the call's own: a copy of an argument's writes, whose flushes are taken away. Condition: at most 1000000 writes. -/
import Derived.Test.YtcmhhiakmgooeaaOther
namespace Go.Proofs.Ytcmhhiakmgooeaa
open Go.RowKit Go.Maps

def ptC (p : Pt) : List Value := [.int .u8 (p.at_.toNat : Int), .int .u8 (p.b.toNat : Int), .bool p.f]
/-- A row of writes of the call's own. -/
def OP (w : World) (base : Nat) (v : Value) (l : List Pt) : Prop := w.ownsRow base 49 3 v l.length (l.flatMap ptC)
theorem info_put : (Try.prog.info? 49).map (fun i => (i.zero, i.size, i.bytes)) = some (some (.agg #[.int .u8 0, .int .u8 0, .bool false]), 3, 3) := by kernel_rfl
theorem ptC_len (p : Pt) : (ptC p).length = 3 := rfl
theorem ptC_one (l : List Pt) : ∀ v ∈ l.flatMap ptC, v.oneCell' = true := fun v hv => by
  obtain ⟨p, _, h⟩ := List.mem_flatMap.1 hv
  simp [ptC] at h
  rcases h with rfl | rfl | rfl <;> rfl
theorem ptFlat_len (l : List Pt) : (l.flatMap ptC).length = l.length * 3 := by
  induction l with
  | nil => rfl
  | cons p r ih => rw [List.flatMap_cons, List.length_append, ih, ptC_len, List.length_cons]; omega
theorem ptFlat_get (P : List Pt) : ∀ (i : Nat) (h : i < P.length) (j : Nat) (_ : j < 3), (P.flatMap ptC)[i * 3 + j]? = (ptC P[i])[j]? := by
  induction P with
  | nil => intro i h; simp at h
  | cons f fs ih =>
    intro i h j hj
    have hl := ptC_len f
    rw [List.flatMap_cons]
    cases i with
    | zero => rw [Nat.zero_mul, Nat.zero_add, List.getElem?_append_left (by omega)]; rfl
    | succ i =>
      rw [List.getElem?_append_right (by omega), show (i + 1) * 3 + j - (ptC f).length = i * 3 + j by omega]
      exact ih i (by simpa using h) j hj
theorem OP.pl {w : World} {base : Nat} {v : Value} {l : List Pt} (h : OP w base v l) : PL w v l := by
  rcases h.2 with ⟨rfl, h0⟩ | ⟨g, cap, cur, hv, hb, hg, hcap, hm, hs, ht⟩
  · exact .inl ⟨List.eq_nil_of_length_eq_zero h0, none, 0, rfl⟩
  · subst hv
    refine .inr ⟨g, 0, cap, rfl, fun i hi => ?_⟩
    have c0 := World.ownsRow.cellAt h (i * 3 + 0) (by omega)
    have c1 := World.ownsRow.cellAt h (i * 3 + 1) (by omega)
    have c2 := World.ownsRow.cellAt h (i * 3 + 2) (by omega)
    rw [ptFlat_get l i hi _ (by omega)] at c0 c1 c2
    rw [Nat.zero_add]
    exact ⟨c0, c1, c2⟩
/-- A write without its flush. -/
def Pt.noF (p : Pt) : Pt := ⟨p.at_, p.b, false⟩
/-- The first k without their flush. -/
def offL (l : List Pt) (k : Nat) : List Pt := (l.take k).map Pt.noF ++ l.drop k
theorem offL_len (l : List Pt) (k : Nat) : (offL l k).length = l.length := by
  unfold offL; rw [List.length_append, List.length_map, List.length_take, List.length_drop]; omega
theorem offL_zero (l : List Pt) : offL l 0 = l := by simp [offL]
theorem offL_all (l : List Pt) : offL l l.length = l.map Pt.noF := by simp [offL]
theorem flat_set (l : List Pt) : ∀ (k : Nat) (_ : k < l.length), (l.flatMap ptC).set (k * 3 + 2) (.bool false) = (l.set k (l[k]).noF).flatMap ptC := by
  induction l with
  | nil => intro k h; simp at h
  | cons p r ih =>
    intro k h
    cases k with
    | zero => rfl
    | succ k =>
      rw [List.set_cons_succ, List.flatMap_cons, List.flatMap_cons, List.set_append_right _ _ (by rw [ptC_len]; omega), ptC_len, show (k + 1) * 3 + 2 - 3 = k * 3 + 2 by omega]
      rw [ih k (by simpa using h)]
      rfl
theorem offL_set (l : List Pt) (k : Nat) (h : k < l.length) : ((offL l k).flatMap ptC).set (k * 3 + 2) (.bool false) = (offL l (k + 1)).flatMap ptC := by
  have hl := offL_len l k
  rw [flat_set _ k (by omega)]
  congr 1
  have e : (offL l k)[k]'(by omega) = l[k] := by
    simp only [offL]
    rw [List.getElem_append_right (by rw [List.length_map, List.length_take]; omega)]
    simp only [List.length_map, List.length_take, List.getElem_drop]
    congr 1; omega
  rw [e]
  unfold offL
  rw [List.set_append_right _ _ (by rw [List.length_map, List.length_take]; omega), List.length_map, List.length_take, show k - min k l.length = 0 by omega, List.drop_eq_getElem_cons h, List.set_cons_zero, List.take_succ_eq_append_getElem h, List.map_append, List.map_singleton, List.append_assoc]
  rfl
theorem OP.off {w : World} {base g c : Nat} {l : List Pt} {k : Nat} (hk : k < l.length) (h : OP w base (.slice (some ⟨g, 0, none⟩) l.length c) (offL l k)) : OP (w.setCell ⟨g, k * 3 + 2, none⟩ (.bool false)) base (.slice (some ⟨g, 0, none⟩) l.length c) (offL l (k + 1)) := by
  unfold OP at h ⊢
  rw [offL_len] at h ⊢
  have := (World.ownsRow.stored h (k * 3 + 2) (.bool false)).1
  rw [offL_set l k hk] at this
  exact this
theorem OP.form {w : World} {base : Nat} {v : Value} {l : List Pt} (h : OP w base v l) : ∃ A c, v = .slice A l.length c := h.pl.form
theorem OP.at {w : World} {base n c : Nat} {A : Option Addr} {l : List Pt} (h : OP w base (.slice A n c) l) (hn : 0 < l.length) : ∃ g, A = some ⟨g, 0, none⟩ ∧ base ≤ g ∧ g < w.heap.size := by
  rcases h.2 with ⟨hv, h0⟩ | ⟨g, cap, cur, hv, hb, hg, _⟩
  · omega
  · injection hv with e1 _ _
    subst e1
    exact ⟨g, rfl, hb, (Array.getElem?_eq_some_iff.1 hg).1⟩
theorem OP.cell {w : World} {base g n c : Nat} {l : List Pt} (h : OP w base (.slice (some ⟨g, 0, none⟩) n c) l) (hn : n = l.length) (k : Nat) (hk : k < l.length) : w.cell? ⟨g, k * 3 + 2, none⟩ = some (.bool (l[k]).f) ∧ w.frozen? ⟨g, k * 3 + 2, none⟩ = false := by
  subst hn
  refine ⟨?_, World.ownsRow.frozenAt h _⟩
  have c2 := World.ownsRow.cellAt h (k * 3 + 2) (by omega)
  rw [ptFlat_get l k hk _ (by omega)] at c2
  exact c2
/-- Writes appended to an empty row of the call's own. -/
theorem wpList_append_pl {w : World} {ops : Array Oper} {rest : List Oper} {o : Oper} {a : Act} {Q : Exit → Act → World → Prop} (hgd : o.guard = none) (s x : Operand) (ho : o.op = .call { callee := .builtin .append, args := #[s, x], argTypes := #[47, 47] })
    (base : Nat) (v : Value) (hs : a.eval s = v) (hown : OP w base v []) (u : Value) (l : List Pt) (hx : a.eval x = u) (hu : PL w u l) (hnil : l = [] → u = .slice none 0 0 ∨ ∃ ad c, u = .slice (some ad) 0 c) (hb : l.length ≤ 1000000) (hbase : base ≤ w.heap.size)
    (h : ∀ v' w', OP w' base v' l → w.grownBy w' v.ownBlock → (∀ k, v.ownBlock = some k → base ≤ k) → wpList Try.prog ops Q rest (a.put o.dst v') w') : wpList Try.prog ops Q (o :: rest) a w := by
  obtain ⟨i0, hi, hz0, hz1, hz2⟩ := info_parts info_put
  have hk : ∀ k, v.ownBlock = some k → base ≤ k := fun k hk => (World.ownsRow.lt hown k hk).1
  have go : ∀ ad c, u = .slice (some ad) l.length c → (∀ j y, (l.flatMap ptC)[j]? = some y → w.cell? (ad.add j) = some y) → wpList Try.prog ops Q (o :: rest) a w := fun ad c hv hc => by
    refine wpList_append_own _ hgd s x 47 ho base 49 i0 _ 3 3 Try.underlying47 hi hz0 hz1 hz2 rfl (by decide) v 0 [] hs hown ad l.length c (l.flatMap ptC) (hx.trans hv) (ptFlat_len l) hc (ptC_one l) (by unfold maxLen; omega) (by omega) hbase (fun v' w' h1 h2 _ => h v' w' ?_ h2 hk)
    rw [Nat.zero_add, List.nil_append] at h1
    exact h1
  rcases hu with ⟨rfl, _⟩ | ⟨q, f, c, hv, hc⟩
  · rcases hnil rfl with rfl | ⟨ad, c, rfl⟩
    · refine wpList_plain hgd fun _ hK => ?_
      have hrun := run_append_owned_none (P := Try.prog) (w := w) base 47 o.type 49 i0 3 Try.underlying47 hi v 0 [] hown
      unfold Oper.wp execOp
      simp only [ho, resolve, invoke, builtin, Sem.run_bind, Sem.run_pure, Result.andThen_ok, List.map_toArray, List.map_cons, List.map_nil, hs, hx, hrun]
      exact hK _ _ (h v w hown ⟨rfl, rfl, rfl, Nat.le_refl _, fun _ _ _ => rfl⟩ hk)
    · exact go ad c rfl (fun j y hy => by simp at hy)
  · refine go _ c hv (fun j y hy => ?_)
    have hj : j < l.length * 3 := by have := (List.getElem?_eq_some_iff.1 hy).1; rwa [ptFlat_len] at this
    have hadd : (⟨q, f, none⟩ : Addr).add j = ⟨q, f + j, none⟩ := by unfold Addr.add; split <;> simp_all
    have hq : j / 3 < l.length := by omega
    obtain ⟨h0, h1, h2⟩ := hc (j / 3) hq
    have e := ptFlat_get l (j / 3) hq (j % 3) (by omega)
    rw [show j / 3 * 3 + j % 3 = j by omega, hy] at e
    rw [hadd]
    rcases (show j % 3 = 0 ∨ j % 3 = 1 ∨ j % 3 = 2 by omega) with hm | hm | hm
    · rw [hm] at e
      rw [show f + j = f + j / 3 * 3 by omega, h0]; exact e.symm
    · rw [hm] at e
      rw [show f + j = f + j / 3 * 3 + 1 by omega, h1]; exact e.symm
    · rw [hm] at e
      rw [show f + j = f + j / 3 * 3 + 2 by omega, h2]; exact e.symm
/-- Writes that flush nothing only wait. -/
theorem putL_noF (st : List Dv.Sec) (ca : List Dv.Wr) (l : List Pt) (h : ∀ p ∈ l, p.f = false) : putL (st, ca) l = (st, ca ++ l.map Pt.wr) := by
  unfold putL
  induction l generalizing ca with
  | nil => simp
  | cons p r ih =>
    rw [List.foldl_cons]
    have e : putF (st, ca) p = (st, ca ++ [p.wr]) := by unfold putF; rw [h p (by simp)]; rfl
    rw [e, ih _ (fun q hq => h q (by simp [hq])), List.append_assoc]; rfl
theorem noF_all (l : List Pt) : ∀ p ∈ l.map Pt.noF, p.f = false := fun p hp => by
  obtain ⟨q, _, rfl⟩ := List.mem_map.1 hp; rfl
end Go.Proofs.Ytcmhhiakmgooeaa
