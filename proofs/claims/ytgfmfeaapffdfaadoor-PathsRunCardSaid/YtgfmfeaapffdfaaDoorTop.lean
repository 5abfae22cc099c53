/- The contracts of Compare, Under and Common, of the program and of the reference. Conditions: the slices hold what is said of them; paths of at most 10^6 strings of at most 10^9 bytes. -/
import Derived.Test.YtgfmfeaapffdfaaDoorFresh
import Derived.Test.YtgfmfeaapffdfaaDoorPairs
import Derived.Test.YtgfmfeaapffdfaaDoorCmp
namespace Go.Proofs.YtgfmfeaapffdfaaDoor
open Go.RowKit

def Fit (p : Path) : Prop := p.length ≤ 1000000 ∧ ∀ s ∈ p, s.size ≤ 1000000000
def bothE (p q : Path) : Nat := if checkE p = 0 then checkE q else checkE p
theorem allE_two (p q : Path) : allE [p, q] = bothE p q := by
  unfold bothE allE
  by_cases h : checkE p = 0
  · rw [if_pos h, if_pos h]
    show (if checkE q = 0 then 0 else checkE q) = _
    split <;> simp_all
  · rw [if_neg h, if_neg h]
theorem allE_three (p q r : Path) : allE [p, q, r] = if bothE p q = 0 then checkE r else bothE p q := by
  unfold bothE
  show (if checkE p = 0 then (if checkE q = 0 then (if checkE r = 0 then 0 else checkE r) else checkE q) else checkE p) = _
  by_cases h : checkE p = 0
  · rw [if_pos h, if_pos h]
    by_cases k : checkE q = 0
    · rw [if_pos k, if_pos k]; split <;> simp_all
    · rw [if_neg k, if_neg k]
  · rw [if_neg h, if_neg h, if_neg h]
theorem bothE_zero {p q : Path} (h : bothE p q = 0) : checkE p = 0 ∧ checkE q = 0 := by
  unfold bothE at h
  by_cases k : checkE p = 0
  · rw [if_pos k] at h; exact ⟨k, h⟩
  · rw [if_neg k] at h; exact (k h).elim
theorem names_of {p : Path} (h : checkE p = 0) : ∀ s ∈ p, nameE s = 0 := ((checkE_zero p).1 h).2
def compR (p q : Path) : Int × Nat := if bothE p q = 0 then (pc p q, 0) else (0, bothE p q)
def undR (p q : Path) : Bool × Nat := if bothE p q = 0 then (un p q, 0) else (false, bothE p q)
def comR (p q : Path) : Path × Nat := if bothE p q = 0 then (p.take (cn p q), 0) else ([], bothE p q)
/-- What a call hands back: a slice of strings, and an error. -/
def PathE (w : World) (r : Path × Nat) (e : Ending) (w' : World) : Prop := ∃ v, e = .returned (.tuple #[v, .int .i64 (r.2 : Int)]) ∧ SL encS w' w'.heap.size v r.1 ∧ Below w.heap.size w w'
theorem PathE.from {w w1 w' : World} {r : Path × Nat} {e : Ending} (h : PathE w1 r e w') (hb : Below w.heap.size w w1) : PathE w r e w' := by
  obtain ⟨v, h1, h2, h3⟩ := h
  exact ⟨v, h1, h2, hb.trans (h3.mono hb.size)⟩
theorem int_beq (a b : Nat) : ((a : Int) == (b : Int)) = (a == b) := by
  rw [Bool.eq_iff_iff]; simp only [beq_iff_eq]; omega
theorem own_new (w : World) (t : TypeId) : (w.alloc (.cells #[] t)).ownsRow w.heap.size t 1 (.slice (some ⟨w.heap.size, 0, none⟩) 0 0) 0 [] :=
  ⟨rfl, .inr ⟨w.heap.size, 0, #[], rfl, Nat.le_refl _, heap_alloc_last w _, Nat.le_refl _, by simp [maxLen], rfl, rfl⟩⟩
theorem ownsRow_drewN {w : World} {base : Nat} {t : TypeId} {size n : Nat} {v : Value} {xs : List Value} (h : w.ownsRow base t size v n xs) (m : Nat) : (w.drewN m).ownsRow base t size v n xs := h
theorem encS_one (l : Path) : ∀ u ∈ l.map encS, u.oneCell' = true := fun u hu => by obtain ⟨s, _, rfl⟩ := List.mem_map.1 hu; rfl
/-- A slice of strings, wherever it lies, appended to one of the call's own. -/
theorem wp_append_sl {w : World} {o : Oper} {a : Act} {K : Act → World → Prop} {Q : Exit → Act → World → Prop} (s x : Operand) (ho : o.op = .call { callee := .builtin .append, args := #[s, x], argTypes := #[22, 22] })
    (base lim : Nat) (v : Value) (n : Nat) (xs : List Value) (hs : a.eval s = v) (hown : w.ownsRow base 9 1 v n xs) (u : Value) (l : Path) (hx : a.eval x = u) (hu : SL encS w lim u l) (hb : n + l.length ≤ 1000000000) (hbase : base ≤ w.heap.size)
    (h : ∀ v' w', w'.ownsRow base 9 1 v' (n + l.length) (xs ++ l.map encS) → w.grownBy w' v.ownBlock → K (a.put o.dst v') w') : o.wp Tryd.prog a w K Q := by
  obtain ⟨i0, hi, hz0, hz1, hz2⟩ := info_parts info_str
  rcases hu with ⟨rfl, rfl | ⟨ad, c, rfl⟩⟩ | ⟨b, off, c, rfl, hl, hcap, hc⟩
  · have hrun := run_append_owned_none (P := Tryd.prog) (w := w) base 22 o.type 9 i0 1 Tryd.underlying22 hi v n xs hown
    unfold Oper.wp execOp
    simp only [ho, resolve, invoke, builtin, Sem.run_bind, Sem.run_pure, Result.andThen_ok, List.map_toArray, List.map_cons, List.map_nil, hs, hx, hrun]
    exact h v w (by simpa using hown) ⟨rfl, rfl, rfl, Nat.le_refl _, fun _ _ _ => rfl⟩
  · refine wp_append_own w s x 22 ho base 9 i0 (.string ⟨#[]⟩) 1 16 Tryd.underlying22 hi hz0 hz1 hz2 rfl (by decide) v n xs hs hown ad 0 c [] hx rfl (by simp) (by simp) (by unfold maxLen; omega) (by omega) hbase (fun v' w' h1 h2 _ => h v' w' (by simpa using h1) h2)
  · refine wp_append_own w s x 22 ho base 9 i0 (.string ⟨#[]⟩) 1 16 Tryd.underlying22 hi hz0 hz1 hz2 rfl (by decide) v n xs hs hown ⟨b, off, none⟩ l.length c (l.map encS) hx (by simp) (fun j y hy => ?_) (encS_one l) (by unfold maxLen; omega) (by omega) hbase (fun v' w' h1 h2 _ => h v' w' h1 h2)
    have hadd : (⟨b, off, none⟩ : Addr).add j = ⟨b, off + j, none⟩ := by unfold Addr.add; split <;> simp_all
    rw [List.getElem?_map] at hy
    cases hg : l[j]? with
    | none => rw [hg] at hy; cases hy
    | some e =>
      rw [hg] at hy
      obtain ⟨hj, rfl⟩ := List.getElem?_eq_some_iff.1 hg
      rw [hadd, hc j hj]; exact hy
theorem wpList_append_sl {w : World} {ops : Array Oper} {rest : List Oper} {o : Oper} {a : Act} {Q : Exit → Act → World → Prop} (hgd : o.guard = none) (s x : Operand) (ho : o.op = .call { callee := .builtin .append, args := #[s, x], argTypes := #[22, 22] })
    (base lim : Nat) (v : Value) (n : Nat) (xs : List Value) (hs : a.eval s = v) (hown : w.ownsRow base 9 1 v n xs) (u : Value) (l : Path) (hx : a.eval x = u) (hu : SL encS w lim u l) (hb : n + l.length ≤ 1000000000) (hbase : base ≤ w.heap.size)
    (h : ∀ v' w', w'.ownsRow base 9 1 v' (n + l.length) (xs ++ l.map encS) → w.grownBy w' v.ownBlock → wpList Tryd.prog ops Q rest (a.put o.dst v') w') : wpList Tryd.prog ops Q (o :: rest) a w :=
  wpList_plain hgd fun _ hK => wp_append_sl s x ho base lim v n xs hs hown u l hx hu hb hbase fun v' w' h1 h2 => hK _ _ (h v' w' h1 h2)
theorem cells_at (w : World) (cs : Array Value) (t : TypeId) (j : Nat) : (w.alloc (.cells cs t)).cell? ⟨w.heap.size, j, none⟩ = cs[j]? := cell_of_row _ _ j cs t (0, 0) (heap_alloc_last w _)
theorem LL_two {w : World} {v v2 : Value} {p q : Path} (hv : SL encS w w.heap.size v p) (hv2 : SL encS w w.heap.size v2 q) :
    LL (w.alloc (.cells #[v, v2] 22)) (w.alloc (.cells #[v, v2] 22)).heap.size (.slice (some ⟨w.heap.size, 0, none⟩) 2 2) [p, q] := by
  have hb : Below w.heap.size w (w.alloc (.cells #[v, v2] 22)) := (Below.refl _ w).alloc (Nat.le_refl _) _
  refine .inr ⟨w.heap.size, 0, 2, rfl, by simp, fun i hi => ?_⟩
  rw [cells_at, Nat.zero_add]
  rcases i with _ | _ | i
  · exact ⟨v, rfl, hv.next hb⟩
  · exact ⟨v2, rfl, hv2.next hb⟩
  · simp at hi; omega
theorem LL_three {w : World} {v v2 v3 : Value} {p q r : Path} (hv : SL encS w w.heap.size v p) (hv2 : SL encS w w.heap.size v2 q) (hv3 : SL encS w w.heap.size v3 r) :
    LL (w.alloc (.cells #[v, v2, v3] 22)) (w.alloc (.cells #[v, v2, v3] 22)).heap.size (.slice (some ⟨w.heap.size, 0, none⟩) 3 3) [p, q, r] := by
  have hb : Below w.heap.size w (w.alloc (.cells #[v, v2, v3] 22)) := (Below.refl _ w).alloc (Nat.le_refl _) _
  refine .inr ⟨w.heap.size, 0, 3, rfl, by simp, fun i hi => ?_⟩
  rw [cells_at, Nat.zero_add]
  rcases i with _ | _ | _ | i
  · exact ⟨v, rfl, hv.next hb⟩
  · exact ⟨v2, rfl, hv2.next hb⟩
  · exact ⟨v3, rfl, hv3.next hb⟩
  · simp at hi; omega
theorem fit_two {p q : Path} (h1 : Fit p) (h2 : Fit q) : ∀ x ∈ [p, q], ∀ s ∈ x, s.size ≤ 1000000000 := by
  intro x hx
  rcases List.mem_cons.1 hx with rfl | hx
  · exact h1.2
  · obtain rfl := List.mem_singleton.1 hx; exact h2.2
theorem fit_three {p q r : Path} (h1 : Fit p) (h2 : Fit q) (h3 : Fit r) : ∀ x ∈ [p, q, r], ∀ s ∈ x, s.size ≤ 1000000000 := by
  intro x hx
  rcases List.mem_cons.1 hx with rfl | hx
  · exact h1.2
  · exact fit_two h2 h3 x hx
theorem int_zero {n : Nat} (h : n = 0) : (((n : Nat) : Int) != 0) = false := by rw [h]; rfl
theorem int_some {n : Nat} (h : ¬ n = 0) : (((n : Nat) : Int) != 0) = true := by rw [bne_iff_ne]; omega
theorem int_zero' {n : Nat} (h : n = 0) : (((n : Nat) : Int) == 0) = true := by rw [h]; rfl
theorem int_some' {n : Nat} (h : ¬ n = 0) : (((n : Nat) : Int) == 0) = false := by rw [beq_eq_false_iff_ne]; omega
theorem Fit.take {p : Path} (h : Fit p) (k : Nat) : Fit (p.take k) := ⟨by have := h.1; rw [List.length_take]; omega, fun s hs => h.2 s (List.mem_of_mem_take hs)⟩
theorem Fit.drop {p : Path} (h : Fit p) (k : Nat) : Fit (p.drop k) := ⟨by have := h.1; rw [List.length_drop]; omega, fun s hs => h.2 s (List.mem_of_mem_drop hs)⟩

set_option maxRecDepth 100000 in
set_option maxHeartbeats 2000000 in
theorem pCompare_any (w : World) (v v2 : Value) (p q : Path) (hv : SL encS w w.heap.size v p) (hv2 : SL encS w w.heap.size v2 q) (hp : Fit p) (hq : Fit q) :
    Calls Tryd.prog 22 #[v, v2] w fun e w' => e = .returned (.tuple #[.int .i64 (compR p q).1, .int .i64 ((compR p q).2 : Nat)]) ∧ Below w.heap.size w w' := by
  obtain ⟨A, c, rfl⟩ := hv.form
  obtain ⟨A2, c2, rfl⟩ := hv2.form
  have HCA := Lib.hid (checkAll_any _ _ _ (LL_two hv hv2) (by simp) (fit_two hp hq))
  rw [allE_two] at HCA
  have hB1 : Below w.heap.size w (w.alloc (.cells #[.slice A p.length c, .slice A2 q.length c2] 22)) := (Below.refl _ w).alloc (Nat.le_refl _) _
  by_cases hE : bothE p q = 0
  case neg =>
    have hb := int_some hE
    have H : Hid (compR p q = (0, bothE p q)) := by show compR p q = _; unfold compR; rw [if_neg hE]
    have HB := Lib.hid hB1
    clear hE hv hv2 hB1
    go_enter Tryd.func22, Tryd.ntmps22
    go_wp2_with (go_at_call 44; refine HCA.out.mono ?_; rintro e w' ⟨rfl, rfl⟩)
    go_ret2
    rw [H.out]
    exact ⟨rfl, HB.out⟩
  have hb := int_zero hE
  have hz := bothE_zero hE
  have H : Hid (compR p q = (pc p q, 0)) := by show compR p q = _; unfold compR; rw [if_pos hE]
  have HC := Lib.hid (compare_any (w.alloc (.cells #[.slice A p.length c, .slice A2 q.length c2] 22)) _ _ p q (hv.next hB1) (hv2.next hB1) hp.1 hq.1 (names_of hz.1) (names_of hz.2))
  have HB := Lib.hid hB1
  clear hE hz hv hv2 hB1
  go_enter Tryd.func22, Tryd.ntmps22
  go_wp2_with (first | (go_at_call 44; refine HCA.out.mono ?_; rintro e w' ⟨rfl, rfl⟩) | (go_at_call 45; refine HC.out.mono ?_; rintro e w2 ⟨rfl, hb2⟩))
  go_ret2
  rw [H.out]
  exact ⟨rfl, HB.out.trans (hb2.below.mono (by simp))⟩

set_option maxRecDepth 100000 in
set_option maxHeartbeats 2000000 in
theorem pUnder_any (w : World) (v v2 : Value) (p q : Path) (hv : SL encS w w.heap.size v p) (hv2 : SL encS w w.heap.size v2 q) (hp : Fit p) (hq : Fit q) :
    Calls Tryd.prog 24 #[v, v2] w fun e w' => e = .returned (.tuple #[.bool (undR p q).1, .int .i64 ((undR p q).2 : Nat)]) ∧ Below w.heap.size w w' := by
  obtain ⟨A, c, rfl⟩ := hv.form
  obtain ⟨A2, c2, rfl⟩ := hv2.form
  have HCA := Lib.hid (checkAll_any _ _ _ (LL_two hv hv2) (by simp) (fit_two hp hq))
  rw [allE_two] at HCA
  have hB1 : Below w.heap.size w (w.alloc (.cells #[.slice A p.length c, .slice A2 q.length c2] 22)) := (Below.refl _ w).alloc (Nat.le_refl _) _
  by_cases hE : bothE p q = 0
  case neg =>
    have hb := int_some hE
    have H : Hid (undR p q = (false, bothE p q)) := by show undR p q = _; unfold undR; rw [if_neg hE]
    have HB := Lib.hid hB1
    clear hE hv hv2 hB1
    go_enter Tryd.func24, Tryd.ntmps24
    go_wp2_with (go_at_call 44; refine HCA.out.mono ?_; rintro e w' ⟨rfl, rfl⟩)
    go_ret2
    rw [H.out]
    exact ⟨rfl, HB.out⟩
  have hb := int_zero hE
  have hz := bothE_zero hE
  have H : Hid (undR p q = (un p q, 0)) := by show undR p q = _; unfold undR; rw [if_pos hE]
  have HC := Lib.hid (under_any (w.alloc (.cells #[.slice A p.length c, .slice A2 q.length c2] 22)) _ _ p q (hv.next hB1) (hv2.next hB1) hp.1 hq.1 (names_of hz.1) (names_of hz.2))
  have HB := Lib.hid hB1
  clear hE hz hv hv2 hB1
  go_enter Tryd.func24, Tryd.ntmps24
  go_wp2_with (first | (go_at_call 44; refine HCA.out.mono ?_; rintro e w' ⟨rfl, rfl⟩) | (go_at_call 48; refine HC.out.mono ?_; rintro e w2 ⟨rfl, hb2⟩))
  go_ret2
  rw [H.out]
  exact ⟨rfl, HB.out.trans (hb2.mono (by simp))⟩

set_option maxRecDepth 100000 in
set_option maxHeartbeats 2000000 in
theorem pCommon_any (w : World) (v v2 : Value) (p q : Path) (hv : SL encS w w.heap.size v p) (hv2 : SL encS w w.heap.size v2 q) (hp : Fit p) (hq : Fit q) :
    Calls Tryd.prog 26 #[v, v2] w fun e w' => PathE w (comR p q) e w' := by
  obtain ⟨A, c, rfl⟩ := hv.form
  obtain ⟨A2, c2, rfl⟩ := hv2.form
  have HCA := Lib.hid (checkAll_any _ _ _ (LL_two hv hv2) (by simp) (fit_two hp hq))
  rw [allE_two] at HCA
  have hB1 : Below w.heap.size w (w.alloc (.cells #[.slice A p.length c, .slice A2 q.length c2] 22)) := (Below.refl _ w).alloc (Nat.le_refl _) _
  by_cases hE : bothE p q = 0
  case neg =>
    have hb := int_some hE
    have H : Hid (comR p q = ([], bothE p q)) := by show comR p q = _; unfold comR; rw [if_neg hE]
    have HB := Lib.hid hB1
    clear hE hv hv2 hB1
    go_enter Tryd.func26, Tryd.ntmps26
    go_wp2_with (go_at_call 44; refine HCA.out.mono ?_; rintro e w' ⟨rfl, rfl⟩)
    go_ret2
    rw [H.out]
    exact ⟨_, rfl, SL.nil _ _, HB.out⟩
  have hb := int_zero hE
  have hz := bothE_zero hE
  have H : Hid (comR p q = (p.take (cn p q), 0)) := by show comR p q = _; unfold comR; rw [if_pos hE]
  have HC := Lib.hid (common_any (w.alloc (.cells #[.slice A p.length c, .slice A2 q.length c2] 22)) _ _ p q (hv.next hB1) (hv2.next hB1) hp.1 hq.1 (names_of hz.1) (names_of hz.2))
  have HB := Lib.hid hB1
  have hcn := (cn_le p q).1
  have hcap := hv.cap
  have HV := Lib.hid (hv.next hB1)
  have HFT := Lib.hid (hp.take (cn p q))
  clear hE hz hv hv2 hB1
  go_enter Tryd.func26, Tryd.ntmps26
  go_wp2_with (first | (go_at_call 44; refine HCA.out.mono ?_; rintro e w' ⟨rfl, rfl⟩) | (go_at_call 50; refine HC.out.mono ?_; rintro e w2 ⟨rfl, hb2⟩))
  refine (fresh_any w2 _ (p.take (cn p q)) ((HV.out.next hb2).first hcn) HFT.out.1 HFT.out.2).mono ?_
  rintro e w3 ⟨v', rfl, hown, hb3⟩
  have hlen : (p.take (cn p q)).length = cn p q := by simp; omega
  obtain ⟨A3, c3, hv3⟩ := hown.sl.form
  rw [hlen] at hv3
  subst hv3
  have HO := Lib.hid hown.sl
  have HB2 := Lib.hid ((HB.out.trans (hb2.mono (by simp))).trans (hb3.mono (by have := hb2.size; simp at this; omega)))
  clear hown hb2 hb3
  go_wp2_with fail
  go_ret2
  rw [H.out]
  exact ⟨_, rfl, HO.out, HB2.out⟩

set_option maxRecDepth 100000 in
set_option maxHeartbeats 2000000 in
theorem both_any (w : World) (v v2 : Value) (p q : Path) (hv : SL encS w w.heap.size v p) (hv2 : SL encS w w.heap.size v2 q) (hp : Fit p) (hq : Fit q) :
    Calls Tryd.prog 46 #[v, v2] w fun e w' => e = .returned (.int .i64 (bothE p q : Nat)) ∧ w = w' := by
  obtain ⟨A, c, rfl⟩ := hv.form
  obtain ⟨A2, c2, rfl⟩ := hv2.form
  have HC := Lib.hid (rcheck_any w _ p hv hp.2)
  have HC2 := Lib.hid (rcheck_any w _ q hv2 hq.2)
  clear hv hv2
  by_cases hz : checkE p = 0
  · have hb := int_zero' hz
    have H : Hid (bothE p q = checkE q) := by show bothE p q = _; unfold bothE; rw [if_pos hz]
    go_enter Tryd.func46, Tryd.ntmps46
    go_wp2_with fail
    refine HC.out.mono ?_
    rintro e w' ⟨rfl, rfl⟩
    go_wp2_with fail
    refine HC2.out.mono ?_
    rintro e w' ⟨rfl, rfl⟩
    go_wp2_with fail
    go_ret
    exact ⟨ret_int (by rw [H.out]), rfl⟩
  · have hb := int_some' hz
    have H : Hid (bothE p q = checkE p) := by show bothE p q = _; unfold bothE; rw [if_neg hz]
    go_enter Tryd.func46, Tryd.ntmps46
    go_wp2_with fail
    refine HC.out.mono ?_
    rintro e w' ⟨rfl, rfl⟩
    go_wp2_with fail
    go_ret
    exact ⟨ret_int (by rw [H.out]), rfl⟩

set_option maxRecDepth 100000 in
set_option maxHeartbeats 2000000 in
theorem rCompare_any (w : World) (v v2 : Value) (p q : Path) (hv : SL encS w w.heap.size v p) (hv2 : SL encS w w.heap.size v2 q) (hp : Fit p) (hq : Fit q) :
    Calls Tryd.prog 23 #[v, v2] w fun e w' => e = .returned (.tuple #[.int .i64 (compR p q).1, .int .i64 ((compR p q).2 : Nat)]) ∧ Below w.heap.size w w' := by
  obtain ⟨A, c, rfl⟩ := hv.form
  obtain ⟨A2, c2, rfl⟩ := hv2.form
  have HBO := Lib.hid (both_any w _ _ p q hv hv2 hp hq)
  by_cases hE : bothE p q = 0
  case neg =>
    have hb := int_some hE
    have hb' := int_some' hE
    have H : Hid (compR p q = (0, bothE p q)) := by show compR p q = _; unfold compR; rw [if_neg hE]
    clear hE hv hv2
    go_enter Tryd.func23, Tryd.ntmps23
    go_wp2_with (go_at_call 46; refine HBO.out.mono ?_; rintro e w' ⟨rfl, rfl⟩)
    go_ret2
    rw [H.out]
    exact ⟨rfl, Below.refl _ _⟩
  have hb := int_zero hE
  have hb' := int_zero' hE
  have H : Hid (compR p q = (pc p q, 0)) := by show compR p q = _; unfold compR; rw [if_pos hE]
  have HL := Lib.hid (less_any w _ _ p q hv hv2 hp.1 hq.1)
  have HL2 : Hid (∀ m, Calls Tryd.prog 47 #[.slice A2 q.length c2, .slice A p.length c] (w.drewN m) fun e w' => e = .returned (.bool (pl q p)) ∧ ∃ k, w' = (w.drewN m).drewN k) := fun m => less_any (w.drewN m) _ _ q p hv2 hv hq.1 hp.1
  clear hE hv hv2
  have hpc : Hid (pc p q = if pl p q = true then -1 else if pl q p = true then 1 else 0) := rfl
  go_enter Tryd.func23, Tryd.ntmps23
  go_wp2_with fail
  refine HBO.out.mono ?_
  rintro e w' ⟨rfl, rfl⟩
  go_wp2_with fail
  refine HL.out.mono ?_
  rintro e w1 ⟨rfl, m, rfl⟩
  cases h1 : pl p q with
  | true =>
    go_wp2_with fail
    go_ret2
    rw [H.out, hpc.out, if_pos h1]
    exact ⟨rfl, drew_below _ _⟩
  | false =>
    go_wp2_with fail
    refine (HL2.out m).mono ?_
    rintro e w2 ⟨rfl, k, rfl⟩
    have hne : ¬ pl p q = true := by rw [h1]; simp
    cases h2 : pl q p with
    | true =>
      go_wp2_with fail
      go_ret2
      rw [H.out, hpc.out, if_neg hne, if_pos h2]
      exact ⟨rfl, drew_below _ _⟩
    | false =>
      have hne2 : ¬ pl q p = true := by rw [h2]; simp
      go_wp2_with fail
      go_ret2
      rw [H.out, hpc.out, if_neg hne, if_neg hne2]
      exact ⟨rfl, drew_below _ _⟩

set_option maxRecDepth 100000 in
set_option maxHeartbeats 2000000 in
theorem rUnder_any (w : World) (v v2 : Value) (p q : Path) (hv : SL encS w w.heap.size v p) (hv2 : SL encS w w.heap.size v2 q) (hp : Fit p) (hq : Fit q) :
    Calls Tryd.prog 25 #[v, v2] w fun e w' => e = .returned (.tuple #[.bool (undR p q).1, .int .i64 ((undR p q).2 : Nat)]) ∧ Below w.heap.size w w' := by
  obtain ⟨A, c, rfl⟩ := hv.form
  obtain ⟨A2, c2, rfl⟩ := hv2.form
  have HBO := Lib.hid (both_any w _ _ p q hv hv2 hp hq)
  by_cases hE : bothE p q = 0
  case neg =>
    have hb := int_some hE
    have hb' := int_some' hE
    have H : Hid (undR p q = (false, bothE p q)) := by show undR p q = _; unfold undR; rw [if_neg hE]
    clear hE hv hv2
    go_enter Tryd.func25, Tryd.ntmps25
    go_wp2_with (go_at_call 46; refine HBO.out.mono ?_; rintro e w' ⟨rfl, rfl⟩)
    go_ret2
    rw [H.out]
    exact ⟨rfl, Below.refl _ _⟩
  have hb := int_zero hE
  have hb' := int_zero' hE
  have H : Hid (undR p q = (un p q, 0)) := by show undR p q = _; unfold undR; rw [if_pos hE]
  have HL := Lib.hid (rcommon_any w _ _ p q hv hv2 hp.1 hq.1)
  have HE := Lib.hid hE
  clear hE hv hv2
  go_enter Tryd.func25, Tryd.ntmps25
  go_wp2_with fail
  refine HBO.out.mono ?_
  rintro e w' ⟨rfl, rfl⟩
  go_wp2_with fail
  refine HL.out.mono ?_
  rintro e w1 ⟨rfl, m, rfl⟩
  go_wp2_with fail
  go_ret2
  rw [H.out]
  exact ⟨by unfold un; simp; exact ⟨int_beq _ _, HE.out⟩, drew_below _ _⟩

set_option maxRecDepth 100000 in
set_option maxHeartbeats 2000000 in
theorem rCommon_any (w : World) (v v2 : Value) (p q : Path) (hv : SL encS w w.heap.size v p) (hv2 : SL encS w w.heap.size v2 q) (hp : Fit p) (hq : Fit q) :
    Calls Tryd.prog 27 #[v, v2] w fun e w' => PathE w (comR p q) e w' := by
  obtain ⟨A, c, rfl⟩ := hv.form
  obtain ⟨A2, c2, rfl⟩ := hv2.form
  have HBO := Lib.hid (both_any w _ _ p q hv hv2 hp hq)
  by_cases hE : bothE p q = 0
  case neg =>
    have hb := int_some hE
    have hb' := int_some' hE
    have H : Hid (comR p q = ([], bothE p q)) := by show comR p q = _; unfold comR; rw [if_neg hE]
    clear hE hv hv2
    go_enter Tryd.func27, Tryd.ntmps27
    go_wp2_with (go_at_call 46; refine HBO.out.mono ?_; rintro e w' ⟨rfl, rfl⟩)
    go_ret2
    rw [H.out]
    exact ⟨_, rfl, SL.nil _ _, Below.refl _ _⟩
  have hb := int_zero hE
  have hb' := int_zero' hE
  have H : Hid (comR p q = (p.take (cn p q), 0)) := by show comR p q = _; unfold comR; rw [if_pos hE]
  have HL : Hid (Calls Tryd.prog 49 #[.slice A p.length c, .slice A2 q.length c2] (w.alloc (.cells #[] 9)) fun e w' => e = .returned (.int .i64 (cn p q : Nat)) ∧ ∃ m, w' = (w.alloc (.cells #[] 9)).drewN m) :=
    rcommon_any _ _ _ p q (hv.next ((Below.refl _ w).alloc (Nat.le_refl _) _)) (hv2.next ((Below.refl _ w).alloc (Nat.le_refl _) _)) hp.1 hq.1
  have hcn := (cn_le p q).1
  have hcap := hv.cap
  have hcl := hp.1
  have HV := Lib.hid (hv.next ((Below.refl _ w).alloc (Nat.le_refl _) (.cells #[] 9)))
  have HN := Lib.hid (own_new w 9)
  clear hE hv hv2
  go_enter Tryd.func27, Tryd.ntmps27
  go_wp2_with fail
  refine HBO.out.mono ?_
  rintro e w' ⟨rfl, rfl⟩
  go_wp2_with fail
  refine HL.out.mono ?_
  rintro e w1 ⟨rfl, m, rfl⟩
  go_wp2_with (at_builtin; refine wpList_append_sl rfl _ _ rfl w.heap.size _ _ 0 [] rfl (ownsRow_drewN HN.out m) _ (p.take (cn p q)) rfl ((HV.out.first hcn).drewN m) (by simp; omega) (by simp) ?_; intro v' w2 hown hgrow)
  have hlen : (p.take (cn p q)).length = cn p q := by simp; omega
  rw [hlen, Nat.zero_add, List.nil_append] at hown
  have hS := SL.of_own (l := p.take (cn p q)) (by rw [hlen]) hown
  obtain ⟨A3, c3, hv3⟩ := hS.form
  rw [hlen] at hv3
  subst hv3
  have HO := Lib.hid hS
  have HB2 : Hid (Below w.heap.size w w2) := (below_drewN ((Below.refl _ w).alloc (Nat.le_refl _) _) m).grown hgrow (by simp) (fun r e => by have := HN.out.lt r e; omega)
  clear hown hgrow hS
  go_wp2_with fail
  go_ret2
  rw [H.out]
  exact ⟨_, rfl, HO.out, HB2.out⟩
end Go.Proofs.YtgfmfeaapffdfaaDoor
