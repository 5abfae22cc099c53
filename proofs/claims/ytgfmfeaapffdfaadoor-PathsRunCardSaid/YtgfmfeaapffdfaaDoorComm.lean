/- The contracts of paths.common and paths.under. Conditions: the slices hold what is said of them, all names are names. -/
import Derived.Test.YtgfmfeaapffdfaaDoorAbreast
import Derived.RangeFuncBox
namespace Go.Proofs.YtgfmfeaapffdfaaDoor
open Go.RowKit Go.Shelf
attribute [local go_sem] Oper.semAt_some

/-! ### whole arrays in a fence -/
theorem wpListIn_load_row {F : Fence} {n : Nat} {P : Program} {ops : Array Oper} {rest : List Oper} {o : Oper} {a : Act} {w : World} {Q : Exit → Act → World → Prop} (hgd : o.guard = none) (ty : TypeId) (x : Operand) (ho : o.op = .load ty x)
    (g : Nat) (hx : a.eval x = .pointer (some ⟨g, 0, none⟩)) (t : TypeId) (cs : Array Value) (fr : Nat × Nat) (d : TypeDesc) (hg : w.heap[g]? = some (.cells cs t fr))
    (hu : P.underlying ty = some d) (hd : (match d with | .struct _ | .array _ _ => true | _ => false) = true) (hi : (P.info? ty).map (·.size) = some cs.size)
    (h : wpListIn F n P ops Q rest (a.put o.dst (.agg cs)) w) : wpListIn F n P ops Q (o :: rest) a w := by
  refine wpListIn_plain hgd fun K hK => ?_
  unfold Oper.wpIn
  refine ⟨by simp [Oper.about, ho], ?_⟩
  rw [Oper.semAt_plain F _ _ (by rw [ho]; intro c hc'; cases hc')]
  unfold execOp
  simp only [ho, hx, Instr.loadAt, Instr.sureAddr, Sem.run_bind, Sem.run_pure, Result.andThen_ok, run_loadVar_row w g t ty cs fr d hg hu hd hi]
  exact hK _ _ h
theorem wpListIn_store_row {F : Fence} {n : Nat} {P : Program} {ops : Array Oper} {rest : List Oper} {o : Oper} {a : Act} {w : World} {Q : Exit → Act → World → Prop} (hgd : o.guard = none) (ty : TypeId) (x y : Operand) (ho : o.op = .store ty x y)
    (g : Nat) (cells : Array Value) (hx : a.eval x = .pointer (some ⟨g, 0, none⟩)) (hy : a.eval y = .agg cells)
    (t : TypeId) (old : Array Value) (hg : w.heap[g]? = some (.cells old t (0, 0))) (hi : (P.info? ty).map (·.size) = some cells.size)
    (hold : old.size = cells.size) (h1 : cells.all (·.oneCell') = true)
    (h : wpListIn F n P ops Q rest (a.put o.dst undef) (w.setRow g cells)) : wpListIn F n P ops Q (o :: rest) a w := by
  refine wpListIn_plain hgd fun K hK => ?_
  unfold Oper.wpIn
  refine ⟨by simp [Oper.about, ho], ?_⟩
  rw [Oper.semAt_plain F _ _ (by rw [ho]; intro c hc'; cases hc')]
  unfold execOp
  simp only [ho, hx, hy, Instr.storeAt, Instr.sureAddr, Sem.run_bind, Sem.run_pure, Result.andThen_ok, run_storeVar_row w g t ty old cells hg hi hold h1]
  exact hK _ _ h
/-- A name as an array, in a block of its own. -/
def NB (W : World) (b : Nat) (s : ByteArray) : Prop := W.heap[b]? = some (.cells (padV s) 81 (0, 0))
theorem NB.lt {W : World} {b : Nat} {s : ByteArray} (h : NB W b s) : b < W.heap.size := (Array.getElem?_eq_some_iff.1 h).1
theorem NB.same {W W' : World} {b : Nat} {s : ByteArray} (h : NB W b s) (e : W'.heap[b]? = W.heap[b]?) : NB W' b s := e.trans h
theorem NB.new (W : World) (s : ByteArray) : NB (W.alloc (.cells (padV s) 81)) W.heap.size s := heap_alloc_last W _

theorem padV_at (s : ByteArray) (i : Nat) (h : i < 24) (w : World) : (part 5 (padV s) (i * 1)).run Tryd.prog w = .ok (.int .u8 (((padN s).getD i 0).toNat : Int)) w := by
  have e : (padV s)[i]? = some (encU ((padN s).getD i 0)) := by
    unfold padV
    rw [List.getElem?_toArray, List.getElem?_map, List.getD_eq_getElem?_getD, List.getElem?_eq_getElem (by rw [padN_len]; exact h)]; rfl
  simp [part, isAgg, run_underlying Tryd.underlying5, e, encU]
def eqP (s t : ByteArray) : Bool := (List.range 24).all fun i => (padN s).getD i 0 == (padN t).getD i 0
theorem u8_beq (a b : UInt8) : ((a.toNat : Int) == (b.toNat : Int)) = (a == b) := by
  rw [Bool.eq_iff_iff]; simp only [beq_iff_eq]
  exact ⟨fun h => UInt8.toNat_inj.1 (by omega), fun h => by rw [h]⟩
theorem eqFix (d : Nat) (s t : ByteArray) (w : World) : (Op.equalIn (d + 2) 81 (.agg (padV s)) (.agg (padV t))).run Tryd.prog w = .ok (eqP s t) w := by
  have hsz : ∀ w, (sizeOf 5).run Tryd.prog w = .ok 1 w := fun w => by
    cases hq : Tryd.prog.info? 5 with
    | none => have := iByte; rw [hq] at this; cases this
    | some i =>
      have hs : i.size = 1 := by have := iByte; rw [hq] at this; simpa using this
      simp [sizeOf, typeInfo, hq, hs]
  unfold eqP
  rw [List.range_eq_range', Op.equalIn]
  simp only [Sem.run_bind, run_underlying uFixed, Result.andThen_ok, hsz, Std.Legacy.Range.forIn_eq_forIn_range', Std.Legacy.Range.size, Nat.sub_zero, Nat.add_sub_cancel, Nat.div_one]
  have hl : ∀ i ∈ List.range' 0 24 1, i < 24 := fun i hi => by simpa using (List.mem_range'_1.1 hi).2
  generalize List.range' 0 24 1 = l at hl ⊢
  induction l with
  | nil => simp
  | cons i l ih =>
    have hi : i < 24 := hl i (by simp)
    have px := padV_at s i hi w
    have py := padV_at t i hi w
    have pe : (Op.equalIn (d + 1) 5 (.int .u8 (((padN s).getD i 0).toNat : Int)) (.int .u8 (((padN t).getD i 0).toNat : Int))).run Tryd.prog w = .ok ((padN s).getD i 0 == (padN t).getD i 0) w := by
      rw [← u8_beq]
      exact run_equalIn_int w d 5 .u8 .u8 _ _ Tryd.underlying5
    simp only [List.forIn_cons, Sem.run_bind, px, py, pe, Result.andThen_ok, List.all_cons]
    cases hb : ((padN s).getD i 0 == (padN t).getD i 0)
    · simp
    · simp only [Bool.not_true, Bool.false_eq_true, if_false, Sem.run_pure, Result.andThen_ok, Bool.true_and]
      exact ih fun j hj => hl j (by simp [hj])
theorem eqP_iff {s t : ByteArray} (hs : nameE s = 0) (ht : nameE t = 0) : eqP s t = decide (s = t) := by
  rw [Bool.eq_iff_iff, decide_eq_true_iff, ← padN_inj hs ht]
  unfold eqP
  rw [List.all_eq_true]
  constructor
  · intro h
    apply List.ext_getElem (by rw [padN_len, padN_len])
    intro i h1 h2
    have := h i (List.mem_range.2 (by rw [padN_len] at h1; exact h1))
    rw [beq_iff_eq, List.getD_eq_getElem?_getD, List.getD_eq_getElem?_getD, List.getElem?_eq_getElem h1, List.getElem?_eq_getElem h2] at this
    exact this
  · intro h i _; rw [h]; simp
theorem neqFix {s t : ByteArray} (hs : nameE s = 0) (ht : nameE t = 0) (w : World) : (binOp .neq 81 (.agg (padV s)) (.agg (padV t))).run Tryd.prog w = .ok (.bool (!decide (s = t))) w := by
  rw [run_neq_struct, eqFix 9998, eqP_iff hs ht]; rfl

/-! ### the pairs that are yielded -/
theorem pairs_of (p q : Path) (hp : ∀ s ∈ p, nameE s = 0) (hq : ∀ s ∈ q, nameE s = 0) : ∃ ys : List Pair, ys.length = min p.length q.length ∧
    ∀ k (_ : k < ys.length) (h1 : k < p.length) (h2 : k < q.length), ys[k].1 = (p[k], q[k]) := by
  refine ⟨List.ofFn (n := min p.length q.length) fun i => ⟨(p[i.1]'(by omega), q[i.1]'(by omega)), hp _ (List.getElem_mem _), hq _ (List.getElem_mem _)⟩, by simp, fun k h h1 h2 => ?_⟩
  simp
def eqs (pre : List Pair) : Prop := ∀ x ∈ pre, x.1.1 = x.1.2
theorem eqs_take {p q : Path} {ys : List Pair} (hys : ys.length = min p.length q.length) (hp : ∀ k (_ : k < ys.length) (h1 : k < p.length) (h2 : k < q.length), ys[k].1 = (p[k], q[k])) :
    ∀ (k : Nat), k ≤ ys.length → eqs (ys.take k) → p.take k = q.take k
  | 0, _, _ => by simp
  | k + 1, hk, h => by
    have ih := eqs_take hys hp k (by omega) (fun x hx => h x (by rw [List.take_succ_eq_append_getElem (by omega)]; exact List.mem_append_left _ hx))
    refine cn_take_of p q k (by omega) (by omega) ih ?_
    have := h ys[k] (by rw [List.take_succ_eq_append_getElem (show k < ys.length by omega)]; exact List.mem_append_right _ (List.mem_singleton.2 rfl))
    rw [hp k (by omega) (by omega) (by omega)] at this
    exact this
theorem eqs_none : eqs [] := fun _ h => by cases h
theorem eqs_snoc {pre : List Pair} {x : Pair} (h : eqs pre) (hx : x.1.1 = x.1.2) : eqs (pre ++ [x]) := fun y hy => by
  rcases List.mem_append.1 hy with hy | hy
  · exact h y hy
  · obtain rfl := List.mem_singleton.1 hy; exact hx
theorem eqs_all {p q : Path} {ys : List Pair} (hys : ys.length = min p.length q.length) (hp : ∀ k (_ : k < ys.length) (h1 : k < p.length) (h2 : k < q.length), ys[k].1 = (p[k], q[k])) (h : eqs ys) :
    p.take ys.length = q.take ys.length := eqs_take hys hp ys.length (Nat.le_refl _) (by rw [List.take_length]; exact h)
theorem eqs_part {p q : Path} {ys pre : List Pair} {x : Pair} (hys : ys.length = min p.length q.length) (hp : ∀ k (_ : k < ys.length) (h1 : k < p.length) (h2 : k < q.length), ys[k].1 = (p[k], q[k])) (hpre : pre ++ [x] <+: ys) (h : eqs pre) :
    ∃ (h1 : pre.length < p.length) (h2 : pre.length < q.length), p.take pre.length = q.take pre.length ∧ x.1 = (p[pre.length], q[pre.length]) := by
  obtain ⟨t, rfl⟩ := hpre
  have hl : pre.length < (pre ++ [x] ++ t).length := by simp
  have h1 : pre.length < p.length := by rw [hys] at hl; omega
  have h2 : pre.length < q.length := by rw [hys] at hl; omega
  refine ⟨h1, h2, eqs_take hys hp pre.length (by omega) (by simpa using h), ?_⟩
  have := hp pre.length hl h1 h2
  simpa using this

/-! ### common -/
def CI (w : World) (pre : List Pair) (W : World) : Prop := eqs pre ∧ Boxed W w.heap.size 3 (.int .i64 (pre.length : Int)) ∧ Below w.heap.size w W
def CX (w : World) (c : Code) (xs : List Pair) (W : World) : Prop :=
  c = .exit 0 ∧ ∃ pre x, xs = pre ++ [x] ∧ eqs pre ∧ x.1.1 ≠ x.1.2 ∧ Boxed W w.heap.size 3 (.int .i64 (pre.length : Int)) ∧ Below w.heap.size w W
theorem boxed_turn {A B : World} {row : Option Nat} {b : Nat} {t : TypeId} {v : Value} (h : Boxed A b t v) (hg : A.grownBy B row) (hr : ∀ r, row = some r → r ≠ b) : Boxed B b t v :=
  h.kept hg (fun e => hr b e.symm rfl)
theorem ci_bears (w : World) (B : Nat) (hB : B = w.heap.size + 3) : It.Bears (fun r => B ≤ r ∧ r < B + 2 + 0) (CI w) := by
  rintro s X Y row ⟨h1, h2, h3⟩ hg _ hrow
  have out : ∀ r, row = some r → w.heap.size + 3 ≤ r := fun r e => by have := hrow r e; omega
  exact ⟨h1, boxed_turn h2 hg (fun r e => by have := out r e; omega), h3.grown hg h3.size (fun r e => by have := out r e; omega)⟩
theorem cx_bears (w : World) (B : Nat) (hB : B = w.heap.size + 3) (c : Code) : It.Bears (fun r => B ≤ r ∧ r < B + 2 + 0) (CX w c) := by
  rintro s X Y row ⟨h0, pre, x, h1, h2, h3, h4, h5⟩ hg _ hrow
  have out : ∀ r, row = some r → w.heap.size + 3 ≤ r := fun r e => by have := hrow r e; omega
  exact ⟨h0, pre, x, h1, h2, h3, boxed_turn h4 hg (fun r e => by have := out r e; omega), h5.grown hg h5.size (fun r e => by have := out r e; omega)⟩

set_option maxRecDepth 100000 in
set_option maxHeartbeats 4000000 in
theorem common_in (w : World) (v v2 : Value) (p q : Path) (hv : SL encS w w.heap.size v p) (hv2 : SL encS w w.heap.size v2 q) (hl : p.length ≤ 1000000) (hl2 : q.length ≤ 1000000)
    (hp : ∀ s ∈ p, nameE s = 0) (hq : ∀ s ∈ q, nameE s = 0) :
    CallsIn Fence.wide 9 Tryd.prog 50 #[v, v2] w fun e w' => e = .returned (.int .i64 (cn p q : Nat)) ∧ Below w.heap.size w w' := by
  obtain ⟨A, c, rfl⟩ := hv.form
  obtain ⟨A2, c2, rfl⟩ := hv2.form
  obtain ⟨ys, hys, hyk⟩ := pairs_of p q hp hq
  have HYK := Lib.hid hyk
  have HV := Lib.hid hv
  have HV2 := Lib.hid hv2
  clear hyk hv hv2 hp hq
  refine callsIn_of_wp_marks Tryd.func50 rfl trivial ?_ rfl
  simp only [Tryd.ntmps50, List.size_toArray, List.length_cons, List.length_nil, Nat.reduceAdd, Nat.reduceSub, Array.replicate_succ, Array.replicate_zero, List.push_toArray, List.append_toArray, List.nil_append, List.cons_append]
  gi_wp2_with fail
  refine ⟨trivial, (callsIn_wide.2 (abreast_any _ _ _ _ _ _ _)).mono ?_⟩
  rintro e w1 ⟨rfl, rfl⟩
  gi_wp2_with fail
  obtain ⟨W0, hW0⟩ : ∃ W0, W0 = (((w.alloc (Obj.cells #[Value.int IntKind.i64 0] 3)).alloc (Obj.cells #[Value.slice A p.length c] 22)).alloc (Obj.cells #[Value.slice A2 q.length c2] 22)) := ⟨_, rfl⟩
  have z0 : W0.heap.size = w.heap.size + 3 := by rw [hW0]; simp
  have b0 : Below w.heap.size w W0 := by rw [hW0]; exact (((Below.refl _ _).alloc (Nat.le_refl _) _).alloc (by simp) _).alloc (by simp; omega) _
  have box0 : Boxed W0 w.heap.size 3 (.int .i64 0) := by rw [hW0]; exact ((Boxed.new w _ _).alloc _).alloc _
  have box1 : Boxed W0 (w.heap.size + 1) 22 (.slice A p.length c) := by rw [hW0]; exact (by simpa using Boxed.new (w.alloc (Obj.cells #[Value.int IntKind.i64 0] 3)) 22 (.slice A p.length c) : Boxed _ (w.heap.size + 1) _ _).alloc _
  have box2 : Boxed W0 (w.heap.size + 1 + 1) 22 (.slice A2 q.length c2) := by rw [hW0]; exact (by simpa using Boxed.new ((w.alloc (Obj.cells #[Value.int IntKind.i64 0] 3)).alloc (Obj.cells #[Value.slice A p.length c] 22)) 22 (.slice A2 q.length c2) : Boxed _ (w.heap.size + 1 + 1) _ _)
  rw [← hW0]
  clear hW0
  have HZ := Lib.hid z0
  clear z0
  refine It.range_wide (P := Tryd.prog) (n := 9) rfl (enters_of Tryd.func70 (by kernel_rfl) rfl) (encs := encsP) (fun x => rfl) (K := fun r => r < w.heap.size ∨ r = w.heap.size + 1 ∨ r = w.heap.size + 1 + 1) (m := 0)
    (S := fun xs => xs = ys) (Sp := fun pre => pre <+: ys) (N := ys.length) ?seq (CI w) (CX w) (ci_bears w _ HZ.out) (cx_bears w _ HZ.out)
    ⟨eqs_none, box0, b0⟩
    (fun x a' V => ∃ Bx By, W0.heap.size + 2 ≤ Bx ∧ W0.heap.size + 2 ≤ By ∧ NB V Bx x.1.1 ∧ NB V By x.1.2 ∧ a' = { tmps := #[.slice A p.length c, .slice A2 q.length c2, undef, undef, .int .i64 0, .pointer (some ⟨w.heap.size, 0, none⟩), .pointer (some ⟨Bx, 0, none⟩), .pointer (some ⟨By, 0, none⟩), .slice A p.length c, .slice A2 q.length c2, .func (.func 70) #[] #[.pointer (some ⟨w.heap.size + 1, 0, none⟩), .pointer (some ⟨w.heap.size + 1 + 1, 0, none⟩)], .agg (padV x.1.1), .agg (padV x.1.2), undef, undef, undef, undef, undef, undef], defers := [] }) ?ax ?assign ?body ?done ?stop
  case seq =>
    intro W hb hz
    have hZ := HZ.out
    exact abreast1_gives 8 (W0.heap.size + 1) (w.heap.size + 1) (w.heap.size + 1 + 1) w.heap.size A A2 c c2 p q (by omega) ys W hys HYK.out (by omega) (by omega) (by omega) hl hl2
      ((hb.cell (p := ⟨_, 0, none⟩) (by show w.heap.size + 1 < _; omega)).trans box1.cell) ((hb.cell (p := ⟨_, 0, none⟩) (by show w.heap.size + 1 + 1 < _; omega)).trans box2.cell)
      (HV.out.below (b0.trans (hb.mono (by omega))) (Nat.le_refl _)) (HV2.out.below (b0.trans (hb.mono (by omega))) (Nat.le_refl _))
  case ax =>
    rintro x a' _ X Y row ⟨Bx, By, h1, h2, h3, h4, h5⟩ hg _ hrow
    exact ⟨Bx, By, h1, h2, h3.same (hg.block Bx h3.lt (fun e => by have := hrow Bx e.symm; omega)), h4.same (hg.block By h4.lt (fun e => by have := hrow By e.symm; omega)), h5⟩
  case assign =>
    intro l pre x W R hlt hI hR
    have hst1 := run_storeCells_new (P := Tryd.prog) W 81 zero24 (padV x.1.1) (by rw [iFixed, padV_size]) (by rw [padV_size]; rfl) (padV_one _)
    have hst2 := run_storeCells_new (P := Tryd.prog) (W.alloc (.cells (padV x.1.1) 81)) 81 zero24 (padV x.1.2) (by rw [iFixed, padV_size]) (by rw [padV_size]; rfl) (padV_one _)
    simp only [zero24, World.size_alloc] at hst1 hst2
    have e1 := padV_size x.1.1
    have e2 := padV_size x.1.2
    have hK : It.Kept (It.keeps (fun r => r < w.heap.size ∨ r = w.heap.size + 1 ∨ r = w.heap.size + 1 + 1) W0.heap.size 0) W ((W.alloc (.cells (padV x.1.1) 81)).alloc (.cells (padV x.1.2) 81)) := ((It.Kept.refl _ W).alloc _).alloc _
    have hI2 := (ci_bears w _ HZ.out).alloc ((ci_bears w _ HZ.out).alloc hI (.cells (padV x.1.1) 81)) (.cells (padV x.1.2) 81)
    have n1 : NB ((W.alloc (.cells (padV x.1.1) 81)).alloc (.cells (padV x.1.2) 81)) W.heap.size x.1.1 := (NB.new W x.1.1).same (Below.heap_alloc _ _ _ (by simp))
    have n2 : NB ((W.alloc (.cells (padV x.1.1) 81)).alloc (.cells (padV x.1.2) 81)) (W.heap.size + 1) x.1.2 := by have := NB.new (W.alloc (.cells (padV x.1.1) 81)) x.1.2; simpa using this
    have HK := Lib.hid hK
    have HI2 := Lib.hid hI2
    have N1 := Lib.hid n1
    have N2 := Lib.hid n2
    clear hK hI2 n1 n2 hI
    simp only [encsP]
    gi_wp2_with fail
    exact hR _ _ HK.out HI2.out ⟨W.heap.size, W.heap.size + 1, by omega, by omega, N1.out, N2.out, rfl⟩
  case body =>
    rintro l pre x a' W hlt ⟨i1, i2, i3⟩ ⟨Bx, By, hBx, hBy, hN1, hN2, rfl⟩ hlen
    have hZ := HZ.out
    have kn : ¬ It.keeps (fun r => r < w.heap.size ∨ r = w.heap.size + 1 ∨ r = w.heap.size + 1 + 1) W0.heap.size 0 w.heap.size := by rintro ((h | h | h) | h) <;> omega
    have HKN := Lib.hid kn
    have hneq := neqFix x.2.1 x.2.2
    have c1 := i2.cell
    have f1 := i2.frozen
    have HN1 := Lib.hid hN1
    have HN2 := Lib.hid hN2
    have HI1 := Lib.hid i1
    have HI2 := Lib.hid i2
    have HI3 := Lib.hid i3
    have hpl : (pre.length : Int) < 9000000000000000000 := by omega
    clear kn hN1 hN2 i1 i2 i3
    by_cases hx : x.1.1 = x.1.2
    · rw [decide_eq_true hx] at hneq
      have HX := Lib.hid hx
      clear hx
      gi_wp2_with (first
        | (refine wpListIn_load_row rfl 81 (.tmp 6) rfl Bx rfl 81 (padV x.1.1) (0, 0) _ HN1.out uFixed rfl (by rw [iFixed, padV_size]) ?_)
        | (refine wpListIn_load_row rfl 81 (.tmp 7) rfl By rfl 81 (padV x.1.2) (0, 0) _ HN2.out uFixed rfl (by rw [iFixed, padV_size]) ?_))
      exact ⟨(It.Kept.refl _ W).setCell (p := ⟨w.heap.size, 0, none⟩) HKN.out _, eqs_snoc HI1.out HX.out, by rw [show ((pre ++ [x]).length : Int) = (pre.length : Int) + 1 by simp]; exact HI2.out.set _, HI3.out.setCell (p := ⟨w.heap.size, 0, none⟩) (Nat.le_refl _) _⟩
    · rw [decide_eq_false hx] at hneq
      have HX := Lib.hid hx
      clear hx
      gi_wp2_with (first
        | (refine wpListIn_load_row rfl 81 (.tmp 6) rfl Bx rfl 81 (padV x.1.1) (0, 0) _ HN1.out uFixed rfl (by rw [iFixed, padV_size]) ?_)
        | (refine wpListIn_load_row rfl 81 (.tmp 7) rfl By rfl 81 (padV x.1.2) (0, 0) _ HN2.out uFixed rfl (by rw [iFixed, padV_size]) ?_))
      exact ⟨It.Kept.refl _ W, rfl, pre, x, rfl, HI1.out, HX.out, HI2.out, HI3.out⟩
  case done =>
    rintro xs W rfl ⟨i1, i2, i3⟩ hK
    have c1 := i2.cell
    have hfin := cn_end p q xs.length (by omega) (by omega) (by omega) (eqs_all hys HYK.out i1)
    have H := Lib.hid hfin
    have HK := Lib.hid hK
    have HI3 := Lib.hid i3
    clear hfin hK i3 i2
    gi_wp2_with fail
    have hZ := HZ.out
    refine ⟨by simp, .inl ⟨_, _, rfl, run_takeDeferred HK.out, ?_⟩⟩
    refine ⟨_, results_tmp (t := 4) rfl _ _ _, ?_, ?_⟩
    · rw [H.out, hys]; rfl
    exact (HI3.out.grown (grownBy_putObj' W W0.heap.size _) HI3.out.size (fun k e => by cases e; omega))
  case stop =>
    rintro c pre W hpre ⟨rfl, pre', x, rfl, i1, i2, i3, i4⟩ hK
    obtain ⟨h1, h2, h3, h4⟩ := eqs_part hys HYK.out hpre i1
    have hfin := cn_stop p q pre'.length h1 h2 h3 (by rw [h4] at i2; exact i2)
    have c1 := i3.cell
    have H := Lib.hid hfin
    have HK := Lib.hid hK
    have HI3 := Lib.hid i4
    clear hfin hK i4 i3 h3 h4 hpre
    gi_wp2_with fail
    have hZ := HZ.out
    refine ⟨by simp, .inl ⟨_, _, rfl, run_takeDeferred HK.out, ?_⟩⟩
    refine ⟨_, results_tmp (t := 4) rfl _ _ _, ?_, ?_⟩
    · rw [H.out]; rfl
    exact (HI3.out.grown (grownBy_putObj' W W0.heap.size _) HI3.out.size (fun k e => by cases e; omega))
theorem common_any (w : World) (v v2 : Value) (p q : Path) (hv : SL encS w w.heap.size v p) (hv2 : SL encS w w.heap.size v2 q) (hl : p.length ≤ 1000000) (hl2 : q.length ≤ 1000000)
    (hp : ∀ s ∈ p, nameE s = 0) (hq : ∀ s ∈ q, nameE s = 0) :
    Calls Tryd.prog 50 #[v, v2] w fun e w' => e = .returned (.int .i64 (cn p q : Nat)) ∧ Below w.heap.size w w' :=
  callsIn_wide.1 (common_in w v v2 p q hv hv2 hl hl2 hp hq)

set_option maxRecDepth 100000 in
set_option maxHeartbeats 1000000 in
theorem under_any (w : World) (v v2 : Value) (p q : Path) (hv : SL encS w w.heap.size v p) (hv2 : SL encS w w.heap.size v2 q) (hl : p.length ≤ 1000000) (hl2 : q.length ≤ 1000000)
    (hp : ∀ s ∈ p, nameE s = 0) (hq : ∀ s ∈ q, nameE s = 0) :
    Calls Tryd.prog 48 #[v, v2] w fun e w' => e = .returned (.bool (un p q)) ∧ Below w.heap.size w w' := by
  have HC := Lib.hid (common_any w v v2 p q hv hv2 hl hl2 hp hq)
  obtain ⟨A, c, rfl⟩ := hv.form
  obtain ⟨A2, c2, rfl⟩ := hv2.form
  clear hv hv2 hp hq
  go_enter Tryd.func48, Tryd.ntmps48
  go_wp2_with (go_at_call 50; refine HC.out.mono ?_; rintro e w' ⟨rfl, hb⟩)
  go_ret
  exact ⟨ret_bool (by unfold un; rw [Bool.eq_iff_iff]; simp only [beq_iff_eq]; omega), hb⟩
end Go.Proofs.YtgfmfeaapffdfaaDoor
