/- The contract of words.Split. Conditions: the line is shorter than 10^9 bytes, and the table words.escapes holds what the program's text lays. -/
import Derived.Test.YtdkaogcimecfiaaDoorSlice
import Derived.RangeFuncBox
namespace Go.Proofs.YtdkaogcimecfiaaDoor
open Go.RowKit Go.Shelf
attribute [local go_sem] Oper.semAt_some

theorem fields_any (s : ByteArray) (w : World) :
    Calls Tryd.prog 44 #[.string s] w fun e w' => e = .returned (.func (.func 64) #[] #[.pointer (some ⟨w.heap.size, 0, none⟩)]) ∧ w' = w.alloc (.cells #[.string s] 9) := by
  go_enter Tryd.func44, Tryd.ntmps44
  go_wp2
  go_ret
  exact ⟨rfl, rfl⟩

/-- The fields of what is yielded. -/
def flds (ys : List (Option (List UInt8 × Bool))) : List (List UInt8 × Bool) := ys.filterMap id
theorem flds_snoc (ys : List (Option (List UInt8 × Bool))) (f : List UInt8 × Bool) : flds (ys ++ [some f]) = flds ys ++ [f] := by simp [flds]
/-- What Split returns: the fields, and the error. -/
def splitR (l : List UInt8) : List (List UInt8 × Bool) × Nat :=
  if 8192 < l.length then ([], 3) else if none ∈ allYields l then ([], 6) else if tooLongB (flds (allYields l)) then ([], 3) else (flds (allYields l), 0)

/-- What a call hands back: a slice of fields of its own, and an error. -/
def FieldsE (w : World) (r : List (List UInt8 × Bool) × Nat) (e : Ending) (w' : World) : Prop :=
  ∃ v, e = .returned (.tuple #[v, .int .i64 (r.2 : Int)]) ∧ w'.ownsRow w.heap.size 49 2 v r.1.length (fcells r.1) ∧ Below w.heap.size w w'

/-- What a loop variable holds. -/
def fstr : Option (List UInt8 × Bool) → ByteArray | some fd => ⟨fd.1.toArray⟩ | none => ⟨#[]⟩
def fq : Option (List UInt8 × Bool) → Bool | some fd => fd.2 | none => false
theorem encs_eq (x : Option (List UInt8 × Bool)) : encs x = #[.agg #[.string (fstr x), .bool (fq x)], .bool x.isSome] := by cases x <;> rfl
theorem ownsRow_lower {w : World} {base base' : Nat} {e : TypeId} {size n : Nat} {v : Value} {xs : List Value} (h : w.ownsRow base e size v n xs) (hb : base' ≤ base) : w.ownsRow base' e size v n xs := by
  refine ⟨h.1, ?_⟩
  rcases h.2 with h | ⟨g, cap, cur, h1, h2, h3⟩
  · exact .inl h
  · exact .inr ⟨g, cap, cur, h1, by omega, h3⟩
theorem info_fld : (Tryd.prog.info? 49).map (fun i => (i.zero, i.size, i.bytes)) = some (some (.agg #[.string ⟨#[]⟩, .bool false]), 2, 24) := by kernel_rfl
/-- What holds between two rounds of Split's loop. -/
def SI (w : World) (pre : List (Option (List UInt8 × Bool))) (W : World) : Prop :=
  none ∉ pre ∧ (∃ v, Boxed W (w.heap.size + 1 + 1) 32 v ∧ W.ownsRow (w.heap.size + 7) 49 2 v (flds pre).length (fcells (flds pre))) ∧
    Boxed W w.heap.size 32 (.slice none 0 0) ∧ Boxed W (w.heap.size + 1) 23 (.int .i64 0) ∧ Below w.heap.size w W
/-- What holds when a round has returned. -/
def SX (w : World) (c : Code) (pre : List (Option (List UInt8 × Bool))) (W : World) : Prop :=
  c = .ret ∧ none ∈ pre ∧ Boxed W w.heap.size 32 (.slice none 0 0) ∧ Boxed W (w.heap.size + 1) 23 (.int .i64 6) ∧ Below w.heap.size w W
theorem boxed_turn {A B : World} {row : Option Nat} {b : Nat} {t : TypeId} {v : Value} (h : Boxed A b t v) (hg : A.grownBy B row) (hr : ∀ r, row = some r → r ≠ b) : Boxed B b t v :=
  h.kept hg (fun e => hr b e.symm rfl)
theorem si_bears (w : World) (B : Nat) (hB : B = w.heap.size + 4) : It.Bears (fun r => B ≤ r ∧ r < B + 2 + 1) (SI w) := by
  rintro s X Y row ⟨h1, ⟨v, hv, hr⟩, h3, h4, h5⟩ hg hrow
  have out : ∀ r, row = some r → w.heap.size + 4 ≤ r ∧ r < w.heap.size + 7 := fun r e => by have := hrow r e; omega
  refine ⟨h1, ⟨v, boxed_turn hv hg (fun r e => by have := out r e; omega), hr.kept hg ?_⟩, boxed_turn h3 hg (fun r e => by have := out r e; omega), boxed_turn h4 hg (fun r e => by have := out r e; omega), ?_⟩
  · cases hb : v.ownBlock with
    | none => exact .inl rfl
    | some g =>
      refine .inr fun e => ?_
      have := out g e.symm
      have := (hr.lt g hb).1
      omega
  · exact h5.grown hg h5.size (fun r e => by have := out r e; omega)
theorem sx_bears (w : World) (B : Nat) (hB : B = w.heap.size + 4) (c : Code) : It.Bears (fun r => B ≤ r ∧ r < B + 2 + 1) (SX w c) := by
  rintro s X Y row ⟨h0, h1, h3, h4, h5⟩ hg hrow
  have out : ∀ r, row = some r → w.heap.size + 4 ≤ r ∧ r < w.heap.size + 7 := fun r e => by have := hrow r e; omega
  exact ⟨h0, h1, boxed_turn h3 hg (fun r e => by have := out r e; omega), boxed_turn h4 hg (fun r e => by have := out r e; omega), h5.grown hg h5.size (fun r e => by have := out r e; omega)⟩

/-- The return: the block for the rounds' deferred calls is shut, and the two results are read. -/
theorem split_ret (w : World) {W3 : World} (B : Nat) (hB : w.heap.size + 1 < B) (a : Act) {vR : Value} {eR : Int} {r : List (List UInt8 × Bool) × Nat}
    (h2 : Boxed W3 w.heap.size 32 vR) (h3 : Boxed W3 (w.heap.size + 1) 23 (.int .i64 eR)) (hK : W3.heap[B]? = some (.deferred (some [])))
    (he : eR = (r.2 : Int)) (hr : W3.ownsRow w.heap.size 49 2 vR r.1.length (fcells r.1)) (hb : Below w.heap.size w W3)
    (ha : a.tmps.getD 2 undef = .pointer (some ⟨w.heap.size, 0, none⟩) ∧ a.tmps.getD 3 undef = .pointer (some ⟨w.heap.size + 1, 0, none⟩) ∧ a.defers = [{ target := Target.collected B, args := #[] }] := by exact ⟨rfl, rfl, rfl⟩) :
    bodyPostM Fence.wide 9 Tryd.prog Tryd.f22 (FieldsE w r) Exit.ret a W3 := by
  obtain ⟨tmps, ds⟩ := a
  obtain ⟨a2, a3, rfl⟩ := ha
  simp only [Array.getD_eq_getD_getElem?] at a2 a3
  have q2 : Boxed (W3.putObj B (.deferred none)) w.heap.size 32 vR := (World.putObj_heap_other (by omega)).trans h2
  have q3 : Boxed (W3.putObj B (.deferred none)) (w.heap.size + 1) 23 (.int .i64 eR) := (World.putObj_heap_other (by omega)).trans h3
  have c2 := q2.cell
  have c3 := q3.cell
  refine ⟨by simp, .inl ⟨_, _, rfl, run_takeDeferred hK, ?_⟩⟩
  refine ⟨.tuple #[vR, .int .i64 eR], ?_, vR, by rw [he], ?_, ?_⟩
  · simp [results, Tryd.results22, go_sem, a2, a3, c2, c3]
  · exact ownsRow_putObj hr _ hK rfl
  · exact hb.grown (grownBy_putObj' W3 B _) hb.size (fun k e => by cases e; omega)

set_option maxRecDepth 100000 in
set_option maxHeartbeats 2000000 in
theorem split_in (s : ByteArray) (w : World) (hs : s.size ≤ 1000000000) (T : Tab w) (hw : 7 ≤ w.heap.size) :
    CallsIn Fence.wide 9 Tryd.prog 22 #[.string s] w (FieldsE w (splitR (bs s))) := by
  by_cases hlong : 8192 < s.size
  · have hfin : splitR (bs s) = ([], 3) := by unfold splitR; rw [bs_len, if_pos hlong]
    have H := Lib.hid hfin
    clear hfin
    refine callsIn_of_wp_marks Tryd.func22 rfl trivial ?_ rfl
    simp only [Tryd.ntmps22, List.size_toArray, List.length_cons, List.length_nil, Nat.reduceAdd, Nat.reduceSub, Array.replicate_succ, Array.replicate_zero, List.push_toArray, List.append_toArray, List.nil_append, List.cons_append]
    gi_wp2_with fail
    refine ⟨.tuple #[.slice none 0 0, .int .i64 3], by simp [results, Tryd.results22, go_sem], ?_⟩
    refine ⟨_, by rw [H.out]; rfl, ?_, ?_⟩
    · rw [H.out]; exact World.ownsRow_nil _ _ _ _
    · exact ((Below.refl _ _).alloc (Nat.le_refl _) _).alloc (by simp) _
  · refine callsIn_of_wp_marks Tryd.func22 rfl trivial ?_ rfl
    simp only [Tryd.ntmps22, List.size_toArray, List.length_cons, List.length_nil, Nat.reduceAdd, Nat.reduceSub, Array.replicate_succ, Array.replicate_zero, List.push_toArray, List.append_toArray, List.nil_append, List.cons_append]
    gi_wp2_with fail
    refine ⟨trivial, (callsIn_wide.2 (fields_any s _)).mono ?_⟩
    rintro e w1 ⟨rfl, rfl⟩
    gi_wp2_with fail
    rw [show decide (8192 < (s.size : Int)) = false from by simp; omega]
    obtain ⟨W0, hW0⟩ : ∃ W0, W0 = ((((w.alloc (Obj.cells #[Value.slice none 0 0] 32)).alloc (Obj.cells #[Value.int IntKind.i64 0] 23)).alloc (Obj.cells #[Value.slice none 0 0] 32)).alloc (Obj.cells #[Value.string s] 9)) := ⟨_, rfl⟩
    have z0 : W0.heap.size = w.heap.size + 4 := by rw [hW0]; simp
    have b0 : Below w.heap.size w W0 := by rw [hW0]; exact ((((Below.refl _ _).alloc (Nat.le_refl _) _).alloc (by simp) _).alloc (by simp; omega) _).alloc (by simp; omega) _
    have box2 : Boxed W0 w.heap.size 32 (.slice none 0 0) := by rw [hW0]; exact (((Boxed.new w _ _).alloc _).alloc _).alloc _
    have box3 : Boxed W0 (w.heap.size + 1) 23 (.int .i64 0) := by rw [hW0]; exact ((by simpa using Boxed.new (w.alloc (Obj.cells #[Value.slice none 0 0] 32)) 23 (.int .i64 0) : Boxed _ (w.heap.size + 1) _ _).alloc _).alloc _
    have box4 : Boxed W0 (w.heap.size + 1 + 1) 32 (.slice none 0 0) := by rw [hW0]; exact (by simpa using Boxed.new ((w.alloc (Obj.cells #[Value.slice none 0 0] 32)).alloc (Obj.cells #[Value.int IntKind.i64 0] 23)) 32 (.slice none 0 0) : Boxed _ (w.heap.size + 1 + 1) _ _).alloc _
    have line : W0.cell? ⟨w.heap.size + 1 + 1 + 1, 0, none⟩ = some (.string s) := by
      rw [hW0]; exact (by simpa using Boxed.new (((w.alloc (Obj.cells #[Value.slice none 0 0] 32)).alloc (Obj.cells #[Value.int IntKind.i64 0] 23)).alloc (Obj.cells #[Value.slice none 0 0] 32)) 9 (.string s) : Boxed _ (w.heap.size + 1 + 1 + 1) _ _).cell
    rw [← hW0]
    clear hW0
    have HZ := Lib.hid z0
    clear z0
    refine It.range_wide (P := Tryd.prog) (n := 9) rfl (enters_of Tryd.func64 (by kernel_rfl) rfl) (encs := encs) (fun x => by cases x <;> rfl) (K := fun r => r < 7 ∨ r = w.heap.size + 1 + 1 + 1) (m := 1)
      (S := fun xs => xs = allYields (bs s)) (Sp := fun pre => pre <+: allYields (bs s)) (N := (allYields (bs s)).length) ?seq (SI w) (SX w) (si_bears w _ HZ.out) (sx_bears w _ HZ.out)
      ⟨by simp, ⟨_, box4, World.ownsRow_nil _ _ _ _⟩, box2, box3, b0⟩
      (fun x a' V => ∃ Bx, W0.heap.size + 3 ≤ Bx ∧ FB V Bx (fstr x) (fq x) ∧ a' = { tmps := #[.string s, undef, .pointer (some ⟨w.heap.size, 0, none⟩), .pointer (some ⟨w.heap.size + 1, 0, none⟩), .pointer (some ⟨w.heap.size + 1 + 1, 0, none⟩), .pointer (some ⟨Bx, 0, none⟩), .bool x.isSome, .string s, .int .i64 (s.size : Int), .bool false, .string s, .func (.func 64) #[] #[.pointer (some ⟨w.heap.size + 1 + 1 + 1, 0, none⟩)], .agg #[.string (fstr x), .bool (fq x)], .bool x.isSome, undef, undef, undef, undef, undef, undef, undef, undef, undef], defers := [] }) ?ax ?assign ?body ?done ?stop
    case seq =>
      intro W hb hz
      have hZ := HZ.out
      exact fields1_gives 8 (W0.heap.size + 1) (w.heap.size + 1 + 1 + 1) s hs W (T.below (b0.trans (hb.mono (by omega))) (by omega)) (by omega) (by omega) ((hb.cell (p := ⟨_, 0, none⟩) (by show w.heap.size + 1 + 1 + 1 < _; omega)).trans line)
    case ax =>
      rintro x a' _ X Y row ⟨Bx, h1, h2, h3⟩ hg hrow
      exact ⟨Bx, h1, h2.same (hg.block Bx h2.lt (fun e => by have := hrow Bx e.symm; omega)), h3⟩
    case assign =>
      intro l pre x W R hlt hI hR
      rw [encs_eq]
      gi_wp2
      exact hR _ _ ((It.Kept.refl _ W).alloc _) ((si_bears w _ HZ.out).alloc hI _) ⟨W.heap.size, by omega, World.alloc_heap_new W _, rfl⟩
    case body =>
      rintro l pre x a' W hlt ⟨i1, ⟨v, hv, hr⟩, i3, i4, i5⟩ ⟨Bx, hBx, hFx, rfl⟩ hlen
      have hZ := HZ.out
      have k2 : ¬ It.keeps (fun r => r < 7 ∨ r = w.heap.size + 1 + 1 + 1) W0.heap.size 1 w.heap.size := by rintro ((h | h) | h) <;> omega
      have k3 : ¬ It.keeps (fun r => r < 7 ∨ r = w.heap.size + 1 + 1 + 1) W0.heap.size 1 (w.heap.size + 1) := by rintro ((h | h) | h) <;> omega
      have k4 : ¬ It.keeps (fun r => r < 7 ∨ r = w.heap.size + 1 + 1 + 1) W0.heap.size 1 (w.heap.size + 1 + 1) := by rintro ((h | h) | h) <;> omega
      have HK2 := Lib.hid k2
      have HK3 := Lib.hid k3
      have HK4 := Lib.hid k4
      clear k2 k3 k4
      have hsW : w.heap.size + 7 ≤ W.heap.size := by omega
      clear hZ
      have b2c := i3.cell
      have b2f := i3.frozen
      have b3c := i4.cell
      have b3f := i4.frozen
      have b4c := hv.cell
      have b4f := hv.frozen
      have x0 := hFx.c0
      have x1 := hFx.c1
      cases x with
      | none =>
        simp only [Option.isSome]
        gi_wp2_with fail
        refine ⟨((It.Kept.refl _ W).setCell (p := ⟨w.heap.size, 0, none⟩) HK2.out _).setCell (p := ⟨w.heap.size + 1, 0, none⟩) HK3.out _, rfl, by simp, ?_, ?_, ?_⟩
        · exact (i3.set _).other (by omega) _
        · exact (i4.other (by omega) _).set _
        · exact (i5.setCell (p := ⟨w.heap.size, 0, none⟩) (Nat.le_refl _) _).setCell (p := ⟨w.heap.size + 1, 0, none⟩) (by simp) _
      | some fd =>
        simp only [Option.isSome, fstr, fq] at x0 x1 ⊢
        obtain ⟨i0, hi, hz0, hz1, hz2⟩ := info_parts info_fld
        have hb1 : (flds pre).length ≤ 1000000001 := by
          have h1 : (flds pre).length ≤ pre.length := List.length_filterMap_le _ _
          have h2 := allYields_len (bs s)
          rw [bs_len] at h2
          omega
        gi_wp2_with (gi_at_builtin; refine wpListIn_append_own _ rfl _ _ 32 rfl (w.heap.size + 7) 49 i0 (.agg #[.string ⟨#[]⟩, .bool false]) 2 24 Tryd.underlying32 hi hz0 hz1 hz2 rfl (by decide) _ _ _ rfl (hr.alloc _) ⟨W.heap.size, 0, none⟩ 1 1 [.string ⟨fd.1.toArray⟩, .bool fd.2] rfl rfl ?c1 ?c2 ?c3 ?c4 ?c5 ?_)
        case c1 => exact cell_two_new _ _ _ _
        case c2 => simp [Value.oneCell']
        case c3 => unfold maxLen; omega
        case c4 => omega
        case c5 => simp; omega
        intro v' w1 hown' hgrow _
        rw [← fcells_snoc] at hown'
        have hv1 : Boxed w1 (w.heap.size + 1 + 1) 32 v := (hv.alloc _).kept hgrow (hv.not_row (by decide) hr)
        have hrow : ∀ r, v.ownBlock = some r → w.heap.size + 7 ≤ r := fun r e => (hr.lt r e).1
        obtain ⟨g', cap', rfl⟩ := ownsRow_succ hown'
        have hc1 := hv1.cell
        have hf1 := hv1.frozen
        have HO := Lib.hid hown'
        have HG := Lib.hid hgrow
        have HRW := Lib.hid hrow
        clear hown' hgrow hrow
        gi_wp2_with fail
        have hZ := HZ.out
        refine ⟨(((It.Kept.refl _ W).alloc _).grown HG.out fun r e => ?_).setCell (p := ⟨w.heap.size + 1 + 1, 0, none⟩) HK4.out _, ?_, ?_, ?_, ?_, ?_⟩
        · have := HRW.out r e
          rintro ((h | h) | h) <;> omega
        · simp; exact i1
        · refine ⟨_, hv1.set _, ?_⟩
          rw [flds_snoc, List.length_append]
          exact HO.out.kept (grownBy_setCell' w1 _ _) (.inr (hv1.not_row (by decide) HO.out).symm)
        · exact (boxed_turn (i3.alloc _) HG.out (fun r e => by have := HRW.out r e; omega)).other (by omega) _
        · exact (boxed_turn (i4.alloc _) HG.out (fun r e => by have := HRW.out r e; omega)).other (by omega) _
        · exact ((i5.alloc i5.size _).grown HG.out (by simp; omega) (fun r e => by have := HRW.out r e; omega)).setCell (p := ⟨w.heap.size + 1 + 1, 0, none⟩) (by show w.heap.size ≤ w.heap.size + 1 + 1; omega) _
    case done =>
      rintro xs W rfl ⟨i1, ⟨v, hv, hr⟩, i3, i4, i5⟩ hK
      simp only [Exit.inBlock, Exit.then]
      gi_step
      have b4c := hv.cell
      have b4f := hv.frozen
      have b2c := i3.cell
      have b2f := i3.frozen
      have b3c := i4.cell
      have b3f := i4.frozen
      have hlen : (flds (allYields (bs s))).length ≤ 1000000001 := by
        have h1 : (flds (allYields (bs s))).length ≤ (allYields (bs s)).length := List.length_filterMap_le _ _
        have h2 := allYields_len (bs s)
        rw [bs_len] at h2
        omega
      have htl := tooLong_any W v _ (FlS.of_own rfl hr) hlen
      have HTL := Lib.hid htl
      have HI := Lib.hid i1
      have HKK := Lib.hid hK
      have HR := Lib.hid hr
      have hrow : ∀ r, v.ownBlock = some r → w.heap.size + 7 ≤ r ∧ r < W.heap.size := fun r e => hr.lt r e
      have HRW := Lib.hid hrow
      have hWs : w.heap.size + 2 < W.heap.size := hv.lt
      have hKs : W0.heap.size < W.heap.size := (Array.getElem?_eq_some_iff.1 hK).1
      clear htl i1 hK hr hrow
      cases htb : tooLongB (flds (allYields (bs s))) with
      | true =>
        have HT := Lib.hid htb
        have hfin : splitR (bs s) = ([], 3) := by unfold splitR; rw [bs_len, if_neg hlong, if_neg HI.out, if_pos htb]
        have H := Lib.hid hfin
        clear htb hfin
        gi_wp2_with fail
        refine ⟨trivial, (callsIn_wide.2 HTL.out).mono ?_⟩
        rintro e W2 ⟨rfl, hb2⟩
        rw [HT.out]
        have j2 : Boxed W2 w.heap.size 32 (.slice none 0 0) := (hb2.block _ (by omega)).trans i3
        have j3 : Boxed W2 (w.heap.size + 1) 23 (.int .i64 0) := (hb2.block _ (by omega)).trans i4
        have j2c := j2.cell
        have j2f := j2.frozen
        have j3c := j3.cell
        have j3f := j3.frozen
        gi_wp2_with fail
        have hZ := HZ.out
        exact split_ret w W0.heap.size (by omega) _ ((j2.set _).other (by omega) _) ((j3.other (by omega) _).set _)
          (((Below.heap_setCell _ _ _ _ (by show W0.heap.size ≠ w.heap.size + 1; omega)).trans (Below.heap_setCell _ _ _ _ (by show W0.heap.size ≠ w.heap.size; omega))).trans ((hb2.block _ hKs).trans HKK.out))
          (by rw [H.out]; rfl) (by rw [H.out]; exact World.ownsRow_nil _ _ _ _) (((i5.trans (hb2.mono (by omega))).setCell (p := ⟨w.heap.size, 0, none⟩) (Nat.le_refl _) _).setCell (p := ⟨w.heap.size + 1, 0, none⟩) (by show w.heap.size ≤ w.heap.size + 1; omega) _)
      | false =>
        have HT := Lib.hid htb
        have hfin : splitR (bs s) = (flds (allYields (bs s)), 0) := by unfold splitR; rw [bs_len, if_neg hlong, if_neg HI.out, if_neg (by rw [htb]; simp)]
        have H := Lib.hid hfin
        clear htb hfin
        gi_wp2_with fail
        refine ⟨trivial, (callsIn_wide.2 HTL.out).mono ?_⟩
        rintro e W2 ⟨rfl, hb2⟩
        rw [HT.out]
        have j2 : Boxed W2 w.heap.size 32 (.slice none 0 0) := (hb2.block _ (by omega)).trans i3
        have j3 : Boxed W2 (w.heap.size + 1) 23 (.int .i64 0) := (hb2.block _ (by omega)).trans i4
        have j4 : Boxed W2 (w.heap.size + 1 + 1) 32 v := (hb2.block _ (by omega)).trans hv
        have jr : W2.ownsRow (w.heap.size + 7) 49 2 v (flds (allYields (bs s))).length (fcells (flds (allYields (bs s)))) :=
          HR.out.kept (row := none) ⟨hb2.os, hb2.tape, hb2.output, hb2.size, fun k hk _ => hb2.block k hk⟩ (by cases hvb : v.ownBlock with | none => exact .inl rfl | some g => exact .inr (by simp))
        obtain ⟨A, n1, c1, rfl⟩ : ∃ A n c, v = .slice A n c := by
          rcases Go.Joins.ownsRow_forms jr with ⟨rfl, _⟩ | ⟨g, cap, rfl⟩
          · exact ⟨none, 0, 0, rfl⟩
          · exact ⟨_, _, _, rfl⟩
        have JR := Lib.hid jr
        clear jr
        have j2c := j2.cell
        have j2f := j2.frozen
        have j3c := j3.cell
        have j3f := j3.frozen
        have j4c := j4.cell
        gi_wp2_with fail
        have hZ := HZ.out
        have hne : ∀ r, (Value.slice A n1 c1).ownBlock = some r → r ≠ w.heap.size ∧ r ≠ w.heap.size + 1 := fun r e => by have := HRW.out r e; omega
        have r1 : ∀ (X : World) (b : Nat) (u : Value), (b = w.heap.size ∨ b = w.heap.size + 1) → X.ownsRow (w.heap.size + 7) 49 2 (.slice A n1 c1) (flds (allYields (bs s))).length (fcells (flds (allYields (bs s)))) → (X.setCell ⟨b, 0, none⟩ u).ownsRow (w.heap.size + 7) 49 2 (.slice A n1 c1) (flds (allYields (bs s))).length (fcells (flds (allYields (bs s)))) := by
          intro X b u hb h
          refine h.kept (grownBy_setCell' X b u) ?_
          cases hvb : (Value.slice A n1 c1).ownBlock with
          | none => exact .inl rfl
          | some g => exact .inr (fun e => by have := hne g hvb; injection e; omega)
        exact split_ret w W0.heap.size (by omega) _ ((j2.set _).other (by omega) _) ((j3.other (by omega) _).set _)
          (((Below.heap_setCell _ _ _ _ (by show W0.heap.size ≠ w.heap.size + 1; omega)).trans (Below.heap_setCell _ _ _ _ (by show W0.heap.size ≠ w.heap.size; omega))).trans ((hb2.block _ hKs).trans HKK.out))
          (by rw [H.out]; rfl) (by rw [H.out]; exact ownsRow_lower (r1 _ _ _ (.inr rfl) (r1 _ _ _ (.inl rfl) JR.out)) (by omega)) (((i5.trans (hb2.mono (by omega))).setCell (p := ⟨w.heap.size, 0, none⟩) (Nat.le_refl _) _).setCell (p := ⟨w.heap.size + 1, 0, none⟩) (by show w.heap.size ≤ w.heap.size + 1; omega) _)
    case stop =>
      rintro c pre W hp ⟨rfl, i1, i3, i4, i5⟩ hK
      have hfin : splitR (bs s) = ([], 6) := by
        unfold splitR; rw [bs_len, if_neg hlong, if_pos]
        obtain ⟨t, ht⟩ := hp
        rw [← ht]; exact List.mem_append_left _ i1
      have H := Lib.hid hfin
      clear hfin i1 hp
      gi_wp2_with fail
      have hZ := HZ.out
      exact split_ret w W0.heap.size (by omega) _ i3 i4 hK (by rw [H.out]; rfl) (by rw [H.out]; exact World.ownsRow_nil _ _ _ _) i5
end Go.Proofs.YtdkaogcimecfiaaDoor
