/- The contracts of bytes.Compare over two arrays, and of paths.compare. Conditions: the slices hold what is said of them, all names are names. -/
import Derived.Test.YtgfmfeaapffdfaaDoorComm
import Derived.Test.YtgfmfeaapffdfaaDoorShelf
import Derived.Lib.BytesEntry
import Derived.Lib.Bytealg
namespace Go.Proofs.YtgfmfeaapffdfaaDoor
open Go.RowKit Go.Shelf
attribute [local go_sem] Oper.semAt_some

theorem run_compareRows {P : Program} (w : World) (b1 b2 : Nat) (s t : ByteArray) (h1 : NB w b1 s) (h2 : NB w b2 t) :
    (Extern.BytealgCompare.compare #[.slice (some ⟨b1, 0, none⟩) 24 24, .slice (some ⟨b2, 0, none⟩) 24 24]).run P w = .ok (.int .i64 (Lib.compareBytes (padN s) (padN t))) w := by
  have hof : ∀ l : List UInt8, Lib.bytesOf (l.map fun c => (c.toNat : Int)) = l := fun l => by
    unfold Lib.bytesOf
    rw [List.map_map]
    conv => rhs; rw [← List.map_id l]
    apply List.map_congr_left
    intro c _
    simp
  have key : ∀ (b : Nat) (u : ByteArray), NB w b u → (Extern.Bytes.loadBytes ⟨b, 0, none⟩ 24 .empty).run P w = .ok ⟨(padN u).toArray⟩ w := fun b u hu => by
    have := Lib.run_loadBytesX (P := P) w ((padN u).map fun c => (c.toNat : Int)) ⟨b, 0, none⟩ .empty (fun j x hx => by
      have hadd : (⟨b, 0, none⟩ : Addr).add j = ⟨b, j, none⟩ := by unfold Addr.add; split <;> simp_all
      rw [hadd, cell_of_row w b j (padV u) 81 (0, 0) hu]
      unfold padV
      rw [List.getElem?_map] at hx
      rw [List.getElem?_toArray, List.getElem?_map]
      cases hg : (padN u)[j]? with
      | none => rw [hg] at hx; cases hx
      | some c => rw [hg] at hx; injection hx with hx; rw [← hx]; rfl)
    rw [List.length_map, padN_len, hof] at this
    rw [this]
    congr 1
    apply ByteArray.ext
    simp
  change Sem.run P (do pure (goInt (Extern.BytealgCompare.cmp (← Extern.Bytes.bytesOf (.slice (some ⟨b1, 0, none⟩) 24 24)) (← Extern.Bytes.bytesOf (.slice (some ⟨b2, 0, none⟩) 24 24))))) w = _
  simp only [Extern.Bytes.bytesOf, Sem.run_bind, key b1 s h1, key b2 t h2, Sem.run_pure, Result.andThen]
  rw [Lib.cmp_eq]
  rfl

set_option maxRecDepth 100000 in
set_option maxHeartbeats 1000000 in
theorem bcmp_any (w : World) (b1 b2 : Nat) (s t : ByteArray) (h1 : NB w b1 s) (h2 : NB w b2 t) :
    Calls Tryd.prog 59 #[.slice (some ⟨b1, 0, none⟩) 24 24, .slice (some ⟨b2, 0, none⟩) 24 24] w fun e w' => e = .returned (.int .i64 (Lib.compareBytes (padN s) (padN t))) ∧ w' = w := by
  have H := Lib.hid (run_compareRows (P := Tryd.prog) w b1 b2 s t h1 h2)
  clear h1 h2
  go_enter Tryd.func59, Tryd.ntmps59
  go_wp2
  rw [run_callFunc_extern Tryd.func72 (by kernel_rfl) (by kernel_rfl) (by kernel_rfl) (e := Extern.BytealgCompare.compare) (by kernel_rfl), H.out]
  simp only [Result.andThen]
  rw [Oper.upon_value]
  go_wp2
  go_ret
  exact ⟨rfl, rfl⟩
/-! ### compare -/
def PI (w : World) (pre : List Pair) (W : World) : Prop := eqs pre ∧ Boxed W w.heap.size 3 (.int .i64 0) ∧ Gr w W
def PX (w : World) (c : Code) (xs : List Pair) (W : World) : Prop :=
  c = .ret ∧ ∃ pre x, xs = pre ++ [x] ∧ eqs pre ∧ x.1.1 ≠ x.1.2 ∧ Boxed W w.heap.size 3 (.int .i64 (Lib.compareBytes (padN x.1.1) (padN x.1.2))) ∧ Gr w W
theorem gr_grown {w X Y : World} {row : Option Nat} (h : Gr w X) (hg : X.grownBy Y row) (hd : X.drawn ≤ Y.drawn) (hr : ∀ r, row = some r → w.heap.size ≤ r) : Gr w Y :=
  ⟨h.below.grown hg h.below.size hr, Nat.le_trans h.drawn hd⟩
theorem pi_bears (w : World) (B : Nat) (hB : B = w.heap.size + 3) : It.Bears (fun r => B ≤ r ∧ r < B + 2 + 0) (PI w) := by
  rintro s X Y row ⟨h1, h2, h3⟩ hg hd hrow
  have out : ∀ r, row = some r → w.heap.size + 3 ≤ r := fun r e => by have := hrow r e; omega
  exact ⟨h1, boxed_turn h2 hg (fun r e => by have := out r e; omega), gr_grown h3 hg hd (fun r e => by have := out r e; omega)⟩
theorem px_bears (w : World) (B : Nat) (hB : B = w.heap.size + 3) (c : Code) : It.Bears (fun r => B ≤ r ∧ r < B + 2 + 0) (PX w c) := by
  rintro s X Y row ⟨h0, pre, x, h1, h2, h3, h4, h5⟩ hg hd hrow
  have out : ∀ r, row = some r → w.heap.size + 3 ≤ r := fun r e => by have := hrow r e; omega
  exact ⟨h0, pre, x, h1, h2, h3, boxed_turn h4 hg (fun r e => by have := out r e; omega), gr_grown h5 hg hd (fun r e => by have := out r e; omega)⟩

theorem compareInt_eq (x y : Int) : Lib.compareInt x y = if x < y then -1 else if y < x then 1 else 0 := by
  unfold Lib.compareInt
  rfl

/-- The return: the block for the rounds' deferred calls is shut, and the result is read. -/
theorem cmp_ret (w : World) {W3 : World} (B : Nat) (hB : w.heap.size < B) (a : Act) {r r' : Int} (he : r = r') (h2 : Boxed W3 w.heap.size 3 (.int .i64 r)) (hK : W3.heap[B]? = some (.deferred (some []))) (hg : Gr w W3)
    (ha : a.tmps.getD 4 undef = .pointer (some ⟨w.heap.size, 0, none⟩) ∧ a.defers = [{ target := Target.collected B, args := #[] }] := by exact ⟨rfl, rfl⟩) :
    bodyPostM Fence.wide 9 Tryd.prog Tryd.f45 (fun e w' => e = .returned (.int .i64 r') ∧ Gr w w') Exit.ret a W3 := by
  subst he
  obtain ⟨tmps, ds⟩ := a
  obtain ⟨a2, rfl⟩ := ha
  simp only [Array.getD_eq_getD_getElem?] at a2
  have q2 : Boxed (W3.putObj B (.deferred none)) w.heap.size 3 (.int .i64 r) := (World.putObj_heap_other (by omega)).trans h2
  have c2 := q2.cell
  refine ⟨by simp, .inl ⟨_, _, rfl, run_takeDeferred hK, ?_⟩⟩
  refine ⟨.int .i64 r, ?_, rfl, gr_grown hg (grownBy_putObj' W3 B _) (Nat.le_refl _) (fun k e => by cases e; omega)⟩
  simp [results, Tryd.results45, go_sem, a2, c2]

set_option maxRecDepth 100000 in
set_option maxHeartbeats 4000000 in
theorem compare_in (w : World) (v v2 : Value) (p q : Path) (hv : SL encS w w.heap.size v p) (hv2 : SL encS w w.heap.size v2 q) (hl : p.length ≤ 1000000) (hl2 : q.length ≤ 1000000)
    (hp : ∀ s ∈ p, nameE s = 0) (hq : ∀ s ∈ q, nameE s = 0) :
    CallsIn Fence.wide 9 Tryd.prog 45 #[v, v2] w fun e w' => e = .returned (.int .i64 (pc p q)) ∧ Gr w w' := by
  obtain ⟨A, c, rfl⟩ := hv.form
  obtain ⟨A2, c2, rfl⟩ := hv2.form
  obtain ⟨ys, hys, hyk⟩ := pairs_of p q hp hq
  have HYK := Lib.hid hyk
  have HV := Lib.hid hv
  have HV2 := Lib.hid hv2
  clear hyk hv hv2 hp hq
  refine callsIn_of_wp_marks Tryd.func45 rfl trivial ?_ rfl
  simp only [Tryd.ntmps45, List.size_toArray, List.length_cons, List.length_nil, Nat.reduceAdd, Nat.reduceSub, Array.replicate_succ, Array.replicate_zero, List.push_toArray, List.append_toArray, List.nil_append, List.cons_append]
  gi_wp2_with fail
  refine ⟨trivial, (callsIn_wide.2 (abreast_any _ _ _ _ _ _ _)).mono ?_⟩
  rintro e w1 ⟨rfl, rfl⟩
  gi_wp2_with fail
  obtain ⟨W0, hW0⟩ : ∃ W0, W0 = (((w.alloc (Obj.cells #[Value.int IntKind.i64 0] 3)).alloc (Obj.cells #[Value.slice A p.length c] 22)).alloc (Obj.cells #[Value.slice A2 q.length c2] 22)) := ⟨_, rfl⟩
  have z0 : W0.heap.size = w.heap.size + 3 := by rw [hW0]; simp
  have g0 : Gr w W0 := by rw [hW0]; exact (((Gr.refl w).alloc _).alloc _).alloc _
  have b0 := g0.below
  have box0 : Boxed W0 w.heap.size 3 (.int .i64 0) := by rw [hW0]; exact ((Boxed.new w _ _).alloc _).alloc _
  have box1 : Boxed W0 (w.heap.size + 1) 22 (.slice A p.length c) := by rw [hW0]; exact (by simpa using Boxed.new (w.alloc (Obj.cells #[Value.int IntKind.i64 0] 3)) 22 (.slice A p.length c) : Boxed _ (w.heap.size + 1) _ _).alloc _
  have box2 : Boxed W0 (w.heap.size + 1 + 1) 22 (.slice A2 q.length c2) := by rw [hW0]; exact (by simpa using Boxed.new ((w.alloc (Obj.cells #[Value.int IntKind.i64 0] 3)).alloc (Obj.cells #[Value.slice A p.length c] 22)) 22 (.slice A2 q.length c2) : Boxed _ (w.heap.size + 1 + 1) _ _)
  rw [← hW0]
  clear hW0
  have HZ := Lib.hid z0
  clear z0
  refine It.range_wide (P := Tryd.prog) (n := 9) rfl (enters_of Tryd.func70 (by kernel_rfl) rfl) (encs := encsP) (fun x => rfl) (K := fun r => r < w.heap.size ∨ r = w.heap.size + 1 ∨ r = w.heap.size + 1 + 1) (m := 0)
    (S := fun xs => xs = ys) (Sp := fun pre => pre <+: ys) (N := ys.length) ?seq (PI w) (PX w) (pi_bears w _ HZ.out) (px_bears w _ HZ.out)
    ⟨eqs_none, box0, g0⟩
    (fun x a' V => ∃ Bx By, W0.heap.size + 2 ≤ Bx ∧ W0.heap.size + 2 ≤ By ∧ NB V Bx x.1.1 ∧ NB V By x.1.2 ∧ a' = { tmps := #[.slice A p.length c, .slice A2 q.length c2, undef, undef, .pointer (some ⟨w.heap.size, 0, none⟩), .pointer (some ⟨Bx, 0, none⟩), .pointer (some ⟨By, 0, none⟩), .slice A p.length c, .slice A2 q.length c2, .func (.func 70) #[] #[.pointer (some ⟨w.heap.size + 1, 0, none⟩), .pointer (some ⟨w.heap.size + 1 + 1, 0, none⟩)], .agg (padV x.1.1), .agg (padV x.1.2), undef, undef, undef, undef, undef, undef, undef, undef, undef, undef, undef], defers := [] }) ?ax ?assign ?body ?done ?stop
  case seq =>
    intro W hb hz
    have hZ := HZ.out
    exact abreast1_gives 8 (W0.heap.size + 1) (w.heap.size + 1) (w.heap.size + 1 + 1) w.heap.size A A2 c c2 p q (by omega) ys W hys HYK.out (by omega) (by omega) (by omega) hl hl2
      ((hb.cell (p := ⟨_, 0, none⟩) (by show w.heap.size + 1 < _; omega)).trans box1.cell) ((hb.cell (p := ⟨_, 0, none⟩) (by show w.heap.size + 1 + 1 < _; omega)).trans box2.cell)
      (HV.out.below (b0.trans (hb.mono (by omega))) (Nat.le_refl _)) (HV2.out.below (b0.trans (hb.mono (by omega))) (Nat.le_refl _))
  case ax =>
    rintro x a' _ X Y row ⟨Bx, By, h1, h2, h3, h4, h5⟩ hg _ hrow
    exact ⟨Bx, By, h1, h2, h3.same (hg.block Bx h3.lt (fun e => by have := hrow Bx e.symm; omega)), h4.same (hg.block By h4.lt (fun e => by have := hrow By e.symm; omega)), h5⟩
  case assign =>
    intro l pre x W R hlt hI hR
    have hst1 := run_storeCells_new (P := Tryd.prog) W 81 zero24 (padV x.1.1) (by rw [iFixed, padV_size]) (by rw [padV_size]; rfl) (padV_one _)
    have hst2 := run_storeCells_new (P := Tryd.prog) (W.alloc (.cells (padV x.1.1) 81)) 81 zero24 (padV x.1.2) (by rw [iFixed, padV_size]) (by rw [padV_size]; rfl) (padV_one _)
    simp only [zero24, World.size_alloc] at hst1 hst2
    have e1 := padV_size x.1.1
    have e2 := padV_size x.1.2
    have hK : It.Kept (It.keeps (fun r => r < w.heap.size ∨ r = w.heap.size + 1 ∨ r = w.heap.size + 1 + 1) W0.heap.size 0) W ((W.alloc (.cells (padV x.1.1) 81)).alloc (.cells (padV x.1.2) 81)) := ((It.Kept.refl _ W).alloc _).alloc _
    have hI2 := (pi_bears w _ HZ.out).alloc ((pi_bears w _ HZ.out).alloc hI (.cells (padV x.1.1) 81)) (.cells (padV x.1.2) 81)
    have n1 : NB ((W.alloc (.cells (padV x.1.1) 81)).alloc (.cells (padV x.1.2) 81)) W.heap.size x.1.1 := (NB.new W x.1.1).same (Below.heap_alloc _ _ _ (by simp))
    have n2 : NB ((W.alloc (.cells (padV x.1.1) 81)).alloc (.cells (padV x.1.2) 81)) (W.heap.size + 1) x.1.2 := by have := NB.new (W.alloc (.cells (padV x.1.1) 81)) x.1.2; simpa using this
    have HK := Lib.hid hK
    have HI2 := Lib.hid hI2
    have N1 := Lib.hid n1
    have N2 := Lib.hid n2
    clear hK hI2 n1 n2 hI
    simp only [encsP]
    gi_wp2_with fail
    exact hR _ _ HK.out HI2.out ⟨W.heap.size, W.heap.size + 1, by omega, by omega, N1.out, N2.out, rfl⟩
  case body =>
    rintro l pre x a' W hlt ⟨i1, i2, i3⟩ ⟨Bx, By, hBx, hBy, hN1, hN2, rfl⟩ hlen
    have hZ := HZ.out
    have kn : ¬ It.keeps (fun r => r < w.heap.size ∨ r = w.heap.size + 1 ∨ r = w.heap.size + 1 + 1) W0.heap.size 0 w.heap.size := by rintro ((h | h | h) | h) <;> omega
    have HKN := Lib.hid kn
    have hneq := neqFix x.2.1 x.2.2
    have c1 := i2.cell
    have f1 := i2.frozen
    have HBC : Hid (∀ k, Calls Tryd.prog 59 #[.slice (some ⟨Bx, 0, none⟩) 24 24, .slice (some ⟨By, 0, none⟩) 24 24] (W.drewN k) fun e w' => e = .returned (.int .i64 (Lib.compareBytes (padN x.1.1) (padN x.1.2))) ∧ w' = W.drewN k) := fun k => bcmp_any (W.drewN k) Bx By x.1.1 x.1.2 hN1 hN2
    have HN1 := Lib.hid hN1
    have HN2 := Lib.hid hN2
    have HI1 := Lib.hid i1
    have HI2 := Lib.hid i2
    have HI3 := Lib.hid i3
    clear kn hN1 hN2 i1 i2 i3
    by_cases hx : x.1.1 = x.1.2
    · rw [decide_eq_true hx] at hneq
      have HX := Lib.hid hx
      clear hx
      gi_wp2_with (first
        | (refine wpListIn_load_row rfl 81 (.tmp 5) rfl Bx rfl 81 (padV x.1.1) (0, 0) _ HN1.out uFixed rfl (by rw [iFixed, padV_size]) ?_)
        | (refine wpListIn_load_row rfl 81 (.tmp 6) rfl By rfl 81 (padV x.1.2) (0, 0) _ HN2.out uFixed rfl (by rw [iFixed, padV_size]) ?_))
      exact ⟨It.Kept.refl _ W, eqs_snoc HI1.out HX.out, HI2.out, HI3.out⟩
    · rw [decide_eq_false hx] at hneq
      have HX := Lib.hid hx
      clear hx
      gi_wp2_with (first
        | (refine wpListIn_load_row rfl 81 (.tmp 5) rfl Bx rfl 81 (padV x.1.1) (0, 0) _ HN1.out uFixed rfl (by rw [iFixed, padV_size]) ?_)
        | (refine wpListIn_load_row rfl 81 (.tmp 6) rfl By rfl 81 (padV x.1.2) (0, 0) _ HN2.out uFixed rfl (by rw [iFixed, padV_size]) ?_))
      refine Tl.wpIn_region_quiet_tail (C := fun w' => ∃ n, w' = W.drewN n) 2 (by rfl) (by kernel_rfl) (by kernel_rfl) ⟨1, rfl⟩ ?_
      simp only [List.take_succ_cons, List.take_zero, List.drop_succ_cons, List.drop_zero]
      repeat (refine wpQuietIn_step (fun _ _ _ _ => trivial) (fun K hK => ?_); go_simp; (refine hK _ ?_; clear hK K))
      refine wpQuietIn_nil ?_
      rintro V ⟨d, rfl⟩
      gi_wp2_with fail
      refine ⟨trivial, (CallsIn.inRound l (callsIn_wide.2 (HBC.out d))).mono ?_⟩
      rintro e w' ⟨rfl, rfl⟩
      gi_wp2_with fail
      refine ⟨((It.Kept.refl _ W).drewN d).setCell (p := ⟨w.heap.size, 0, none⟩) HKN.out _, rfl, pre, x, rfl, HI1.out, HX.out, ?_, ?_⟩
      · exact (show Boxed (W.drewN d) w.heap.size 3 _ from HI2.out).set _
      · exact ⟨(HI3.out.drewN d).below.setCell (p := ⟨w.heap.size, 0, none⟩) (Nat.le_refl _) _, (HI3.out.drewN d).drawn⟩
  case done =>
    rintro xs W rfl ⟨i1, i2, i3⟩ hK
    have c1 := i2.cell
    have f1 := i2.frozen
    have hfin : pc p q = Lib.compareInt (p.length : Int) (q.length : Int) := by
      rw [compareInt_eq]; exact pc_end xs.length (by omega) (by omega) (by omega) (eqs_all hys HYK.out i1)
    have H := Lib.hid hfin
    have HK := Lib.hid hK
    have HI2 := Lib.hid i2
    have HI3 := Lib.hid i3
    clear hfin hK i3 i2
    gi_wp2_with fail
    refine ⟨trivial, (callsIn_wide.2 (Tryd.cmp_Compare_int _ _ _)).mono ?_⟩
    rintro e w' ⟨rfl, rfl⟩
    gi_wp2_with fail
    have hZ := HZ.out
    refine cmp_ret w W0.heap.size (by omega) _ H.out.symm (HI2.out.set _) ((Below.heap_setCell _ _ _ _ (by show W0.heap.size ≠ w.heap.size; omega)).trans HK.out) ⟨HI3.out.below.setCell (p := ⟨w.heap.size, 0, none⟩) (Nat.le_refl _) _, HI3.out.drawn⟩
  case stop =>
    rintro c pre W hpre ⟨rfl, pre', x, rfl, i1, i2, i3, i4⟩ hK
    obtain ⟨h1, h2, h3, h4⟩ := eqs_part hys HYK.out hpre i1
    have hfin : Lib.compareBytes (padN x.1.1) (padN x.1.2) = pc p q := by
      have e1 := congrArg Prod.fst h4
      have e2 := congrArg Prod.snd h4
      simp only at e1 e2
      have a1 := x.2.1
      have a2 := x.2.2
      rw [e1] at a1 i2 ⊢
      rw [e2] at a2 i2 ⊢
      exact pc_stop pre'.length h1 h2 h3 i2 a1 a2
    rw [hfin] at i3
    have c1 := i3.cell
    have HK := Lib.hid hK
    have HI3 := Lib.hid i3
    have HI4 := Lib.hid i4
    clear hfin hK i4 i3 h3 h4 hpre
    gi_wp2_with fail
    have hZ := HZ.out
    exact cmp_ret w W0.heap.size (by omega) _ rfl HI3.out HK.out HI4.out
theorem compare_any (w : World) (v v2 : Value) (p q : Path) (hv : SL encS w w.heap.size v p) (hv2 : SL encS w w.heap.size v2 q) (hl : p.length ≤ 1000000) (hl2 : q.length ≤ 1000000)
    (hp : ∀ s ∈ p, nameE s = 0) (hq : ∀ s ∈ q, nameE s = 0) :
    Calls Tryd.prog 45 #[v, v2] w fun e w' => e = .returned (.int .i64 (pc p q)) ∧ Gr w w' :=
  callsIn_wide.1 (compare_in w v v2 p q hv hv2 hl hl2 hp hq)
end Go.Proofs.YtgfmfeaapffdfaaDoor
