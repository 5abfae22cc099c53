/- The contract of then: the matrix of the bytes of one, followed by those of the other. Condition: two linear maps. -/
import Derived.Test.YtjppcjcflcnliaaDoorMat
namespace Go.Proofs.YtjppcjcflcnliaaDoor
open Go.RowKit

theorem uMat : Tryd.prog.underlying 60 = some (.array 32 53) := by kernel_rfl
theorem iMat : (Tryd.prog.info? 60).map (·.size) = some 32 := by kernel_rfl
theorem loadMat {w : World} {b : Nat} {cs : Array Value} (h : Blk w b cs 60) (hs : cs.size = 32) : (loadVar 60 ⟨b, 0, none⟩).run Tryd.prog w = .ok (.agg cs) w :=
  run_loadVar_row w b _ 60 cs _ _ h uMat rfl (by rw [iMat, hs])
/-- The matrix of which the first k columns went through g. -/
def mixF (f g : Nat → Nat) (k : Nat) : List Value := (List.range 32).map fun i => .int .u32 ((if i < k then g (f (2 ^ i)) else f (2 ^ i) : Nat) : Int)
def mixM (f g : Nat → Nat) (k : Nat) : Array Value := (mixF f g k).toArray
theorem mixM_size (f g : Nat → Nat) (k : Nat) : (mixM f g k).size = 32 := by simp [mixM, mixF]
theorem mixM_get (f g : Nat → Nat) (k i : Nat) (h : i < 32) (hk : k ≤ i) : (mixM f g k)[i]? = some (.int .u32 ((f (2 ^ i) : Nat) : Int)) := by
  simp only [mixM, mixF, List.getElem?_toArray, List.getElem?_map, List.getElem?_range h, Option.map_some, if_neg (show ¬ i < k by omega)]
theorem mixM_zero (f g : Nat → Nat) : mixM f g 0 = mcol f := by simp [mixM, mixF, mcol, colL]
theorem mixM_all (f g : Nat → Nat) : mixM f g 32 = mcol (fun a => g (f a)) := by
  unfold mixM mixF mcol colL
  congr 1
theorem mixM_set (f g : Nat → Nat) (k : Nat) (h : k < 32) : (mixM f g k).setIfInBounds k (.int .u32 ((g (f (2 ^ k)) : Nat) : Int)) = mixM f g (k + 1) := by
  apply Array.ext_getElem?
  intro i
  by_cases hi : i < 32
  · by_cases e : k = i
    · subst e
      rw [set_get _ _ _ (by rw [mixM_size]; exact h)]
      simp only [mixM, mixF, List.getElem?_toArray, List.getElem?_map, List.getElem?_range hi, Option.map_some]
      rw [if_pos (by omega)]
    · rw [set_other _ _ _ _ e]
      simp only [mixM, mixF, List.getElem?_toArray, List.getElem?_map, List.getElem?_range hi, Option.map_some]
      by_cases h2 : i < k
      · rw [if_pos h2, if_pos (by omega)]
      · rw [if_neg h2, if_neg (by omega)]
  · rw [Array.getElem?_eq_none (by rw [Array.size_setIfInBounds, mixM_size]; omega), Array.getElem?_eq_none (by rw [mixM_size]; omega)]
/-- The load of a whole array, as one step of a region that draws. -/
theorem step_load_row {P : Program} {ops : Array Oper} {o : Oper} {a : Act} {w : World} {K : Act → World → Prop} {Q : Exit → Act → World → Prop} {E : Prop} (hgd : o.guard = none) (ty : TypeId) (x : Operand) (ho : o.op = .load ty x)
    (g : Nat) (hx : a.eval x = .pointer (some ⟨g, 0, none⟩)) (t : TypeId) (cs : Array Value) (fr : Nat × Nat) (d : TypeDesc) (hg : w.heap[g]? = some (.cells cs t fr))
    (hu : P.underlying ty = some d) (hd : (match d with | .struct _ | .array _ _ => true | _ => false) = true) (hi : (P.info? ty).map (·.size) = some cs.size)
    (h : K (a.put o.dst (.agg cs)) w) : if Region.wanted o (yielded ops a.tmps) = true then Oper.wp P o a w K Q else E := by
  have hw : Region.wanted o (yielded ops a.tmps) = true := by simp [Region.wanted, hgd]
  rw [if_pos hw]
  exact wp_load_row ty x ho g hx t cs fr d hg hu hd hi h
theorem mcol_one (f : Nat → Nat) : (mcol f).all (·.oneCell') = true := by
  unfold mcol colL
  rw [List.all_toArray, List.all_eq_true]
  intro v hv
  obtain ⟨i, _, rfl⟩ := List.mem_map.1 hv
  rfl
theorem below_setRow {B : Nat} {a w : World} (h : Below B a w) {g : Nat} {cs : Array Value} (hB : B ≤ g) : Below B a (w.setRow g cs) :=
  h.trans ⟨rfl, rfl, rfl, by simp, fun k hk => setRow_other _ _ _ _ (by omega)⟩
theorem info_mat : (Tryd.prog.info? 60).isSome = true := by kernel_rfl
set_option maxRecDepth 100000 in
set_option maxHeartbeats 2000000 in
theorem then_any (w : World) (f g : Nat → Nat) (hf : Cm.Lin f) (hg : Cm.Lin g) :
    Calls Tryd.prog 47 #[.agg (mcol f), .agg (mcol g)] w fun e w' => e = .returned (.agg (mcol (fun a => g (f a)))) ∧ Below w.heap.size w w' := by
  have HF := Lib.hid hf
  have HG := Lib.hid hg
  clear hf hg
  go_enter Tryd.func47, Tryd.ntmps47
  go_wp2_with fail
  go_loopw [6] (fun i wr => ∃ k : Nat, k ≤ 32 ∧ i = .int .i64 k ∧ Hid (Blk wr w.heap.size (mixM f g k) 60) ∧ Hid (Blk wr (w.heap.size + 1) (mcol g) 60) ∧ Hid (Blk wr (w.heap.size + 1 + 1) (mcol fun _ => 0) 60) ∧ Hid (Below w.heap.size w wr)) (fun i _ => 32 - (intOf i).toNat)
  case atStart =>
    have hB1 : Below w.heap.size w (w.alloc (.cells (mcol f) 60)) := (Below.refl _ _).alloc (Nat.le_refl _) _
    have m1 := Blk.new w (mcol f) 60
    obtain ⟨w1, hw1⟩ : ∃ w1, w1 = w.alloc (.cells (mcol f) 60) := ⟨_, rfl⟩
    have s1 : w1.heap.size = w.heap.size + 1 := by rw [hw1]; simp
    rw [← hw1] at m1 hB1 ⊢
    have hB2 := hB1.alloc (by omega) (.cells (mcol g) 60)
    have m2 := Blk.new w1 (mcol g) 60
    have m1' := m1.below (((Below.refl w1.heap.size w1).alloc (Nat.le_refl _) (.cells (mcol g) 60))) m1.lt
    obtain ⟨w2, hw2⟩ : ∃ w2, w2 = w1.alloc (.cells (mcol g) 60) := ⟨_, rfl⟩
    have s2 : w2.heap.size = w1.heap.size + 1 := by rw [hw2]; simp
    rw [← hw2] at m2 hB2 m1' ⊢
    have hB3 := hB2.alloc (by omega) (.cells (mcol fun _ => 0) 60)
    have hBB := (Below.refl w2.heap.size w2).alloc (Nat.le_refl _) (.cells (mcol fun _ => 0) 60)
    have m3 := Blk.new w2 (mcol fun _ => 0) 60
    rw [s2, s1] at m3
    rw [s1] at m2
    exact ⟨0, by omega, rfl, by rw [mixM_zero]; exact m1'.below hBB m1'.lt, m2.below hBB m2.lt, m3, hB3⟩
  case round =>
    obtain ⟨k, hk, rfl, HM, HN, HZ, HB⟩ := hrel
    by_cases hlt : k < 32
    · have hltI : (k : Int) < 32 := by omega
      have hcell : wr.drew.cell? ⟨w.heap.size, k, none⟩ = some (.int .u32 ((f (2 ^ k) : Nat) : Int)) := HM.out.cell k (mixM_get f g k k hlt (Nat.le_refl _))
      have hld := loadMat (w := wr.drew) (b := w.heap.size + 1) HN.out (mcol_size g)
      have hcl := HF.out.2 _ (pow32 hlt)
      obtain ⟨c, hc⟩ : ∃ c, c = f (2 ^ k) := ⟨_, rfl⟩
      rw [← hc] at hcell hcl
      have HC := Lib.hid hc
      have HA := Lib.hid (apply_any wr.drew g c HG.out hcl)
      clear hc
      go_wp2_with fail
      refine wp_region_any (by kernel_rfl) ?_
      try (change wpAny _ _ _ _ _ _ _ (World.drew _))
      refine wpAny_take (i := 0) (v := .int .i64 (k : Int)) rfl (by kernel_rfl) (by kernel_rfl) (by kernel_rfl) (fun _ _ _ h => h) (Or.inl ⟨by rfl, fun w => by go_simp⟩) ?_
      refine wpAny_take (i := 2) (v := .int .i64 (k : Int)) rfl (by kernel_rfl) (by kernel_rfl) (by kernel_rfl) (fun _ _ _ h => h) (Or.inl ⟨by rfl, fun w => by go_simp⟩) ?_
      refine wpAny_take (i := 3) (v := .pointer (some ⟨w.heap.size, k, none⟩)) rfl (by kernel_rfl) (by kernel_rfl) (by kernel_rfl) (fun _ _ _ h => h) (Or.inl ⟨by rfl, fun w => by go_simp⟩) ?_
      refine wpAny_ready (rs := [1, 4]) (by kernel_rfl) (by simp) ?_
      refine AllReady.cons rfl (fun K hK => ?_) (AllReady.cons rfl (fun K hK => ?_) AllReady.nil)
      focus
        refine step_load_row rfl 60 (.tmp 3) rfl (w.heap.size + 1) rfl 60 (mcol g) (0, 0) _ HN.out uMat rfl (by rw [iMat, mcol_size]) ?_
        refine hK _ _ ?_
        clear hK K
        refine wpAny_ready (rs := [4]) (by kernel_rfl) (by simp) ?_
        refine AllReady.cons rfl (fun K hK => ?_) AllReady.nil
        go_simp
        refine hK _ _ ?_
        clear hK K
      rotate_left
      focus
        go_simp
        refine hK _ _ ?_
        clear hK K
        refine wpAny_ready (rs := [1]) (by kernel_rfl) (by simp) ?_
        refine AllReady.cons rfl (fun K hK => ?_) AllReady.nil
        refine step_load_row rfl 60 (.tmp 3) rfl (w.heap.size + 1) rfl 60 (mcol g) (0, 0) _ HN.out uMat rfl (by rw [iMat, mcol_size]) ?_
        refine hK _ _ ?_
        clear hK K
      all_goals
        refine wpAny_ready (rs := [5]) (by kernel_rfl) (by simp) ?_
        refine AllReady.cons rfl (fun K hK => ?_) AllReady.nil
        go_simp
        refine HA.out.mono ?_
        rintro e w1 ⟨rfl, hB1⟩
        have HM1 : Hid (Blk w1 w.heap.size (mixM f g k) 60) := (HM.out.drewN 1).below hB1 HM.out.lt
        have HN1 : Hid (Blk w1 (w.heap.size + 1) (mcol g) 60) := (HN.out.drewN 1).below hB1 HN.out.lt
        have HZ1 : Hid (Blk w1 (w.heap.size + 1 + 1) (mcol fun _ => 0) 60) := (HZ.out.drewN 1).below hB1 HZ.out.lt
        have HB1 : Hid (Below w.heap.size w w1) := HB.out.drew.trans (hB1.mono HB.out.size)
        have hfz := HM1.out.free k
        have hce := HM1.out.cell k (mixM_get f g k k hlt (Nat.le_refl _))
        clear hB1
        refine hK _ _ ?_
        clear hK K
        refine wpAny_ready (rs := [6]) (by kernel_rfl) (by simp) ?_
        refine AllReady.cons rfl (fun K hK => ?_) AllReady.nil
        go_simp
        refine hK _ _ ?_
        clear hK K
        refine wpAny_ready (rs := [7]) (by kernel_rfl) (by simp) ?_
        refine AllReady.cons rfl (fun K hK => ?_) AllReady.nil
        go_simp
        refine hK _ _ ?_
        clear hK K
        refine wpAny_done (by kernel_rfl) ?_ _
        go_wp2_with fail
        go_roundw
        case rel => exact ⟨k + 1, by omega, by go_num, by have := HM1.out.set k (.int .u32 ((g c : Nat) : Int)); rw [HC.out, mixM_set f g k hlt] at this; rw [HC.out]; exact this, HN1.out.of_block (Below.heap_setCell _ _ _ _ (by simp)), HZ1.out.of_block (Below.heap_setCell _ _ _ _ (by simp; omega)), HB1.out.setCell (Nat.le_refl _) _⟩
        case measure => simp [intOf]; omega
    · obtain rfl : k = 32 := by omega
      have HM2 : Hid (Blk wr w.heap.size (mcol fun a => g (f a)) 60) := by rw [← mixM_all]; exact HM.out
      go_wp2_with (first
        | (refine wpList_load_row rfl 60 (.tmp 2) rfl w.heap.size rfl 60 (mcol fun a => g (f a)) (0, 0) _ HM2.out uMat rfl (by rw [iMat, mcol_size]) ?_)
        | (refine wpList_store_row rfl 60 (.tmp 4) (.tmp 17) rfl (w.heap.size + 1 + 1) (mcol fun a => g (f a)) rfl rfl 60 (mcol fun _ => 0) HZ.out (by rw [iMat, mcol_size]) (by rw [mcol_size, mcol_size]) (mcol_one _) ?_))
      refine bodyPost_ret (results_cell_row rfl _ _ (w.heap.size + 1 + 1) 60 (mcol fun a => g (f a)) (0, 0) _ rfl (setRow_heap wr (w.heap.size + 1 + 1) _ _ _ _ HZ.out) uMat rfl (by rw [iMat, mcol_size])) rfl ?_
      exact ⟨rfl, below_setRow HB.out (by omega)⟩
end Go.Proofs.YtjppcjcflcnliaaDoor
