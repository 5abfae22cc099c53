/- The contracts of made and New: a device of zeros. No condition. -/
import Derived.Test.YtiddbdjcdoiloaaDoorSettle
import Derived.LoopN
namespace Go.Proofs.YtiddbdjcdoiloaaDoor
open Go.RowKit Go.Maps

theorem zeroDev (w : World) : (zeroValue 106).run Tryd.prog w = .ok (.agg #[.pointer none, .slice none 0 0, .slice none 0 0, .int .i64 0, .int .i64 0, .bool false, .map none]) w := by kernel_rfl
theorem alloc_size (w : World) (o : Obj) : (w.alloc o).heap.size = w.heap.size + 1 := by simp
theorem makes_eq (z : Array Value) (n : Nat) (hz : z.size = 128) (i j : Nat) (hi : i < n) (hj : j < 128) : (madeCells z (n * 128))[i * 128 + j]? = z[j]? := by
  have h : i * 128 + j < n * 128 := by omega
  unfold madeCells
  rw [Array.getElem?_map, Array.getElem?_range, if_pos h]
  simp only [Option.map_some]
  have e : (i * 128 + j) % z.size = j := by rw [hz]; omega
  rw [e]
  have hj2 : j < z.size := by omega
  simp [hj2]
set_option maxRecDepth 100000 in
set_option maxHeartbeats 1000000 in
theorem made_any (w : World) (g n : Nat) (hs : Stb w g (List.replicate n Dv.zeroS)) (h0 : 64 ≤ n) (h1 : n ≤ 256) :
    Calls Tryd.prog 57 #[.agg #[.slice (some ⟨g, 0, none⟩) n n, .slice none 0 0, .int .i64 0, .int .i64 (-1), .bool false]] w fun e w' => ∃ b m, e = .returned (.pointer (some ⟨b, 0, none⟩)) ∧ DevR w' b g n (.slice none 0 0) m (Dv.new n) ∧ Below w.heap.size w w' ∧ w.heap.size ≤ b ∧ w.heap.size ≤ m := by
  have hmm := @run_makeMap Tryd.prog
  have HS := Lib.hid hs
  clear hs
  go_enter Tryd.func57, Tryd.ntmps57
  go_wp2_with fail
  refine wp_loop_rounds 1 ?_
  rw [rounds_succ]
  go_wp2_with fail
  go_ret
  have hA : Below w.heap.size w (w.alloc (.cells #[.slice (some ⟨g, 0, none⟩) n n, .slice none 0 0, .int .i64 0, .int .i64 (-1), .bool false] 60)) := (Below.refl _ _).alloc (Nat.le_refl _) _
  have hB := hA.alloc hA.size (.map #[] 0)
  have hC := hB.alloc hB.size (.cells (dC (w.heap.size + 1 + 1) g n n (.slice none 0 0) 0 (-1) false (w.heap.size + 1)) 106)
  refine ⟨w.heap.size + 1 + 1, w.heap.size + 1, rfl, ?_, hC, by omega, by omega⟩
  have hl : (Dv.new n).st.length = n := by simp [Dv.new]
  refine ⟨?_, HS.out.of_block (hC.block g HS.out.lt), Nat.le_of_eq hl, World.ownsRow_nil _ _ _ _, ?_, Dv.Ok.new h0 h1⟩
  · rw [hl]
    have := Blk.new ((w.alloc (.cells #[.slice (some ⟨g, 0, none⟩) n n, .slice none 0 0, .int .i64 0, .int .i64 (-1), .bool false] 60)).alloc (.map #[] 0)) (dC (w.heap.size + 1 + 1) g n n (.slice none 0 0) 0 (-1) false (w.heap.size + 1)) 106
    simp only [alloc_size] at this
    exact this
  · refine ⟨.map [], ?_, NW.nil⟩
    have := World.ownsMap_made (H := Unit) (w.alloc (.cells #[.slice (some ⟨g, 0, none⟩) n n, .slice none 0 0, .int .i64 0, .int .i64 (-1), .bool false] 60)) Tryd.prog 3 pl
    have h2 := this.alloc (.cells (dC (w.heap.size + 1 + 1) g n n (.slice none 0 0) 0 (-1) false (w.heap.size + 1)) 106)
    simp only [alloc_size] at h2
    exact h2
theorem stb_made {w : World} {g n base : Nat} (z : Value) (hz : z.cells = (secC Dv.zeroS).toArray) (h : w.ownsRow base 38 128 (.slice (some ⟨g, 0, none⟩) n n) n (madeCells z.cells (n * 128)).toList) : Stb w g (List.replicate n Dv.zeroS) := by
  have hs : z.cells.size = 128 := by rw [hz, secC_size]
  refine ⟨?_, fun i hi j v hv => ?_⟩
  · rcases h.2 with ⟨h0, _⟩ | ⟨k, cap, cur, hv, _, hg, _⟩
    · exact absurd h0 (by simp)
    · injection hv with e1 _ _
      have : g = k := by have := Option.some.inj e1; injection this
      subst this
      exact ⟨cur, hg⟩
  · have hin : i < n := by simpa using hi
    have hj : j < 128 := by have := (List.getElem?_eq_some_iff.1 hv).1; rw [secC_len] at this; exact this
    rw [World.ownsRow.cellAt h (i * 128 + j) (by omega), Array.getElem?_toList, makes_eq z.cells n hs i j hin hj, hz, List.getElem?_toArray]
    simpa using hv
set_option maxRecDepth 100000 in
set_option maxHeartbeats 1000000 in
theorem new_ok (w : World) (n : Nat) (h0 : 64 ≤ n) (h1 : n ≤ 256) :
    Calls Tryd.prog 28 #[.int .i64 (n : Int)] w fun e w' => ∃ b F, e = .returned (.tuple #[.pointer (some ⟨b, 0, none⟩), .int .i64 0]) ∧ DevAt w' b F (Dv.new n) ∧ Below w.heap.size w w' ∧ ∀ i ∈ F, w.heap.size ≤ i := by
  have HS := Lib.hid (isSize_any w (n : Int))
  have hd : decide (64 ≤ (n : Int) ∧ (n : Int) ≤ 256) = true := decide_eq_true ⟨by omega, by omega⟩
  rw [hd] at HS
  obtain ⟨i0, hi, hz0, hz1, hz2⟩ := info_parts info_sec
  go_enter Tryd.func28, Tryd.ntmps28
  go_wp2_with fail
  refine HS.out.mono ?_
  rintro e w' ⟨rfl, rfl⟩
  go_wp2_with (refine wpList_make_full _ rfl _ _ 57 rfl w.heap.size 38 i0 _ 128 Tryd.underlying57 hi hz0 hz1 _ _ _ _ n rfl rfl rfl rfl (by rw [hz2]; omega) (by unfold maxLen; omega) (Nat.le_refl _) ?_; intro w1 ho1 hg1)
  have hst := stb_made _ rfl ho1
  have HM := Lib.hid (made_any w1 w.heap.size n hst h0 h1)
  have HG := Lib.hid hg1
  have HST := Lib.hid hst
  clear ho1 hg1 hst
  go_wp2_with fail
  refine HM.out.mono ?_
  rintro e w2 ⟨b, m, rfl, hdv, hb, hb1, hb2⟩
  have HDV := Lib.hid hdv
  have HB : Hid (Below w.heap.size w w2) := by
    have h1 : Below w.heap.size w w1 := (Below.refl _ _).grown HG.out (Nat.le_refl _) (fun k hk => by cases hk)
    exact h1.trans (hb.mono HG.out.size)
  have hgs := HG.out.size
  clear hdv hb
  go_wp2_with fail
  go_ret2
  refine ⟨b, _, rfl, ⟨_, _, _, _, HDV.out, rfl⟩, HB.out, fun i hi => ?_⟩
  rcases foot_mem.1 hi with rfl | rfl | rfl | h
  · omega
  · exact Nat.le_refl _
  · omega
  · cases h
theorem new_bad (w : World) (n : Int) (h : ¬ (64 ≤ n ∧ n ≤ 256)) :
    Calls Tryd.prog 28 #[.int .i64 n] w fun e w' => e = .returned (.tuple #[.pointer none, .int .i64 7]) ∧ w = w' := by
  have HS := Lib.hid (isSize_any w n)
  rw [decide_eq_false h] at HS
  clear h
  go_enter Tryd.func28, Tryd.ntmps28
  go_wp2_with fail
  refine HS.out.mono ?_
  rintro e w' ⟨rfl, rfl⟩
  go_wp2_with fail
  go_ret2
  exact ⟨rfl, rfl⟩
end Go.Proofs.YtiddbdjcdoiloaaDoor
