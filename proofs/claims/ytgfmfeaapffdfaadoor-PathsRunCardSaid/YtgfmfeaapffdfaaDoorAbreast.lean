/- The contracts of paths.abreast and of the iterator that it returns: it yields the names of both paths side by side, as arrays. Conditions: the slices hold what is said of them, all names are names. -/
import Derived.Test.YtgfmfeaapffdfaaDoorFix
import Derived.Test.YtgfmfeaapffdfaaDoorIter
import Derived.Test.YtgfmfeaapffdfaaDoorTail
import Derived.Shelf.Abstract
import Derived.Shelf.RegionOpen
import Derived.OwnWalkIn
import Derived.TacticsInMore
import Derived.LoopNIn
import Derived.LoopIn
namespace Go.Proofs.YtgfmfeaapffdfaaDoor
open Go.RowKit Go.Shelf
attribute [local go_sem] Oper.semAt_some

theorem abreast_any (w : World) (A A2 : Option Addr) (m c m2 c2 : Nat) :
    Calls Tryd.prog 58 #[.slice A m c, .slice A2 m2 c2] w fun e w' => e = .returned (.func (.func 70) #[] #[.pointer (some ⟨w.heap.size, 0, none⟩), .pointer (some ⟨w.heap.size + 1, 0, none⟩)]) ∧ w' = (w.alloc (.cells #[.slice A m c] 22)).alloc (.cells #[.slice A2 m2 c2] 22) := by
  go_enter Tryd.func58, Tryd.ntmps58
  go_wp2
  go_ret
  exact ⟨by simp, rfl⟩

abbrev Pair := { x : ByteArray × ByteArray // nameE x.1 = 0 ∧ nameE x.2 = 0 }
def encsP (x : Pair) : Array Value := #[.agg (padV x.1.1), .agg (padV x.1.2)]

set_option maxRecDepth 100000 in
set_option maxHeartbeats 4000000 in
theorem abreast1_gives (n l0 b1 b2 n0 : Nat) (A1 A2 : Option Addr) (c1 c2 : Nat) (p q : Path) (hn : 1 ≤ n) (ys : List Pair) (W : World)
    (hys : ys.length = min p.length q.length) (hp : ∀ k (h : k < ys.length) (h1 : k < p.length) (h2 : k < q.length), ys[k].1 = (p[k], q[k]))
    (hb1 : b1 < W.heap.size) (hb2 : b2 < W.heap.size) (hn0 : n0 ≤ W.heap.size) (hl1 : p.length ≤ 1000000) (hl2 : q.length ≤ 1000000)
    (h1 : W.cell? ⟨b1, 0, none⟩ = some (.slice A1 p.length c1)) (h2 : W.cell? ⟨b2, 0, none⟩ = some (.slice A2 q.length c2))
    (hv : SL encS W n0 (.slice A1 p.length c1) p) (hv2 : SL encS W n0 (.slice A2 q.length c2) q) :
    It.Gives Tryd.prog n 70 #[.pointer (some ⟨b1, 0, none⟩), .pointer (some ⟨b2, 0, none⟩)] encsP (fun r => r < n0 ∨ r = b1 ∨ r = b2) 0 (fun xs => xs = ys) (fun pre => pre <+: ys) ys.length l0 W := by
  intro J Jx hJ hJx hY h0
  refine callsIn_of_wp Tryd.func70 rfl trivial ?_ rfl
  simp only [Tryd.ntmps70, List.size_toArray, List.length_cons, List.length_nil, Nat.reduceAdd, Nat.reduceSub, Array.replicate_succ, Array.replicate_zero, List.push_toArray, List.append_toArray, List.nil_append, List.cons_append]
  have HP := Lib.hid hp
  have HV := Lib.hid hv
  have HV2 := Lib.hid hv2
  have HY := Lib.hid hY
  clear hp hv hv2 hY
  gi_wp2_with fail
  all_goals
    obtain ⟨M, hM, hMy⟩ : ∃ M : Nat, M = min p.length q.length ∧ ys.length = M := ⟨_, rfl, hys⟩
    gi_loopw [10] (fun i wr => ∃ k : Nat, k ≤ ys.length ∧ i = .int .i64 k ∧ It.Kept (fun r => r < n0 ∨ r = b1 ∨ r = b2) W wr ∧ J (ys.take k) wr) (fun i _ => ys.length - (intOf i).toNat)
    case atStart => exact ⟨0, Nat.zero_le _, rfl, It.Kept.refl _ _, by simpa using h0⟩
    case round =>
      obtain ⟨k, hk, rfl, hK, hJk⟩ := hrel
      by_cases hlt : k < ys.length
      · have k1 : k < p.length := by omega
        have k2 : k < q.length := by omega
        obtain ⟨b, off, rfl, hb, hc⟩ := HV.out.at (by omega)
        obtain ⟨b', off', rfl, hb', hc'⟩ := HV2.out.at (by omega)
        have same : ∀ r, (r < n0 ∨ r = b1 ∨ r = b2) → wr.heap[r]? = W.heap[r]? := fun r hr => hK.same r hr (by omega)
        have hsz := hK.size
        have g1 : ∀ d os, (Go.Sort.grow (wr.drewN d) os).cell? ⟨b1, 0, none⟩ = some (.slice (some ⟨b, off, none⟩) p.length c1) := fun d os =>
          cell_grown (by show b1 < _; omega) ((World.cell?_of_block (same b1 (.inr (.inl rfl)))).trans h1) d os
        have g2 : ∀ d os, (Go.Sort.grow (wr.drewN d) os).cell? ⟨b2, 0, none⟩ = some (.slice (some ⟨b', off', none⟩) q.length c2) := fun d os =>
          cell_grown (by show b2 < _; omega) ((World.cell?_of_block (same b2 (.inr (.inr rfl)))).trans h2) d os
        have g3 : ∀ d os, (Go.Sort.grow (wr.drewN d) os).cell? ⟨b, off + k, none⟩ = some (.string p[k]) := fun d os =>
          cell_grown (by show b < _; omega) ((World.cell?_of_block (same b (.inl hb))).trans (hc k k1)) d os
        have g4 : ∀ d os, (Go.Sort.grow (wr.drewN d) os).cell? ⟨b', off' + k, none⟩ = some (.string q[k]) := fun d os =>
          cell_grown (by show b' < _; omega) ((World.cell?_of_block (same b' (.inl hb'))).trans (hc' k k2)) d os
        have hx := HP.out k hlt k1 k2
        have hn1 : nameE p[k] = 0 := by have := ys[k].2.1; rw [hx] at this; exact this
        have hn2 : nameE q[k] = 0 := by have := ys[k].2.2; rw [hx] at this; exact this
        have HF1 : Hid (∀ d os, CallsIn Fence.wide (n - 1) Tryd.prog 71 #[.string p[k]] (Go.Sort.grow (wr.drewN d) os) fun e w'' => e = .returned (.agg (padV p[k])) ∧ ∃ x : GrownBy, w'' = Go.Sort.grow (wr.drewN x.n) x.os) :=
          fun d os => callsIn_wide.2 ((fix_any _ _ hn1).mono fun _ _ h => ⟨h.1, ((((Gr.refl wr).drewN d).grow os).trans h.2).by⟩)
        have HF2 : Hid (∀ d os, CallsIn Fence.wide (n - 1) Tryd.prog 71 #[.string q[k]] (Go.Sort.grow (wr.drewN d) os) fun e w'' => e = .returned (.agg (padV q[k])) ∧ ∃ x : GrownBy, w'' = Go.Sort.grow (wr.drewN x.n) x.os) :=
          fun d os => callsIn_wide.2 ((fix_any _ _ hn2).mono fun _ _ h => ⟨h.1, ((((Gr.refl wr).drewN d).grow os).trans h.2).by⟩)
        have i1 : (k : Int) < (p.length : Int) := by omega
        have i2 : (k : Int) < (q.length : Int) := by omega
        have HX := Lib.hid hx
        clear hx hc hc' hn1 hn2 h1 h2 same
        gi_wp2_with (refine Tl.wpIn_region_quiet_tail (C := fun w' => ∃ x : GrownBy, w' = Go.Sort.grow (wr.drewN x.n) x.os) 11 rfl (by kernel_rfl) (by kernel_rfl) ⟨⟨1, #[]⟩, by rw [Go.Sort.grow_empty]; rfl⟩ ?_)
        simp only [List.take_succ_cons, List.take_zero, List.drop_succ_cons, List.drop_zero]
        repeat (refine wpQuietIn_step (fun _ _ _ _ => trivial) (fun K hK => ?_); go_simp; first | (refine hK _ ?_; clear hK K) | (apply Exists.intro; refine ⟨fun _ => ?_, hK _ ?_⟩; (first | exact HF1.out _ _ | exact HF2.out _ _); clear hK K))
        refine wpQuietIn_nil ?_
        intro V hV
        have hG : Gr wr V := Gr.of_by hV
        clear hV
        have hJV : J (ys.take k) V := hJ _ wr V none hJk ⟨hG.below.os, hG.below.tape, hG.below.output, hG.below.size, fun r hr _ => hG.below.block r hr⟩ hG.drawn (fun _ e => by cases e)
        have hKV : It.Kept (fun r => r < n0 ∨ r = b1 ∨ r = b2) W V := hK.below hG.below (fun _ _ h => h)
        obtain ⟨fn, tmps, assign, body, hy, hRd⟩ := HY.out (ys.take k) ys[k] V hJV (by simp; omega) (by have := hG.below.size; omega)
        simp only [encsP, HX.out] at hy
        have HRD := Lib.hid hRd
        have HK := Lib.hid hKV
        clear g1 g2 g3 g4 HF1 HF2 hK hG hJV hRd hKV hJk
        gi_wp2_with fail
        refine HRD.out.mono ?_
        rintro e W3 (⟨rfl, hJ3, hk3⟩ | ⟨rfl, hJx3⟩)
        · gi_wp2_with fail
          go_roundw
          case rel => exact ⟨k + 1, by omega, by go_num, HK.out.trans (hk3.mono fun r hr => .inl hr), by rw [List.take_succ_eq_append_getElem hlt]; exact hJ3⟩
          case measure => simp [intOf]; omega
        · gi_wp2_with fail
          refine bodyPost_ret (results_none rfl _ _ _) rfl ?_
          exact ⟨⟨_, rfl⟩, .inr ⟨_, ⟨ys.drop (k + 1), by rw [← List.take_succ_eq_append_getElem hlt, List.take_append_drop]⟩, hJx3⟩⟩
      · rw [List.take_of_length_le (by omega)] at hJk
        gi_wp2_with fail
        go_end0
        exact ⟨⟨_, rfl⟩, .inl ⟨_, rfl, hJk⟩⟩
end Go.Proofs.YtgfmfeaapffdfaaDoor
