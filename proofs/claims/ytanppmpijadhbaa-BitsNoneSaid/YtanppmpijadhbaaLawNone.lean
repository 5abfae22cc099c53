/- The walk of BitsNone: it returns true. Condition: the numbers have 64 bits. -/
import Derived.Test.YtanppmpijadhbaaNone
import Derived.Test.YtanppmpijadhbaaAwake
namespace Go.Proofs.Ytanppmpijadhbaa
open Go.RowKit

theorem NoMap.drewN {w : World} {v : Value} (h : NoMap w v) (j : Nat) : NoMap (w.drewN j) v := fun k => by
  have := h (j + k)
  rw [← World.drewN_drewN] at this
  exact this
set_option maxRecDepth 100000 in
set_option maxHeartbeats 4000000 in
theorem law_none (w : World) (i n : Int) (t : Bool) :
    Calls Try.prog 9 #[.int .i64 i, .int .i64 n, .bool t] w fun e w' => e = .returned (.bool true) ∧ Below w.heap.size w w' := by
  have hz := zeroMap
  go_enter Try.func9, Try.ntmps9
  go_wp2_with fail
  refine (example_any _).mono ?_
  rintro e w1 ⟨b, rfl, hb, hm, hB⟩
  have hs : ((w.alloc (Obj.cells (zcells none 0) 66)).alloc (Obj.cells #[Value.pointer none, Value.pointer (some ⟨w.heap.size, 0, none⟩)] 67)).heap.size = w.heap.size + 2 := by simp
  have d0 := (hB.cell (p := ⟨w.heap.size + 1, 0, none⟩) (by rw [hs]; show w.heap.size + 1 < _; omega)).trans (cell_of_row _ (w.heap.size + 1) 0 _ _ _ (heap_alloc2_new w _ _))
  have d1 := (hB.cell (p := ⟨w.heap.size + 1, 1, none⟩) (by rw [hs]; show w.heap.size + 1 < _; omega)).trans (cell_of_row _ (w.heap.size + 1) 1 _ _ _ (heap_alloc2_new w _ _))
  have dz := (hB.cell (p := ⟨w.heap.size, 0, none⟩) (by rw [hs]; show w.heap.size < _; omega)).trans (cell_of_row _ w.heap.size 0 _ _ _ (heap_alloc2_old w _ _))
  have D0 : Hid (w1.cell? ⟨w.heap.size + 1, 0, none⟩ = some (.pointer none)) := d0
  have D1 : Hid (w1.cell? ⟨w.heap.size + 1, 1, none⟩ = some (.pointer (some ⟨w.heap.size, 0, none⟩))) := d1
  have DZ : Hid (w1.cell? ⟨w.heap.size, 0, none⟩ = some (.pointer none)) := dz
  have HM0 := Lib.hid hm
  have HB0 : Hid (Below w.heap.size w w1) := (((Below.refl _ _).alloc (Nat.le_refl _) _).alloc (by simp) _).trans (hB.mono (by rw [hs]; omega))
  clear d0 d1 dz hm hB hs hb hz
  go_wp2_with fail
  go_loopw [10] (fun i wr => ∃ k : Nat, k ≤ 2 ∧ i = .int .i64 (k : Int) ∧ MapAt wr b 10 exF ∧ wr.cell? ⟨w.heap.size + 1, 0, none⟩ = some (.pointer none) ∧ wr.cell? ⟨w.heap.size + 1, 1, none⟩ = some (.pointer (some ⟨w.heap.size, 0, none⟩)) ∧ wr.cell? ⟨w.heap.size, 0, none⟩ = some (.pointer none) ∧ Below w.heap.size w wr) (fun i _ => 2 - (intOf i).toNat)
  case atStart => exact ⟨0, Nat.zero_le _, rfl, HM0.out, D0.out, D1.out, DZ.out, HB0.out⟩
  case round =>
    obtain ⟨k, hk, rfl, M, c0, c1, cz, hB⟩ := hrel
    have hcase : k = 0 ∨ k = 1 ∨ k = 2 := by omega
    clear HM0 D0 D1 DZ HB0 hk
    rcases hcase with rfl | rfl | rfl
    · have HNO : NoMap wr (.pointer none) := noMap_nil wr
      have Hget := Lib.hid (none_get wr (.pointer none) i HNO)
      have Hcount := Lib.hid (none_count wr (.pointer none) i n HNO)
      have Hnext := Lib.hid (none_next wr (.pointer none) i t HNO)
      have Hlast := Lib.hid (none_last wr (.pointer none) i t HNO)
      have Hrun := Lib.hid (none_run wr (.pointer none) i n t HNO)
      have Hand := Lib.hid (and_nil wr (.pointer none) (.pointer (some ⟨b, 0, none⟩)) HNO.here)
      have Hor := Lib.hid (or_nil2 wr b 10 exF M (.pointer none) HNO.here)
      have Hnot := Lib.hid (not_nil wr (.pointer none) HNO.here)
      have Hxor := Lib.hid (xor_nil2 wr b 10 exF M (.pointer none) HNO.here)
      have HM := Lib.hid M
      have HN := Lib.hid HNO
      have HB2 := Lib.hid hB
      clear HNO M hB
      go_wp2_with fail
      refine Hget.out.mono ?_
      rintro e w' ⟨rfl, rfl⟩
      go_wp2_with fail
      refine Hcount.out.mono ?_
      rintro e w' ⟨rfl, rfl⟩
      go_wp2_with fail
      refine Hnext.out.mono ?_
      rintro e w' ⟨rfl, rfl⟩
      go_wp2_with fail
      refine Hlast.out.mono ?_
      rintro e w' ⟨rfl, rfl⟩
      go_wp2_with fail
      refine Hrun.out.mono ?_
      rintro e w' ⟨rfl, rfl⟩
      go_wp2_with fail
      refine Hand.out.mono ?_
      rintro e w' ⟨rfl, rfl⟩
      go_wp2_with fail
      refine Hor.out.mono ?_
      rintro e w' ⟨rfl, rfl⟩
      go_wp2_with fail
      refine Hnot.out.mono ?_
      rintro e w' ⟨rfl, rfl⟩
      go_wp2_with fail
      refine Hxor.out.mono ?_
      rintro e w' ⟨rfl, rfl⟩
      go_wp2_with fail
      refine (none_set wr (.pointer none) i t HN.out).mono ?_
      rintro e w' ⟨rfl, rfl⟩
      go_wp2_with fail
      refine (none_turn wr (.pointer none) i HN.out).mono ?_
      rintro e w' ⟨rfl, rfl⟩
      go_wp2_with fail
      refine (none_fill wr (.pointer none) i n t HN.out).mono ?_
      rintro e w' ⟨rfl, rfl⟩
      go_wp2_with fail
      refine (none_len wr (.pointer none) HN.out).mono ?_
      rintro e w' ⟨rfl, rfl⟩
      go_wp2_with fail
      refine (none_bytes wr (.pointer none) HN.out).mono ?_
      rintro e w' ⟨rfl, rfl⟩
      go_wp2_with fail
      refine (same_nil wr (.pointer none) _ HN.out).mono ?_
      rintro e w' ⟨rfl, m1, rfl⟩
      go_wp2_with fail
      refine (same_nil2 _ b 10 exF (HM.out.drewN m1) (.pointer none) (HN.out.drewN m1)).mono ?_
      rintro e w' ⟨rfl, m2, rfl⟩
      go_wp2_with fail
      refine (same_nil (wr.drewN (m1 + m2)) (.pointer none) _ (HN.out.drewN (m1 + m2))).mono ?_
      rintro e w' ⟨rfl, m3, rfl⟩
      go_wp2_with fail
      go_roundw
      case rel => exact ⟨1, by omega, by go_num, HM.out.drewN _, c0, c1, cz, below_drewN HB2.out _⟩
      case measure => simp [intOf]
    · have HNO : NoMap wr (.pointer (some ⟨w.heap.size, 0, none⟩)) := noMap_zero cz
      have Hget := Lib.hid (none_get wr (.pointer (some ⟨w.heap.size, 0, none⟩)) i HNO)
      have Hcount := Lib.hid (none_count wr (.pointer (some ⟨w.heap.size, 0, none⟩)) i n HNO)
      have Hnext := Lib.hid (none_next wr (.pointer (some ⟨w.heap.size, 0, none⟩)) i t HNO)
      have Hlast := Lib.hid (none_last wr (.pointer (some ⟨w.heap.size, 0, none⟩)) i t HNO)
      have Hrun := Lib.hid (none_run wr (.pointer (some ⟨w.heap.size, 0, none⟩)) i n t HNO)
      have Hand := Lib.hid (and_nil wr (.pointer (some ⟨w.heap.size, 0, none⟩)) (.pointer (some ⟨b, 0, none⟩)) HNO.here)
      have Hor := Lib.hid (or_nil2 wr b 10 exF M (.pointer (some ⟨w.heap.size, 0, none⟩)) HNO.here)
      have Hnot := Lib.hid (not_nil wr (.pointer (some ⟨w.heap.size, 0, none⟩)) HNO.here)
      have Hxor := Lib.hid (xor_nil2 wr b 10 exF M (.pointer (some ⟨w.heap.size, 0, none⟩)) HNO.here)
      have HM := Lib.hid M
      have HN := Lib.hid HNO
      have HB2 := Lib.hid hB
      clear HNO M hB
      go_wp2_with fail
      refine Hget.out.mono ?_
      rintro e w' ⟨rfl, rfl⟩
      go_wp2_with fail
      refine Hcount.out.mono ?_
      rintro e w' ⟨rfl, rfl⟩
      go_wp2_with fail
      refine Hnext.out.mono ?_
      rintro e w' ⟨rfl, rfl⟩
      go_wp2_with fail
      refine Hlast.out.mono ?_
      rintro e w' ⟨rfl, rfl⟩
      go_wp2_with fail
      refine Hrun.out.mono ?_
      rintro e w' ⟨rfl, rfl⟩
      go_wp2_with fail
      refine Hand.out.mono ?_
      rintro e w' ⟨rfl, rfl⟩
      go_wp2_with fail
      refine Hor.out.mono ?_
      rintro e w' ⟨rfl, rfl⟩
      go_wp2_with fail
      refine Hnot.out.mono ?_
      rintro e w' ⟨rfl, rfl⟩
      go_wp2_with fail
      refine Hxor.out.mono ?_
      rintro e w' ⟨rfl, rfl⟩
      go_wp2_with fail
      refine (none_set wr (.pointer (some ⟨w.heap.size, 0, none⟩)) i t HN.out).mono ?_
      rintro e w' ⟨rfl, rfl⟩
      go_wp2_with fail
      refine (none_turn wr (.pointer (some ⟨w.heap.size, 0, none⟩)) i HN.out).mono ?_
      rintro e w' ⟨rfl, rfl⟩
      go_wp2_with fail
      refine (none_fill wr (.pointer (some ⟨w.heap.size, 0, none⟩)) i n t HN.out).mono ?_
      rintro e w' ⟨rfl, rfl⟩
      go_wp2_with fail
      refine (none_len wr (.pointer (some ⟨w.heap.size, 0, none⟩)) HN.out).mono ?_
      rintro e w' ⟨rfl, rfl⟩
      go_wp2_with fail
      refine (none_bytes wr (.pointer (some ⟨w.heap.size, 0, none⟩)) HN.out).mono ?_
      rintro e w' ⟨rfl, rfl⟩
      go_wp2_with fail
      refine (same_nil wr (.pointer (some ⟨w.heap.size, 0, none⟩)) _ HN.out).mono ?_
      rintro e w' ⟨rfl, m1, rfl⟩
      go_wp2_with fail
      refine (same_nil2 _ b 10 exF (HM.out.drewN m1) (.pointer (some ⟨w.heap.size, 0, none⟩)) (HN.out.drewN m1)).mono ?_
      rintro e w' ⟨rfl, m2, rfl⟩
      go_wp2_with fail
      refine (same_nil (wr.drewN (m1 + m2)) (.pointer (some ⟨w.heap.size, 0, none⟩)) _ (HN.out.drewN (m1 + m2))).mono ?_
      rintro e w' ⟨rfl, m3, rfl⟩
      go_wp2_with fail
      go_roundw
      case rel => exact ⟨2, by omega, by go_num, HM.out.drewN _, c0, c1, cz, below_drewN HB2.out _⟩
      case measure => simp [intOf]
    · go_wp2_with fail
      refine (awake_any _).mono ?_
      rintro e w2 ⟨rfl, hB2⟩
      have HB2 : Hid (Below w.heap.size w w2) := hB.trans (hB2.mono hB.size)
      clear hB2 hB
      go_wp2_with fail
      go_ret
      exact ⟨rfl, HB2.out⟩
end Go.Proofs.Ytanppmpijadhbaa
