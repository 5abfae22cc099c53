/- The contract of paths.fix: the name as an array. Condition: the name has at most 24 bytes. -/
import Derived.Test.YtgfmfeaapffdfaaDoorCheck
import Derived.Lib.BufferWrite
import Derived.Laws.CopyRow
import Derived.Deep.WholeRow
namespace Go.Proofs.YtgfmfeaapffdfaaDoor
open Go.RowKit

/-- A name as the cells of an array. -/
def encU (c : UInt8) : Value := .int .u8 (c.toNat : Int)
def padV (s : ByteArray) : Array Value := ((padN s).map encU).toArray
def zero24 : Array Value := #[Value.int .u8 0, .int .u8 0, .int .u8 0, .int .u8 0, .int .u8 0, .int .u8 0, .int .u8 0, .int .u8 0, .int .u8 0, .int .u8 0, .int .u8 0, .int .u8 0, .int .u8 0, .int .u8 0, .int .u8 0, .int .u8 0, .int .u8 0, .int .u8 0, .int .u8 0, .int .u8 0, .int .u8 0, .int .u8 0, .int .u8 0, .int .u8 0]
theorem pad_app : ∀ (n : Nat) (l : List UInt8), l.length ≤ n → pad n l = l ++ List.replicate (n - l.length) 0
  | 0, [], _ => rfl
  | 0, _ :: _, h => by simp at h
  | n + 1, [], _ => by
    have := pad_app n [] (Nat.zero_le _)
    simp only [pad, this, List.length_nil, Nat.sub_zero, List.nil_append]
    rfl
  | n + 1, c :: l, h => by
    have := pad_app n l (by simpa using h)
    simp only [pad, this, List.length_cons, List.cons_append]
    rw [show n + 1 - (l.length + 1) = n - l.length by omega]
theorem padV_eq (s : ByteArray) (h : s.size ≤ 24) : (zero24.toList.take 0 ++ Lib.byteCells s.data.toList ++ zero24.toList.drop (0 + s.size)).toArray = padV s := by
  unfold padV padN
  rw [pad_app 24 (bs s) (by rw [bs_len]; exact h), bs_len]
  congr 1
  rw [List.map_append, List.take_zero, List.nil_append]
  congr 1
  have : zero24.toList = List.replicate 24 (encU 0) := rfl
  rw [this, List.drop_replicate, List.map_replicate, Nat.zero_add]
theorem padV_size (s : ByteArray) : (padV s).size = 24 := by unfold padV; simp [padN_len]
theorem padV_one (s : ByteArray) : (padV s).all (·.oneCell') = true := by
  rw [Array.all_eq_true_iff_forall_mem]
  intro v hv
  unfold padV at hv
  simp only [List.mem_toArray, List.mem_map] at hv
  obtain ⟨c, _, rfl⟩ := hv
  rfl
theorem uFixed : Tryd.prog.underlying 81 = some (.array 24 5) := by kernel_rfl
theorem iFixed : (Tryd.prog.info? 81).map (·.size) = some 24 := by kernel_rfl
theorem uBytes : Tryd.prog.underlying 68 = some (.slice 5) := by kernel_rfl
theorem iByte : (Tryd.prog.info? 5).map (·.size) = some 1 := by kernel_rfl

theorem heap_setRow_same (w : World) (g : Nat) (cur cs : Array Value) (t : TypeId) (fz : Nat × Nat) (h : w.heap[g]? = some (.cells cur t fz)) : (w.setRow g cs).heap[g]? = some (.cells cs t fz) := by
  simp [World.setRow, Array.getElem?_modify, h]
theorem heap_setRow_other (w : World) (g k : Nat) (cs : Array Value) (h : k ≠ g) : (w.setRow g cs).heap[k]? = w.heap[k]? := by
  simp only [World.setRow, Array.getElem?_modify]
  rw [if_neg (Ne.symm h)]
theorem below_setRow' {B g : Nat} {w w' : World} {cs : Array Value} (h : Below B w w') (hg : B ≤ g) : Below B w (w'.setRow g cs) :=
  h.trans ⟨rfl, rfl, rfl, by simp [World.setRow], fun k hk => heap_setRow_other _ _ _ _ (by omega)⟩
theorem run_loadCells_row {P : Program} (w : World) (g : Nat) (c : Array Value) (t : TypeId) (n : Nat) (hn : c.size = n) (hg : w.heap[g]? = some (.cells c t (0, 0))) :
    (loadCellsFrom ⟨g, 0, none⟩ 0 n #[]).run P w = .ok c w := by
  subst hn
  have := run_loadCells_list (P := P) w ⟨g, 0, none⟩ c.toList (fun j v hv => by
    have hadd : (⟨g, 0, none⟩ : Addr).add j = ⟨g, j, none⟩ := by unfold Addr.add; split <;> simp_all
    rw [hadd, cell_of_row w g j c t (0, 0) hg]
    simpa using hv)
  simpa [loadCells] using this
set_option maxRecDepth 100000 in
set_option maxHeartbeats 2000000 in
theorem fix_any (s : ByteArray) (w : World) (hs : nameE s = 0) :
    Calls Tryd.prog 71 #[.string s] w fun e w' => e = .returned (.agg (padV s)) ∧ Gr w w' := by
  have h24 := (nameE_ok hs).2.1
  have hcp := Lib.run_copy_row_string (P := Tryd.prog) ((w.alloc (.cells zero24 81)).alloc (.cells zero24 81)) 68 9 3 5 (w.heap.size + 1) 0 24 24 s zero24 81 uBytes iByte
    (by have := heap_alloc_last (w.alloc (.cells zero24 81)) (.cells zero24 81); simpa using this) h24 (by show 0 + s.size ≤ 24; omega)
  rw [padV_eq s h24] at hcp
  have hw1 : ((w.alloc (.cells zero24 81)).alloc (.cells zero24 81)).setRow (w.heap.size + 1) (padV s) = (w.alloc (.cells zero24 81)).alloc (.cells (padV s) 81) := by
    have := World.setRow_alloc_new (w.alloc (.cells zero24 81)) zero24 (padV s) 81 
    simpa using this
  rw [hw1] at hcp
  clear hw1
  simp only [zero24] at hcp
  obtain ⟨W2, hW2⟩ : ∃ W2, W2 = (w.alloc (.cells zero24 81)).alloc (.cells (padV s) 81) := ⟨_, rfl⟩
  have hg : W2.heap[w.heap.size]? = some (.cells zero24 81 (0, 0)) := by
    rw [hW2]; exact (Below.heap_alloc (w.alloc (.cells zero24 81)) _ _ (by simp)).trans (heap_alloc_last w _)
  have hg2 : W2.heap[w.heap.size + 1]? = some (.cells (padV s) 81 (0, 0)) := by
    rw [hW2]; have := heap_alloc_last (w.alloc (.cells zero24 81)) (.cells (padV s) 81); simpa using this
  have hb : Gr w W2 := by rw [hW2]; exact ((Gr.refl w).alloc _).alloc _
  simp only [zero24] at hW2
  rw [← hW2] at hcp
  have HG := Lib.hid hg
  have HG2 := Lib.hid hg2
  have HB := Lib.hid hb
  clear hW2 hg hg2 hb
  go_enter Tryd.func71, Tryd.ntmps71
  go_wp2_with (first
    | (refine wpList_load_row rfl 81 (.tmp 3) rfl (w.heap.size + 1) rfl 81 (padV s) (0, 0) _ HG2.out uFixed rfl (by rw [iFixed, padV_size]) ?_)
    | (refine wpList_store_row rfl 81 (.tmp 2) (.tmp 7) rfl w.heap.size (padV s) rfl rfl 81 zero24 HG.out (by rw [iFixed, padV_size]) (by rw [padV_size]; rfl) (padV_one s) ?_))
  refine bodyPost_ret (results_cell_row rfl _ _ w.heap.size 81 (padV s) (0, 0) _ rfl (heap_setRow_same W2 w.heap.size _ _ _ _ HG.out) uFixed rfl (by rw [iFixed, padV_size])) rfl ?_
  exact ⟨rfl, below_setRow' HB.out.below (Nat.le_refl _), HB.out.drawn⟩
end Go.Proofs.YtgfmfeaapffdfaaDoor
