/- The contracts of empty and New: a map of n bits, all false, in a block of its own. No condition. -/
import Derived.Test.YtanppmpijadhbaaAt
namespace Go.Proofs.Ytanppmpijadhbaa
open Go.RowKit

def zcells (p : Option Addr) (n : Nat) : Array Value := (Value.pointer p :: .int .i64 ((n : Nat) : Int) :: wcells (fun _ => false)).toArray
theorem zcells_size (p : Option Addr) (n : Nat) : (zcells p n).size = 66 := by simp [zcells, wcells_len]
theorem wcells_zero : wcells (fun _ => false) = List.replicate 64 (Value.int .u64 0) := by
  unfold wcells
  rw [List.eq_replicate_iff]
  refine ⟨by simp, fun v hv => ?_⟩
  obtain ⟨k, _, rfl⟩ := List.mem_map.1 hv
  unfold wcell; rw [Bm.word_zero]; rfl
theorem zcells_num (n : Nat) : (zcells none 0).setIfInBounds 1 (.int .i64 ((n : Nat) : Int)) = zcells none n := by
  apply Array.ext'
  unfold zcells
  rw [Array.toList_setIfInBounds]
  simp only [List.set_cons_succ, List.set_cons_zero]
theorem zcells_self (b n : Nat) : (zcells none n).setIfInBounds 0 (.pointer (some ⟨b, 0, none⟩)) = mcells b n (fun _ => false) := by
  apply Array.ext'
  unfold zcells mcells
  rw [Array.toList_setIfInBounds]
  simp only [List.set_cons_zero]
theorem zcells_zero : zcells none 0 = (Value.pointer none :: .int .i64 0 :: List.replicate 64 (Value.int .u64 0)).toArray := by
  unfold zcells; rw [wcells_zero]; rfl
theorem zeroMap (w : World) : (zeroValue 66).run Try.prog w = .ok (.agg (zcells none 0)) w := by
  rw [zcells_zero]; kernel_rfl
set_option maxRecDepth 100000 in
set_option maxHeartbeats 400000 in
theorem empty_any (w : World) (n : Nat) (hn : n ≤ 4096) :
    Calls Try.prog 47 #[.int .i64 (n : Int)] w fun e w' => e = .returned (.pointer (some ⟨w.heap.size, 0, none⟩)) ∧ MapAt w' w.heap.size n (fun _ => false) ∧ Below w.heap.size w w' := by
  have hz := zeroMap
  have hs := zcells_size none 0
  have hs2 := zcells_size none n
  have h1 := zcells_num n
  have h2 := zcells_self w.heap.size n
  have hb : Below w.heap.size w (w.alloc (.cells (mcells w.heap.size n (fun _ => false)) 66)) := (Below.refl _ _).alloc (Nat.le_refl _) _
  have hm : MapAt (w.alloc (.cells (mcells w.heap.size n (fun _ => false)) 66)) w.heap.size n (fun _ => false) := ⟨heap_alloc_new w _, hn, fun _ _ => rfl⟩
  have HB := Lib.hid hb
  have HM := Lib.hid hm
  clear hb hm
  go_enter Try.func47, Try.ntmps47
  go_wp2
  go_ret
  exact ⟨rfl, HM.out, HB.out⟩
theorem new_ok (w : World) (n : Nat) (hn : n ≤ 4096) :
    Calls Try.prog 15 #[.int .i64 (n : Int)] w fun e w' => e = .returned (.tuple #[.pointer (some ⟨w.heap.size, 0, none⟩), .int .i64 0]) ∧ MapAt w' w.heap.size n (fun _ => false) ∧ Below w.heap.size w w' := by
  have HE := Lib.hid (empty_any w n hn)
  have h1 : (0 : Int) ≤ (n : Int) := by omega
  go_enter Try.func15, Try.ntmps15
  go_wp2_with fail
  refine HE.out.mono ?_
  rintro e w' ⟨rfl, hm, hb⟩
  have HM := Lib.hid hm
  have HB := Lib.hid hb
  clear hm hb
  go_wp2_with fail
  go_ret2
  exact ⟨rfl, HM.out, HB.out⟩
theorem new_bad (w : World) (n : Int) (h : n < 0 ∨ 4096 < n) :
    Calls Try.prog 15 #[.int .i64 n] w fun e w' => e = .returned (.tuple #[.pointer none, .int .i64 7]) ∧ w = w' := by
  rcases h with h | h
  · go_enter Try.func15, Try.ntmps15
    go_wp2_with fail
    go_ret2
    exact ⟨rfl, rfl⟩
  · have h1 : (0 : Int) ≤ n := by omega
    go_enter Try.func15, Try.ntmps15
    go_wp2_with fail
    go_ret2
    exact ⟨rfl, rfl⟩
end Go.Proofs.Ytanppmpijadhbaa
