/- The contracts of all methods at a map that is none. Condition: made says that it is none. -/
import Derived.Test.YtanppmpijadhbaaComb
import Derived.Test.YtanppmpijadhbaaSame
namespace Go.Proofs.Ytanppmpijadhbaa
open Go.RowKit

/-- The value is no map, now and after any draws. -/
def NoMap (w : World) (v : Value) : Prop := ∀ k, Calls Try.prog 49 #[v] (w.drewN k) fun e w' => e = .returned (.bool false) ∧ w.drewN k = w'
theorem NoMap.here {w : World} {v : Value} (h : NoMap w v) : Calls Try.prog 49 #[v] w fun e w' => e = .returned (.bool false) ∧ w = w' := h 0
theorem noMap_nil (w : World) : NoMap w (.pointer none) := fun _ => nilMade_any _
theorem noMap_zero {w : World} {b : Nat} (h : w.cell? ⟨b, 0, none⟩ = some (.pointer none)) : NoMap w (.pointer (some ⟨b, 0, none⟩)) := fun _ => zeroMade_any _ b h
theorem none_range (w : World) (v : Value) (i k : Int) (H : NoMap w v) :
    Calls Try.prog 57 #[v, .int .i64 i, .int .i64 k] w fun e w' => e = .returned (.int .i64 1) ∧ w = w' := by
  have HH := Lib.hid H.here
  clear H
  go_enter Try.func57, Try.ntmps57
  go_wp2_with fail
  refine HH.out.mono ?_
  rintro e w' ⟨rfl, rfl⟩
  go_wp2_with fail
  go_ret
  exact ⟨rfl, rfl⟩
theorem none_bit (w : World) (v : Value) (i : Int) (H : NoMap w v) :
    Calls Try.prog 58 #[v, .int .i64 i] w fun e w' => e = .returned (.int .i64 1) ∧ w = w' := by
  have HH := Lib.hid (none_range w v i 1 H)
  clear H
  go_enter Try.func58, Try.ntmps58
  go_wp2_with fail
  refine HH.out.mono ?_
  rintro e w' ⟨rfl, rfl⟩
  go_wp2_with fail
  go_ret
  exact ⟨rfl, rfl⟩
theorem none_place (w : World) (v : Value) (i : Int) (H : NoMap w v) :
    Calls Try.prog 59 #[v, .int .i64 i] w fun e w' => e = .returned (.int .i64 1) ∧ w = w' := by
  have HH := Lib.hid (none_range w v i 0 H)
  clear H
  go_enter Try.func59, Try.ntmps59
  go_wp2_with fail
  refine HH.out.mono ?_
  rintro e w' ⟨rfl, rfl⟩
  go_wp2_with fail
  go_ret
  exact ⟨rfl, rfl⟩
theorem none_get (w : World) (v : Value) (i : Int) (H : NoMap w v) :
    Calls Try.prog 32 #[v, .int .i64 i] w fun e w' => e = .returned (.tuple #[.bool false, .int .i64 1]) ∧ w = w' := by
  have HH := Lib.hid (none_bit w v i H)
  clear H
  go_enter Try.func32, Try.ntmps32
  go_wp2_with fail
  refine HH.out.mono ?_
  rintro e w' ⟨rfl, rfl⟩
  go_wp2_with fail
  go_ret2
  exact ⟨rfl, rfl⟩
theorem none_count (w : World) (v : Value) (i k : Int) (H : NoMap w v) :
    Calls Try.prog 30 #[v, .int .i64 i, .int .i64 k] w fun e w' => e = .returned (.tuple #[.int .i64 0, .int .i64 1]) ∧ w = w' := by
  have HH := Lib.hid (none_range w v i k H)
  clear H
  go_enter Try.func30, Try.ntmps30
  go_wp2_with fail
  refine HH.out.mono ?_
  rintro e w' ⟨rfl, rfl⟩
  go_wp2_with fail
  go_ret2
  exact ⟨rfl, rfl⟩
theorem none_run (w : World) (v : Value) (i k : Int) (t : Bool) (H : NoMap w v) :
    Calls Try.prog 34 #[v, .int .i64 i, .int .i64 k, .bool t] w fun e w' => e = .returned (.tuple #[.int .i64 0, .int .i64 1]) ∧ w = w' := by
  have HH := Lib.hid (none_place w v i H)
  clear H
  go_enter Try.func34, Try.ntmps34
  go_wp2_with fail
  go_step3
  go_wp2_with fail
  refine HH.out.mono ?_
  rintro e w' ⟨rfl, rfl⟩
  go_wp2_with fail
  try rw [Exit.noGoto_ret]
  go_ret2
  exact ⟨rfl, rfl⟩
theorem none_next (w : World) (v : Value) (i : Int) (t : Bool) (H : NoMap w v) :
    Calls Try.prog 31 #[v, .int .i64 i, .bool t] w fun e w' => e = .returned (.tuple #[.int .i64 0, .int .i64 1]) ∧ w = w' := by
  have HH := Lib.hid (none_run w v i 1 t H)
  clear H
  go_enter Try.func31, Try.ntmps31
  go_wp2_with fail
  refine HH.out.mono ?_
  rintro e w' ⟨rfl, rfl⟩
  go_wp2_with fail
  go_ret2
  exact ⟨rfl, rfl⟩
theorem none_last (w : World) (v : Value) (i : Int) (t : Bool) (H : NoMap w v) :
    Calls Try.prog 33 #[v, .int .i64 i, .bool t] w fun e w' => e = .returned (.tuple #[.int .i64 0, .int .i64 1]) ∧ w = w' := by
  have HH := Lib.hid (none_place w v i H)
  clear H
  go_enter Try.func33, Try.ntmps33
  go_wp2_with fail
  refine HH.out.mono ?_
  rintro e w' ⟨rfl, rfl⟩
  go_wp2_with fail
  go_ret2
  exact ⟨rfl, rfl⟩
theorem none_set (w : World) (v : Value) (i : Int) (t : Bool) (H : NoMap w v) :
    Calls Try.prog 36 #[v, .int .i64 i, .bool t] w fun e w' => e = .returned (.int .i64 1) ∧ w = w' := by
  have HH := Lib.hid (none_bit w v i H)
  clear H
  go_enter Try.func36, Try.ntmps36
  go_wp2_with fail
  refine HH.out.mono ?_
  rintro e w' ⟨rfl, rfl⟩
  go_wp2_with fail
  go_ret
  exact ⟨rfl, rfl⟩
theorem none_turn (w : World) (v : Value) (i : Int) (H : NoMap w v) :
    Calls Try.prog 37 #[v, .int .i64 i] w fun e w' => e = .returned (.int .i64 1) ∧ w = w' := by
  have HH := Lib.hid (none_bit w v i H)
  clear H
  go_enter Try.func37, Try.ntmps37
  go_wp2_with fail
  refine HH.out.mono ?_
  rintro e w' ⟨rfl, rfl⟩
  go_wp2_with fail
  go_ret
  exact ⟨rfl, rfl⟩
theorem none_fill (w : World) (v : Value) (i k : Int) (t : Bool) (H : NoMap w v) :
    Calls Try.prog 38 #[v, .int .i64 i, .int .i64 k, .bool t] w fun e w' => e = .returned (.int .i64 1) ∧ w = w' := by
  have HH := Lib.hid (none_range w v i k H)
  clear H
  go_enter Try.func38, Try.ntmps38
  go_wp2_with fail
  refine HH.out.mono ?_
  rintro e w' ⟨rfl, rfl⟩
  go_wp2_with fail
  go_ret
  exact ⟨rfl, rfl⟩
theorem none_len (w : World) (v : Value) (H : NoMap w v) :
    Calls Try.prog 19 #[v] w fun e w' => e = .returned (.int .i64 0) ∧ w = w' := by
  have HH := Lib.hid H.here
  clear H
  go_enter Try.func19, Try.ntmps19
  go_wp2_with fail
  refine HH.out.mono ?_
  rintro e w' ⟨rfl, rfl⟩
  go_wp2_with fail
  go_ret
  exact ⟨rfl, rfl⟩
theorem none_bytes (w : World) (v : Value) (H : NoMap w v) :
    Calls Try.prog 20 #[v] w fun e w' => e = .returned (.slice none 0 0) ∧ w = w' := by
  have HH := Lib.hid H.here
  clear H
  go_enter Try.func20, Try.ntmps20
  go_wp2_with fail
  refine HH.out.mono ?_
  rintro e w' ⟨rfl, rfl⟩
  go_wp2_with fail
  go_ret
  exact ⟨rfl, rfl⟩
end Go.Proofs.Ytanppmpijadhbaa
