/- The contracts of words.letterOf and words.charOf. Condition: the table words.escapes holds what the program's text lays. -/
import Derived.Test.YtdkaogcimecfiaaDoorLeaf
import Derived.Test.YtdkaogcimecfiaaDoorMath
namespace Go.Proofs.YtdkaogcimecfiaaDoor
open Go.RowKit

/-- The table of escapes, in memory. -/
structure Tab (w : World) : Prop where
  c0 : w.cell? ⟨3, 0, none⟩ = some (.int .u8 34)
  c1 : w.cell? ⟨3, 1, none⟩ = some (.int .u8 34)
  c2 : w.cell? ⟨3, 2, none⟩ = some (.int .u8 92)
  c3 : w.cell? ⟨3, 3, none⟩ = some (.int .u8 92)
  c4 : w.cell? ⟨3, 4, none⟩ = some (.int .u8 10)
  c5 : w.cell? ⟨3, 5, none⟩ = some (.int .u8 110)
  c6 : w.cell? ⟨3, 6, none⟩ = some (.int .u8 13)
  c7 : w.cell? ⟨3, 7, none⟩ = some (.int .u8 114)
  c8 : w.cell? ⟨3, 8, none⟩ = some (.int .u8 9)
  c9 : w.cell? ⟨3, 9, none⟩ = some (.int .u8 116)

theorem Tab.drewN {w : World} (T : Tab w) (n : Nat) : Tab (w.drewN n) := ⟨T.c0, T.c1, T.c2, T.c3, T.c4, T.c5, T.c6, T.c7, T.c8, T.c9⟩
theorem Tab.below {B : Nat} {w w' : World} (T : Tab w) (h : Below B w w') (hB : 3 < B) : Tab w' :=
  ⟨(h.cell (p := ⟨3, 0, none⟩) hB).trans T.c0, (h.cell (p := ⟨3, 1, none⟩) hB).trans T.c1, (h.cell (p := ⟨3, 2, none⟩) hB).trans T.c2,
    (h.cell (p := ⟨3, 3, none⟩) hB).trans T.c3, (h.cell (p := ⟨3, 4, none⟩) hB).trans T.c4, (h.cell (p := ⟨3, 5, none⟩) hB).trans T.c5,
    (h.cell (p := ⟨3, 6, none⟩) hB).trans T.c6, (h.cell (p := ⟨3, 7, none⟩) hB).trans T.c7, (h.cell (p := ⟨3, 8, none⟩) hB).trans T.c8,
    (h.cell (p := ⟨3, 9, none⟩) hB).trans T.c9⟩

def pairOf (o : Option Nat) : Value := match o with
  | some x => .tuple #[.int .u8 (x : Int), .bool true]
  | none => .tuple #[.int .u8 0, .bool false]

set_option maxHeartbeats 1000000 in
theorem letterOf_any (c : Nat) (w : World) (T : Tab w) :
    Calls Tryd.prog 89 #[.int .u8 (c : Int)] w fun e w' => e = .returned (pairOf (M.letterN c)) ∧ w = w' := by
  obtain ⟨c0, c1, c2, c3, c4, c5, c6, c7, c8, c9⟩ := T
  by_cases e0 : c = 34
  · subst e0
    go_enter Tryd.func89, Tryd.ntmps89
    go_wp2
    go_rounds 6
    go_ret2
    exact ⟨rfl, rfl⟩
  by_cases e1 : c = 92
  · subst e1
    go_enter Tryd.func89, Tryd.ntmps89
    go_wp2
    go_rounds 6
    go_ret2
    exact ⟨rfl, rfl⟩
  by_cases e2 : c = 10
  · subst e2
    go_enter Tryd.func89, Tryd.ntmps89
    go_wp2
    go_rounds 6
    go_ret2
    exact ⟨rfl, rfl⟩
  by_cases e3 : c = 13
  · subst e3
    go_enter Tryd.func89, Tryd.ntmps89
    go_wp2
    go_rounds 6
    go_ret2
    exact ⟨rfl, rfl⟩
  by_cases e4 : c = 9
  · subst e4
    go_enter Tryd.func89, Tryd.ntmps89
    go_wp2
    go_rounds 6
    go_ret2
    exact ⟨rfl, rfl⟩
  have hn : M.letterN c = none := by unfold M.letterN; simp [e0, e1, e2, e3, e4]
  have H := Lib.hid hn
  clear hn
  go_enter Tryd.func89, Tryd.ntmps89
  go_wp2
  go_rounds 6
  go_ret2
  exact ⟨by rw [H.out]; rfl, rfl⟩
set_option maxHeartbeats 1000000 in
theorem charOf_any (c : Nat) (w : World) (T : Tab w) :
    Calls Tryd.prog 87 #[.int .u8 (c : Int)] w fun e w' => e = .returned (pairOf (M.charN c)) ∧ w = w' := by
  obtain ⟨c0, c1, c2, c3, c4, c5, c6, c7, c8, c9⟩ := T
  by_cases e0 : c = 34
  · subst e0
    go_enter Tryd.func87, Tryd.ntmps87
    go_wp2
    go_rounds 6
    go_ret2
    exact ⟨rfl, rfl⟩
  by_cases e1 : c = 92
  · subst e1
    go_enter Tryd.func87, Tryd.ntmps87
    go_wp2
    go_rounds 6
    go_ret2
    exact ⟨rfl, rfl⟩
  by_cases e2 : c = 110
  · subst e2
    go_enter Tryd.func87, Tryd.ntmps87
    go_wp2
    go_rounds 6
    go_ret2
    exact ⟨rfl, rfl⟩
  by_cases e3 : c = 114
  · subst e3
    go_enter Tryd.func87, Tryd.ntmps87
    go_wp2
    go_rounds 6
    go_ret2
    exact ⟨rfl, rfl⟩
  by_cases e4 : c = 116
  · subst e4
    go_enter Tryd.func87, Tryd.ntmps87
    go_wp2
    go_rounds 6
    go_ret2
    exact ⟨rfl, rfl⟩
  have hn : M.charN c = none := by unfold M.charN; simp [e0, e1, e2, e3, e4]
  have H := Lib.hid hn
  clear hn
  go_enter Tryd.func87, Tryd.ntmps87
  go_wp2
  go_rounds 6
  go_ret2
  exact ⟨by rw [H.out]; rfl, rfl⟩
end Go.Proofs.YtdkaogcimecfiaaDoor
