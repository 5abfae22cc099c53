/- The contract of the law's same: of a map and the list of its bits it is true. Condition: the map lies in a block of its own, the list as said. -/
import Derived.Test.YtanppmpijadhbaaRBytes
import Derived.Deep.RegionWith
import Derived.Outline
namespace Go.Proofs.Ytanppmpijadhbaa
open Go.RowKit

set_option maxRecDepth 100000 in
set_option maxHeartbeats 1000000 in
theorem lsame_any (w : World) (b : Nat) (v : Value) (l : List Bool) (M : MapAt w b l.length (listF l)) (hv : SL encT w w.heap.size v l) :
    Calls Try.prog 14 #[.pointer (some ⟨b, 0, none⟩), v] w fun e w' => e = .returned (.bool true) ∧ Below w.heap.size w w' := by
  obtain ⟨A, c0, rfl⟩ := hv.form
  have hn := M.le
  have HM := Lib.hid M
  have HV := Lib.hid hv
  have hlt := M.lt
  have HL := Lib.hid (len_any w.drew b _ _ (M.of_block rfl))
  have HY := Lib.hid (bytes_any w.drew b _ _ (M.of_block rfl))
  have HV2 : Hid (SL encT w.drew w.drew.heap.size (.slice A l.length c0) l) := hv
  clear M hv
  go_enter Try.func14, Try.ntmps14
  go_wp2_with fail
  go_region_with (first
    | (go_at_call 19; refine HL.out.mono ?_; rintro e w' ⟨rfl, hw⟩; subst hw)
    | (go_at_call 20; refine HY.out.mono ?_; rintro e w1 ⟨v1, rfl, hS1, hB1⟩; have hstr1 := hS1.str)
    | (go_at_call 28; refine (rbytes_any w1 _ l ((HV2.out.below hB1 (Nat.le_refl _)).mono hB1.size) (by omega)).mono ?_; rintro e w2 ⟨v2, rfl, hS2, hB2⟩; have hstr2 := hS2.str; have hstr3 := (hS1.below hB2 (Nat.le_refl _)).str))
  all_goals
    go_wp2
    go_ret
    exact ⟨rfl, ((Below.refl w.heap.size w).drew.trans hB1).trans (hB2.mono hB1.size)⟩
end Go.Proofs.Ytanppmpijadhbaa
