/- The contracts of at and put, the two functions of package bits that read and write one bit. Condition: a map in a block of its own, a place below its number of bits. -/
import Derived.Test.YtanppmpijadhbaaLeaf
import Derived.RegionTactic
import Derived.ChangeAlike
import Derived.BigRegion
namespace Go.Proofs.Ytanppmpijadhbaa
open Go.RowKit

theorem pow64 (i : Nat) : 2 ^ (i % 64) < 18446744073709551616 := show 2 ^ (i % 64) < 2 ^ 64 from Nat.pow_lt_pow_right (by omega) (Nat.mod_lt _ (by omega))
theorem and_one (f : Nat → Bool) (i : Nat) : (bits .and .u64 (((Bm.word f (i / 64) : Nat) : Int) / 2 ^ (i % 64)) 1 == 1) = f i := by
  have e : (((Bm.word f (i / 64) : Nat) : Int) / 2 ^ (i % 64)) = ((Bm.word f (i / 64) / 2 ^ (i % 64) : Nat) : Int) := by
    rw [Int.natCast_ediv, Int.natCast_pow]; rfl
  have hlt : Bm.word f (i / 64) / 2 ^ (i % 64) < 18446744073709551616 := Nat.lt_of_le_of_lt (Nat.div_le_self _ _) (Bm.word_lt _ _)
  rw [e, show (1 : Int) = ((1 : Nat) : Int) from rfl, bits_and_u64_nat _ 1 hlt (by omega), Nat.and_one_is_mod, Bm.word_at]
  cases f i <;> rfl
theorem wrap_pow (i p : Nat) (hp : p = 2 ^ (i % 64)) : IntKind.u64.wrap ((2 : Int) ^ (i % 64)) = (p : Int) := by
  have h := pow64 i
  rw [← hp] at h
  have e : (2 : Int) ^ (i % 64) = (p : Int) := by rw [hp, Int.natCast_pow]; rfl
  rw [IntKind.wrap_u64, e]
  omega

set_option maxHeartbeats 400000 in
theorem at_any (w : World) (b n : Nat) (f : Nat → Bool) (i : Nat) (M : MapAt w b n f) (hi : i < n) :
    Calls Try.prog 56 #[.pointer (some ⟨b, 0, none⟩), .int .i64 (i : Int)] w fun e w' => e = .returned (.bool (f i)) ∧ w = w' := by
  have hn := M.le
  have hw := M.word (i / 64) (by omega)
  have ha := Lib.hid (and_one f i)
  go_enter Try.func56, Try.ntmps56
  go_wp2
  go_ret
  exact ⟨ret_bool ha.out, rfl⟩
set_option maxHeartbeats 400000 in
theorem put_true (w : World) (b n : Nat) (f : Nat → Bool) (i : Nat) (M : MapAt w b n f) (hi : i < n) :
    Calls Try.prog 55 #[.pointer (some ⟨b, 0, none⟩), .int .i64 (i : Int), .bool true] w fun e w' => e = .returned (.tuple #[]) ∧ MapAt w' b n (Bm.upd f i true) ∧ w.grownBy w' (some b) := by
  have hn := M.le
  have hw := M.word (i / 64) (by omega)
  have hf := M.free (2 + i / 64)
  have hS := M.store (Bm.upd f i true) (i / 64) (by omega) (fun j hj => Bm.word_upd_other f i j true hj) (fun j hj => by unfold Bm.upd; rw [if_neg (by omega)]; exact M.off j hj)
  obtain ⟨p, hp⟩ : ∃ p : Nat, p = 2 ^ (i % 64) := ⟨_, rfl⟩
  have hwr := wrap_pow i p hp
  have hor : bits .or .u64 ((Bm.word f (i / 64) : Nat) : Int) (p : Int) = ((Bm.word (Bm.upd f i true) (i / 64) : Nat) : Int) := by
    rw [bits_or_u64_nat _ _ (Bm.word_lt _ _) (by rw [hp]; exact pow64 i), hp, Bm.word_put_true]
  have HS := Lib.hid hS
  clear hp hS
  go_enter Try.func55, Try.ntmps55
  go_wp2
  go_region
  all_goals
    go_end0
    exact ⟨rfl, HS.out.of_block rfl, grown_drewN (grown_setCell w b _ _) 1⟩
set_option maxHeartbeats 400000 in
theorem put_false (w : World) (b n : Nat) (f : Nat → Bool) (i : Nat) (M : MapAt w b n f) (hi : i < n) :
    Calls Try.prog 55 #[.pointer (some ⟨b, 0, none⟩), .int .i64 (i : Int), .bool false] w fun e w' => e = .returned (.tuple #[]) ∧ MapAt w' b n (Bm.upd f i false) ∧ w.grownBy w' (some b) := by
  have hn := M.le
  have hw := M.word (i / 64) (by omega)
  have hf := M.free (2 + i / 64)
  have hS := M.store (Bm.upd f i false) (i / 64) (by omega) (fun j hj => Bm.word_upd_other f i j false hj) (fun j hj => by unfold Bm.upd; rw [if_neg (by omega)]; exact M.off j hj)
  obtain ⟨p, hp⟩ : ∃ p : Nat, p = 2 ^ (i % 64) := ⟨_, rfl⟩
  have hwr := wrap_pow i p hp
  have hor : bits .andNot .u64 ((Bm.word f (i / 64) : Nat) : Int) (p : Int) = ((Bm.word (Bm.upd f i false) (i / 64) : Nat) : Int) := by
    rw [u64_andNot_nat _ _ (Bm.word_lt _ _) (by rw [hp]; exact pow64 i), hp, Bm.word_put_false]
  have HS := Lib.hid hS
  clear hp hS
  go_enter Try.func55, Try.ntmps55
  go_wp2
  go_region
  all_goals
    go_end0
    exact ⟨rfl, HS.out.of_block rfl, grown_drewN (grown_setCell w b _ _) 1⟩
theorem put_any (w : World) (b n : Nat) (f : Nat → Bool) (i : Nat) (v : Bool) (M : MapAt w b n f) (hi : i < n) :
    Calls Try.prog 55 #[.pointer (some ⟨b, 0, none⟩), .int .i64 (i : Int), .bool v] w fun e w' => e = .returned (.tuple #[]) ∧ MapAt w' b n (Bm.upd f i v) ∧ w.grownBy w' (some b) := by
  cases v
  · exact put_false w b n f i M hi
  · exact put_true w b n f i M hi
end Go.Proofs.Ytanppmpijadhbaa
