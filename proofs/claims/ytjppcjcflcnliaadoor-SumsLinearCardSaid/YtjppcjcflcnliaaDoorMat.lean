/- The contracts of the matrices: apply, then, zeros, Zeros, Combine of package sums. Conditions: the table of half bytes, numbers of 32 bits. -/
import Derived.Test.YtjppcjcflcnliaaDoorEach
import Derived.Deep.RegionWith
namespace Go.Proofs.YtjppcjcflcnliaaDoor
open Go.RowKit

def colL (f : Nat → Nat) : List Value := (List.range 32).map fun i => .int .u32 ((f (2 ^ i) : Nat) : Int)
def mcol (f : Nat → Nat) : Array Value := (colL f).toArray
theorem mcol_size (f : Nat → Nat) : (mcol f).size = 32 := by simp [mcol, colL]
theorem mcol_get (f : Nat → Nat) (i : Nat) (h : i < 32) : (mcol f)[i]? = some (.int .u32 ((f (2 ^ i) : Nat) : Int)) := by simp [mcol, colL, h]
theorem pow32 {i : Nat} (h : i < 32) : 2 ^ i < 4294967296 := show 2 ^ i < 2 ^ 32 from Nat.pow_lt_pow_right (by omega) h
theorem and_one (r k : Nat) (h : r < 4294967296) : (bits .and .u32 ((r : Int) / 2 ^ k) 1 == 1) = r.testBit k := by
  have e : (r : Int) / 2 ^ k = ((r / 2 ^ k : Nat) : Int) := by rw [Int.natCast_ediv, Int.natCast_pow]; rfl
  have hlt : r / 2 ^ k < 4294967296 := Nat.lt_of_le_of_lt (Nat.div_le_self _ _) h
  rw [e, show (1 : Int) = ((1 : Nat) : Int) from rfl, u32_and_nat _ 1 hlt (by omega), Nat.and_one_is_mod, Nat.testBit_eq_decide_div_mod_eq]
  rw [Bool.eq_iff_iff, beq_iff_eq, decide_eq_true_eq]
  omega
set_option maxRecDepth 100000 in
set_option maxHeartbeats 1000000 in
theorem apply_any (w : World) (f : Nat → Nat) (r : Nat) (hf : Cm.Lin f) (hr : r < 4294967296) :
    Calls Tryd.prog 39 #[.agg (mcol f), .int .u32 (r : Int)] w fun e w' => e = .returned (.int .u32 ((f r : Nat) : Int)) ∧ Below w.heap.size w w' := by
  have HF := Lib.hid hf
  clear hf
  have hN := Blk.new w (mcol f) 60
  have HB := Lib.hid hN
  clear hN
  go_enter Tryd.func39, Tryd.ntmps39
  go_wp2_with fail
  go_loop [5, 7] (fun v i => ∃ k x : Nat, k ≤ 32 ∧ i = .int .i64 k ∧ v = .int .u32 (x : Int) ∧ Hid (x = f (r % 2 ^ k))) (fun _ i => 32 - (intOf i).toNat)
  case atStart => exact ⟨0, 0, by omega, rfl, rfl, by rw [Nat.pow_zero, Nat.mod_one]; exact HF.out.zero.symm⟩
  case round =>
    obtain ⟨k, x, hk, rfl, rfl, HX⟩ := hrel
    have hxl : x < 4294967296 := by rw [HX.out]; exact HF.out.2 _ (Nat.lt_of_le_of_lt (Nat.mod_le _ _) hr)
    by_cases hlt : k < 32
    · have hltI : (k : Int) < 32 := by omega
      have ht := and_one r k hr
      cases hb : r.testBit k with
      | true =>
        have hcell := HB.out.cell k (mcol_get f k hlt)
        have hcl := HF.out.2 _ (pow32 hlt)
        obtain ⟨c, hc⟩ : ∃ c, c = f (2 ^ k) := ⟨_, rfl⟩
        rw [← hc] at hcell hcl
        have hxx := xor32 x c hxl hcl
        have HN : Hid (x ^^^ c = f (r % 2 ^ (k + 1))) := by rw [HX.out, hc]; exact HF.out.next_yes r k hb
        rw [hb] at ht
        clear hc hb
        go_wp2_with fail
        go_round
        case rel => exact ⟨k + 1, x ^^^ c, by omega, by go_num, rfl, HN.out⟩
        case measure => simp [intOf]; omega
      | false =>
        have HN : Hid (x = f (r % 2 ^ (k + 1))) := by rw [HX.out]; exact HF.out.next_no r k hb
        rw [hb] at ht
        clear hb
        go_wp2_with fail
        go_round
        case rel => exact ⟨k + 1, x, by omega, by go_num, rfl, HN.out⟩
        case measure => simp [intOf]; omega
    · obtain rfl : k = 32 := by omega
      go_wp2_with fail
      go_ret
      exact ⟨ret_nat (by rw [HX.out, Nat.mod_eq_of_lt (show r < 2 ^ 32 from hr)]), (Below.refl _ _).alloc (Nat.le_refl _) _⟩
end Go.Proofs.YtjppcjcflcnliaaDoor
