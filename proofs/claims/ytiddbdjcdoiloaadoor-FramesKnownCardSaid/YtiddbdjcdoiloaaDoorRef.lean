/- The contracts of number, numbered, Seal and Fixed of the reference. Conditions: a block of 128 bytes, numbers of 32 bits. -/
import Derived.Test.YtiddbdjcdoiloaaDoorSealR
namespace Go.Proofs.YtiddbdjcdoiloaaDoor
open Go.RowKit Fm

set_option maxRecDepth 100000 in
set_option maxHeartbeats 1000000 in
theorem rnumber_any (w : World) (b o n : Nat) (l : List UInt8) (hB : ByB w b l) (hl : l.length = 128) (ho : o + 4 ≤ 128) :
    Calls Tryd.prog 52 #[.pointer (some ⟨b, 0, none⟩), .int .i64 (o : Int), .int .u32 (n : Int)] w fun e w' => e = .returned (.tuple #[]) ∧ ByB w' b (splice l o (le n 4)) ∧ w.grownBy w' (some b) := by
  have HB := Lib.hid hB
  have hu := uArr
  clear hB
  go_enter Tryd.func52, Tryd.ntmps52
  go_wp2_with fail
  go_loopw [6] (fun i wr => ∃ j : Nat, j ≤ 4 ∧ i = .int .i64 j ∧ Hid (ByB wr b (splice l o (le n j))) ∧ Hid (w.grownBy wr (some b))) (fun i _ => 4 - (intOf i).toNat)
  case atStart => exact ⟨0, by omega, rfl, by show ByB _ _ (splice l o []); rw [splice_nil]; exact HB.out, grown_refl _ _⟩
  case round =>
    obtain ⟨j, hj, rfl, HR, HG⟩ := hrel
    by_cases hlt : j < 4
    · have hltI : (j : Int) < 4 := by omega
      have hsl : (splice l o (le n j)).length = l.length := splice_len _ _ _ (by rw [le_len]; omega)
      have hc := HR.out.cell (o + j) (by omega)
      have hf := HR.out.free (o + j)
      have hs := shr_byte n j
      have HS : Hid (ByB (wr.setCell ⟨b, o + j, none⟩ (.int .u8 ((Cm.byteAt n j).toNat : Int))) b (splice l o (le n (j + 1)))) := by
        have := HR.out.set (o + j) (Cm.byteAt n j)
        rw [splice_le_set l o n j (by omega)] at this; exact this
      obtain ⟨cb, hcb⟩ : ∃ cb, cb = ((splice l o (le n j))[o + j]'(by omega)).toNat := ⟨_, rfl⟩
      obtain ⟨x, hx⟩ : ∃ x, x = (Cm.byteAt n j).toNat := ⟨_, rfl⟩
      rw [← hcb] at hc
      rw [← hx] at hs HS
      have ho128 : (o : Int) + (j : Int) < 128 := by omega
      clear hsl hcb hx hl
      go_wp2_with fail
      go_roundw
      case rel => exact ⟨j + 1, by omega, by go_num, HS.out, grown_set HG.out (o + j) _⟩
      case measure => simp [intOf]; omega
    · obtain rfl : j = 4 := by omega
      have hltI : ¬ (((4 : Nat) : Int) < 4) := by omega
      go_wp2_with fail
      go_end0
      exact ⟨rfl, HR.out, HG.out⟩
set_option maxRecDepth 100000 in
set_option maxHeartbeats 1000000 in
theorem rnumbered_any (w : World) (x : Dv.Sec) (o : Nat) (ho : o + 4 ≤ 128) :
    Calls Tryd.prog 55 #[.agg (secC x).toArray, .int .i64 (o : Int)] w fun e w' => e = .returned (.int .u32 ((num (sub x.1 o 4) : Nat) : Int)) ∧ Below w.heap.size w w' := by
  have HB : Hid (ByB (w.alloc (.cells (secC x).toArray 38)) w.heap.size x.1) := Blk.new w _ _
  have HB0 : Hid (Below w.heap.size w (w.alloc (.cells (secC x).toArray 38))) := (Below.refl _ _).alloc (Nat.le_refl _) _
  have hp : (Value.agg (secC x).toArray).cells = (secC x).toArray := rfl
  have HXL := Lib.hid x.2
  have hu := uArr
  have HSL : Hid ((sub x.1 o 4).length = 4) := sub_len _ _ _ (by have := x.2; omega)
  go_enter Tryd.func55, Tryd.ntmps55
  go_wp2_with fail
  obtain ⟨w1, hw1⟩ : ∃ w1, w1 = w.alloc (.cells (secC x).toArray 38) := ⟨_, rfl⟩
  rw [← hw1] at HB HB0 ⊢
  clear hw1 hp
  go_loop [5, 6] (fun n i => ∃ j v : Nat, j ≤ 4 ∧ i = .int .i64 j ∧ n = .int .u32 (v : Int) ∧ Hid (v = num ((sub x.1 o 4).take j))) (fun _ i => 4 - (intOf i).toNat)
  case atStart => exact ⟨0, 0, by omega, rfl, rfl, rfl⟩
  case round =>
    obtain ⟨j, v, hj, rfl, rfl, HX⟩ := hrel
    by_cases hlt : j < 4
    · have hltI : (j : Int) < 4 := by omega
      have hol : o + j < x.1.length := by rw [HXL.out]; omega
      have hc := HB.out.cell (o + j) hol
      have hn := num_take x.1 o 4 j hlt (by rw [HXL.out]; omega)
      rw [← HX.out] at hn
      have hxl : v < 256 ^ j := by
        have := num_lt ((sub x.1 o 4).take j)
        rw [← HX.out, List.length_take, HSL.out, Nat.min_eq_left hj] at this; exact this
      have hcl := (x.1[o + j]'hol).toNat_lt
      obtain ⟨cb, hcb⟩ : ∃ cb, cb = (x.1[o + j]'hol).toNat := ⟨_, rfl⟩
      rw [← hcb] at hc hn hcl
      obtain ⟨y, hy⟩ : ∃ y, y = cb * 256 ^ j := ⟨_, rfl⟩
      rw [← hy] at hn
      have hp4 : 256 ^ j ≤ 256 ^ 3 := Nat.pow_le_pow_right (by omega) (by omega)
      have hy32 : y + 256 ^ j ≤ 4294967296 := by
        rw [hy]
        have : cb * 256 ^ j + 256 ^ j = (cb + 1) * 256 ^ j := by rw [Nat.add_mul, Nat.one_mul]
        rw [this]
        exact Nat.le_trans (Nat.mul_le_mul (by omega : cb + 1 ≤ 256) hp4) (by decide)
      have e2 : (2 : Int) ^ (8 * j) = ((256 ^ j : Nat) : Int) := by rw [Int.natCast_pow, Int.pow_mul]; rfl
      have hsh : (cb : Int) * 2 ^ (8 * j) = (y : Int) := by rw [e2, hy, Int.natCast_mul]
      obtain ⟨z, hz⟩ : ∃ z, z = num ((sub x.1 o 4).take (j + 1)) := ⟨_, rfl⟩
      rw [← hz] at hn
      have hyI : (y : Int) < 4294967296 := by have : 0 < 256 ^ j := Nat.pow_pos (by omega); omega
      have hzI : (v : Int) + (y : Int) < 4294967296 := by omega
      have HZ := Lib.hid hz
      have HZN : Hid ((v : Int) + (y : Int) = (z : Int)) := by show _ = _; omega
      have ho128 : (o : Int) + (j : Int) < 128 := by omega
      clear hcb hn hxl hy hp4 hy32 e2 hz hol
      go_wp2_with fail
      exact ⟨⟨j + 1, z, by omega, by go_num, by first | rfl | exact congrArg (Value.int .u32) HZN.out, HZ.out⟩, by simp [intOf]; omega⟩
    · obtain rfl : j = 4 := by omega
      have hltI : ¬ (((4 : Nat) : Int) < 4) := by omega
      go_wp2_with fail
      go_ret
      exact ⟨ret_nat (by rw [HX.out, List.take_of_length_le (by rw [HSL.out]; omega)]), HB0.out⟩
end Go.Proofs.YtiddbdjcdoiloaaDoor
