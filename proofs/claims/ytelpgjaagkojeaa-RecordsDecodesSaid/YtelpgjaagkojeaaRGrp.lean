/- The contract of grouped of the reference. Conditions: a slice that holds the bytes. -/
import Derived.Test.YtelpgjaagkojeaaRead
namespace Go.Proofs.Ytelpgjaagkojeaa
open Go.RowKit

/-- What grouped hands back. -/
def GpE (w : World) (y : List UInt8) (e : Ending) (w' : World) : Prop :=
  e = .returned (.tuple #[.int .u64 ((Rm.pgs y).1 : Int), .int .i64 ((Rm.pgs y).2.1 : Int), .int .i64 ((Rm.pgs y).2.2 : Int)]) ∧ w = w'
theorem GpE.of {w w' : World} {n u e' : Nat} {y : List UInt8} {e : Ending} (h : Rm.pgs y = (n, u, e')) (he : e = .returned (.tuple #[.int .u64 (n : Int), .int .i64 (u : Int), .int .i64 (e' : Int)])) (hg : w = w') : GpE w y e w' := by
  unfold GpE; rw [h]; exact ⟨he, hg⟩
set_option maxRecDepth 100000 in
set_option maxHeartbeats 1000000 in
theorem grouped_any (w : World) (lim : Nat) (v : Value) (y : List UInt8) (hv : SL encB w lim v y) (hy : y.length ≤ 9223372036854775807) :
    Calls Try.prog 36 #[v] w fun e w' => GpE w y e w' := by
  obtain ⟨A, c0, rfl⟩ := hv.form
  have HV := Lib.hid hv
  clear hv
  go_enter Try.func36, Try.ntmps36
  go_wp2_with fail
  go_loop [5, 6] (fun v i => ∃ k x : Nat, k ≤ 10 ∧ k ≤ y.length ∧ i = .int .i64 k ∧ v = .int .u64 (x : Int) ∧ Hid (x < 128 ^ k ∧ Rm.pgs y = Rm.pg (10 - k) k x (y.drop k))) (fun _ i => 10 - (intOf i).toNat)
  case atStart => exact ⟨0, 0, by omega, by omega, rfl, rfl, by decide, rfl⟩
  case round =>
    obtain ⟨k, x, hk, hky, rfl, rfl, HR⟩ := hrel
    by_cases h10 : k < 10
    · have h10I : (k : Int) < 10 := by omega
      by_cases hend : k = y.length
      · have heI : ((k : Int) == (y.length : Int)) = true := by rw [beq_iff_eq]; omega
        have HP : Hid (Rm.pgs y = (0, 0, 10)) := by
          show Rm.pgs y = _
          rw [HR.out.2, show 10 - k = (9 - k) + 1 by omega, hend, List.drop_length]; rfl
        clear hend
        go_wp2_with fail
        go_ret3
        exact GpE.of HP.out rfl rfl
      have hlt : k < y.length := by omega
      have heI : ((k : Int) == (y.length : Int)) = false := by rw [beq_eq_false_iff_ne]; omega
      have hltI : (k : Int) < (y.length : Int) := by omega
      obtain ⟨b, off, hA, hb, hc⟩ := HV.out.at (by omega)
      subst hA
      have hcell := hc k hlt
      unfold encB at hcell
      have hc8 := y[k].toNat_lt
      have hpg := HR.out.2
      have hx := HR.out.1
      rw [show 10 - k = (9 - k) + 1 by omega, pg_at (9 - k) k x y k hlt] at hpg
      obtain ⟨c, hcc⟩ : ∃ c, c = y[k].toNat := ⟨_, rfl⟩
      rw [← hcc] at hcell hpg hc8
      have hc256 : c < 256 := hc8
      obtain ⟨m, hm⟩ : ∃ m, m = c % 128 := ⟨_, rfl⟩
      rw [← hm] at hpg
      have hmI : (c : Int) % 128 = (m : Int) := by omega
      have hm128 : m < 128 := by omega
      have HM := Lib.hid hm
      clear hc hcc hc8 HR hm hend
      by_cases h9 : k = 9 ∧ 1 < m
      · rw [if_pos h9] at hpg
        obtain ⟨rfl, h1⟩ := h9
        have HP := Lib.hid hpg
        have h1I : (1 : Int) < (m : Int) := by omega
        clear hpg h1
        go_wp2_with fail
        go_ret3
        exact GpE.of HP.out rfl rfl
      rw [if_neg h9] at hpg
      have h128 : 128 ^ k ≤ 128 ^ 9 := Nat.pow_le_pow_right (by omega) (by omega)
      obtain ⟨p, hp⟩ : ∃ p, p = m * 128 ^ k := ⟨_, rfl⟩
      have hxp : x + p < 18446744073709551616 := by
        by_cases hk9 : k = 9
        · subst hk9
          have : m * 128 ^ 9 ≤ 1 * 128 ^ 9 := Nat.mul_le_mul_right _ (by omega)
          omega
        · have h1 : 128 ^ k ≤ 128 ^ 8 := Nat.pow_le_pow_right (by omega) (by omega)
          have : m * 128 ^ k ≤ 127 * 128 ^ 8 := Nat.mul_le_mul (by omega) h1
          omega
      have hsh : IntKind.u64.wrap ((m : Int) * 2 ^ (7 * k)) = (p : Int) := by rw [shl7 m k (by omega), hp]
      have hnx : Hid (x + p < 128 ^ (k + 1)) := by
        show x + p < 128 ^ (k + 1)
        have : m * 128 ^ k ≤ 127 * 128 ^ k := Nat.mul_le_mul_right _ (by omega)
        rw [Nat.pow_succ]; omega
      rw [← hp] at hpg
      have HPG := Lib.hid hpg
      have hxI : (x : Int) + (p : Int) < 18446744073709551616 := by omega
      have h9I : ((k : Int) == 9) = true → ¬ (1 : Int) < (m : Int) := fun h => by rw [beq_iff_eq] at h; omega
      have hg9 : (((k : Int) == 9) = true ∧ ¬ (1 : Int) < (m : Int)) ∨ ((k : Int) == 9) = false := by
        cases hq : ((k : Int) == 9)
        · exact .inr rfl
        · exact .inl ⟨rfl, h9I hq⟩
      clear hp hpg h9I h128 hx hxp h9
      by_cases hs : c < 128
      · have hsI : decide ((c : Int) < 128) = true := by simp; omega
        have HS := Lib.hid hs
        have HM2 := Lib.hid hm128
        clear hm128
        by_cases h0 : 0 < k ∧ m = 0
        · have HP : Hid (Rm.pgs y = (0, 0, 6)) := by
            show Rm.pgs y = _
            rw [HPG.out, if_pos hs, if_pos h0]
          have h0I : (0 : Int) < (k : Int) := by omega
          have h0N : decide (0 < k) = true := by simp; omega
          have hm0 : ((m : Int) == 0) = true := by rw [beq_iff_eq]; omega
          clear h0 hs
          rcases hg9 with ⟨g1, g2⟩ | g1
          · go_wp2_with fail
            go_ret3
            exact GpE.of HP.out rfl rfl
          · go_wp2_with fail
            go_ret3
            exact GpE.of HP.out rfl rfl
        · have HP : Hid (Rm.pgs y = (x + p, k + 1, 0)) := by
            show Rm.pgs y = _
            rw [HPG.out, if_pos hs, if_neg h0]
          have hcs : (decide (0 < k) = false ∧ ¬ (0 : Int) < (k : Int)) ∨ (decide (0 < k) = true ∧ (0 : Int) < (k : Int) ∧ ((m : Int) == 0) = false) := by
            by_cases hk0 : (0 : Int) < (k : Int)
            · exact .inr ⟨by simp; omega, hk0, by rw [beq_eq_false_iff_ne]; omega⟩
            · exact .inl ⟨by simp; omega, hk0⟩
          clear h0 hs
          rcases hg9 with ⟨g1, g2⟩ | g1 <;> rcases hcs with ⟨f0, f1⟩ | ⟨f0, f1, f2⟩
          · exfalso; rw [beq_iff_eq] at g1; omega
          · go_wp2_with fail
            go_ret3
            exact GpE.of HP.out rfl rfl
          · go_wp2_with fail
            go_ret3
            exact GpE.of HP.out rfl rfl
          · go_wp2_with fail
            go_ret3
            exact GpE.of HP.out rfl rfl
      · have hsI : ¬ (c : Int) < 128 := by omega
        have HN : Hid (Rm.pgs y = Rm.pg (10 - (k + 1)) (k + 1) (x + p) (y.drop (k + 1))) := by
          show Rm.pgs y = _
          rw [HPG.out, if_neg hs, show 10 - (k + 1) = 9 - k by omega]
        rcases hg9 with ⟨g1, g2⟩ | g1
        all_goals
          go_wp2_with fail
          go_round
          case rel => exact ⟨k + 1, x + p, by omega, by omega, by go_num, by go_num, hnx.out, HN.out⟩
          case measure => simp [intOf]; omega
    · obtain rfl : k = 10 := by omega
      have HP : Hid (Rm.pgs y = (0, 0, 6)) := HR.out.2
      go_wp2_with fail
      go_ret3
      exact GpE.of HP.out rfl rfl
end Go.Proofs.Ytelpgjaagkojeaa
