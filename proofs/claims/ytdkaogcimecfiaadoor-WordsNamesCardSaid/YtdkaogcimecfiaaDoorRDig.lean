/- The contract of the reference's Digits: it returns the decimal form of its number. Condition: a number of 64 bits. -/
import Derived.Test.YtdkaogcimecfiaaDoorRIntW
import Derived.Deep.RegionWith
import Derived.RegionTactic
import Derived.Lib.ItoaLen
namespace Go.Proofs.YtdkaogcimecfiaaDoor
open Go.RowKit

/-- The last digit of a great number. -/
theorem itoa_step (n : Int) (h : 9 < n ∨ n < -9) : Lib.itoa n = Lib.itoa (n.tdiv 10) ++ [UInt8.ofNat (48 + n.natAbs % 10)] := by
  rcases h with h | h
  · obtain ⟨m, rfl⟩ := Int.eq_ofNat_of_zero_le (show 0 ≤ n by omega)
    have e : ((m : Int).tdiv 10) = ((m / 10 : Nat) : Int) := by rw [Int.tdiv_eq_ediv_of_nonneg (by omega)]; rfl
    rw [e, Lib.itoa_nonneg, Lib.itoa_nonneg, Int.natAbs_natCast]
    rw [Lib.decDigits, dif_neg (by omega)]
  · obtain ⟨m, rfl⟩ : ∃ m : Nat, n = -(m : Int) := ⟨n.natAbs, by omega⟩
    have e : (-(m : Int)).tdiv 10 = -((m / 10 : Nat) : Int) := by rw [Int.neg_tdiv, Int.tdiv_eq_ediv_of_nonneg (by omega)]; rfl
    rw [e, Lib.itoa_neg _ (by omega), Lib.itoa_neg _ (by omega), Int.natAbs_neg, Int.natAbs_natCast]
    conv => lhs; rw [Lib.decDigits, dif_neg (by omega)]
    rfl
theorem itoa_one (m : Nat) (h : m < 10) : Lib.itoa (m : Int) = [UInt8.ofNat (48 + m)] := by rw [Lib.itoa_nonneg, Lib.decDigits_one h]

/-- The byte with a number: a name that the walk does not open. -/
def chr (n : Nat) : UInt8 := UInt8.ofNat n
/-- A slice of one byte as a string. -/
theorem conv_one (W : World) (b : Nat) (c : Nat) (h : W.cell? ⟨b, 0, none⟩ = some (.int .u8 c)) :
    Sem.run Tryd.prog (convert 38 9 (.slice (some ⟨b, 0, none⟩) 1 1)) W = .ok (.string ⟨#[chr c]⟩) W := by
  have := run_convert_bytes_arg (P := Tryd.prog) W 38 5 Tryd.underlying38 Tryd.underlying5 b 0 1 1 [(c : Int)] rfl (fun i hi => by
    obtain rfl : i = 0 := by omega
    rw [Nat.zero_add]; exact h) 9 Tryd.underlying9
  rw [this]; rfl
theorem conv_new (W : World) (c : Nat) (_hc : c < 256) :
    Sem.run Tryd.prog (convert 38 9 (.slice (some ⟨W.heap.size, 0, none⟩) 1 1)) (W.alloc (.cells #[.int .u8 c] 5)) = .ok (.string ⟨#[chr c]⟩) (W.alloc (.cells #[.int .u8 c] 5)) :=
  conv_one _ _ _ (cell_one_new _ _ _ 0 _ rfl)

set_option maxRecDepth 100000 in
set_option maxHeartbeats 2000000 in
theorem rdigits_pos (k : Nat) : ∀ (n : Nat) (w : World), n < k → n ≤ 9223372036854775807 →
    Calls Tryd.prog 17 #[.int .i64 n] w fun e w' => e = .returned (.string ⟨(Lib.itoa n).toArray⟩) ∧ Below w.heap.size w w' := by
  induction k with
  | zero => intro n w h; omega
  | succ k ih =>
    intro n w hk hn
    have IH := Lib.hid ih
    clear ih
    by_cases h9 : n ≤ 9
    · have hi := itoa_one n (by omega)
      have HI := Lib.hid hi
      clear hi
      have hcv := conv_new w (48 + n) (by omega)
      rw [show ((48 + n : Nat) : Int) = 48 + (n : Int) by omega] at hcv
      go_enter Tryd.func17, Tryd.ntmps17
      go_wp2_with fail
      go_ret
      exact ⟨by rw [HI.out]; rfl, (Below.refl _ _).alloc (Nat.le_refl _) _⟩
    · have hi := itoa_step n (by omega)
      have e1 : ((n : Int).tmod 10) = ((n % 10 : Nat) : Int) := by rw [Int.tmod_eq_emod_of_nonneg (by omega)]; rfl
      have e2 : ((n : Int).tdiv 10) = ((n / 10 : Nat) : Int) := by rw [Int.tdiv_eq_ediv_of_nonneg (by omega)]; rfl
      rw [e2, Int.natAbs_natCast] at hi
      have HI := Lib.hid hi
      clear hi
      go_enter Tryd.func17, Tryd.ntmps17
      go_wp2_with fail
      obtain ⟨t, ht⟩ : ∃ t : ByteArray, t = ⟨(Lib.itoa ((n / 10 : Nat) : Int)).toArray⟩ := ⟨_, rfl⟩
      have hts : t.size ≤ 21 := by
        rw [ht]
        simpa [ByteArray.size] using Lib.itoa_length_le ((n / 10 : Nat) : Int) (by omega) (by omega)
      have IH2 : ∀ W : World, Calls Tryd.prog 17 #[.int .i64 ((n : Int) / 10)] W fun e w' => e = .returned (.string t) ∧ Below W.heap.size W w' := fun W => by
        rw [ht]; exact IH.out (n / 10) W (by omega) (by omega)
      have hfs : (t ++ (⟨#[chr (48 + n % 10)]⟩ : ByteArray)) = ⟨(Lib.itoa (n : Int)).toArray⟩ := by
        apply bs_inj
        rw [bs_app, ht, bs_mk, bs_mk, HI.out]; rfl
      have HC := Lib.hid IH2
      have HFS := Lib.hid hfs
      clear IH2 ht hfs
      have hcv : ∀ (W : World) (b : Nat), W.cell? ⟨b, 0, none⟩ = some (.int .u8 (48 + (n : Int) % 10)) →
          Sem.run Tryd.prog (convert 38 9 (.slice (some ⟨b, 0, none⟩) 1 1)) W = .ok (.string ⟨#[chr (48 + n % 10)]⟩) W := fun W b h => conv_one W b (48 + n % 10) (by rw [h]; rfl)
      have hw8 : IntKind.u8.wrap (48 + (n : Int) % 10) = 48 + (n : Int) % 10 := by rw [IntKind.wrap_u8]; omega
      have hw64 : IntKind.i64.wrap (48 + (n : Int) % 10) = 48 + (n : Int) % 10 := IntWalk.i64_in _ (by omega)
      have hwq : IntKind.i64.wrap ((n : Int) / 10) = (n : Int) / 10 := IntWalk.i64_in _ (by omega)
      go_region_with (go_at_call 17; refine (HC.out _).mono ?_; rintro e w' ⟨rfl, hb⟩; (first | (have hcc : w'.cell? ⟨w.heap.size, 0, none⟩ = some (.int .u8 (48 + (n : Int) % 10)) := (hb.cell (by simp)).trans (cell_one_new _ _ _ 0 _ rfl)) | skip))
      all_goals
        go_wp2_with fail
        go_ret
        refine ⟨by rw [← HFS.out]; rfl, ?_⟩
        clear hcv
        first
          | exact (((Below.refl w.heap.size w).drew.trans (hb.mono (Nat.le_refl _))).alloc hb.size _)
          | exact (((Below.refl w.heap.size w).drew.alloc (Nat.le_refl _) _).trans (hb.mono (by simp)))
end Go.Proofs.YtdkaogcimecfiaaDoor
