/- The contract of the reference's Digits at every number of 64 bits. No other condition. -/
import Derived.Test.YtdkaogcimecfiaaDoorRDig
namespace Go.Proofs.YtdkaogcimecfiaaDoor
open Go.RowKit

set_option maxRecDepth 100000 in
set_option maxHeartbeats 2000000 in
theorem rdigits_neg (k : Nat) : ∀ (m : Nat) (w : World), m < k → 1 ≤ m → m ≤ 9223372036854775808 →
    Calls Tryd.prog 17 #[.int .i64 (-(m : Int))] w fun e w' => e = .returned (.string ⟨(Lib.itoa (-(m : Int))).toArray⟩) ∧ Below w.heap.size w w' := by
  induction k with
  | zero => intro m w h; omega
  | succ k ih =>
    intro m w hk hm hn
    have IH := Lib.hid ih
    clear ih
    by_cases h9 : m ≤ 9
    · obtain ⟨t, ht⟩ : ∃ t : ByteArray, t = ⟨(Lib.itoa (m : Int)).toArray⟩ := ⟨_, rfl⟩
      have hts : t.size ≤ 21 := by
        rw [ht]
        simpa [ByteArray.size] using Lib.itoa_length_le (m : Int) (by omega) (by omega)
      have IH2 : ∀ W : World, Calls Tryd.prog 17 #[.int .i64 (m : Int)] W fun e w' => e = .returned (.string t) ∧ Below W.heap.size W w' := fun W => by
        rw [ht]; exact rdigits_pos (m + 1) m W (by omega) (by omega)
      have hfs : ((⟨#[45]⟩ : ByteArray) ++ t) = ⟨(Lib.itoa (-(m : Int))).toArray⟩ := by
        apply bs_inj
        rw [bs_app, ht, bs_mk, bs_mk, Lib.itoa_neg m hm, Lib.itoa_nonneg]; rfl
      have ew : wrap64 (m : Int) = (m : Int) := wrap64_in _ (by omega) (by omega)
      have HC := Lib.hid IH2
      have HFS := Lib.hid hfs
      have i1 : -(m : Int) < 0 := by omega
      have i2 : -9 ≤ -(m : Int) := by omega
      have i3 : -(m : Int) ≤ 9 := by omega
      clear IH2 ht hfs
      go_enter Tryd.func17, Tryd.ntmps17
      go_wp2_with fail
      refine (HC.out _).mono ?_
      rintro e w' ⟨rfl, hb⟩
      go_wp2_with fail
      go_ret
      exact ⟨by rw [← HFS.out]; rfl, hb⟩
    · have hi := itoa_step (-(m : Int)) (by omega)
      obtain ⟨d, hd⟩ : ∃ d, d = m % 10 := ⟨_, rfl⟩
      obtain ⟨q, hq⟩ : ∃ q, q = m / 10 := ⟨_, rfl⟩
      have hd9 : d ≤ 9 := by omega
      have e1 : ((-(m : Int)).tmod 10) = -(d : Int) := by rw [Int.neg_tmod, Int.tmod_eq_emod_of_nonneg (by omega), hd]; rfl
      have e2 : ((-(m : Int)).tdiv 10) = -(q : Int) := by rw [Int.neg_tdiv, Int.tdiv_eq_ediv_of_nonneg (by omega), hq]; rfl
      rw [e2, Int.natAbs_neg, Int.natAbs_natCast, ← hd] at hi
      have HI := Lib.hid hi
      have hq1 : 1 ≤ q := by omega
      have hqk : q < k := by omega
      have hqn : q ≤ 922337203685477580 := by omega
      have i1 : -(m : Int) < -9 := by omega
      have i2 : ¬ 9 < -(m : Int) := by omega
      clear hi hd hq
      obtain ⟨t, ht⟩ : ∃ t : ByteArray, t = ⟨(Lib.itoa (-(q : Int))).toArray⟩ := ⟨_, rfl⟩
      have hts : t.size ≤ 21 := by
        rw [ht]
        simpa [ByteArray.size] using Lib.itoa_length_le (-(q : Int)) (by omega) (by omega)
      have IH2 : ∀ W : World, Calls Tryd.prog 17 #[.int .i64 (-(q : Int))] W fun e w' => e = .returned (.string t) ∧ Below W.heap.size W w' := fun W => by
        rw [ht]; exact IH.out q W hqk hq1 (by omega)
      have hfs : (t ++ (⟨#[chr (48 + d)]⟩ : ByteArray)) = ⟨(Lib.itoa (-(m : Int))).toArray⟩ := by
        apply bs_inj
        rw [bs_app, ht, bs_mk, bs_mk, HI.out]; rfl
      have HC := Lib.hid IH2
      have HFS := Lib.hid hfs
      clear IH2 ht hfs
      have hwd : wrap64 (d : Int) = (d : Int) := wrap64_in _ (by omega) (by omega)
      have hwq0 : IntKind.i64.wrap (-(q : Int)) = -(q : Int) := IntWalk.i64_in _ (by omega)
      have HWQ := Lib.hid hwq0
      clear hwq0
      by_cases hz : d = 0
      · subst hz
        go_enter Tryd.func17, Tryd.ntmps17
        go_wp2_with fail
        have hwq := HWQ.out
        have hw64 : IntKind.i64.wrap 48 = 48 := IntWalk.i64_in _ (by omega)
        have hw8 : IntKind.u8.wrap 48 = 48 := by rw [IntKind.wrap_u8]; omega
        have hcv : ∀ (W : World) (b : Nat), W.cell? ⟨b, 0, none⟩ = some (.int .u8 48) →
          Sem.run Tryd.prog (convert 38 9 (.slice (some ⟨b, 0, none⟩) 1 1)) W = .ok (.string ⟨#[chr (48 + 0)]⟩) W := fun W b h => conv_one W b 48 h
        go_region_with (go_at_call 17; refine (HC.out _).mono ?_; rintro e w' ⟨rfl, hb⟩; (first | (have hcc : w'.cell? ⟨w.heap.size, 0, none⟩ = some (.int .u8 48) := (hb.cell (by simp)).trans (cell_one_new _ _ _ 0 _ rfl)) | skip))
        all_goals
          go_wp2_with fail
          go_ret
          refine ⟨by rw [← HFS.out]; rfl, ?_⟩
          clear hcv
          first
            | exact (((Below.refl w.heap.size w).drew.trans (hb.mono (Nat.le_refl _))).alloc hb.size _)
            | exact (((Below.refl w.heap.size w).drew.alloc (Nat.le_refl _) _).trans (hb.mono (by simp)))
      · go_enter Tryd.func17, Tryd.ntmps17
        go_wp2_with fail
        have hcv : ∀ (W : World) (b : Nat), W.cell? ⟨b, 0, none⟩ = some (.int .u8 (48 + (d : Int))) →
          Sem.run Tryd.prog (convert 38 9 (.slice (some ⟨b, 0, none⟩) 1 1)) W = .ok (.string ⟨#[chr (48 + d)]⟩) W := fun W b h => conv_one W b (48 + d) (by rw [h]; rfl)
        have hw8 : IntKind.u8.wrap (48 + (d : Int)) = 48 + (d : Int) := by rw [IntKind.wrap_u8]; omega
        have hw64 : IntKind.i64.wrap (48 + (d : Int)) = 48 + (d : Int) := IntWalk.i64_in _ (by omega)
        have hwq := HWQ.out
        clear hwd
        go_region_with (go_at_call 17; refine (HC.out _).mono ?_; rintro e w' ⟨rfl, hb⟩; (first | (have hcc : w'.cell? ⟨w.heap.size, 0, none⟩ = some (.int .u8 (48 + (d : Int))) := (hb.cell (by simp)).trans (cell_one_new _ _ _ 0 _ rfl)) | skip))
        all_goals
          go_wp2_with fail
          go_ret
          refine ⟨by rw [← HFS.out]; rfl, ?_⟩
          clear hcv
          first
            | exact (((Below.refl w.heap.size w).drew.trans (hb.mono (Nat.le_refl _))).alloc hb.size _)
            | exact (((Below.refl w.heap.size w).drew.alloc (Nat.le_refl _) _).trans (hb.mono (by simp)))

theorem rdigits_any (n : Int) (w : World) (h0 : -9223372036854775808 ≤ n) (h1 : n ≤ 9223372036854775807) :
    Calls Tryd.prog 17 #[.int .i64 n] w fun e w' => e = .returned (.string ⟨(Lib.itoa n).toArray⟩) ∧ Below w.heap.size w w' := by
  by_cases hn : 0 ≤ n
  · obtain ⟨m, rfl⟩ := Int.eq_ofNat_of_zero_le hn
    exact rdigits_pos (m + 1) m w (by omega) (by omega)
  · obtain ⟨m, rfl⟩ : ∃ m : Nat, n = -(m : Int) := ⟨n.natAbs, by omega⟩
    exact rdigits_neg (m + 1) m w (by omega) (by omega) (by omega)
end Go.Proofs.YtdkaogcimecfiaaDoor
