/- The contract of Load. Condition: the bytes lie as said. -/
import Derived.Test.YtanppmpijadhbaaNew
namespace Go.Proofs.Ytanppmpijadhbaa
open Go.RowKit

theorem load_range (w : World) (n : Int) (v : Value) (y : List UInt8) (hv : SL encB w w.heap.size v y) (h : n < 0 ∨ 4096 < n) :
    Calls Try.prog 17 #[.int .i64 n, v] w fun e w' => e = .returned (.tuple #[.pointer none, .int .i64 7]) ∧ w = w' := by
  obtain ⟨A, c, rfl⟩ := hv.form
  have HN := Lib.hid (new_bad w n h)
  clear h hv
  go_enter Try.func17, Try.ntmps17
  go_wp2_with fail
  refine HN.out.mono ?_
  rintro e w' ⟨rfl, rfl⟩
  go_wp2_with fail
  go_ret2
  exact ⟨rfl, rfl⟩
/-- Is this list the bytes of a map of n bits? -/
def formB (n : Nat) (y : List UInt8) : Bool := decide (y.length = (n + 7) / 8) && (decide (n % 8 = 0) || decide ((y.getD (n / 8) 0).toNat / 2 ^ (n % 8) = 0))
theorem pow_cast (s : Nat) : (2 : Int) ^ s = ((2 ^ s : Nat) : Int) := by rw [Int.natCast_pow]; rfl
set_option maxRecDepth 100000 in
set_option maxHeartbeats 1000000 in
theorem load_form (w : World) (n : Nat) (v : Value) (y : List UInt8) (hv : SL encB w w.heap.size v y) (hn : n ≤ 4096) (hy : y.length ≤ 1000000000) (hf : formB n y = false) :
    Calls Try.prog 17 #[.int .i64 (n : Int), v] w fun e w' => e = .returned (.tuple #[.pointer none, .int .i64 6]) ∧ Below w.heap.size w w' := by
  obtain ⟨A, c, rfl⟩ := hv.form
  have HV := Lib.hid hv
  have HF := Lib.hid hf
  have HN := Lib.hid (new_ok w n hn)
  clear hv hf
  by_cases hl : y.length = (n + 7) / 8
  case neg =>
    obtain ⟨m, hm⟩ : ∃ m, m = (n + 7) / 8 := ⟨_, rfl⟩
    have h1 : ((y.length : Int) != (m : Int)) = true := by rw [bne_iff_ne]; omega
    have HM := Lib.hid hm
    clear hm
    go_enter Try.func17, Try.ntmps17
    go_wp2_with fail
    refine HN.out.mono ?_
    rintro e w1 ⟨rfl, hm, hb⟩
    have HB := Lib.hid hb
    clear hm hb
    go_wp2_with fail
    refine (byteCount_any n m _ hn (by have := HM.out; omega)).mono ?_
    rintro e w' ⟨rfl, rfl⟩
    go_wp2_with fail
    go_ret2
    exact ⟨rfl, HB.out⟩
  case pos =>
    have hF := HF.out
    unfold formB at hF
    rw [decide_eq_true hl] at hF
    have hm8 : n % 8 ≠ 0 := by intro e; rw [decide_eq_true e] at hF; simp at hF
    have hz : ¬ (y.getD (n / 8) 0).toNat / 2 ^ (n % 8) = 0 := by
      intro e; rw [decide_eq_true e] at hF; simp at hF
    have hk : n / 8 < y.length := by omega
    have hg : y.getD (n / 8) 0 = y[n / 8] := by rw [List.getD_eq_getElem?_getD, List.getElem?_eq_getElem hk]; rfl
    obtain ⟨b, off, hA, hb, hc⟩ := HV.out.at (by omega)
    subst hA
    have hcell := hc (n / 8) hk
    unfold encB at hcell
    have hnz : (((y[n / 8].toNat : Nat) : Int) / 2 ^ (n % 8) != 0) = true := by
      rw [bne_iff_ne, pow_cast, ← Int.natCast_ediv, ← hg]
      exact fun e => hz (by omega)
    have HL := Lib.hid hl
    have h2 : ((n : Int) % 8 != 0) = true := by rw [bne_iff_ne]; omega
    have HC := Lib.hid hcell
    have HZ := Lib.hid hnz
    have hkI : (n : Int) / 8 < (y.length : Int) := by omega
    clear hF hz hg hc hcell hnz hl
    go_enter Try.func17, Try.ntmps17
    go_wp2_with fail
    refine HN.out.mono ?_
    rintro e w1 ⟨rfl, hm, hB⟩
    have hcell := (hB.cell (p := ⟨b, off + n / 8, none⟩) hb).trans HC.out
    have hnz := HZ.out
    have HB := Lib.hid hB
    clear hm hB
    go_wp2_with fail
    refine (byteCount_any n y.length _ hn (by have := HL.out; omega)).mono ?_
    rintro e w' ⟨rfl, rfl⟩
    go_wp2_with fail
    go_ret2
    exact ⟨rfl, HB.out⟩
theorem shl_byte (y : List UInt8) (k : Nat) (hk : k < y.length) (q : Nat) (hq : q = Bm.chunk (Bm.bitsY y) (8 * k) 8 * 2 ^ (k * 8 % 64)) : IntKind.u64.wrap (((y[k].toNat : Nat) : Int) * 2 ^ (k * 8 % 64)) = (q : Int) ∧ q < 18446744073709551616 := by
  have e : (y.getD k 0) = y[k] := by rw [List.getD_eq_getElem?_getD, List.getElem?_eq_getElem hk]; rfl
  have hlt : q < 18446744073709551616 := by
    rw [hq]
    have h1 := Bm.chunk_lt (Bm.bitsY y) (8 * k) 8
    have h2 : 2 ^ (k * 8 % 64) ≤ 2 ^ 56 := Nat.pow_le_pow_right (by omega) (by omega)
    have h3 : Bm.chunk (Bm.bitsY y) (8 * k) 8 * 2 ^ (k * 8 % 64) ≤ 255 * 2 ^ 56 := Nat.mul_le_mul (by omega) h2
    omega
  refine ⟨?_, hlt⟩
  have e2 : ((y[k].toNat : Nat) : Int) * 2 ^ (k * 8 % 64) = (q : Int) := by
    rw [pow_cast, ← Int.natCast_mul, hq, Bm.chunk_bitsY, e]
  rw [e2, IntKind.wrap_u64]
  omega
set_option maxRecDepth 100000 in
set_option maxHeartbeats 1000000 in
theorem load_ok (w : World) (n : Nat) (v : Value) (y : List UInt8) (hv : SL encB w w.heap.size v y) (hn : n ≤ 4096) (hf : formB n y = true) :
    Calls Try.prog 17 #[.int .i64 (n : Int), v] w fun e w' => e = .returned (.tuple #[.pointer (some ⟨w.heap.size, 0, none⟩), .int .i64 0]) ∧ MapAt w' w.heap.size n (Bm.bitsY y) ∧ Below w.heap.size w w' := by
  obtain ⟨A, c, rfl⟩ := hv.form
  have hl : y.length = (n + 7) / 8 := by
    unfold formB at hf; simp at hf; exact hf.1
  have hz : n % 8 ≠ 0 → (y.getD (n / 8) 0).toNat / 2 ^ (n % 8) = 0 := by
    intro h
    unfold formB at hf
    rw [decide_eq_false h] at hf
    simp only [Bool.false_or, Bool.and_eq_true, decide_eq_true_eq] at hf
    exact hf.2
  have hoff := Bm.bitsY_off y n hl hz
  have HV := Lib.hid hv
  have HN := Lib.hid (new_ok w n hn)
  have HO := Lib.hid hoff
  have HL := Lib.hid hl
  have hyl : y.length ≤ 512 := by omega
  clear hv hf hoff
  by_cases hm8 : n % 8 = 0
  · have h2 : ((n : Int) % 8 != 0) = false := by rw [bne_eq_false_iff_eq]; omega
    clear hl hz
    go_enter Try.func17, Try.ntmps17
    go_wp2_with fail
    refine HN.out.mono ?_
    rintro e w1 ⟨rfl, hm, hB⟩
    have HM := Lib.hid hm
    have HB := Lib.hid hB
    clear hm hB
    go_wp2_with fail
    refine (byteCount_any n y.length _ hn (by have := HL.out; omega)).mono ?_
    rintro e w' ⟨rfl, rfl⟩
    go_wp2_with fail
    go_loopw [41] (fun i wr => ∃ k : Nat, k ≤ y.length ∧ i = .int .i64 k ∧ MapAt wr w.heap.size n (Bm.cut (Bm.bitsY y) (8 * k)) ∧ Below w.heap.size w wr) (fun i _ => y.length - (intOf i).toNat)
    case atStart => exact ⟨0, Nat.zero_le _, rfl, by rw [Nat.mul_zero, Bm.cut_zero]; exact HM.out, HB.out⟩
    case round =>
      obtain ⟨k, hk, rfl, M, hB⟩ := hrel
      by_cases hlt : k < y.length
      · obtain ⟨b, off, hA, hb, hc⟩ := HV.out.at (by omega)
        subst hA
        have hcell := (hB.cell (p := ⟨b, off + k, none⟩) hb).trans (hc k hlt)
        unfold encB at hcell
        have hw := M.word (k * 8 / 64) (by omega)
        have hfz := M.free (2 + k * 8 / 64)
        obtain ⟨q, hq⟩ : ∃ q, q = Bm.chunk (Bm.bitsY y) (8 * k) 8 * 2 ^ (k * 8 % 64) := ⟨_, rfl⟩
        obtain ⟨hwr, hql⟩ := shl_byte y k hlt q hq
        have hcv : IntKind.u64.wrap ((y[k].toNat : Nat) : Int) = ((y[k].toNat : Nat) : Int) := by rw [IntKind.wrap_u64]; have := y[k].toNat_lt; omega
        have hor : bits .or .u64 ((Bm.word (Bm.cut (Bm.bitsY y) (8 * k)) (k * 8 / 64) : Nat) : Int) (q : Int) = ((Bm.word (Bm.cut (Bm.bitsY y) (8 * (k + 1))) (k * 8 / 64) : Nat) : Int) := by
          rw [bits_or_u64_nat _ _ (Bm.word_lt _ _) hql, hq, Bm.word_load]
        have hS := M.store (Bm.cut (Bm.bitsY y) (8 * (k + 1))) (k * 8 / 64) (by omega) (fun j hj => Bm.word_load_other _ k j hj) (fun j hj => Bm.cut_off HO.out _ j hj)
        have HS := Lib.hid hS
        have HB2 := Lib.hid hB
        clear hS hc hq hql HM HB hB
        go_wp2_with fail
        go_region
        all_goals
          go_wp2_with fail
          go_roundw
          case rel => exact ⟨k + 1, by omega, by go_num, HS.out.of_block rfl, (HB2.out.setCell (Nat.le_refl _) _).drew⟩
          case measure => simp [intOf]; omega
      · go_wp2_with fail
        go_ret2
        exact ⟨rfl, by rw [← Bm.cut_all HO.out (m := 8 * k) (by have := HL.out; omega)]; exact M, hB⟩
  · have h2 : ((n : Int) % 8 != 0) = true := by rw [bne_iff_ne]; omega
    have hk : n / 8 < y.length := by omega
    obtain ⟨b0, off0, hA, hb0, hc0⟩ := HV.out.at (by omega)
    subst hA
    have hg : y.getD (n / 8) 0 = y[n / 8] := by rw [List.getD_eq_getElem?_getD, List.getElem?_eq_getElem hk]; rfl
    have HC := Lib.hid (hc0 (n / 8) hk)
    have HC0 := Lib.hid hc0
    have hnz : (((y[n / 8].toNat : Nat) : Int) / 2 ^ (n % 8) != 0) = false := by
      rw [bne_eq_false_iff_eq, pow_cast, ← Int.natCast_ediv, ← hg, hz hm8]; rfl
    have HZ := Lib.hid hnz
    have hkI : (n : Int) / 8 < (y.length : Int) := by omega
    clear hl hz hc0 hg hnz
    go_enter Try.func17, Try.ntmps17
    go_wp2_with fail
    refine HN.out.mono ?_
    rintro e w1 ⟨rfl, hm, hB⟩
    have hcell := (hB.cell (p := ⟨b0, off0 + n / 8, none⟩) hb0).trans HC.out
    unfold encB at hcell
    have hnz := HZ.out
    have HM := Lib.hid hm
    have HB := Lib.hid hB
    clear hm hB
    go_wp2_with fail
    refine (byteCount_any n y.length _ hn (by have := HL.out; omega)).mono ?_
    rintro e w' ⟨rfl, rfl⟩
    go_wp2_with fail
    clear hcell hnz
    go_loopw [41] (fun i wr => ∃ k : Nat, k ≤ y.length ∧ i = .int .i64 k ∧ MapAt wr w.heap.size n (Bm.cut (Bm.bitsY y) (8 * k)) ∧ Below w.heap.size w wr) (fun i _ => y.length - (intOf i).toNat)
    case atStart => exact ⟨0, Nat.zero_le _, rfl, by rw [Nat.mul_zero, Bm.cut_zero]; exact HM.out, HB.out⟩
    case round =>
      obtain ⟨k, hk, rfl, M, hB⟩ := hrel
      by_cases hlt : k < y.length
      · have hcell := (hB.cell (p := ⟨b0, off0 + k, none⟩) hb0).trans (HC0.out k hlt)
        unfold encB at hcell
        have hw := M.word (k * 8 / 64) (by omega)
        have hfz := M.free (2 + k * 8 / 64)
        obtain ⟨q, hq⟩ : ∃ q, q = Bm.chunk (Bm.bitsY y) (8 * k) 8 * 2 ^ (k * 8 % 64) := ⟨_, rfl⟩
        obtain ⟨hwr, hql⟩ := shl_byte y k hlt q hq
        have hcv : IntKind.u64.wrap ((y[k].toNat : Nat) : Int) = ((y[k].toNat : Nat) : Int) := by rw [IntKind.wrap_u64]; have := y[k].toNat_lt; omega
        have hor : bits .or .u64 ((Bm.word (Bm.cut (Bm.bitsY y) (8 * k)) (k * 8 / 64) : Nat) : Int) (q : Int) = ((Bm.word (Bm.cut (Bm.bitsY y) (8 * (k + 1))) (k * 8 / 64) : Nat) : Int) := by
          rw [bits_or_u64_nat _ _ (Bm.word_lt _ _) hql, hq, Bm.word_load]
        have hS := M.store (Bm.cut (Bm.bitsY y) (8 * (k + 1))) (k * 8 / 64) (by omega) (fun j hj => Bm.word_load_other _ k j hj) (fun j hj => Bm.cut_off HO.out _ j hj)
        have HS := Lib.hid hS
        have HB2 := Lib.hid hB
        clear hS hq hql HM HB hB
        go_wp2_with fail
        go_region
        all_goals
          go_wp2_with fail
          go_roundw
          case rel => exact ⟨k + 1, by omega, by go_num, HS.out.of_block rfl, (HB2.out.setCell (Nat.le_refl _) _).drew⟩
          case measure => simp [intOf]; omega
      · go_wp2_with fail
        go_ret2
        exact ⟨rfl, by rw [← Bm.cut_all HO.out (m := 8 * k) (by have := HL.out; omega)]; exact M, hB⟩
end Go.Proofs.Ytanppmpijadhbaa
