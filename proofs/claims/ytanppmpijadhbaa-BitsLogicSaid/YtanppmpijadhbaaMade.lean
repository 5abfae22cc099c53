/- The contract of made: a map and the list of its bits. Condition: the bytes lie as said. -/
import Derived.Test.YtanppmpijadhbaaLSame
import Derived.Test.YtanppmpijadhbaaLoad
namespace Go.Proofs.Ytanppmpijadhbaa
open Go.RowKit

/-- The bits that made draws from bytes. -/
def madeF (y : List UInt8) (i : Nat) : Bool := decide (0 < y.length) && (y.getD (i / 8 % y.length) 0).toNat.testBit (i % 8)
def madeL (N : Nat) (y : List UInt8) : List Bool := (List.range N).map (madeF y)
theorem madeL_len (N : Nat) (y : List UInt8) : (madeL N y).length = N := by simp [madeL]
theorem madeL_at (N : Nat) (y : List UInt8) (i : Nat) (h : i < (madeL N y).length) : (madeL N y)[i] = madeF y i := by simp [madeL]
theorem info_bool : (Try.prog.info? 4).map (fun i => (i.zero, i.size, i.bytes)) = some (some (.bool false), 1, 1) := by kernel_rfl
theorem made_bool (n : Nat) : (madeCells #[Value.bool false] n).toList = List.replicate n (Value.bool false) := toList_madeCells_one _ _
def boolV (F : Nat → Bool) (i : Nat) : Value := .bool (F i)
theorem rowT_map (y : List UInt8) (N : Nat) : rowK (boolV (madeF y)) (.bool false) N N = (madeL N y).map encT := by
  apply List.ext_getElem (by rw [rowK_len, List.length_map, madeL_len])
  intro i h1 h2
  rw [rowK_at, List.getElem_map, madeL_at]
  rw [rowK_len] at h1
  rw [if_pos h1]; rfl
theorem rowT_none (y : List UInt8) (N : Nat) (h : y.length = 0) : rowK (boolV (madeF y)) (.bool false) N 0 = rowK (boolV (madeF y)) (.bool false) N N := by
  apply List.ext_getElem (by rw [rowK_len, rowK_len])
  intro i h1 h2
  rw [rowK_at, rowK_at]
  rw [rowK_len] at h1
  rw [if_neg (by omega), if_pos h1]
  unfold boolV madeF
  rw [decide_eq_false (by omega)]; rfl
theorem bytesOf_form (n : Nat) (f : Nat → Bool) (hf : ∀ i, n ≤ i → f i = false) : formB n (bytesOf n f) = true := by
  unfold formB
  rw [bytesOf_len, decide_eq_true rfl, Bool.true_and]
  by_cases h : n % 8 = 0
  · rw [decide_eq_true h]; rfl
  · have hi : n / 8 < (bytesOf n f).length := by rw [bytesOf_len]; omega
    rw [List.getD_eq_getElem?_getD, List.getElem?_eq_getElem hi, Option.getD_some, bytesOf_get, byteF_nat, decide_eq_true (p := Bm.chunk f (8 * (n / 8)) 8 / 2 ^ (n % 8) = 0), Bool.or_true]
    apply Nat.eq_of_testBit_eq
    intro j
    rw [Nat.testBit_div_two_pow, Bm.chunk_bit]
    simp only [Nat.zero_testBit, Bool.and_eq_false_imp, decide_eq_true_eq]
    intro _
    exact hf _ (by omega)
theorem bytesOf_bits (n : Nat) (f : Nat → Bool) (hf : ∀ i, n ≤ i → f i = false) : Bm.bitsY (bytesOf n f) = f := by
  funext i
  unfold Bm.bitsY
  by_cases h : i / 8 < (bytesOf n f).length
  · rw [List.getD_eq_getElem?_getD, List.getElem?_eq_getElem h, Option.getD_some, bytesOf_get, byteF_nat, Bm.chunk_bit, decide_eq_true (by omega), Bool.true_and, show 8 * (i / 8) + i % 8 = i by omega]
  · rw [List.getD_eq_getElem?_getD, List.getElem?_eq_none (by omega)]
    rw [bytesOf_len] at h
    rw [hf i (by omega)]; simp
theorem bit_val (y : List UInt8) (k : Nat) (h : k / 8 % y.length < y.length) : ((((y[k / 8 % y.length].toNat : Nat) : Int) / 2 ^ (k % 8)).tmod 2 == 1) = madeF y k := by
  have e : y.getD (k / 8 % y.length) 0 = y[k / 8 % y.length] := by rw [List.getD_eq_getElem?_getD, List.getElem?_eq_getElem h]; rfl
  unfold madeF
  rw [decide_eq_true (by omega), Bool.true_and, e, Nat.testBit_eq_decide_div_mod_eq, pow_cast, ← Int.natCast_ediv, Int.tmod_eq_emod_of_nonneg (Int.natCast_nonneg _)]
  rw [Bool.eq_iff_iff, beq_iff_eq, decide_eq_true_eq]
  omega
set_option maxRecDepth 100000 in
set_option maxHeartbeats 2000000 in
theorem made_any (w : World) (n : Nat) (v : Value) (y : List UInt8) (hv : SL encB w w.heap.size v y) (hn : n < 65536) (hy : y.length ≤ 9223372036854775807) :
    Calls Try.prog 12 #[.int .u16 (n : Int), v] w fun e w' => ∃ b vl, e = .returned (.tuple #[.pointer (some ⟨b, 0, none⟩), vl]) ∧ MapAt w' b (n % 601) (listF (madeL (n % 601) y)) ∧ SL encT w' w'.heap.size vl (madeL (n % 601) y) ∧ w.heap.size ≤ b ∧ Below w.heap.size w w' := by
  obtain ⟨A, c0, rfl⟩ := hv.form
  obtain ⟨i0, hi, hz0, hz1, hz2⟩ := info_parts info_bool
  obtain ⟨N, hN⟩ : ∃ N, N = n % 601 := ⟨_, rfl⟩
  rw [← hN]
  have hN6 : N ≤ 600 := by omega
  have HN := Lib.hid hN
  have HV := Lib.hid hv
  clear hN hv
  go_enter Try.func12, Try.ntmps12
  go_wp2_with (at_make; refine wpList_make_full _ rfl _ _ 27 rfl w.heap.size 4 i0 (.bool false) 1 Try.underlying27 hi hz0 hz1 _ _ _ _ N rfl rfl (by have := HN.out; omega) (by have := HN.out; omega) ?c1 ?c2 ?c3 ?_)
  case c1 => rw [hz2]; omega
  case c2 => unfold maxLen; omega
  case c3 => omega
  intro w1 hown hgrow
  rw [made_bool, rowK_zero (boolV (madeF y))] at hown
  have hB1 : Below w.heap.size w w1 := (Below.refl _ _).grown hgrow (Nat.le_refl _) (by simp)
  have HO := Lib.hid hown
  have HB := Lib.hid hB1
  clear hown hgrow hB1
  go_wp2_with fail
  go_loopw [7] (fun i wr => ∃ k : Nat, k ≤ N ∧ i = .int .i64 k ∧ wr.ownsRow w.heap.size 4 1 (.slice (some ⟨w.heap.size, 0, none⟩) N N) N (rowK (boolV (madeF y)) (.bool false) N k) ∧ Below w.heap.size w wr ∧ Hid (k = 0 ∨ 0 < y.length)) (fun i _ => N - (intOf i).toNat)
  case atStart => exact ⟨0, Nat.zero_le _, rfl, HO.out, HB.out, Or.inl rfl⟩
  case round =>
    obtain ⟨k, hk, rfl, hown, hB, HK⟩ := hrel
    by_cases hgo : k < N ∧ 0 < y.length
    · obtain ⟨hlt, hyp⟩ := hgo
      obtain ⟨b, off, hA, hb, hc⟩ := HV.out.at hyp
      subst hA
      have hq : k / 8 % y.length < y.length := Nat.mod_lt _ hyp
      have hcell := (hB.cell (p := ⟨b, off + k / 8 % y.length, none⟩) hb).trans (hc _ hq)
      unfold encB at hcell
      have hbit := bit_val y k hq
      have hltI : (k : Int) < (N : Int) := by omega
      have hypI : (0 : Int) < (y.length : Int) := by omega
      have hm0 : 0 ≤ (k : Int) / 8 % (y.length : Int) := Int.emod_nonneg _ (by omega)
      have hm1 : (k : Int) / 8 % (y.length : Int) < (y.length : Int) := Int.emod_lt_of_pos _ hypI
      have hrow := hown.cellAt k (by omega)
      rw [rowK_get _ _ _ _ _ hlt, if_neg (by omega)] at hrow
      have hfz := hown.frozenAt k
      have hst := hown.stored k (boolV (madeF y) k)
      rw [rowK_set] at hst
      have HS := Lib.hid hst
      have HB2 := Lib.hid hB
      clear hst hown hB HO HB hc
      go_wp2_with fail
      go_roundw
      case rel => exact ⟨k + 1, by omega, by go_num, HS.out.1, HB2.out.setCell (Nat.le_refl _) _, Or.inr hyp⟩
      case measure => simp [intOf]; omega
    · have hfull : rowK (boolV (madeF y)) (.bool false) N k = (madeL N y).map encT := by
        rw [← rowT_map]
        by_cases hlt : k < N
        · have h0 : y.length = 0 := by omega
          obtain rfl : k = 0 := by rcases HK.out with h | h <;> omega
          exact rowT_none y N h0
        · obtain rfl : k = N := by omega
          rfl
      rw [hfull] at hown
      have HSL : Hid (SL encT wr wr.heap.size (.slice (some ⟨w.heap.size, 0, none⟩) N N) (madeL N y)) := SL.of_own (madeL_len N y).symm hown
      have HB1 := Lib.hid hB
      have HOFF : Hid (∀ i, N ≤ i → listF (madeL N y) i = false) := fun i hi => listF_off _ i (by rw [madeL_len]; exact hi)
      have hgo2 : ¬ ((k : Int) < (N : Int)) ∨ ((k : Int) < (N : Int) ∧ ¬ (0 : Int) < (y.length : Int)) := by omega
      clear hown hB hfull HO HB hgo
      rcases hgo2 with h1 | ⟨h1, h2⟩
      · -- the list is full
        go_wp2_with fail
        refine (rbytes_any wr _ (madeL N y) HSL.out (by rw [madeL_len]; omega)).mono ?_
        rintro e w2 ⟨v2, rfl, hS2, hB2⟩
        have HB2 : Hid (Below w.heap.size w w2) := HB1.out.trans (hB2.mono HB1.out.size)
        have HSL2 : Hid (SL encT w2 w2.heap.size (.slice (some ⟨w.heap.size, 0, none⟩) N N) (madeL N y)) := (HSL.out.below hB2 (Nat.le_refl _)).mono hB2.size
        rw [madeL_len] at hS2
        have HLD := load_ok w2 N v2 _ hS2.sl (by omega) (bytesOf_form N _ HOFF.out)
        rw [bytesOf_bits N _ HOFF.out] at HLD
        have HLD2 := Lib.hid HLD
        clear hS2 hB2 HLD
        go_wp2_with fail
        refine HLD2.out.mono ?_
        rintro e w3 ⟨rfl, hM3, hB3⟩
        have HB3 : Hid (Below w.heap.size w w3) := HB2.out.trans (hB3.mono HB2.out.size)
        have HSL3 : Hid (SL encT w3 w3.heap.size (.slice (some ⟨w.heap.size, 0, none⟩) N N) (madeL N y)) := (HSL2.out.below hB3 (Nat.le_refl _)).mono hB3.size
        have HM3 := Lib.hid hM3
        have hle := HB2.out.size
        have HLS : Hid _ := Lib.hid (lsame_any w3 w2.heap.size _ (madeL N y) (by rw [madeL_len]; exact HM3.out) HSL3.out)
        clear hM3 hB3 HLD2
        go_wp2_with fail
        refine HLS.out.mono ?_
        rintro e w4 ⟨rfl, hB4⟩
        have HB4 : Hid (Below w.heap.size w w4) := HB3.out.trans (hB4.mono HB3.out.size)
        have HSL4 : Hid (SL encT w4 w4.heap.size (.slice (some ⟨w.heap.size, 0, none⟩) N N) (madeL N y)) := (HSL3.out.below hB4 (Nat.le_refl _)).mono hB4.size
        have HM4 : Hid (MapAt w4 w2.heap.size N (listF (madeL N y))) := HM3.out.below hB4 HM3.out.lt
        clear hB4
        go_wp2_with fail
        go_ret2
        exact ⟨_, _, rfl, HM4.out, HSL4.out, hle, HB4.out⟩
      · -- there are no bytes
        go_wp2_with fail
        refine (rbytes_any wr _ (madeL N y) HSL.out (by rw [madeL_len]; omega)).mono ?_
        rintro e w2 ⟨v2, rfl, hS2, hB2⟩
        have HB2 : Hid (Below w.heap.size w w2) := HB1.out.trans (hB2.mono HB1.out.size)
        have HSL2 : Hid (SL encT w2 w2.heap.size (.slice (some ⟨w.heap.size, 0, none⟩) N N) (madeL N y)) := (HSL.out.below hB2 (Nat.le_refl _)).mono hB2.size
        rw [madeL_len] at hS2
        have HLD := load_ok w2 N v2 _ hS2.sl (by omega) (bytesOf_form N _ HOFF.out)
        rw [bytesOf_bits N _ HOFF.out] at HLD
        have HLD2 := Lib.hid HLD
        clear hS2 hB2 HLD
        go_wp2_with fail
        refine HLD2.out.mono ?_
        rintro e w3 ⟨rfl, hM3, hB3⟩
        have HB3 : Hid (Below w.heap.size w w3) := HB2.out.trans (hB3.mono HB2.out.size)
        have HSL3 : Hid (SL encT w3 w3.heap.size (.slice (some ⟨w.heap.size, 0, none⟩) N N) (madeL N y)) := (HSL2.out.below hB3 (Nat.le_refl _)).mono hB3.size
        have HM3 := Lib.hid hM3
        have hle := HB2.out.size
        have HLS : Hid _ := Lib.hid (lsame_any w3 w2.heap.size _ (madeL N y) (by rw [madeL_len]; exact HM3.out) HSL3.out)
        clear hM3 hB3 HLD2
        go_wp2_with fail
        refine HLS.out.mono ?_
        rintro e w4 ⟨rfl, hB4⟩
        have HB4 : Hid (Below w.heap.size w w4) := HB3.out.trans (hB4.mono HB3.out.size)
        have HSL4 : Hid (SL encT w4 w4.heap.size (.slice (some ⟨w.heap.size, 0, none⟩) N N) (madeL N y)) := (HSL3.out.below hB4 (Nat.le_refl _)).mono hB4.size
        have HM4 : Hid (MapAt w4 w2.heap.size N (listF (madeL N y))) := HM3.out.below hB4 HM3.out.lt
        clear hB4
        go_wp2_with fail
        go_ret2
        exact ⟨_, _, rfl, HM4.out, HSL4.out, hle, HB4.out⟩
theorem made_map (w : World) (n N : Nat) (v : Value) (y : List UInt8) (hv : SL encB w w.heap.size v y) (hn : n < 65536) (hy : y.length ≤ 9223372036854775807) (hN : N = n % 601) :
    ∃ f : Nat → Bool, Calls Try.prog 12 #[.int .u16 (n : Int), v] w fun e w' => ∃ b vl, e = .returned (.tuple #[.pointer (some ⟨b, 0, none⟩), vl]) ∧ MapAt w' b N f ∧ w.heap.size ≤ b ∧ Below w.heap.size w w' := by
  subst hN
  exact ⟨_, (made_any w n v y hv hn hy).mono fun _ _ ⟨b, vl, h1, h2, _, h4, h5⟩ => ⟨b, vl, h1, h2, h4, h5⟩⟩
end Go.Proofs.Ytanppmpijadhbaa
