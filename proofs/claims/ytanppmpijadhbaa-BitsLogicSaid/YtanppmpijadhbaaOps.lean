/- The contracts of Get, Set, Turn, Fill, Count and Last. Condition: a map in a block of its own, numbers of 64 bits. -/
import Derived.Test.YtanppmpijadhbaaAt
namespace Go.Proofs.Ytanppmpijadhbaa
open Go.RowKit

theorem rangeE_no {i k n : Int} (h : ¬ (0 ≤ i ∧ i ≤ n ∧ 0 ≤ k ∧ k ≤ n - i)) : rangeE i k n = 7 := by unfold rangeE; rw [if_pos (by omega)]
theorem rangeE_ok {i k n : Int} (h : 0 ≤ i ∧ i ≤ n ∧ 0 ≤ k ∧ k ≤ n - i) : rangeE i k n = 0 := by unfold rangeE; rw [if_neg (by omega)]
def i64 (n : Int) : Prop := -9223372036854775808 ≤ n ∧ n ≤ 9223372036854775807

theorem get_bad (w : World) (b n : Nat) (f : Nat → Bool) (i : Int) (M : MapAt w b n f) (hi : i64 i) (h : ¬ (0 ≤ i ∧ i < n)) :
    Calls Try.prog 32 #[.pointer (some ⟨b, 0, none⟩), .int .i64 i] w fun e w' => e = .returned (.tuple #[.bool false, .int .i64 7]) ∧ w = w' := by
  have HB := bit_any w b n f i M hi
  rw [rangeE_no (by omega)] at HB
  have H := Lib.hid HB
  clear HB h hi
  go_enter Try.func32, Try.ntmps32
  go_wp2_with fail
  refine H.out.mono ?_
  rintro e w' ⟨rfl, rfl⟩
  go_wp2_with fail
  go_ret2
  exact ⟨rfl, rfl⟩
theorem get_ok (w : World) (b n : Nat) (f : Nat → Bool) (i : Nat) (M : MapAt w b n f) (h : i < n) :
    Calls Try.prog 32 #[.pointer (some ⟨b, 0, none⟩), .int .i64 (i : Int)] w fun e w' => e = .returned (.tuple #[.bool (f i), .int .i64 0]) ∧ w = w' := by
  have hn := M.le
  have HB := bit_any w b n f i M (by constructor <;> omega)
  rw [rangeE_ok (by omega)] at HB
  have H := Lib.hid HB
  have HA := Lib.hid (at_any w b n f i M h)
  clear HB
  go_enter Try.func32, Try.ntmps32
  go_wp2_with fail
  refine H.out.mono ?_
  rintro e w' ⟨rfl, rfl⟩
  go_wp2_with fail
  refine HA.out.mono ?_
  rintro e w' ⟨rfl, rfl⟩
  go_wp2_with fail
  go_ret2
  exact ⟨rfl, rfl⟩
theorem set_bad (w : World) (b n : Nat) (f : Nat → Bool) (i : Int) (v : Bool) (M : MapAt w b n f) (hi : i64 i) (h : ¬ (0 ≤ i ∧ i < n)) :
    Calls Try.prog 36 #[.pointer (some ⟨b, 0, none⟩), .int .i64 i, .bool v] w fun e w' => e = .returned (.int .i64 7) ∧ w = w' := by
  have HB := bit_any w b n f i M hi
  rw [rangeE_no (by omega)] at HB
  have H := Lib.hid HB
  clear HB h hi
  go_enter Try.func36, Try.ntmps36
  go_wp2_with fail
  refine H.out.mono ?_
  rintro e w' ⟨rfl, rfl⟩
  go_wp2_with fail
  go_ret
  exact ⟨rfl, rfl⟩
theorem set_ok (w : World) (b n : Nat) (f : Nat → Bool) (i : Nat) (v : Bool) (M : MapAt w b n f) (h : i < n) :
    Calls Try.prog 36 #[.pointer (some ⟨b, 0, none⟩), .int .i64 (i : Int), .bool v] w fun e w' => e = .returned (.int .i64 0) ∧ MapAt w' b n (Bm.upd f i v) ∧ w.grownBy w' (some b) := by
  have hn := M.le
  have HB := bit_any w b n f i M (by constructor <;> omega)
  rw [rangeE_ok (by omega)] at HB
  have H := Lib.hid HB
  have HA := Lib.hid (put_any w b n f i v M h)
  clear HB
  go_enter Try.func36, Try.ntmps36
  go_wp2_with fail
  refine H.out.mono ?_
  rintro e w' ⟨rfl, rfl⟩
  go_wp2_with fail
  refine HA.out.mono ?_
  rintro e w' ⟨rfl, hm, hg⟩
  have HM := Lib.hid hm
  have HG := Lib.hid hg
  clear hm hg
  go_wp2_with fail
  go_ret
  exact ⟨rfl, HM.out, HG.out⟩
theorem turn_bad (w : World) (b n : Nat) (f : Nat → Bool) (i : Int) (M : MapAt w b n f) (hi : i64 i) (h : ¬ (0 ≤ i ∧ i < n)) :
    Calls Try.prog 37 #[.pointer (some ⟨b, 0, none⟩), .int .i64 i] w fun e w' => e = .returned (.int .i64 7) ∧ w = w' := by
  have HB := bit_any w b n f i M hi
  rw [rangeE_no (by omega)] at HB
  have H := Lib.hid HB
  clear HB h hi
  go_enter Try.func37, Try.ntmps37
  go_wp2_with fail
  refine H.out.mono ?_
  rintro e w' ⟨rfl, rfl⟩
  go_wp2_with fail
  go_ret
  exact ⟨rfl, rfl⟩
theorem turn_ok (w : World) (b n : Nat) (f : Nat → Bool) (i : Nat) (M : MapAt w b n f) (h : i < n) :
    Calls Try.prog 37 #[.pointer (some ⟨b, 0, none⟩), .int .i64 (i : Int)] w fun e w' => e = .returned (.int .i64 0) ∧ MapAt w' b n (Bm.upd f i (!f i)) ∧ w.grownBy w' (some b) := by
  have hn := M.le
  have HB := bit_any w b n f i M (by constructor <;> omega)
  rw [rangeE_ok (by omega)] at HB
  have H := Lib.hid HB
  have HT := Lib.hid (at_any w b n f i M h)
  have HA := Lib.hid (put_any w b n f i (!f i) M h)
  clear HB
  go_enter Try.func37, Try.ntmps37
  go_wp2_with fail
  refine H.out.mono ?_
  rintro e w' ⟨rfl, rfl⟩
  go_wp2_with fail
  refine HT.out.mono ?_
  rintro e w' ⟨rfl, rfl⟩
  go_wp2_with fail
  refine HA.out.mono ?_
  rintro e w' ⟨rfl, hm, hg⟩
  have HM := Lib.hid hm
  have HG := Lib.hid hg
  clear hm hg
  go_wp2_with fail
  go_ret
  exact ⟨rfl, HM.out, HG.out⟩
/-- How many of k bits are true, from i on. -/
def cnt (f : Nat → Bool) (i : Nat) : Nat → Nat
  | 0 => 0
  | k + 1 => cnt f i k + (f (i + k)).toNat
theorem cnt_le (f : Nat → Bool) (i : Nat) : ∀ k, cnt f i k ≤ k
  | 0 => Nat.le_refl _
  | k + 1 => by have := cnt_le f i k; unfold cnt; cases f (i + k) <;> simp <;> omega
theorem count_bad (w : World) (b n : Nat) (f : Nat → Bool) (i k : Int) (M : MapAt w b n f) (hi : i64 i) (hk : i64 k) (h : ¬ (0 ≤ i ∧ i ≤ n ∧ 0 ≤ k ∧ k ≤ n - i)) :
    Calls Try.prog 30 #[.pointer (some ⟨b, 0, none⟩), .int .i64 i, .int .i64 k] w fun e w' => e = .returned (.tuple #[.int .i64 0, .int .i64 7]) ∧ w = w' := by
  have HB := range_any w b n f i k M hi hk
  rw [rangeE_no h] at HB
  have H := Lib.hid HB
  clear HB h hi hk
  go_enter Try.func30, Try.ntmps30
  go_wp2_with fail
  refine H.out.mono ?_
  rintro e w' ⟨rfl, rfl⟩
  go_wp2_with fail
  go_ret2
  exact ⟨rfl, rfl⟩
theorem count_ok (w : World) (b n : Nat) (f : Nat → Bool) (i k : Nat) (M : MapAt w b n f) (h : i + k ≤ n) :
    Calls Try.prog 30 #[.pointer (some ⟨b, 0, none⟩), .int .i64 (i : Int), .int .i64 (k : Int)] w fun e w' => e = .returned (.tuple #[.int .i64 (cnt f i k : Nat), .int .i64 0]) ∧ w = w' := by
  have hn := M.le
  have HB := range_any w b n f i k M (by constructor <;> omega) (by constructor <;> omega)
  rw [rangeE_ok (by omega)] at HB
  have H := Lib.hid HB
  have HM := Lib.hid M
  clear HB M
  go_enter Try.func30, Try.ntmps30
  go_wp2_with fail
  refine H.out.mono ?_
  rintro e w' ⟨rfl, rfl⟩
  go_wp2_with fail
  go_loop [9, 19] (fun c j => ∃ m : Nat, m ≤ k ∧ j = .int .i64 m ∧ ∃ q : Nat, q ≤ m ∧ c = .int .i64 q ∧ Hid (q = cnt f i m)) (fun _ j => k - (intOf j).toNat)
  case atStart => exact ⟨0, Nat.zero_le _, rfl, 0, Nat.le_refl _, rfl, rfl⟩
  case round =>
    obtain ⟨m, hm, rfl, q, hq, rfl, HQ⟩ := hrel
    by_cases hlt : m < k
    · have HA := at_any w b n f (i + m) HM.out (by omega)
      cases hf : f (i + m) with
      | true =>
        rw [hf] at HA
        have HA2 := Lib.hid HA
        have HF := Lib.hid hf
        clear HA hf
        go_wp2_with fail
        refine HA2.out.mono ?_
        rintro e w' ⟨rfl, rfl⟩
        go_wp2_with fail
        go_round
        case rel => exact ⟨m + 1, by omega, by go_num, q + 1, by omega, by go_num, by show q + 1 = cnt f i (m + 1); unfold cnt; rw [HF.out, HQ.out]; rfl⟩
        case measure => simp [intOf]; omega
      | false =>
        rw [hf] at HA
        have HA2 := Lib.hid HA
        have HF := Lib.hid hf
        clear HA hf
        go_wp2_with fail
        refine HA2.out.mono ?_
        rintro e w' ⟨rfl, rfl⟩
        go_wp2_with fail
        go_round
        case rel => exact ⟨m + 1, by omega, by go_num, q, by omega, rfl, by show q = cnt f i (m + 1); unfold cnt; rw [HF.out, HQ.out]; rfl⟩
        case measure => simp [intOf]; omega
    · go_wp2_with fail
      go_ret2
      obtain rfl : m = k := by omega
      exact ⟨ret_int2 (by rw [HQ.out]), rfl⟩
/-- The bits of a map in which k bits, from i on, have been made v. -/
def fillF (f : Nat → Bool) (i k : Nat) (v : Bool) : Nat → Bool := fun j => if i ≤ j ∧ j < i + k then v else f j
theorem fillF_zero (f : Nat → Bool) (i : Nat) (v : Bool) : fillF f i 0 v = f := by
  funext j; unfold fillF; rw [if_neg (by omega)]
theorem fillF_succ (f : Nat → Bool) (i k : Nat) (v : Bool) : Bm.upd (fillF f i k v) (i + k) v = fillF f i (k + 1) v := by
  funext j; unfold fillF Bm.upd; simp only []
  by_cases e : j = i + k
  · rw [if_pos e, if_pos (by omega)]
  · rw [if_neg e]
    by_cases h : i ≤ j ∧ j < i + k
    · rw [if_pos h, if_pos (by omega)]
    · rw [if_neg h, if_neg (by omega)]
theorem fill_bad (w : World) (b n : Nat) (f : Nat → Bool) (i k : Int) (v : Bool) (M : MapAt w b n f) (hi : i64 i) (hk : i64 k) (h : ¬ (0 ≤ i ∧ i ≤ n ∧ 0 ≤ k ∧ k ≤ n - i)) :
    Calls Try.prog 38 #[.pointer (some ⟨b, 0, none⟩), .int .i64 i, .int .i64 k, .bool v] w fun e w' => e = .returned (.int .i64 7) ∧ w = w' := by
  have HB := range_any w b n f i k M hi hk
  rw [rangeE_no h] at HB
  have H := Lib.hid HB
  clear HB h hi hk
  go_enter Try.func38, Try.ntmps38
  go_wp2_with fail
  refine H.out.mono ?_
  rintro e w' ⟨rfl, rfl⟩
  go_wp2_with fail
  go_ret
  exact ⟨rfl, rfl⟩
theorem fill_ok (w : World) (b n : Nat) (f : Nat → Bool) (i k : Nat) (v : Bool) (M : MapAt w b n f) (h : i + k ≤ n) :
    Calls Try.prog 38 #[.pointer (some ⟨b, 0, none⟩), .int .i64 (i : Int), .int .i64 (k : Int), .bool v] w fun e w' => e = .returned (.int .i64 0) ∧ MapAt w' b n (fillF f i k v) ∧ w.grownBy w' (some b) := by
  have hn := M.le
  have HB := range_any w b n f i k M (by constructor <;> omega) (by constructor <;> omega)
  rw [rangeE_ok (by omega)] at HB
  have H := Lib.hid HB
  have HM := Lib.hid M
  clear HB M
  go_enter Try.func38, Try.ntmps38
  go_wp2_with fail
  refine H.out.mono ?_
  rintro e w' ⟨rfl, rfl⟩
  go_wp2_with fail
  go_loopw [19] (fun j wr => ∃ m : Nat, m ≤ k ∧ j = .int .i64 m ∧ MapAt wr b n (fillF f i m v) ∧ w.grownBy wr (some b)) (fun j _ => k - (intOf j).toNat)
  case atStart => exact ⟨0, Nat.zero_le _, rfl, by rw [fillF_zero]; exact HM.out, grown_refl _ _⟩
  case round =>
    obtain ⟨m, hm, rfl, M, G⟩ := hrel
    by_cases hlt : m < k
    · have HA := Lib.hid (put_any wr b n _ (i + m) v M (by omega))
      have HG := Lib.hid G
      clear M G
      go_wp2_with fail
      refine HA.out.mono ?_
      rintro e w' ⟨rfl, M2, G2⟩
      have HM2 := Lib.hid M2
      have HG2 := Lib.hid G2
      clear M2 G2
      go_wp2_with fail
      go_roundw
      case rel => exact ⟨m + 1, by omega, by go_num, by rw [← fillF_succ]; exact HM2.out, grown_trans HG.out HG2.out⟩
      case measure => simp [intOf]; omega
    · go_wp2_with fail
      go_ret
      obtain rfl : m = k := by omega
      exact ⟨rfl, M, G⟩
/-- The greatest of the places below m whose bit is v. -/
def lastF (f : Nat → Bool) (v : Bool) : Nat → Option Nat
  | 0 => none
  | m + 1 => if f m = v then some m else lastF f v m
def optV (o : Option Nat) : Value := match o with
  | some p => .tuple #[.int .i64 (p : Nat), .int .i64 0]
  | none => .tuple #[.int .i64 0, .int .i64 4]
theorem last_bad (w : World) (b n : Nat) (f : Nat → Bool) (i : Int) (v : Bool) (M : MapAt w b n f) (hi : i64 i) (h : ¬ (0 ≤ i ∧ i ≤ n)) :
    Calls Try.prog 33 #[.pointer (some ⟨b, 0, none⟩), .int .i64 i, .bool v] w fun e w' => e = .returned (.tuple #[.int .i64 0, .int .i64 7]) ∧ w = w' := by
  have HB := place_any w b n f i M hi
  rw [rangeE_no (by omega)] at HB
  have H := Lib.hid HB
  clear HB h hi
  go_enter Try.func33, Try.ntmps33
  go_wp2_with fail
  refine H.out.mono ?_
  rintro e w' ⟨rfl, rfl⟩
  go_wp2_with fail
  go_ret2
  exact ⟨rfl, rfl⟩
theorem last_ok (w : World) (b n : Nat) (f : Nat → Bool) (i : Nat) (v : Bool) (M : MapAt w b n f) (h : i ≤ n) :
    Calls Try.prog 33 #[.pointer (some ⟨b, 0, none⟩), .int .i64 (i : Int), .bool v] w fun e w' => e = .returned (optV (lastF f v i)) ∧ w = w' := by
  have hn := M.le
  have HB := place_any w b n f i M (by constructor <;> omega)
  rw [rangeE_ok (by omega)] at HB
  have H := Lib.hid HB
  have HM := Lib.hid M
  clear HB M
  go_enter Try.func33, Try.ntmps33
  go_wp2_with fail
  refine H.out.mono ?_
  rintro e w' ⟨rfl, rfl⟩
  go_wp2_with fail
  go_loop [9] (fun j => ∃ m : Nat, m ≤ i ∧ j = .int .i64 ((m : Int) - 1) ∧ Hid (lastF f v i = lastF f v m)) (fun j => (intOf j + 1).toNat)
  case atStart => exact ⟨i, Nat.le_refl _, rfl, rfl⟩
  case round =>
    obtain ⟨m, hm, rfl, HQ⟩ := hrel
    rcases m with _ | m
    · go_wp2_with fail
      go_ret2
      exact ⟨by rw [HQ.out]; rfl, rfl⟩
    · have em : ((m + 1 : Nat) : Int) - 1 = (m : Int) := by omega
      rw [em]
      have HA := at_any w b n f m HM.out (by omega)
      by_cases hf : f m = v
      · rw [hf] at HA
        have HA2 := Lib.hid HA
        have HF := Lib.hid hf
        clear HA hf em
        go_wp2_with fail
        refine HA2.out.mono ?_
        rintro e w' ⟨rfl, rfl⟩
        go_wp2_with fail
        go_ret2
        exact ⟨by rw [HQ.out]; unfold lastF; rw [if_pos HF.out]; rfl, rfl⟩
      · have hf2 : (f m == v) = false := by simpa using hf
        have HA2 := Lib.hid HA
        have HF := Lib.hid hf
        clear HA hf em
        go_wp2_with fail
        refine HA2.out.mono ?_
        rintro e w' ⟨rfl, rfl⟩
        go_wp2_with fail
        go_round
        case rel => exact ⟨m, by omega, rfl, by show lastF f v i = lastF f v m; rw [HQ.out]; unfold lastF; rw [if_neg HF.out]; cases m <;> rfl⟩
        case measure => simp [intOf]
end Go.Proofs.Ytanppmpijadhbaa
