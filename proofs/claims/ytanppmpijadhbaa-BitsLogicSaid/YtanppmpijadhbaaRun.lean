/- The contracts of Run and Next. Condition: a map in a block of its own, numbers of 64 bits. -/
import Derived.Test.YtanppmpijadhbaaOps
import Derived.Deep.LoopGhost

namespace Go.Proofs.Ytanppmpijadhbaa
open Go.RowKit

/-- Are all k bits from i on v? -/
def allB (f : Nat → Bool) (v : Bool) (i k : Nat) : Bool := (List.range k).all fun j => f (i + j) == v
theorem allB_true {f : Nat → Bool} {v : Bool} {i k : Nat} : allB f v i k = true ↔ ∀ j, i ≤ j → j < i + k → f j = v := by
  unfold allB
  rw [List.all_eq_true]
  constructor
  · intro h j h1 h2
    have := h (j - i) (List.mem_range.2 (by omega))
    rw [show i + (j - i) = j by omega] at this
    simpa using this
  · intro h j hj
    have := List.mem_range.1 hj
    simpa using h (i + j) (by omega) (by omega)
theorem allB_false {f : Nat → Bool} {v : Bool} {i k j : Nat} (h1 : i ≤ j) (h2 : j < i + k) (h : f j ≠ v) : allB f v i k = false := by
  cases e : allB f v i k
  · rfl
  · exact absurd (allB_true.1 e j h1 h2) h
/-- The least of the m places from i on of which p holds. -/
def searchF (p : Nat → Bool) (i : Nat) : Nat → Option Nat
  | 0 => none
  | m + 1 => if p i = true then some i else searchF p (i + 1) m
theorem searchF_here {p : Nat → Bool} {i T : Nat} (h : i < T) (hp : p i = true) : searchF p i (T - i) = some i := by
  rw [show T - i = (T - i - 1) + 1 by omega]; unfold searchF; rw [if_pos hp]
theorem searchF_next {p : Nat → Bool} {i T : Nat} (hp : p i = false) : searchF p i (T - i) = searchF p (i + 1) (T - (i + 1)) := by
  by_cases h : i < T
  · rw [show T - i = (T - (i + 1)) + 1 by omega]; conv => lhs; unfold searchF
    rw [if_neg (by rw [hp]; simp)]
  · rw [show T - i = 0 by omega, show T - (i + 1) = 0 by omega]; rfl
theorem searchF_skip {p : Nat → Bool} {T : Nat} : ∀ (d i : Nat), (∀ q, i ≤ q → q < i + d → p q = false) → searchF p i (T - i) = searchF p (i + d) (T - (i + d))
  | 0, i, _ => rfl
  | d + 1, i, h => by
    rw [searchF_next (h i (by omega) (by omega)), searchF_skip d (i + 1) (fun q h1 h2 => h q (by omega) (by omega)), show i + 1 + d = i + (d + 1) by omega]
theorem searchF_over {p : Nat → Bool} {i T : Nat} (h : T ≤ i) : searchF p i (T - i) = none := by
  rw [show T - i = 0 by omega]; rfl
def runO (f : Nat → Bool) (n i k : Nat) (v : Bool) : Option Nat := searchF (fun q => allB f v q k) i (n + 1 - k - i)
def goesOn (f : Nat → Bool) (n a i k : Nat) (v : Bool) : Prop := runO f n a k v = runO f n i k v

theorem goesOn_skip {f : Nat → Bool} {n a i r k : Nat} {v : Bool} (h : goesOn f n a i k v) (h2 : r < k) (h3 : f (i + r) ≠ v) : goesOn f n a (i + r + 1) k v := by
  unfold goesOn at *
  rw [h]
  unfold runO
  exact searchF_skip (T := n + 1 - k) (r + 1) i (fun q h4 h5 => allB_false (j := i + r) (by omega) (by omega) h3)
theorem goesOn_here {f : Nat → Bool} {n a i k : Nat} {v : Bool} (h : goesOn f n a i k v) (h1 : i + k ≤ n) (h2 : ∀ j, i + 0 ≤ j → j < i + k → f j = v) : runO f n a k v = some i := by
  unfold goesOn at h
  rw [h]
  exact searchF_here (T := n + 1 - k) (by omega) (allB_true.2 (fun j h3 h4 => h2 j (by omega) h4))
theorem goesOn_over {f : Nat → Bool} {n a i k : Nat} {v : Bool} (h : goesOn f n a i k v) (h1 : ¬ i + k ≤ n) : runO f n a k v = none := by
  unfold goesOn at h
  rw [h]
  exact searchF_over (T := n + 1 - k) (by omega)

theorem run_bad (w : World) (b n : Nat) (f : Nat → Bool) (i k : Int) (v : Bool) (M : MapAt w b n f) (hi : i64 i) (h : ¬ (0 ≤ i ∧ i ≤ n)) :
    Calls Try.prog 34 #[.pointer (some ⟨b, 0, none⟩), .int .i64 i, .int .i64 k, .bool v] w fun e w' => e = .returned (.tuple #[.int .i64 0, .int .i64 7]) ∧ w = w' := by
  have HB := place_any w b n f i M hi
  rw [rangeE_no (by omega)] at HB
  have H := Lib.hid HB
  clear HB h hi
  go_enter Try.func34, Try.ntmps34
  go_wp2_with fail
  go_step3
  go_wp2_with fail
  refine H.out.mono ?_
  rintro e w' ⟨rfl, rfl⟩
  go_wp2_with fail
  try rw [Exit.noGoto_ret]
  go_ret2
  exact ⟨rfl, rfl⟩
theorem run_arg (w : World) (b n : Nat) (f : Nat → Bool) (i : Nat) (k : Int) (v : Bool) (M : MapAt w b n f) (h : i ≤ n) (hk : k < 1) :
    Calls Try.prog 34 #[.pointer (some ⟨b, 0, none⟩), .int .i64 (i : Int), .int .i64 k, .bool v] w fun e w' => e = .returned (.tuple #[.int .i64 0, .int .i64 2]) ∧ w = w' := by
  have hn := M.le
  have HB := place_any w b n f i M (by constructor <;> omega)
  rw [rangeE_ok (by omega)] at HB
  have H := Lib.hid HB
  clear HB h
  go_enter Try.func34, Try.ntmps34
  go_wp2_with fail
  go_step3
  go_wp2_with fail
  refine H.out.mono ?_
  rintro e w' ⟨rfl, rfl⟩
  go_wp2_with fail
  try rw [Exit.noGoto_ret]
  go_ret2
  exact ⟨rfl, rfl⟩
set_option maxRecDepth 100000 in
set_option maxHeartbeats 1000000 in
theorem run_ok (w : World) (b n : Nat) (f : Nat → Bool) (i0 k : Nat) (v : Bool) (M : MapAt w b n f) (h : i0 ≤ n) (hk : 1 ≤ k) (hk2 : (k : Int) ≤ 9223372036854775807) :
    Calls Try.prog 34 #[.pointer (some ⟨b, 0, none⟩), .int .i64 (i0 : Int), .int .i64 (k : Int), .bool v] w fun e w' => e = .returned (optV (runO f n i0 k v)) ∧ w = w' := by
  have hn := M.le
  have h1 := M.num
  have HB := place_any w b n f i0 M (by constructor <;> omega)
  rw [rangeE_ok (by omega)] at HB
  have H := Lib.hid HB
  have HM := Lib.hid M
  clear HB M
  have hk0 : decide ((k : Int) < 1) = false := by rw [decide_eq_false_iff_not]; omega
  go_enter Try.func34, Try.ntmps34
  go_wp2_with fail
  go_step3
  go_wp2_with fail
  refine H.out.mono ?_
  rintro e w' ⟨rfl, rfl⟩
  go_wp2_with fail
  go_step3
  go_wp2_with fail
  go_loopg [11] (n + 1 - i0) (fun g s wx => ∃ i : Nat, i ≤ n ∧ g = n + 1 - i ∧ s = .int .i64 (i : Int) ∧ Hid (goesOn f n i0 i k v) ∧ w = wx)
  case atStart => exact ⟨i0, h, rfl, rfl, rfl, rfl⟩
  case round =>
    obtain ⟨i, hi, hg, rfl, HG, rfl⟩ := hrel
    by_cases hik : i + k ≤ n
    case neg =>
      have hiI : ¬ (i : Int) ≤ (n : Int) - (k : Int) := by omega
      have HR := Lib.hid (goesOn_over HG.out hik)
      clear hik
      go_wp2_with fail
      try rw [Exit.noGoto_ret]
      go_ret2
      exact ⟨by rw [HR.out]; rfl, rfl⟩
    case pos =>
      have hiI : (i : Int) ≤ (n : Int) - (k : Int) := by omega
      go_wp2_with fail

      go_loopg [11, 12] k (fun g2 t s wy => ∃ r : Nat, r ≤ k ∧ g2 = r ∧ t = .int .i64 (i : Int) ∧ s = .int .i64 ((i : Int) + (r : Int) - 1) ∧ Hid (∀ j, i + r ≤ j → j < i + k → f j = v) ∧ w = wy)
      case atStart => exact ⟨k, Nat.le_refl _, rfl, rfl, rfl, fun j h1 h2 => by omega, rfl⟩
      case round =>
        obtain ⟨r, hr, hg2, rfl, rfl, HV, rfl⟩ := hrel
        rcases r with _ | r
        · have HR := Lib.hid (goesOn_here HG.out hik HV.out)
          go_wp2_with fail
          try rw [Exit.noGoto_ret]
          go_ret2
          exact ⟨by rw [HR.out]; rfl, rfl⟩
        · have em : (i : Int) + ((r + 1 : Nat) : Int) - 1 = ((i + r : Nat) : Int) := by omega
          rw [em]
          have HA := at_any w b n f (i + r) HM.out (by omega)
          by_cases hf : f (i + r) = v
          · rw [hf] at HA
            have HA2 := Lib.hid HA
            have HF := Lib.hid hf
            clear HA hf em
            go_wp2_with fail
            refine HA2.out.mono ?_
            rintro e w' ⟨rfl, rfl⟩
            go_wp2_with fail
            go_roundg r
            case measure => omega
            case rel => exact ⟨r, by omega, rfl, rfl, by go_num, fun j h1 h2 => by
              by_cases e : j = i + r
              · rw [e]; exact HF.out
              · exact HV.out j (by omega) h2, rfl⟩
          · have hf2 : f (i + r) = !v := by revert hf; cases f (i + r) <;> cases v <;> simp
            rw [hf2] at HA
            have HA2 := Lib.hid HA
            have HN := Lib.hid (goesOn_skip HG.out (by omega) hf)
            clear HA hf em hf2
            go_wp2_with fail
            refine HA2.out.mono ?_
            rintro e w' ⟨rfl, rfl⟩
            go_wp2_with fail
            go_roundg (n + 1 - (i + r + 1))
            case measure => omega
            case rel => exact ⟨i + r + 1, by omega, rfl, by go_num, HN.out, rfl⟩
theorem next_bad (w : World) (b n : Nat) (f : Nat → Bool) (i : Int) (v : Bool) (M : MapAt w b n f) (hi : i64 i) (h : ¬ (0 ≤ i ∧ i ≤ n)) :
    Calls Try.prog 31 #[.pointer (some ⟨b, 0, none⟩), .int .i64 i, .bool v] w fun e w' => e = .returned (.tuple #[.int .i64 0, .int .i64 7]) ∧ w = w' := by
  have H := Lib.hid (run_bad w b n f i 1 v M hi h)
  clear h hi
  go_enter Try.func31, Try.ntmps31
  go_wp2_with fail
  refine H.out.mono ?_
  rintro e w' ⟨rfl, rfl⟩
  go_wp2_with fail
  go_ret2
  exact ⟨rfl, rfl⟩
theorem next_ok (w : World) (b n : Nat) (f : Nat → Bool) (i : Nat) (v : Bool) (M : MapAt w b n f) (h : i ≤ n) :
    Calls Try.prog 31 #[.pointer (some ⟨b, 0, none⟩), .int .i64 (i : Int), .bool v] w fun e w' => e = .returned (optV (runO f n i 1 v)) ∧ w = w' := by
  have H := run_ok w b n f i 1 v M h (by omega) (by omega)
  obtain ⟨p, c, hp⟩ : ∃ p c, optV (runO f n i 1 v) = .tuple #[.int .i64 p, .int .i64 c] := by
    cases runO f n i 1 v
    · exact ⟨_, _, rfl⟩
    · exact ⟨_, _, rfl⟩
  rw [hp] at H
  rw [hp]
  have H2 : Hid (Calls Try.prog 34 #[.pointer (some ⟨b, 0, none⟩), .int .i64 (i : Int), .int .i64 1, .bool v] w fun e w' => e = .returned (.tuple #[.int .i64 p, .int .i64 c]) ∧ w = w') := H
  clear H hp
  go_enter Try.func31, Try.ntmps31
  go_wp2_with fail
  refine H2.out.mono ?_
  rintro e w' ⟨rfl, rfl⟩
  go_wp2_with fail
  go_ret2
  exact ⟨rfl, rfl⟩
end Go.Proofs.Ytanppmpijadhbaa
