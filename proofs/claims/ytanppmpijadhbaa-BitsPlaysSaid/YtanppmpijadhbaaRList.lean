/- The contracts of the reference's in, Get, Count, Next and Last. Condition: the bools lie as said, at most 100000 of them. -/
import Derived.Test.YtanppmpijadhbaaRBytes
import Derived.Test.YtanppmpijadhbaaSpec
namespace Go.Proofs.Ytanppmpijadhbaa
open Go.RowKit

theorem rin_ok (w : World) (v : Value) (l : List Bool) (i k : Int) (hv : SL encT w w.heap.size v l) (hl : l.length ≤ 100000) (h : 0 ≤ i ∧ i ≤ (l.length : Int) ∧ 0 ≤ k ∧ k ≤ (l.length : Int) - i) :
    Calls Try.prog 61 #[v, .int .i64 i, .int .i64 k] w fun e w' => e = .returned (.bool true) ∧ w = w' := by
  obtain ⟨A, c, rfl⟩ := hv.form
  obtain ⟨h1, h2, h3, h4⟩ := h
  clear hv
  go_enter Try.func61, Try.ntmps61
  go_wp2_with fail
  go_ret
  exact ⟨rfl, rfl⟩
theorem rin_no (w : World) (v : Value) (l : List Bool) (i k : Int) (hv : SL encT w w.heap.size v l) (hl : l.length ≤ 100000) (hi : i64 i) (h : ¬ (0 ≤ i ∧ i ≤ (l.length : Int) ∧ 0 ≤ k ∧ k ≤ (l.length : Int) - i)) :
    Calls Try.prog 61 #[v, .int .i64 i, .int .i64 k] w fun e w' => e = .returned (.bool false) ∧ w = w' := by
  obtain ⟨A, c, rfl⟩ := hv.form
  have hi1 := hi.1
  have hi2 := hi.2
  clear hv hi
  by_cases c1 : 0 ≤ i
  case neg =>
    clear h
    go_enter Try.func61, Try.ntmps61
    go_wp2_with fail
    go_ret
    exact ⟨rfl, rfl⟩
  by_cases c2 : 0 ≤ k
  case neg =>
    clear h
    go_enter Try.func61, Try.ntmps61
    go_wp2_with fail
    go_ret
    exact ⟨rfl, rfl⟩
  by_cases c3 : i ≤ (l.length : Int)
  case neg =>
    clear h
    go_enter Try.func61, Try.ntmps61
    go_wp2_with fail
    go_ret
    exact ⟨rfl, rfl⟩
  have c4 : ¬ k ≤ (l.length : Int) - i := by omega
  clear h
  go_enter Try.func61, Try.ntmps61
  go_wp2_with fail
  go_ret
  exact ⟨rfl, rfl⟩
theorem rget_bad (w : World) (v : Value) (l : List Bool) (i : Int) (hv : SL encT w w.heap.size v l) (h : ¬ (0 ≤ i ∧ i < (l.length : Int))) :
    Calls Try.prog 40 #[v, .int .i64 i] w fun e w' => e = .returned (.tuple #[.bool false, .int .i64 7]) ∧ w = w' := by
  obtain ⟨A, c, rfl⟩ := hv.form
  clear hv
  by_cases c1 : 0 ≤ i
  · have c2 : ¬ i < (l.length : Int) := by omega
    clear h
    go_enter Try.func40, Try.ntmps40
    go_wp2_with fail
    go_ret2
    exact ⟨rfl, rfl⟩
  · clear h
    go_enter Try.func40, Try.ntmps40
    go_wp2_with fail
    go_ret2
    exact ⟨rfl, rfl⟩
theorem rget_ok (w : World) (v : Value) (l : List Bool) (i : Nat) (hv : SL encT w w.heap.size v l) (h : i < l.length) :
    Calls Try.prog 40 #[v, .int .i64 (i : Int)] w fun e w' => e = .returned (.tuple #[.bool (listF l i), .int .i64 0]) ∧ w = w' := by
  obtain ⟨A, c, rfl⟩ := hv.form
  obtain ⟨b, off, hA, hb, hc⟩ := hv.at (by omega)
  subst hA
  have hcell := hc i h
  unfold encT at hcell
  rw [← listF_at l i h] at hcell
  have h0 : (0 : Int) ≤ (i : Int) := by omega
  have h1 : (i : Int) < (l.length : Int) := by omega
  clear hv hc
  go_enter Try.func40, Try.ntmps40
  go_wp2_with fail
  go_ret2
  exact ⟨rfl, rfl⟩
theorem rcount_bad (w : World) (v : Value) (l : List Bool) (i k : Int) (hv : SL encT w w.heap.size v l) (hl : l.length ≤ 100000) (hi : i64 i) (h : ¬ (0 ≤ i ∧ i ≤ (l.length : Int) ∧ 0 ≤ k ∧ k ≤ (l.length : Int) - i)) :
    Calls Try.prog 42 #[v, .int .i64 i, .int .i64 k] w fun e w' => e = .returned (.tuple #[.int .i64 0, .int .i64 7]) ∧ w = w' := by
  have H := Lib.hid (rin_no w v l i k hv hl hi h)
  obtain ⟨A, c, rfl⟩ := hv.form
  clear hv hi h
  go_enter Try.func42, Try.ntmps42
  go_wp2_with fail
  refine H.out.mono ?_
  rintro e w' ⟨rfl, rfl⟩
  go_wp2_with fail
  go_ret2
  exact ⟨rfl, rfl⟩
set_option maxHeartbeats 1000000 in
theorem rcount_ok (w : World) (v : Value) (l : List Bool) (i k : Nat) (hv : SL encT w w.heap.size v l) (hl : l.length ≤ 100000) (h : i + k ≤ l.length) :
    Calls Try.prog 42 #[v, .int .i64 (i : Int), .int .i64 (k : Int)] w fun e w' => e = .returned (.tuple #[.int .i64 (cnt (listF l) i k : Nat), .int .i64 0]) ∧ w = w' := by
  have H := Lib.hid (rin_ok w v l i k hv hl (by omega))
  obtain ⟨A, c, rfl⟩ := hv.form
  have HV := Lib.hid hv
  clear hv
  go_enter Try.func42, Try.ntmps42
  go_wp2_with fail
  refine H.out.mono ?_
  rintro e w' ⟨rfl, rfl⟩
  go_wp2_with fail
  go_loop [8, 9] (fun c j => ∃ m : Nat, m ≤ k ∧ j = .int .i64 ((i : Int) + (m : Int)) ∧ ∃ q : Nat, q ≤ m ∧ c = .int .i64 q ∧ Hid (q = cnt (listF l) i m)) (fun _ j => i + k - (intOf j).toNat)
  case atStart => exact ⟨0, Nat.zero_le _, by go_num, 0, Nat.le_refl _, rfl, rfl⟩
  case round =>
    obtain ⟨m, hm, rfl, q, hq, rfl, HQ⟩ := hrel
    by_cases hlt : m < k
    · obtain ⟨b, off, hA, hb, hc⟩ := HV.out.at (by omega)
      subst hA
      have hcell := hc (i + m) (by omega)
      unfold encT at hcell
      have hltI : (i : Int) + (m : Int) < (i : Int) + (k : Int) := by omega
      have hlI : (i : Int) + (m : Int) < (l.length : Int) := by omega
      have hF := listF_at l (i + m) (by omega)
      cases hf : l[i + m]'(by omega) with
      | true =>
        rw [hf] at hcell hF
        have HF := Lib.hid hF
        clear hF hf hc
        go_wp2_with fail
        go_round
        case rel => exact ⟨m + 1, by omega, by go_num, q + 1, by omega, by go_num, by show q + 1 = cnt (listF l) i (m + 1); unfold cnt; rw [HF.out, HQ.out]; rfl⟩
        case measure => simp only [intOf]; omega
      | false =>
        rw [hf] at hcell hF
        have HF := Lib.hid hF
        clear hF hf hc
        go_wp2_with fail
        go_round
        case rel => exact ⟨m + 1, by omega, by go_num, q, by omega, rfl, by show q = cnt (listF l) i (m + 1); unfold cnt; rw [HF.out, HQ.out]; rfl⟩
        case measure => simp only [intOf]; omega
    · have hltI : ¬ (i : Int) + (m : Int) < (i : Int) + (k : Int) := by omega
      go_wp2_with fail
      go_ret2
      obtain rfl : m = k := by omega
      exact ⟨ret_int2 (by rw [HQ.out]), rfl⟩
end Go.Proofs.Ytanppmpijadhbaa
