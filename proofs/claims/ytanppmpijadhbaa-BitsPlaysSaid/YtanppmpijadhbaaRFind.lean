/- The contracts of the reference's Next, Last and Run. Condition: the bools lie as said, at most 100000 of them. -/
import Derived.Test.YtanppmpijadhbaaRList
import Derived.Deep.LoopGhost
namespace Go.Proofs.Ytanppmpijadhbaa
open Go.RowKit

theorem rnext_bad (w : World) (v : Value) (l : List Bool) (i : Int) (t : Bool) (hv : SL encT w w.heap.size v l) (h : ¬ (0 ≤ i ∧ i ≤ (l.length : Int))) :
    Calls Try.prog 43 #[v, .int .i64 i, .bool t] w fun e w' => e = .returned (.tuple #[.int .i64 0, .int .i64 7]) ∧ w = w' := by
  obtain ⟨A, c, rfl⟩ := hv.form
  clear hv
  by_cases c1 : 0 ≤ i
  · have c2 : ¬ i ≤ (l.length : Int) := by omega
    clear h
    go_enter Try.func43, Try.ntmps43
    go_wp2_with fail
    go_ret2
    exact ⟨rfl, rfl⟩
  · clear h
    go_enter Try.func43, Try.ntmps43
    go_wp2_with fail
    go_ret2
    exact ⟨rfl, rfl⟩
set_option maxHeartbeats 1000000 in
theorem rnext_ok (w : World) (v : Value) (l : List Bool) (a : Nat) (t : Bool) (hv : SL encT w w.heap.size v l) (hl : l.length ≤ 100000) (h : a ≤ l.length) :
    Calls Try.prog 43 #[v, .int .i64 (a : Int), .bool t] w fun e w' => e = .returned (optV (runO (listF l) l.length a 1 t)) ∧ w = w' := by
  obtain ⟨A, c, rfl⟩ := hv.form
  have HV := Lib.hid hv
  have h0 : (0 : Int) ≤ (a : Int) := by omega
  have h1 : (a : Int) ≤ (l.length : Int) := by omega
  clear hv
  go_enter Try.func43, Try.ntmps43
  go_wp2_with fail
  go_loop [8] (fun s => ∃ i : Nat, i ≤ l.length ∧ s = .int .i64 (i : Int) ∧ Hid (goesOn (listF l) l.length a i 1 t)) (fun s => l.length - (intOf s).toNat)
  case atStart => exact ⟨a, h, rfl, rfl⟩
  case round =>
    obtain ⟨i, hi, rfl, HG⟩ := hrel
    by_cases hlt : i < l.length
    · obtain ⟨b, off, hA, hb, hc⟩ := HV.out.at (by omega)
      subst hA
      have hcell := hc i hlt
      unfold encT at hcell
      rw [← listF_at l i hlt] at hcell
      have hltI : (i : Int) < (l.length : Int) := by omega
      by_cases hf : listF l i = t
      · have HR := Lib.hid (goesOn_here HG.out (by omega) (fun j h1 h2 => by rw [show j = i by omega]; exact hf))
        rw [hf] at hcell
        clear hf hc
        go_wp2_with fail
        go_ret2
        exact ⟨by rw [HR.out]; rfl, rfl⟩
      · have HN := Lib.hid (goesOn_skip HG.out (r := 0) (by omega) hf)
        have hf2 : listF l i = !t := by revert hf; cases listF l i <;> cases t <;> simp
        rw [hf2] at hcell
        clear hf hf2 hc
        go_wp2_with fail
        go_round
        case rel => exact ⟨i + 1, by omega, by go_num, HN.out⟩
        case measure => simp only [intOf]; omega
    · have hltI : ¬ (i : Int) < (l.length : Int) := by omega
      have HR := Lib.hid (goesOn_over HG.out (by omega))
      go_wp2_with fail
      go_ret2
      exact ⟨by rw [HR.out]; rfl, rfl⟩
theorem rlast_bad (w : World) (v : Value) (l : List Bool) (i : Int) (t : Bool) (hv : SL encT w w.heap.size v l) (h : ¬ (0 ≤ i ∧ i ≤ (l.length : Int))) :
    Calls Try.prog 44 #[v, .int .i64 i, .bool t] w fun e w' => e = .returned (.tuple #[.int .i64 0, .int .i64 7]) ∧ w = w' := by
  obtain ⟨A, c, rfl⟩ := hv.form
  clear hv
  by_cases c1 : 0 ≤ i
  · have c2 : ¬ i ≤ (l.length : Int) := by omega
    clear h
    go_enter Try.func44, Try.ntmps44
    go_wp2_with fail
    go_ret2
    exact ⟨rfl, rfl⟩
  · clear h
    go_enter Try.func44, Try.ntmps44
    go_wp2_with fail
    go_ret2
    exact ⟨rfl, rfl⟩
set_option maxHeartbeats 1000000 in
theorem rlast_ok (w : World) (v : Value) (l : List Bool) (a : Nat) (t : Bool) (hv : SL encT w w.heap.size v l) (hl : l.length ≤ 100000) (h : a ≤ l.length) :
    Calls Try.prog 44 #[v, .int .i64 (a : Int), .bool t] w fun e w' => e = .returned (optV (lastF (listF l) t a)) ∧ w = w' := by
  obtain ⟨A, c, rfl⟩ := hv.form
  have HV := Lib.hid hv
  have h0 : (0 : Int) ≤ (a : Int) := by omega
  have h1 : (a : Int) ≤ (l.length : Int) := by omega
  clear hv
  go_enter Try.func44, Try.ntmps44
  go_wp2_with fail
  go_loop [8] (fun j => ∃ m : Nat, m ≤ a ∧ j = .int .i64 ((m : Int) - 1) ∧ Hid (lastF (listF l) t a = lastF (listF l) t m)) (fun j => (intOf j + 1).toNat)
  case atStart => exact ⟨a, Nat.le_refl _, rfl, rfl⟩
  case round =>
    obtain ⟨m, hm, rfl, HQ⟩ := hrel
    rcases m with _ | m
    · go_wp2_with fail
      go_ret2
      exact ⟨by rw [HQ.out]; rfl, rfl⟩
    · have em : ((m + 1 : Nat) : Int) - 1 = (m : Int) := by omega
      rw [em]
      have hlt : m < l.length := by omega
      obtain ⟨b, off, hA, hb, hc⟩ := HV.out.at (by omega)
      subst hA
      have hcell := hc m hlt
      unfold encT at hcell
      rw [← listF_at l m hlt] at hcell
      have hltI : (m : Int) < (l.length : Int) := by omega
      by_cases hf : listF l m = t
      · rw [hf] at hcell
        have HF := Lib.hid hf
        clear hf em hc
        go_wp2_with fail
        go_ret2
        exact ⟨by rw [HQ.out]; unfold lastF; rw [if_pos HF.out]; rfl, rfl⟩
      · have hf2 : listF l m = !t := by revert hf; cases listF l m <;> cases t <;> simp
        have HF := Lib.hid hf
        rw [hf2] at hcell
        clear hf hf2 em hc
        go_wp2_with fail
        go_round
        case rel => exact ⟨m, by omega, rfl, by show lastF (listF l) t a = lastF (listF l) t m; rw [HQ.out]; unfold lastF; rw [if_neg HF.out]; cases m <;> rfl⟩
        case measure => simp [intOf]
theorem rrun_bad (w : World) (v : Value) (l : List Bool) (i k : Int) (t : Bool) (hv : SL encT w w.heap.size v l) (h : ¬ (0 ≤ i ∧ i ≤ (l.length : Int))) :
    Calls Try.prog 45 #[v, .int .i64 i, .int .i64 k, .bool t] w fun e w' => e = .returned (.tuple #[.int .i64 0, .int .i64 7]) ∧ w = w' := by
  obtain ⟨A, c, rfl⟩ := hv.form
  clear hv
  by_cases c1 : 0 ≤ i
  · have c2 : ¬ i ≤ (l.length : Int) := by omega
    clear h
    go_enter Try.func45, Try.ntmps45
    go_wp2_with fail
    go_ret2
    exact ⟨rfl, rfl⟩
  · clear h
    go_enter Try.func45, Try.ntmps45
    go_wp2_with fail
    go_ret2
    exact ⟨rfl, rfl⟩
theorem rrun_arg (w : World) (v : Value) (l : List Bool) (a : Nat) (k : Int) (t : Bool) (hv : SL encT w w.heap.size v l) (h : a ≤ l.length) (hk : k < 1) :
    Calls Try.prog 45 #[v, .int .i64 (a : Int), .int .i64 k, .bool t] w fun e w' => e = .returned (.tuple #[.int .i64 0, .int .i64 2]) ∧ w = w' := by
  obtain ⟨A, c, rfl⟩ := hv.form
  have h0 : (0 : Int) ≤ (a : Int) := by omega
  have h1 : (a : Int) ≤ (l.length : Int) := by omega
  clear hv
  go_enter Try.func45, Try.ntmps45
  go_wp2_with fail
  go_ret2
  exact ⟨rfl, rfl⟩
theorem goesOn_next {f : Nat → Bool} {n a i k : Nat} {v : Bool} (h : goesOn f n a i k v) (h2 : allB f v i k = false) : goesOn f n a (i + 1) k v := by
  unfold goesOn at *
  rw [h]
  exact searchF_next (T := n + 1 - k) h2
theorem goesOn_found {f : Nat → Bool} {n a i k : Nat} {v : Bool} (h : goesOn f n a i k v) (h1 : i + k ≤ n) (h2 : allB f v i k = true) : runO f n a k v = some i := by
  unfold goesOn at h
  rw [h]
  exact searchF_here (T := n + 1 - k) (by omega) h2
theorem allB_succ (f : Nat → Bool) (v : Bool) (i k : Nat) : allB f v i (k + 1) = (allB f v i k && f (i + k) == v) := by
  unfold allB
  rw [List.range_succ, List.all_append]
  simp
theorem allB_less {f : Nat → Bool} {v : Bool} {i r k : Nat} (h : allB f v i r = false) (hr : r ≤ k) : allB f v i k = false := by
  cases e : allB f v i k
  · rfl
  · rw [allB_true] at e
    have : allB f v i r = true := allB_true.2 fun j h1 h2 => e j h1 (by omega)
    rw [h] at this; cases this
set_option maxRecDepth 100000 in
set_option maxHeartbeats 2000000 in
theorem rrun_ok (w : World) (v : Value) (l : List Bool) (a k : Nat) (t : Bool) (hv : SL encT w w.heap.size v l) (hl : l.length ≤ 100000) (h : a ≤ l.length) (hk : 1 ≤ k) (hk2 : (k : Int) ≤ 9223372036854775807) :
    Calls Try.prog 45 #[v, .int .i64 (a : Int), .int .i64 (k : Int), .bool t] w fun e w' => e = .returned (optV (runO (listF l) l.length a k t)) ∧ w = w' := by
  obtain ⟨A, c, rfl⟩ := hv.form
  have HV := Lib.hid hv
  have h0 : (0 : Int) ≤ (a : Int) := by omega
  have h1 : (a : Int) ≤ (l.length : Int) := by omega
  have hd1 : decide ((a : Int) < 0) = false := by rw [decide_eq_false_iff_not]; omega
  have hd2 : decide (l.length < a) = false := by rw [decide_eq_false_iff_not]; omega
  have hk0 : decide ((k : Int) < 1) = false := by rw [decide_eq_false_iff_not]; omega
  clear hv
  go_enter Try.func45, Try.ntmps45
  go_wp2_with fail
  go_loopg [10] (l.length + 1 - a) (fun g s wx => ∃ i : Nat, i ≤ l.length + 1 ∧ g = l.length + 1 - i ∧ s = .int .i64 (i : Int) ∧ Hid (goesOn (listF l) l.length a i k t) ∧ w = wx)
  case atStart => exact ⟨a, by omega, rfl, rfl, rfl, rfl⟩
  case round =>
    obtain ⟨i, hi, hg, rfl, HG, rfl⟩ := hrel
    by_cases hik : i + k ≤ l.length
    case neg =>
      have hiI : ¬ (i : Int) ≤ (l.length : Int) - (k : Int) := by omega
      have HR := Lib.hid (goesOn_over HG.out hik)
      clear hik
      go_wp2_with fail
      go_ret2
      exact ⟨by rw [HR.out]; rfl, rfl⟩
    case pos =>
      have hiI : (i : Int) ≤ (l.length : Int) - (k : Int) := by omega
      obtain ⟨b, off, hA, hb, hc⟩ := HV.out.at (by omega)
      subst hA
      have HC := Lib.hid hc
      clear hc
      go_wp2_with fail
      go_loopg [11, 12] k (fun g2 s t2 wy => ∃ r : Nat, r ≤ k ∧ g2 = k - r ∧ s = .bool (allB (listF l) t i r) ∧ t2 = .int .i64 ((i : Int) + (r : Int)) ∧ w = wy)
      case atStart => exact ⟨0, Nat.zero_le _, by omega, rfl, by go_num, rfl⟩
      case round =>
        obtain ⟨r, hr, hg2, rfl, rfl, rfl⟩ := hrel
        by_cases hrk : r < k
        · have hrkI : (i : Int) + (r : Int) < (i : Int) + (k : Int) := by omega
          cases hab : allB (listF l) t i r with
          | true =>
            have hlt : i + r < l.length := by omega
            have hcell := HC.out (i + r) hlt
            unfold encT at hcell
            rw [← listF_at l (i + r) hlt] at hcell
            have hltI : (i : Int) + (r : Int) < (l.length : Int) := by omega
            have HN : Hid (allB (listF l) t i (r + 1) = (listF l (i + r) == t)) := by
              show _ = _; rw [allB_succ, hab, Bool.true_and]
            clear hab
            go_wp2_with fail
            go_roundg (k - (r + 1))
            case measure => omega
            case rel => exact ⟨r + 1, by omega, rfl, by rw [HN.out], by go_num, rfl⟩
          | false =>
            have HN := Lib.hid (goesOn_next HG.out (allB_less hab (by omega)))
            clear hab
            go_wp2_with fail
            go_roundg (l.length + 1 - (i + 1))
            case measure => omega
            case rel => exact ⟨i + 1, by omega, rfl, by go_num, HN.out, rfl⟩
        · have hrkI : ¬ (i : Int) + (r : Int) < (i : Int) + (k : Int) := by omega
          have hkr : k ≤ r := by omega
          cases hab : allB (listF l) t i r with
          | true =>
            have hab2 : allB (listF l) t i k = true := by rw [show k = r by omega]; exact hab
            have HR := Lib.hid (goesOn_found HG.out hik hab2)
            clear hab2
            clear hab
            go_wp2_with fail
            go_ret2
            exact ⟨by rw [HR.out]; rfl, rfl⟩
          | false =>
            have hab2 : allB (listF l) t i k = false := by rw [show k = r by omega]; exact hab
            have HN := Lib.hid (goesOn_next HG.out hab2)
            clear hab hab2
            go_wp2_with fail
            go_roundg (l.length + 1 - (i + 1))
            case measure => omega
            case rel => exact ⟨i + 1, by omega, rfl, by go_num, HN.out, rfl⟩
end Go.Proofs.Ytanppmpijadhbaa
