/- The contracts of the law's there and of the reference's SameAll, over lists of paths. Conditions: the slices hold what is said of them; paths of at most 10^6 strings. -/
import Derived.Test.YtgfmfeaapffdfaaDoorThree
namespace Go.Proofs.YtgfmfeaapffdfaaDoor
open Go.RowKit

theorem drewm (w : World) (m n j : Nat) : ∃ i, (w.drewN (m + n)).drewN j = w.drewN (m + i) := ⟨n + j, by rw [World.drewN_drewN, Nat.add_assoc]⟩
theorem any_none (l : List Path) (p : Path) (k : Nat) (h : k < l.length) (h1 : (l.take k).any (fun x => decide (x = p)) = false) (h2 : l[k] ≠ p) : (l.take (k + 1)).any (fun x => decide (x = p)) = false := by
  rw [List.take_succ_eq_append_getElem h, List.any_append, h1]
  simp [h2]

set_option maxRecDepth 100000 in
set_option maxHeartbeats 2000000 in
theorem there_any (w : World) (v v2 : Value) (l : List Path) (p : Path) (hv : LL w w.heap.size v l) (hv2 : SL encS w w.heap.size v2 p) (hl : l.length ≤ 1000000) (hs : ∀ x ∈ l, x.length ≤ 1000000) (hp : p.length ≤ 1000000) :
    Calls Tryd.prog 38 #[v, v2] w fun e w' => e = .returned (.bool (l.any (fun x => decide (x = p)))) ∧ ∃ m, w' = w.drewN m := by
  obtain ⟨A, c, rfl⟩ := hv.form
  obtain ⟨A2, c2, rfl⟩ := hv2.form
  have HV := Lib.hid hv
  have HV2 := Lib.hid hv2
  have HS := Lib.hid hs
  have HP := Lib.hid hp
  clear hv hv2 hs hp
  go_enter Tryd.func38, Tryd.ntmps38
  go_wp2_with fail
  go_loopw [5] (fun i wr => ∃ k m : Nat, k ≤ l.length ∧ i = .int .i64 k ∧ wr = w.drewN m ∧ Hid ((l.take k).any (fun x => decide (x = p)) = false)) (fun i _ => l.length - (intOf i).toNat)
  case atStart => exact ⟨0, 0, Nat.zero_le _, rfl, rfl, by simp [Hid]⟩
  case round =>
    obtain ⟨k, m, hk, rfl, rfl, HR⟩ := hrel
    by_cases hlt : k < l.length
    · obtain ⟨b, off, rfl, hb, hc⟩ := HV.out.at (by omega)
      obtain ⟨u, h0, hu⟩ := hc k hlt
      have HC := Lib.hid (same_any (w.drewN m) u _ l[k] p (hu.drewN m) (HV2.out.drewN m) (HS.out _ (List.getElem_mem _)) HP.out)
      obtain ⟨A1, c1, rfl⟩ := hu.form
      have i1 : (k : Int) < (l.length : Int) := by omega
      clear hc hu
      by_cases hz : l[k] = p
      · have H2 : Hid (l.any (fun x => decide (x = p)) = true) := by
          show l.any (fun x => decide (x = p)) = true
          rw [List.any_eq_true]; exact ⟨l[k], List.getElem_mem _, decide_eq_true hz⟩
        rw [decide_eq_true hz] at HC
        clear hz
        go_wp2_with fail
        refine HC.out.mono ?_
        rintro e w' ⟨rfl, m2, rfl⟩
        go_wp2_with fail
        go_ret
        exact ⟨ret_bool H2.out.symm, _, rfl⟩
      · have HN := Lib.hid (any_none l p k hlt HR.out hz)
        rw [decide_eq_false hz] at HC
        clear hz
        go_wp2_with fail
        refine HC.out.mono ?_
        rintro e w' ⟨rfl, m2, rfl⟩
        go_wp2_with fail
        go_roundw
        case rel => exact ⟨k + 1, _, by omega, by go_num, rfl, HN⟩
        case measure => simp [intOf]; omega
    · have H2 : Hid (l.any (fun x => decide (x = p)) = false) := by
        show l.any (fun x => decide (x = p)) = false
        have := HR.out
        rw [List.take_of_length_le (by omega)] at this
        exact this
      go_wp2_with fail
      go_ret
      exact ⟨ret_bool H2.out.symm, _, rfl⟩

set_option maxRecDepth 100000 in
set_option maxHeartbeats 2000000 in
theorem sameAll_any (w : World) (v v2 : Value) (l q : List Path) (hv : LL w w.heap.size v l) (hv2 : LL w w.heap.size v2 q) (hl : l.length ≤ 1000000) (hl2 : q.length ≤ 1000000) (hs : ∀ x ∈ l, x.length ≤ 1000000) (hs2 : ∀ x ∈ q, x.length ≤ 1000000) :
    Calls Tryd.prog 37 #[v, v2] w fun e w' => e = .returned (.bool (decide (l = q))) ∧ ∃ m, w' = w.drewN m := by
  obtain ⟨A, c, rfl⟩ := hv.form
  obtain ⟨A2, c2, rfl⟩ := hv2.form
  by_cases hne : l.length = q.length
  case neg =>
    have hfin : decide (l = q) = false := by rw [decide_eq_false_iff_not]; intro e; exact hne (by rw [e])
    have H := Lib.hid hfin
    have hb : ((l.length : Int) != (q.length : Int)) = true := by rw [bne_iff_ne]; omega
    clear hfin
    go_enter Tryd.func37, Tryd.ntmps37
    go_wp2_with fail
    go_ret
    exact ⟨ret_bool H.out.symm, 0, rfl⟩
  have hb : ((l.length : Int) != (q.length : Int)) = false := by rw [bne_eq_false_iff_eq, hne]
  have HE := Lib.hid hne
  have HV := Lib.hid hv
  have HV2 := Lib.hid hv2
  have HS := Lib.hid hs
  have HS2 := Lib.hid hs2
  clear hne hv hv2 hs hs2
  go_enter Tryd.func37, Tryd.ntmps37
  go_wp2_with fail
  go_loopw [5] (fun i wr => ∃ k m : Nat, k ≤ l.length ∧ i = .int .i64 k ∧ wr = w.drewN m ∧ Hid (l.take k = q.take k)) (fun i _ => l.length - (intOf i).toNat)
  case atStart => exact ⟨0, 0, Nat.zero_le _, rfl, rfl, by simp [Hid]⟩
  case round =>
    obtain ⟨k, m, hk, rfl, rfl, HR⟩ := hrel
    by_cases hlt : k < l.length
    · have hlt2 : k < q.length := by have := HE.out; omega
      obtain ⟨b, off, rfl, hb1, hc1⟩ := HV.out.at (by omega)
      obtain ⟨b', off', rfl, hb2, hc2⟩ := HV2.out.at (by omega)
      obtain ⟨u, p0, hu⟩ := hc1 k hlt
      obtain ⟨u2, q0, hu2⟩ := hc2 k hlt2
      have HC : Hid (∀ n, Calls Tryd.prog 21 #[u, u2] (w.drewN n) fun e w' => e = .returned (.bool (decide (l[k] = q[k]))) ∧ ∃ j, w' = (w.drewN n).drewN j) := fun n => same_any (w.drewN n) u u2 l[k] q[k] (hu.drewN n) (hu2.drewN n) (HS.out _ (List.getElem_mem _)) (HS2.out _ (List.getElem_mem _))
      obtain ⟨A3, c3, rfl⟩ := hu.form
      obtain ⟨A4, c4, rfl⟩ := hu2.form
      have i1 : (k : Int) < (l.length : Int) := by omega
      have i2 : (k : Int) < (q.length : Int) := by omega
      clear hc1 hc2 hu hu2
      by_cases hz : l[k] = q[k]
      · have HN : Hid (l.take (k + 1) = q.take (k + 1)) := by
          show l.take (k + 1) = q.take (k + 1)
          rw [List.take_succ_eq_append_getElem hlt, List.take_succ_eq_append_getElem hlt2, HR.out, hz]
        rw [decide_eq_true hz] at HC
        clear hz
        go_wp2_with fail
        go_quiet (first | (refine (HC.out _).mono ?_; rintro e w' ⟨rfl, m2, rfl⟩; exact ⟨rfl, drewm _ _ _ _⟩))
        go_wp2_with fail
        go_roundw
        case rel => exact ⟨k + 1, _, by omega, by go_num, rfl, HN⟩
        case measure => simp [intOf]; omega
      · have hfin : decide (l = q) = false := by
          rw [decide_eq_false_iff_not]; intro e; exact hz (by simp only [e])
        have H := Lib.hid hfin
        rw [decide_eq_false hz] at HC
        clear hfin hz
        go_wp2_with fail
        go_quiet (first | (refine (HC.out _).mono ?_; rintro e w' ⟨rfl, m2, rfl⟩; exact ⟨rfl, drewm _ _ _ _⟩))
        go_wp2_with fail
        go_ret
        exact ⟨ret_bool H.out.symm, drew2 _ _ _⟩
    · have hfin : decide (l = q) = true := by
        rw [decide_eq_true_iff]
        have := HR.out
        rwa [List.take_of_length_le (by omega), List.take_of_length_le (by have := HE.out; omega)] at this
      have H := Lib.hid hfin
      clear hfin
      go_wp2_with fail
      go_ret
      exact ⟨ret_bool H.out.symm, _, rfl⟩
end Go.Proofs.YtgfmfeaapffdfaaDoor
