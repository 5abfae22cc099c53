/- The contracts of the law's long, and of the reference's Same, less and common. Condition: the slices hold what is said of them. -/
import Derived.Test.YtgfmfeaapffdfaaDoorCheck
namespace Go.Proofs.YtgfmfeaapffdfaaDoor
open Go.RowKit

def longB (p : Path) : Bool := decide (20 < p.length) || p.any fun s => decide (100 < s.size)
theorem any_takeP (p : Path) (f : ByteArray → Bool) (k : Nat) (h : k < p.length) : (p.take (k + 1)).any f = ((p.take k).any f || f p[k]) := by
  rw [List.take_succ_eq_append_getElem h, List.any_append]; simp
theorem long_no {p : Path} (h : longB p = false) : p.length ≤ 20 ∧ ∀ s ∈ p, s.size ≤ 100 := by
  unfold longB at h
  simp only [Bool.or_eq_false_iff, decide_eq_false_iff_not, List.any_eq_false, decide_eq_true_eq] at h
  exact ⟨by omega, fun s hs => by have := h.2 s hs; omega⟩
theorem toList_beq_same {x y : ByteArray} (h : x = y) : (x.toList == y.toList) = true := by rw [h]; simp
theorem toList_beq_ne {x y : ByteArray} (h : x ≠ y) : (x.toList == y.toList) = false := by
  rw [beq_eq_false_iff_ne]; exact fun e => h (toList_inj e)
theorem drewN_zero (w : World) : w = w.drewN 0 := rfl
theorem drew2 (w : World) (a b : Nat) : ∃ m, (w.drewN a).drewN b = w.drewN m := ⟨_, World.drewN_drewN ..⟩
theorem drew3 (w : World) (a b c : Nat) : ∃ m, ((w.drewN a).drewN b).drewN c = w.drewN m := ⟨_, by rw [World.drewN_drewN, World.drewN_drewN]⟩
theorem drew_below (w : World) (m : Nat) : Below w.heap.size w (w.drewN m) := ⟨rfl, rfl, rfl, Nat.le_refl _, fun _ _ => rfl⟩

set_option maxRecDepth 100000 in
set_option maxHeartbeats 1000000 in
theorem long_any (w : World) (v : Value) (p : Path) (hv : SL encS w w.heap.size v p) :
    Calls Tryd.prog 11 #[v] w fun e w' => e = .returned (.bool (longB p)) ∧ w = w' := by
  obtain ⟨A, c, rfl⟩ := hv.form
  have HV := Lib.hid hv
  clear hv
  by_cases h8 : 20 < p.length
  · have hfin : longB p = true := by unfold longB; rw [decide_eq_true h8]; rfl
    have H := Lib.hid hfin
    clear hfin
    go_enter Tryd.func11, Tryd.ntmps11
    go_wp2_with fail
    go_ret
    exact ⟨ret_bool H.out.symm, rfl⟩
  have hfin : longB p = p.any fun s => decide (100 < s.size) := by unfold longB; rw [decide_eq_false h8]; rfl
  have H := Lib.hid hfin
  clear hfin
  go_enter Tryd.func11, Tryd.ntmps11
  go_wp2_with fail
  go_loop [3] (fun i => ∃ k : Nat, k ≤ p.length ∧ i = .int .i64 k ∧ Hid ((p.take k).any (fun s => decide (100 < s.size)) = false)) (fun i => p.length - (intOf i).toNat)
  case atStart => exact ⟨0, Nat.zero_le _, rfl, by simp [Hid]⟩
  case round =>
    obtain ⟨k, hk, rfl, HR⟩ := hrel
    by_cases hlt : k < p.length
    · obtain ⟨b, off, rfl, hb, hc⟩ := HV.out.at (by omega)
      have h0 := hc k hlt
      simp only [encS] at h0
      clear hc
      by_cases hl : 100 < (p[k].size : Int)
      · have hfin2 : (p.any fun s => decide (100 < s.size)) = true := by
          rw [List.any_eq_true]; exact ⟨p[k], List.getElem_mem hlt, by simp; omega⟩
        have H2 := Lib.hid hfin2
        clear hfin2
        go_wp2_with fail
        go_ret
        exact ⟨ret_bool (by rw [H.out, H2.out]), rfl⟩
      · have hnx : (p.take (k + 1)).any (fun s => decide (100 < s.size)) = false := by
          rw [any_takeP _ _ k hlt, HR.out, decide_eq_false (p := 100 < p[k].size) (by omega)]; rfl
        have H2 := Lib.hid hnx
        clear hnx
        go_wp2_with fail
        go_round
        case rel => exact ⟨k + 1, by omega, by go_num, H2⟩
        case measure => simp [intOf]; omega
    · have H2 : Hid ((p.any fun s => decide (100 < s.size)) = false) := by show (p.any fun s => decide (100 < s.size)) = false; rw [← HR.out, List.take_of_length_le (by omega)]
      go_wp2_with fail
      go_ret
      exact ⟨ret_bool (by rw [H.out, H2.out]), rfl⟩

set_option maxRecDepth 100000 in
set_option maxHeartbeats 2000000 in
theorem same_any (w : World) (v v2 : Value) (p q : Path) (hv : SL encS w w.heap.size v p) (hv2 : SL encS w w.heap.size v2 q) (hl : p.length ≤ 1000000) (hl2 : q.length ≤ 1000000) :
    Calls Tryd.prog 21 #[v, v2] w fun e w' => e = .returned (.bool (decide (p = q))) ∧ ∃ m, w' = w.drewN m := by
  obtain ⟨A, c, rfl⟩ := hv.form
  obtain ⟨A2, c2, rfl⟩ := hv2.form
  by_cases hne : p.length = q.length
  case neg =>
    have hfin : decide (p = q) = false := by rw [decide_eq_false_iff_not]; intro e; exact hne (by rw [e])
    have H := Lib.hid hfin
    have hb : ((p.length : Int) != (q.length : Int)) = true := by rw [bne_iff_ne]; omega
    clear hfin
    go_enter Tryd.func21, Tryd.ntmps21
    go_wp2_with fail
    go_ret
    exact ⟨ret_bool H.out.symm, 0, rfl⟩
  have hb : ((p.length : Int) != (q.length : Int)) = false := by rw [bne_eq_false_iff_eq, hne]
  have HE := Lib.hid hne
  clear hne
  have HV := Lib.hid hv
  have HV2 := Lib.hid hv2
  clear hv hv2
  go_enter Tryd.func21, Tryd.ntmps21
  go_wp2_with fail
  go_loopw [5] (fun i wr => ∃ k m : Nat, k ≤ p.length ∧ i = .int .i64 k ∧ wr = w.drewN m ∧ Hid (p.take k = q.take k)) (fun i _ => p.length - (intOf i).toNat)
  case atStart => exact ⟨0, 0, Nat.zero_le _, rfl, rfl, by simp [Hid]⟩
  case round =>
    obtain ⟨k, m, hk, rfl, rfl, HR⟩ := hrel
    by_cases hlt : k < p.length
    · have hlt2 : k < q.length := by have := HE.out; omega
      obtain ⟨b, off, rfl, hb1, hc1⟩ := HV.out.at (by omega)
      obtain ⟨b', off', rfl, hb2, hc2⟩ := HV2.out.at (by omega)
      have p0 := hc1 k hlt
      have q0 := hc2 k hlt2
      simp only [encS] at p0 q0
      have i1 : (k : Int) < (p.length : Int) := by omega
      have i2 : (k : Int) < (q.length : Int) := by omega
      clear hc1 hc2
      by_cases hsame : p[k] = q[k]
      · have hq := toList_beq_same hsame
        have HN := Lib.hid (cn_take_of p q k hlt hlt2 HR.out hsame)
        clear hsame
        go_wp2_with fail
        go_quiet (fail)
        go_wp2_with fail
        go_roundw
        case rel => exact ⟨k + 1, _, by omega, by go_num, rfl, HN⟩
        case measure => simp [intOf]; omega
      · have hq := toList_beq_ne hsame
        have hfin : decide (p = q) = false := by
          rw [decide_eq_false_iff_not]; intro e; exact hsame (by simp only [e])
        have H := Lib.hid hfin
        clear hfin hsame
        go_wp2_with fail
        go_quiet (fail)
        go_wp2_with fail
        go_ret
        exact ⟨ret_bool H.out.symm, drew2 _ _ _⟩
    · have hfin : decide (p = q) = true := by
        rw [decide_eq_true_iff]
        have := HR.out
        rwa [List.take_of_length_le (by omega), List.take_of_length_le (by have := HE.out; omega)] at this
      have H := Lib.hid hfin
      clear hfin
      go_wp2_with fail
      go_ret
      exact ⟨ret_bool H.out.symm, _, rfl⟩

set_option maxRecDepth 100000 in
set_option maxHeartbeats 2000000 in
theorem less_any (w : World) (v v2 : Value) (p q : Path) (hv : SL encS w w.heap.size v p) (hv2 : SL encS w w.heap.size v2 q) (hl : p.length ≤ 1000000) (hl2 : q.length ≤ 1000000) :
    Calls Tryd.prog 47 #[v, v2] w fun e w' => e = .returned (.bool (pl p q)) ∧ ∃ m, w' = w.drewN m := by
  obtain ⟨A, c, rfl⟩ := hv.form
  obtain ⟨A2, c2, rfl⟩ := hv2.form
  have HV := Lib.hid hv
  have HV2 := Lib.hid hv2
  clear hv hv2
  go_enter Tryd.func47, Tryd.ntmps47
  go_wp2_with fail
  go_loopw [5] (fun i wr => ∃ k m : Nat, k ≤ p.length ∧ k ≤ q.length ∧ i = .int .i64 k ∧ wr = w.drewN m ∧ Hid (p.take k = q.take k)) (fun i _ => p.length - (intOf i).toNat)
  case atStart => exact ⟨0, 0, Nat.zero_le _, Nat.zero_le _, rfl, rfl, by simp [Hid]⟩
  case round =>
    obtain ⟨k, m, hk, hk2, rfl, rfl, HR⟩ := hrel
    by_cases hlt : k < p.length
    · by_cases hlt2 : k < q.length
      · obtain ⟨b, off, rfl, hb1, hc1⟩ := HV.out.at (by omega)
        obtain ⟨b', off', rfl, hb2, hc2⟩ := HV2.out.at (by omega)
        have p0 := hc1 k hlt
        have q0 := hc2 k hlt2
        simp only [encS] at p0 q0
        have i1 : (k : Int) < (p.length : Int) := by omega
        have i2 : (k : Int) < (q.length : Int) := by omega
        clear hc1 hc2
        by_cases hsame : p[k] = q[k]
        · have hq := toList_beq_same hsame
          have HN := Lib.hid (cn_take_of p q k hlt hlt2 HR.out hsame)
          clear hsame
          go_wp2_with fail
          go_quiet (fail)
          go_wp2_with fail
          go_roundw
          case rel => exact ⟨k + 1, _, by omega, by omega, by go_num, rfl, HN⟩
          case measure => simp [intOf]; omega
        · have hq := toList_beq_ne hsame
          have H := Lib.hid (pl_stop p q k hlt hlt2 HR.out hsame)
          clear hsame
          go_wp2_with fail
          go_quiet (fail)
          go_wp2_with fail
          go_quiet (fail)
          go_wp2_with fail
          go_ret
          exact ⟨ret_bool (by rw [H.out]; rfl), drew3 _ _ _ _⟩
      · have H := Lib.hid (pl_end p q k (by omega) (by omega) (by omega) HR.out)
        go_wp2_with fail
        go_ret
        exact ⟨ret_bool (by rw [H.out]), _, rfl⟩
    · have H := Lib.hid (pl_end p q k (by omega) (by omega) (by omega) HR.out)
      go_wp2_with fail
      go_ret
      exact ⟨ret_bool (by rw [H.out]), _, rfl⟩

set_option maxRecDepth 100000 in
set_option maxHeartbeats 2000000 in
theorem rcommon_any (w : World) (v v2 : Value) (p q : Path) (hv : SL encS w w.heap.size v p) (hv2 : SL encS w w.heap.size v2 q) (hl : p.length ≤ 1000000) (hl2 : q.length ≤ 1000000) :
    Calls Tryd.prog 49 #[v, v2] w fun e w' => e = .returned (.int .i64 (cn p q : Nat)) ∧ ∃ m, w' = w.drewN m := by
  obtain ⟨A, c, rfl⟩ := hv.form
  obtain ⟨A2, c2, rfl⟩ := hv2.form
  have HV := Lib.hid hv
  have HV2 := Lib.hid hv2
  clear hv hv2
  go_enter Tryd.func49, Tryd.ntmps49
  go_wp2_with fail
  go_loopw [5] (fun i wr => ∃ k m : Nat, k ≤ p.length ∧ k ≤ q.length ∧ i = .int .i64 k ∧ wr = w.drewN m ∧ Hid (p.take k = q.take k)) (fun i _ => p.length - (intOf i).toNat)
  case atStart => exact ⟨0, 0, Nat.zero_le _, Nat.zero_le _, rfl, rfl, by simp [Hid]⟩
  case round =>
    obtain ⟨k, m, hk, hk2, rfl, rfl, HR⟩ := hrel
    by_cases hlt : k < p.length
    · have d1 : decide ((k : Int) < (p.length : Int)) = true := by rw [decide_eq_true_iff]; omega
      by_cases hlt2 : k < q.length
      · have d2 : decide ((k : Int) < (q.length : Int)) = true := by rw [decide_eq_true_iff]; omega
        obtain ⟨b, off, rfl, hb1, hc1⟩ := HV.out.at (by omega)
        obtain ⟨b', off', rfl, hb2, hc2⟩ := HV2.out.at (by omega)
        have p0 := hc1 k hlt
        have q0 := hc2 k hlt2
        simp only [encS] at p0 q0
        have i1 : (k : Int) < (p.length : Int) := by omega
        have i2 : (k : Int) < (q.length : Int) := by omega
        clear hc1 hc2
        by_cases hsame : p[k] = q[k]
        · have hq := toList_beq_same hsame
          have HN := Lib.hid (cn_take_of p q k hlt hlt2 HR.out hsame)
          clear hsame
          go_wp2_with fail
          go_quiet (fail)
          go_wp2_with fail
          go_roundw
          case rel => exact ⟨k + 1, _, by omega, by omega, by go_num, rfl, HN⟩
          case measure => simp [intOf]; omega
        · have hq := toList_beq_ne hsame
          have H := Lib.hid (cn_stop p q k hlt hlt2 HR.out hsame)
          clear hsame
          go_wp2_with fail
          go_quiet (fail)
          go_wp2_with fail
          go_ret
          exact ⟨ret_int (by rw [H.out]), drew2 _ _ _⟩
      · have d2 : decide ((k : Int) < (q.length : Int)) = false := by rw [decide_eq_false_iff_not]; omega
        have H := Lib.hid (cn_end p q k (by omega) (by omega) (by omega) HR.out)
        go_wp2_with fail
        go_quiet (fail)
        go_wp2_with fail
        go_ret
        exact ⟨ret_int (by rw [H.out]), drew2 _ _ _⟩
    · have d1 : decide ((k : Int) < (p.length : Int)) = false := by rw [decide_eq_false_iff_not]; omega
      have H := Lib.hid (cn_end p q k (by omega) (by omega) (by omega) HR.out)
      go_wp2_with fail
      go_quiet (fail)
      go_wp2_with fail
      go_ret
      exact ⟨ret_int (by rw [H.out]), drew2 _ _ _⟩
end Go.Proofs.YtgfmfeaapffdfaaDoor
