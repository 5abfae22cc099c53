/- The contract of the law's far at most 60: whether a list of paths is more than is looked at. Condition: the slice holds what is said of it. -/
import Derived.Test.YtgfmfeaapffdfaaDoorLists
namespace Go.Proofs.YtgfmfeaapffdfaaDoor
open Go.RowKit

def szP (p : Path) : Nat := (p.map (·.size)).sum
def totL (l : List Path) : Nat := (l.map szP).sum
def farB (l : List Path) : Bool := (decide (60 < l.length) && decide (l.length ≤ 500)) || decide (510 < l.length) || l.any longB || decide (20000 < totL l)
theorem sz_take (p : Path) (k : Nat) (h : k < p.length) : szP (p.take (k + 1)) = szP (p.take k) + (p[k]).size := by
  unfold szP
  rw [List.take_succ_eq_append_getElem h, List.map_append, List.sum_append]; simp
theorem tot_take (l : List Path) (k : Nat) (h : k < l.length) : totL (l.take (k + 1)) = totL (l.take k) + szP l[k] := by
  unfold totL
  rw [List.take_succ_eq_append_getElem h, List.map_append, List.sum_append]; simp
theorem sz_le (p : Path) (h : ∀ s ∈ p, s.size ≤ 100) : szP p ≤ 100 * p.length := by
  unfold szP
  induction p with
  | nil => simp
  | cons s r ih =>
    have h1 := h s (by simp)
    have h2 := ih (fun x hx => h x (by simp [hx]))
    simp only [List.map_cons, List.sum_cons, List.length_cons]
    omega
theorem any_long (l : List Path) (k : Nat) (h : k < l.length) (h1 : (l.take k).any longB = false) (h2 : longB l[k] = false) : (l.take (k + 1)).any longB = false := by
  rw [List.take_succ_eq_append_getElem h, List.any_append, h1]
  simp [h2]

set_option maxRecDepth 100000 in
set_option maxHeartbeats 4000000 in
theorem far_any (w : World) (v : Value) (l : List Path) (hv : LL w w.heap.size v l) :
    Calls Tryd.prog 34 #[v, .int .i64 60] w fun e w' => e = .returned (.bool (farB l)) ∧ w = w' := by
  obtain ⟨A, c, rfl⟩ := hv.form
  have HV := Lib.hid hv
  clear hv
  by_cases hA : 60 < l.length ∧ l.length ≤ 500
  · have H : Hid (farB l = true) := by show farB l = true; unfold farB; rw [decide_eq_true hA.1, decide_eq_true hA.2]; rfl
    have i1 : (60 : Int) < (l.length : Int) := by omega
    have i2 : (l.length : Int) ≤ 500 := by omega
    clear hA
    go_enter Tryd.func34, Tryd.ntmps34
    go_wp2_with fail
    go_ret
    exact ⟨ret_bool H.out.symm, rfl⟩
  by_cases hB : 510 < l.length
  · have H : Hid (farB l = true) := by show farB l = true; unfold farB; rw [decide_eq_true hB]; simp
    have i1 : (60 : Int) < (l.length : Int) := by omega
    have i2 : ¬ (l.length : Int) ≤ 500 := by omega
    have i3 : (510 : Int) < (l.length : Int) := by omega
    clear hA hB
    go_enter Tryd.func34, Tryd.ntmps34
    go_wp2_with fail
    go_ret
    exact ⟨ret_bool H.out.symm, rfl⟩
  have H : Hid (farB l = (l.any longB || decide (20000 < totL l))) := by
    show farB l = _
    unfold farB
    rw [decide_eq_false hB]
    by_cases h60 : 60 < l.length
    · rw [decide_eq_true h60, decide_eq_false (p := l.length ≤ 500) (by omega)]; rfl
    · rw [decide_eq_false h60]; rfl
  have hlen : l.length ≤ 510 := by omega
  have g1 : (decide ((60 : Int) < (l.length : Int)) && decide ((l.length : Int) ≤ 500)) = false := by
    rw [Bool.and_eq_false_iff]
    by_cases h60 : 60 < l.length
    · exact .inr (decide_eq_false (by omega))
    · exact .inl (decide_eq_false (by omega))
  have i3 : ¬ (510 : Int) < (l.length : Int) := by omega
  have HG := Lib.hid g1
  clear g1 hA hB
  have key : ∀ (_ : (60 : Int) < (l.length : Int) ∧ ¬ (l.length : Int) ≤ 500 ∨ ¬ (60 : Int) < (l.length : Int)), Calls Tryd.prog 34 #[.slice A l.length c, .int .i64 60] w fun e w' => e = .returned (.bool (farB l)) ∧ w = w' := by
    intro hor
    rcases hor with ⟨i1, i2⟩ | i1
    all_goals
      go_enter Tryd.func34, Tryd.ntmps34
      go_wp2_with fail
      go_loop [5, 6] (fun n i => ∃ k m : Nat, k ≤ l.length ∧ i = .int .i64 k ∧ n = .int .i64 m ∧ m ≤ 2000 * k ∧ Hid (m = totL (l.take k)) ∧ Hid ((l.take k).any longB = false)) (fun _ i => l.length - (intOf i).toNat)
      case atStart => exact ⟨0, 0, Nat.zero_le _, rfl, rfl, by omega, by simp [Hid, totL], by simp [Hid]⟩
      case round =>
        obtain ⟨k, m, hk, rfl, rfl, hm, HT, HR⟩ := hrel
        by_cases hlt : k < l.length
        · obtain ⟨b, off, rfl, hb, hc⟩ := HV.out.at (by omega)
          obtain ⟨u, h0, hu⟩ := hc k hlt
          have HC := Lib.hid (long_any w u l[k] hu)
          have HU := Lib.hid hu
          obtain ⟨A1, c1, rfl⟩ := hu.form
          have i4 : (k : Int) < (l.length : Int) := by omega
          clear hc hu
          cases hz : longB l[k] with
          | true =>
            have H2 : Hid (l.any longB = true) := by show l.any longB = true; rw [List.any_eq_true]; exact ⟨l[k], List.getElem_mem _, hz⟩
            rw [hz] at HC
            clear hz
            go_wp2_with (go_at_call 11; refine HC.out.mono ?_; rintro e w' ⟨rfl, rfl⟩)
            go_ret
            exact ⟨ret_bool (by rw [H.out, H2.out]; rfl), rfl⟩
          | false =>
            have HZ := Lib.hid (long_no hz)
            have HN := Lib.hid (any_long l k hlt HR.out hz)
            have HT2 := Lib.hid (tot_take l k hlt)
            rw [hz] at HC
            clear hz
            go_wp2_with (go_at_call 11; refine HC.out.mono ?_; rintro e w' ⟨rfl, rfl⟩)
            go_loop [5, 7] (fun n i => ∃ j s : Nat, j ≤ l[k].length ∧ i = .int .i64 j ∧ n = .int .i64 (m + s : Nat) ∧ s ≤ 100 * j ∧ Hid (s = szP (l[k].take j))) (fun _ i => l[k].length - (intOf i).toNat)
            case atStart => exact ⟨0, 0, Nat.zero_le _, rfl, rfl, by omega, by simp [Hid, szP]⟩
            case round =>
              obtain ⟨j, s, hj, rfl, rfl, hs, HS⟩ := hrel
              have hz2 := HZ.out
              by_cases hj2 : j < l[k].length
              · obtain ⟨b1, off1, rfl, hb1, hc1⟩ := HU.out.at (by omega)
                have h1 := hc1 j hj2
                simp only [encS] at h1
                have i5 : (j : Int) < (l[k].length : Int) := by omega
                have hsz : (l[k][j]).size ≤ 100 := hz2.2 _ (List.getElem_mem _)
                have hb20 : l[k].length ≤ 20 := hz2.1
                have HS2 : Hid (s + (l[k][j]).size = szP (l[k].take (j + 1))) := by show _ = _; rw [sz_take _ _ hj2, ← HS.out]
                clear hc1 hz2 hb1
                go_wp2_with fail
                go_round
                case rel => exact ⟨j + 1, s + (l[k][j]).size, by omega, by go_num, by go_num, by omega, HS2⟩
                case measure => simp [intOf]; omega
              · have hb20 : l[k].length ≤ 20 := hz2.1
                have HS2 : Hid (m + s = totL (l.take (k + 1))) := by
                  show m + s = _
                  have e := HS.out
                  rw [List.take_of_length_le (by omega)] at e
                  rw [HT2.out, ← HT.out, ← e]
                have i5 : ¬ (j : Int) < (l[k].length : Int) := by omega
                clear hz2
                go_wp2_with fail
                go_round
                case rel => exact ⟨k + 1, m + s, by omega, by go_num, by go_num, by omega, HS2, HN⟩
                case measure => simp [intOf]; omega
        · have H2 : Hid (farB l = decide (20000 < m)) := by
            show farB l = _
            have e1 := HT.out
            have e2 := HR.out
            rw [List.take_of_length_le (by omega)] at e1 e2
            rw [H.out, e1, e2]; rfl
          have i4 : ¬ (k : Int) < (l.length : Int) := by omega
          by_cases hm2 : 20000 < m
          · rw [decide_eq_true hm2] at H2
            have i5 : (20000 : Int) < (m : Int) := by omega
            clear hm2
            go_wp2_with fail
            go_ret
            exact ⟨ret_bool H2.out.symm, rfl⟩
          · rw [decide_eq_false hm2] at H2
            have i5 : ¬ (20000 : Int) < (m : Int) := by omega
            clear hm2
            go_wp2_with fail
            go_ret
            exact ⟨ret_bool H2.out.symm, rfl⟩
  refine key ?_
  have e := HG.out
  by_cases h60 : (60 : Int) < (l.length : Int)
  · rw [decide_eq_true h60, Bool.true_and] at e
    exact .inl ⟨h60, of_decide_eq_false e⟩
  · exact .inr h60
end Go.Proofs.YtgfmfeaapffdfaaDoor
