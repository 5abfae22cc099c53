/- The contract of checkKeep. Condition: a device in memory, a slice of numbers. -/
import Derived.Test.YtcmhhiakmgooeaaSettle
namespace Go.Proofs.Ytcmhhiakmgooeaa
open Go.RowKit Go.Maps

def encI (i : Int) : Value := .int .i64 i
def inR (m : Nat) (i : Int) : Bool := decide (0 ≤ i ∧ i < (m : Int))
/-- Ascending? -/
def Asc (l : List Int) : Prop := ∀ i, 1 ≤ i → i < l.length → l.getD (i - 1) 0 < l.getD i 0
/-- The error of a list of indices. -/
noncomputable def keepE (m : Nat) (l : List Int) : Int := open Classical in if l.all (inR m) then (if Asc l then 0 else 6) else 7
set_option maxRecDepth 100000 in
set_option maxHeartbeats 1000000 in
theorem checkKeep_any {w : World} {b g c m : Nat} {cv : Value} {s : Dv.S} (M : DevR w b g c cv m s) (v : Value) (l : List Int) (hv : SL encI w w.heap.size v l) (hn : l.length ≤ 1000000) :
    Calls Try.prog 47 #[.pointer (some ⟨b, 0, none⟩), v] w fun e w' => e = .returned (.int .i64 (keepE s.ca.length l)) ∧ ∃ k, w' = w.drewN k := by
  obtain ⟨A, cc, rfl⟩ := hv.form
  obtain ⟨A0, c0, rfl⟩ := M.cch.cv.form
  have HM := Lib.hid M
  have HV := Lib.hid hv
  have hca := M.ok.ca
  have h2 := M.c2
  clear M hv
  go_enter Try.func47, Try.ntmps47
  go_wp2_with fail
  go_loopw [10] (fun i wr => ∃ k : Nat, k ≤ l.length ∧ i = .int .i64 k ∧ Hid ((l.take k).all (inR s.ca.length) = true) ∧ w = wr) (fun i _ => l.length - (intOf i).toNat)
  case atStart => exact ⟨0, by omega, rfl, by simp [Hid], rfl⟩
  case round =>
    obtain ⟨k, hk, rfl, HA, rfl⟩ := hrel
    by_cases hlt : k < l.length
    · have hltI : (k : Int) < (l.length : Int) := by omega
      obtain ⟨q, o, hA, _, hcc⟩ := HV.out.at (by omega)
      subst hA
      have hq := hcc k hlt
      obtain ⟨i, hi⟩ : ∃ i, i = l[k] := ⟨_, rfl⟩
      rw [← hi] at hq
      unfold encI at hq
      have HI := Lib.hid hi
      clear hcc hi
      by_cases hin : 0 ≤ i ∧ i < (s.ca.length : Int)
      · have HA2 : Hid ((l.take (k + 1)).all (inR s.ca.length) = true) := by
          show (l.take (k + 1)).all _ = true
          rw [List.take_succ_eq_append_getElem hlt, List.all_append, HA.out, ← HI.out]
          simp [inR, hin]
        obtain ⟨h3, h4⟩ := hin
        have h5 : ¬ i < 0 := by omega
        have h6 : ¬ (s.ca.length : Int) ≤ i := by omega
        go_wp2_with fail
        go_roundw
        case rel => exact ⟨k + 1, by omega, by go_num, HA2.out, by first | rfl | trivial⟩
        case measure => simp [intOf]; omega
      · have HE : Hid (keepE s.ca.length l = 7) := by
          show keepE _ _ = 7
          unfold keepE
          rw [if_neg]
          intro h
          have := List.all_eq_true.1 h l[k] (List.getElem_mem _)
          rw [← HI.out] at this
          unfold inR at this
          exact hin (by simpa using this)
        by_cases h0 : i < 0
        · clear hin
          go_wp2_with fail
          go_ret
          exact ⟨by rw [HE.out]; rfl, 0, rfl⟩
        · have h6 : (s.ca.length : Int) ≤ i := by omega
          clear hin
          go_wp2_with fail
          go_ret
          exact ⟨by rw [HE.out]; rfl, 0, rfl⟩
    · obtain rfl : k = l.length := by omega
      rw [List.take_length] at HA
      have hltI : ¬ ((l.length : Int) < (l.length : Int)) := by omega
      go_wp2_with fail
      go_loopw [7] (fun i wr => ∃ k : Nat, 1 ≤ k ∧ (k ≤ l.length ∨ k = 1) ∧ i = .int .i64 k ∧ Hid (∀ i, 1 ≤ i → i < k → i < l.length → l.getD (i - 1) 0 < l.getD i 0) ∧ Hid (∃ n, wr = w.drewN n)) (fun i _ => l.length + 1 - (intOf i).toNat)
      case atStart => exact ⟨1, by omega, .inr rfl, rfl, fun i h1 h2 => by omega, 0, rfl⟩
      case round =>
        obtain ⟨k, hk1, hk, rfl, HS, HW⟩ := hrel
        by_cases hlt : k < l.length
        · have hltI : (k : Int) < (l.length : Int) := by omega
          obtain ⟨q, o, hA, _, hcc⟩ := HV.out.at (by omega)
          subst hA
          obtain ⟨nn, hnn⟩ := HW.out
          have hq := hcc k hlt
          have hq1 := hcc (k - 1) (by omega)
          obtain ⟨i, hi⟩ : ∃ i, i = l[k] := ⟨_, rfl⟩
          obtain ⟨j, hj⟩ : ∃ j, j = l[k - 1]'(by omega) := ⟨_, rfl⟩
          rw [← hi] at hq
          rw [← hj] at hq1
          unfold encI at hq hq1
          have r0 : wr.drew.cell? ⟨q, o + k, none⟩ = some (.int .i64 i) := by rw [hnn]; exact hq
          have r1 : wr.drew.cell? ⟨q, o + (k - 1), none⟩ = some (.int .i64 j) := by rw [hnn]; exact hq1
          have e1 : l.getD k 0 = i := by rw [hi]; simp [List.getD_eq_getElem?_getD, hlt]
          have e2 : l.getD (k - 1) 0 = j := by rw [hj]; simp [List.getD_eq_getElem?_getD, show k - 1 < l.length by omega]
          have HE1 := Lib.hid e1
          have HE2 := Lib.hid e2
          have HW2 : Hid (∃ n, wr.drew = w.drewN n) := ⟨nn + 1, by rw [hnn]; rfl⟩
          obtain ⟨p, hp⟩ : ∃ p, p = k - 1 := ⟨_, rfl⟩
          rw [← hp] at r1
          have hpI : (k : Int) - 1 = (p : Int) := by omega
          have hp2 : (p : Int) < (l.length : Int) := by omega
          clear hcc hi hj hq hq1 hnn e1 e2
          by_cases hle : i ≤ j
          · have HE : Hid (keepE s.ca.length l = 6) := by
              show keepE _ _ = 6
              unfold keepE
              rw [if_pos HA.out, if_neg]
              intro h
              have := h k hk1 hlt
              rw [HE1.out, HE2.out] at this; omega
            clear hp
            go_wp2_with fail
            go_region
            all_goals
              go_wp2_with fail
              go_ret
              exact ⟨by rw [HE.out]; rfl, HW2.out⟩
          · have HS2 : Hid (∀ i, 1 ≤ i → i < k + 1 → i < l.length → l.getD (i - 1) 0 < l.getD i 0) := fun t h1 h2 h3 => by
              rcases Nat.lt_or_ge t k with h | h
              · exact HS.out t h1 h h3
              · obtain rfl : t = k := by omega
                rw [HE1.out, HE2.out]; omega
            clear hp
            go_wp2_with fail
            go_region
            all_goals
              go_wp2_with fail
              go_roundw
              case rel => first | exact ⟨k + 1, by omega, .inl (by omega), by go_num, HS2.out, HW2.out⟩ | exact ⟨_, _, ⟨k + 1, by omega, .inl (by omega), rfl, HS2.out, HW2.out⟩, rfl, by go_num⟩
              case measure => simp [intOf]; omega
        · have HE : Hid (keepE s.ca.length l = 0) := by
            show keepE _ _ = 0
            unfold keepE
            rw [if_pos HA.out, if_pos]
            intro i h1 h2
            exact HS.out i h1 (by omega) h2
          have hltI : ¬ (k : Int) < (l.length : Int) := by omega
          go_wp2_with fail
          go_ret
          exact ⟨by rw [HE.out]; rfl, HW.out⟩
end Go.Proofs.Ytcmhhiakmgooeaa
