/- The contracts of Same over values of the reference and of far. Conditions: slices that hold the values. -/
import Derived.Test.YtelpgjaagkojeaaPad
namespace Go.Proofs.Ytelpgjaagkojeaa
open Go.RowKit

theorem ne_self (a : Nat) : ((a : Int) != (a : Int)) = false := by simp
set_option maxRecDepth 100000 in
set_option maxHeartbeats 2000000 in
theorem vsame_any (w : World) (lim lim2 : Nat) (v v2 : Value) (l : List Rm.Val) (hv : VL w lim v l) (hv2 : VL w lim2 v2 l) (hl : l.length ≤ 1000000000) (hll : ∀ x ∈ l, x.lst.length ≤ 9223372036854775807) :
    Calls Try.prog 20 #[v, v2] w fun e w' => e = .returned (.bool true) ∧ Below w.heap.size w w' := by
  obtain ⟨A, c0, rfl⟩ := hv.form
  obtain ⟨B, c1, rfl⟩ := hv2.form
  have HV := Lib.hid hv
  have HV2 := Lib.hid hv2
  have HLL := Lib.hid hll
  have hns := ne_self l.length
  clear hv hv2 hll
  go_enter Try.func20, Try.ntmps20
  go_wp2_with fail
  go_loopw [5] (fun i wr => ∃ k m : Nat, k ≤ l.length ∧ i = .int .i64 k ∧ Hid (wr = w.drewN m)) (fun i _ => l.length - (intOf i).toNat)
  case atStart => exact ⟨0, 0, by omega, rfl, rfl⟩
  case round =>
    obtain ⟨k, m, hk, rfl, HW⟩ := hrel
    by_cases hlt : k < l.length
    · have hltI : (k : Int) < (l.length : Int) := by omega
      obtain ⟨b, off, hA, hb, hc⟩ := HV.out.at (by omega)
      obtain ⟨b2, off2, hB, hb2, hc2⟩ := HV2.out.at (by omega)
      subst hA hB
      obtain ⟨lv, e0, e1, e2, hs, hn⟩ := hc k hlt
      obtain ⟨lv2, f0, f1, f2, hs2, _⟩ := hc2 k hlt
      obtain ⟨La, Lc, rfl⟩ := hs.form
      obtain ⟨La2, Lc2, rfl⟩ := hs2.form
      have hlx := HLL.out _ (List.getElem_mem hlt)
      obtain ⟨x, hx⟩ : ∃ x, x = l[k] := ⟨_, rfl⟩
      rw [← hx] at e0 e1 e2 f0 f1 f2 hs hs2 hlx
      have HS := Lib.hid hs
      have HS2 := Lib.hid hs2
      have g0 : wr.cell? ⟨b, off + k * 3, none⟩ = some (.int .u64 (x.num : Int)) := by rw [HW.out]; exact e0
      have g1 : wr.cell? ⟨b, off + k * 3 + 1, none⟩ = some (.string ⟨x.str.toArray⟩) := by rw [HW.out]; exact e1
      have g2 : wr.cell? ⟨b, off + k * 3 + 2, none⟩ = some (.slice La x.lst.length Lc) := by rw [HW.out]; exact e2
      have h0 : wr.cell? ⟨b2, off2 + k * 3, none⟩ = some (.int .u64 (x.num : Int)) := by rw [HW.out]; exact f0
      have h1 : wr.cell? ⟨b2, off2 + k * 3 + 1, none⟩ = some (.string ⟨x.str.toArray⟩) := by rw [HW.out]; exact f1
      have h2 : wr.cell? ⟨b2, off2 + k * 3 + 2, none⟩ = some (.slice La2 x.lst.length Lc2) := by rw [HW.out]; exact f2
      have hnum := ne_self x.num
      have hlen := ne_self x.lst.length
      have E2 := Lib.hid e2
      have F2 := Lib.hid f2
      clear hc hc2 hx hs hs2 e0 e1 e2 f0 f1 f2 hn
      go_wp2_with fail
      go_quiet (fail)
      go_wp2_with fail
      clear g0 g1 g2 h0 h1 h2 hnum hlen
      go_loopw [6] (fun i2 wr2 => ∃ k2 m2 : Nat, k2 ≤ x.lst.length ∧ i2 = .int .i64 k2 ∧ Hid (wr2 = w.drewN m2)) (fun i2 _ => x.lst.length - (intOf i2).toNat)
      case atStart => exact ⟨0, _, by omega, rfl, by rw [HW.out]; first | exact drew_drew _ _ _ | rfl⟩
      case round =>
        obtain ⟨k2, m2, hk2, rfl, HW2⟩ := hrel
        have g2 : wr.cell? ⟨b, off + k * 3 + 2, none⟩ = some (.slice La x.lst.length Lc) := by rw [HW2.out]; exact E2.out
        have h2 : wr.cell? ⟨b2, off2 + k * 3 + 2, none⟩ = some (.slice La2 x.lst.length Lc2) := by rw [HW2.out]; exact F2.out
        by_cases hlt2 : k2 < x.lst.length
        · have hltI2 : (k2 : Int) < (x.lst.length : Int) := by omega
          obtain ⟨p, po, hA, hp, hpc⟩ := HS.out.at (by omega)
          obtain ⟨p2, po2, hB, hp2, hpc2⟩ := HS2.out.at (by omega)
          subst hA hB
          have q1 : wr.cell? ⟨p, po + k2, none⟩ = some (enc32 x.lst[k2]) := by rw [HW2.out]; exact hpc k2 hlt2
          have q2 : wr.cell? ⟨p2, po2 + k2, none⟩ = some (enc32 x.lst[k2]) := by rw [HW2.out]; exact hpc2 k2 hlt2
          unfold enc32 at q1 q2
          obtain ⟨z, hz⟩ : ∃ z, z = x.lst[k2].toNat := ⟨_, rfl⟩
          rw [← hz] at q1 q2
          have hzz := ne_self z
          clear hpc hpc2 hz
          go_wp2_with fail
          go_quiet (fail)
          go_wp2_with fail
          go_roundw
          case rel => exact ⟨k2 + 1, _, by omega, by go_num, by rw [HW2.out]; first | exact drew_drew _ _ _ | rfl⟩
          case measure => simp [intOf]; omega
        · have hltI2 : ¬ ((k2 : Int) < (x.lst.length : Int)) := by omega
          go_wp2_with fail
          go_roundw
          case rel => exact ⟨k + 1, m2, by omega, by go_num, HW2.out⟩
          case measure => simp [intOf]; omega
    · have hltI : ¬ ((k : Int) < (l.length : Int)) := by omega
      go_wp2_with fail
      go_ret
      exact ⟨rfl, by rw [HW.out]; exact below_drewN (Below.refl _ _) m⟩

/-- How many bytes a list of values has, roughly. -/
def sumV : List Rm.Val → Nat
  | [] => 0
  | v :: l => v.str.length + 4 * v.lst.length + sumV l
theorem sumV_snoc : ∀ (l : List Rm.Val) (v : Rm.Val), sumV (l ++ [v]) = sumV l + (v.str.length + 4 * v.lst.length)
  | [], v => by simp [sumV]
  | x :: l, v => by simp only [List.cons_append, sumV, sumV_snoc l v]; omega
def badV (v : Rm.Val) : Bool := decide (500 < v.str.length) || decide (70 < v.lst.length)
/-- What far says. -/
def farB (l : List Rm.Val) : Bool := decide (70 < l.length) || (l.any badV || decide (6000 < sumV l))
set_option maxRecDepth 100000 in
set_option maxHeartbeats 2000000 in
theorem far_any (w : World) (lim : Nat) (v : Value) (l : List Rm.Val) (hv : VL w lim v l) (hl : l.length ≤ 9223372036854775807) :
    Calls Try.prog 9 #[v] w fun e w' => e = .returned (.bool (farB l)) ∧ Below w.heap.size w w' := by
  obtain ⟨A, c0, rfl⟩ := hv.form
  have HV := Lib.hid hv
  clear hv
  by_cases h70 : 70 < l.length
  · have HF : Hid (farB l = true) := by unfold farB; rw [decide_eq_true h70]; rfl
    have hI : (70 : Int) < (l.length : Int) := by omega
    go_enter Try.func9, Try.ntmps9
    go_wp2_with fail
    go_ret
    exact ⟨ret_bool HF.out.symm, Below.refl _ _⟩
  · have HF : Hid (farB l = (l.any badV || decide (6000 < sumV l))) := by unfold farB; rw [decide_eq_false h70]; rfl
    have hI : ¬ (70 : Int) < (l.length : Int) := by omega
    go_enter Try.func9, Try.ntmps9
    go_wp2_with fail
    go_loopw [3, 4] (fun n i wr => ∃ k m s : Nat, k ≤ l.length ∧ i = .int .i64 k ∧ n = .int .i64 (s : Int) ∧ Hid (s = sumV (l.take k)) ∧ s ≤ 1000 * k ∧ Hid ((l.take k).any badV = false) ∧ Hid (wr = w.drewN m)) (fun _ i _ => l.length - (intOf i).toNat)
    case atStart => exact ⟨0, 0, 0, by omega, rfl, rfl, rfl, by omega, rfl, rfl⟩
    case round =>
      obtain ⟨k, m, s, hk, rfl, rfl, HS, hs1, HN, HW⟩ := hrel
      by_cases hlt : k < l.length
      · have hltI : (k : Int) < (l.length : Int) := by omega
        obtain ⟨b, off, hA, hb, hc⟩ := HV.out.at (by omega)
        subst hA
        obtain ⟨lv, e0, e1, e2, hs, hn⟩ := hc k hlt
        obtain ⟨La, Lc, rfl⟩ := hs.form
        have htk := Rm.take_next l k hlt
        have hmem : Hid (badV l[k] = true → l.any badV = true) := fun h => List.any_eq_true.2 ⟨_, List.getElem_mem hlt, h⟩
        obtain ⟨x, hx⟩ : ∃ x, x = l[k] := ⟨_, rfl⟩
        rw [← hx] at e0 e1 e2 htk hmem
        have HX := Lib.hid hx
        have HTK := Lib.hid htk
        have g1 : wr.cell? ⟨b, off + k * 3 + 1, none⟩ = some (.string ⟨x.str.toArray⟩) := by rw [HW.out]; exact e1
        have g2 : wr.cell? ⟨b, off + k * 3 + 2, none⟩ = some (.slice La x.lst.length Lc) := by rw [HW.out, HX.out]; rw [← HX.out]; exact e2
        clear hc hx hs e0 e1 e2 hn htk
        by_cases hs5 : 500 < x.str.length
        · have hs5I : (500 : Int) < (x.str.length : Int) := by omega
          have HB : Hid (farB l = true) := by
            rw [HF.out]
            have := hmem.out (by unfold badV; rw [decide_eq_true hs5]; rfl)
            rw [this]; rfl
          go_wp2_with fail
          go_ret
          exact ⟨ret_bool HB.out.symm, by rw [HW.out]; exact below_drewN (Below.refl _ _) m⟩
        · have hs5I : ¬ (500 : Int) < (x.str.length : Int) := by omega
          by_cases hl7 : 70 < x.lst.length
          · have hl7I : (70 : Int) < (x.lst.length : Int) := by omega
            have HB : Hid (farB l = true) := by
              rw [HF.out]
              have := hmem.out (by unfold badV; rw [decide_eq_true hl7, Bool.or_true])
              rw [this]; rfl
            go_wp2_with fail
            go_ret
            exact ⟨ret_bool HB.out.symm, by rw [HW.out]; exact below_drewN (Below.refl _ _) m⟩
          · have hl7I : ¬ (70 : Int) < (x.lst.length : Int) := by omega
            have HN2 : Hid ((l.take (k + 1)).any badV = false) := by
              show (l.take (k + 1)).any badV = false
              rw [HTK.out, List.any_append, HN.out]
              simp [badV]; omega
            have HS2 : Hid (s + (x.str.length + 4 * x.lst.length) = sumV (l.take (k + 1))) := by rw [HTK.out, sumV_snoc, ← HS.out]; rfl
            go_wp2_with fail
            go_quiet (fail)
            go_wp2_with fail
            go_roundw
            case rel => exact ⟨k + 1, _, s + (x.str.length + 4 * x.lst.length), by omega, by go_num, by go_num, HS2.out, by omega, HN2.out, by rw [HW.out]; first | exact drew_drew _ _ _ | rfl⟩
            case measure => simp [intOf]; omega
      · obtain rfl : k = l.length := by omega
        have hltI : ¬ ((l.length : Int) < (l.length : Int)) := by omega
        have hd : decide ((6000 : Int) < (s : Int)) = farB l := by
          rw [HF.out]
          have h1 := HN.out
          have h2 := HS.out
          rw [List.take_length] at h1 h2
          rw [h1, Bool.false_or, ← h2]
          rw [Bool.eq_iff_iff, decide_eq_true_iff, decide_eq_true_iff]; omega
        have HD := Lib.hid hd
        clear hd
        go_wp2_with fail
        go_ret
        exact ⟨ret_bool HD.out, by rw [HW.out]; exact below_drewN (Below.refl _ _) m⟩
end Go.Proofs.Ytelpgjaagkojeaa
