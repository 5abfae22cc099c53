/- The contracts of the reference's Set, Fill and Not. Condition: the bools lie as said, at most 100000 of them. -/
import Derived.Test.YtanppmpijadhbaaRCopy
import Derived.Test.YtanppmpijadhbaaSame
namespace Go.Proofs.Ytanppmpijadhbaa
open Go.RowKit

theorem rset_bad (w : World) (A : Option Addr) (c : Nat) (l : List Bool) (i : Int) (t : Bool) (h : ¬ (0 ≤ i ∧ i < (l.length : Int))) :
    Calls Try.prog 39 #[.slice A l.length c, .int .i64 i, .bool t] w fun e w' => e = .returned (.tuple #[.slice A l.length c, .int .i64 7]) ∧ w = w' := by
  by_cases c1 : 0 ≤ i
  · have c2 : ¬ i < (l.length : Int) := by omega
    clear h
    go_enter Try.func39, Try.ntmps39
    go_wp2_with fail
    go_ret2
    exact ⟨rfl, rfl⟩
  · clear h
    go_enter Try.func39, Try.ntmps39
    go_wp2_with fail
    go_ret2
    exact ⟨rfl, rfl⟩
set_option maxRecDepth 100000 in
theorem rset_ok (w : World) (v : Value) (l : List Bool) (i : Nat) (t : Bool) (hv : SL encT w w.heap.size v l) (hl : l.length ≤ 100000) (h : i < l.length) :
    Calls Try.prog 39 #[v, .int .i64 (i : Int), .bool t] w fun e w' => ∃ g cap, e = .returned (.tuple #[.slice (some ⟨g, 0, none⟩) l.length cap, .int .i64 0]) ∧ OwnC w' w.heap.size g l.length cap (Bm.upd (listF l) i t) ∧ Below w.heap.size w w' := by
  have HC := Lib.hid (rcopy_any w v l hv hl)
  obtain ⟨A, c, rfl⟩ := hv.form
  have h0 : (0 : Int) ≤ (i : Int) := by omega
  have h1 : (i : Int) < (l.length : Int) := by omega
  clear hv
  go_enter Try.func39, Try.ntmps39
  go_wp2_with fail
  refine HC.out.mono ?_
  rintro e w1 ⟨g, cap, rfl, ho, hb⟩
  have hcell := ho.cell h
  have hfz := ho.free i
  have HS := Lib.hid (ho.set (i := i) t)
  have HB := Lib.hid (hb.setCell (p := ⟨g, i, none⟩) ho.ge (.bool t))
  clear ho hb HC
  go_wp2_with fail
  go_ret2
  exact ⟨g, cap, rfl, HS.out, HB.out⟩
theorem rfill_bad (w : World) (A : Option Addr) (c : Nat) (l : List Bool) (i k : Int) (t : Bool) (hv : SL encT w w.heap.size (.slice A l.length c) l) (hl : l.length ≤ 100000) (hi : i64 i) (h : ¬ (0 ≤ i ∧ i ≤ (l.length : Int) ∧ 0 ≤ k ∧ k ≤ (l.length : Int) - i)) :
    Calls Try.prog 41 #[.slice A l.length c, .int .i64 i, .int .i64 k, .bool t] w fun e w' => e = .returned (.tuple #[.slice A l.length c, .int .i64 7]) ∧ w = w' := by
  have H := Lib.hid (rin_no w _ l i k hv hl hi h)
  clear hv hi h
  go_enter Try.func41, Try.ntmps41
  go_wp2_with fail
  refine H.out.mono ?_
  rintro e w' ⟨rfl, rfl⟩
  go_wp2_with fail
  go_ret2
  exact ⟨rfl, rfl⟩
set_option maxRecDepth 100000 in
set_option maxHeartbeats 1000000 in
theorem rfill_ok (w : World) (v : Value) (l : List Bool) (i k : Nat) (t : Bool) (hv : SL encT w w.heap.size v l) (hl : l.length ≤ 100000) (h : i + k ≤ l.length) :
    Calls Try.prog 41 #[v, .int .i64 (i : Int), .int .i64 (k : Int), .bool t] w fun e w' => ∃ g cap, e = .returned (.tuple #[.slice (some ⟨g, 0, none⟩) l.length cap, .int .i64 0]) ∧ OwnC w' w.heap.size g l.length cap (fillF (listF l) i k t) ∧ Below w.heap.size w w' := by
  have HI := Lib.hid (rin_ok w v l i k hv hl (by omega))
  have HC := Lib.hid (rcopy_any w v l hv hl)
  obtain ⟨A, c, rfl⟩ := hv.form
  clear hv
  go_enter Try.func41, Try.ntmps41
  go_wp2_with fail
  refine HI.out.mono ?_
  rintro e w' ⟨rfl, rfl⟩
  go_wp2_with fail
  refine HC.out.mono ?_
  rintro e w1 ⟨g, cap, rfl, ho, hb⟩
  have HO := Lib.hid ho
  have HB := Lib.hid hb
  clear ho hb HC
  go_wp2_with fail
  go_loopw [11] (fun s wr => ∃ m : Nat, m ≤ k ∧ s = .int .i64 ((i : Int) + (m : Int)) ∧ OwnC wr w.heap.size g l.length cap (fillF (listF l) i m t) ∧ Below w.heap.size w wr) (fun s _ => i + k - (intOf s).toNat)
  case atStart => exact ⟨0, Nat.zero_le _, by go_num, by rw [fillF_zero]; exact HO.out, HB.out⟩
  case round =>
    obtain ⟨m, hm, rfl, ho, hB⟩ := hrel
    by_cases hlt : m < k
    · have hltI : (i : Int) + (m : Int) < (i : Int) + (k : Int) := by omega
      have hlI : (i : Int) + (m : Int) < (l.length : Int) := by omega
      have hcell := ho.cell (i := i + m) (by omega)
      have hfz := ho.free (i + m)
      have hst := ho.set (i := i + m) t
      rw [fillF_succ] at hst
      have HS := Lib.hid hst
      have HB2 := Lib.hid (hB.setCell (p := ⟨g, i + m, none⟩) ho.ge (.bool t))
      clear hst ho hB HO HB
      go_wp2_with fail
      go_roundw
      case rel => exact ⟨m + 1, by omega, by go_num, HS.out, HB2.out⟩
      case measure => simp only [intOf]; omega
    · have hltI : ¬ (i : Int) + (m : Int) < (i : Int) + (k : Int) := by omega
      obtain rfl : m = k := by omega
      have HS := Lib.hid ho
      have HB2 := Lib.hid hB
      clear ho hB
      go_wp2_with fail
      go_ret2
      exact ⟨g, cap, rfl, HS.out, HB2.out⟩
set_option maxRecDepth 100000 in
set_option maxHeartbeats 1000000 in
theorem rnot_ok (w : World) (v : Value) (l : List Bool) (hv : SL encT w w.heap.size v l) (hl : l.length ≤ 100000) :
    Calls Try.prog 46 #[v] w fun e w' => e = .returned (.slice (some ⟨w.heap.size, 0, none⟩) l.length l.length) ∧ OwnT w' w.heap.size w.heap.size l.length (notF l.length (listF l)) ∧ Below w.heap.size w w' := by
  obtain ⟨i0, hi, hz0, hz1, hz2⟩ := info_parts info_bool
  obtain ⟨A, c, rfl⟩ := hv.form
  have HV := Lib.hid hv
  clear hv
  go_enter Try.func46, Try.ntmps46
  go_wp2_with (at_make; refine wpList_make_full _ rfl _ _ 27 rfl w.heap.size 4 i0 (.bool false) 1 Try.underlying27 hi hz0 hz1 _ _ _ _ l.length rfl rfl rfl rfl ?c1 ?c2 ?c3 ?_)
  case c1 => rw [hz2]; omega
  case c2 => unfold maxLen; omega
  case c3 => omega
  intro w1 hown hgrow
  rw [made_bool, boolV_rep] at hown
  have HO : Hid (OwnT w1 w.heap.size w.heap.size l.length (fun _ => false)) := hown
  have HB : Hid (Below w.heap.size w w1) := (Below.refl _ _).grown hgrow (Nat.le_refl _) (by simp)
  clear hown hgrow
  go_wp2_with fail
  go_loopw [4] (fun i wr => ∃ k : Nat, k ≤ l.length ∧ i = .int .i64 (k : Int) ∧ OwnT wr w.heap.size w.heap.size l.length (Bm.cut (notF l.length (listF l)) k) ∧ Below w.heap.size w wr) (fun i _ => l.length - (intOf i).toNat)
  case atStart => exact ⟨0, Nat.zero_le _, rfl, by rw [Bm.cut_zero]; exact HO.out, HB.out⟩
  case round =>
    obtain ⟨k, hk, rfl, ho, hB⟩ := hrel
    by_cases hlt : k < l.length
    · have hltI : (k : Int) < (l.length : Int) := by omega
      obtain ⟨b, off, hA, hb, hc⟩ := HV.out.at (by omega)
      subst hA
      have p1 := (hB.cell (p := ⟨b, off + k, none⟩) hb).trans (hc k hlt)
      unfold encT at p1
      have hfz := ho.free k
      have hrow := ho.cell hlt
      have hst := (ho.set (i := k) (notF l.length (listF l) k)).congr (fun i _ => upd_cut i)
      have hval : notF l.length (listF l) k = !l[k] := by
        unfold notF; rw [decide_eq_true hlt, listF_at l k hlt]; rfl
      rw [hval] at hst
      obtain ⟨x, hx⟩ : ∃ x, x = l[k] := ⟨_, rfl⟩
      rw [← hx] at hst p1
      have HS := Lib.hid hst
      have HB2 := Lib.hid hB
      clear hst ho hB HO HB hc hval hx
      go_wp2_with fail
      go_roundw
      case rel => exact ⟨k + 1, by omega, by go_num, HS.out, HB2.out.setCell (Nat.le_refl _) _⟩
      case measure => simp only [intOf]; omega
    · have hltI : ¬ (k : Int) < (l.length : Int) := by omega
      have HO2 : Hid (OwnT w1 w.heap.size w.heap.size l.length (fun _ => false)) := HO.out
      have HO3 : Hid (OwnT wr w.heap.size w.heap.size l.length (notF l.length (listF l))) := ho.congr (fun i hi => by
        unfold Bm.cut; rw [decide_eq_true (p := i < k) (by omega), Bool.true_and])
      have HB2 := Lib.hid hB
      clear ho hB HO2
      go_wp2_with fail
      go_ret
      exact ⟨rfl, HO3.out, HB2.out⟩
end Go.Proofs.Ytanppmpijadhbaa
