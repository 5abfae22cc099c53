/- The contracts of the reference's And, Or and Xor. Condition: the bools lie as said. -/
import Derived.Test.YtanppmpijadhbaaRLoadB
import Derived.Test.YtanppmpijadhbaaComb
import Derived.RegionTactic
import Derived.ChangeAlike
import Derived.BigRegion
namespace Go.Proofs.Ytanppmpijadhbaa
open Go.RowKit

theorem rboth_arg (w : World) (u v : Value) (l m : List Bool) (k : Int) (hu : SL encT w w.heap.size u l) (hv : SL encT w w.heap.size v m) (hne : l.length ≠ m.length) :
    Calls Try.prog 54 #[u, v, .int .i64 k] w fun e w' => e = .returned (.tuple #[.slice none 0 0, .int .i64 2]) ∧ w = w' := by
  obtain ⟨A, c, rfl⟩ := hu.form
  obtain ⟨A2, c2, rfl⟩ := hv.form
  have h1 : ((l.length : Int) != (m.length : Int)) = true := by rw [bne_iff_ne]; omega
  clear hu hv hne
  go_enter Try.func54, Try.ntmps54
  go_wp2_with fail
  go_ret2
  exact ⟨rfl, rfl⟩
set_option maxRecDepth 100000 in
set_option maxHeartbeats 2000000 in
theorem rboth_and (w : World) (N : Nat) (u v : Value) (l m : List Bool) (hu : SL encT w w.heap.size u l) (hv : SL encT w w.heap.size v m) (hl : l.length = N) (hm : m.length = N) (hN : N ≤ 100000) :
    Calls Try.prog 54 #[u, v, .int .i64 0] w fun e w' => e = .returned (.tuple #[.slice (some ⟨w.heap.size, 0, none⟩) N N, .int .i64 0]) ∧ OwnT w' w.heap.size w.heap.size N (andF (listF l) (listF m)) ∧ Below w.heap.size w w' := by
  obtain ⟨A, c, rfl⟩ := hu.form
  obtain ⟨A2, c2, rfl⟩ := hv.form
  obtain ⟨i0, hi, hz0, hz1, hz2⟩ := info_parts info_bool
  have HU := Lib.hid hu
  have HV := Lib.hid hv
  have HLL := Lib.hid hl
  have HMM := Lib.hid hm
  rw [hl, hm]
  clear hu hv hl hm
  go_enter Try.func54, Try.ntmps54
  go_wp2_with (at_make; refine wpList_make_full _ rfl _ _ 27 rfl w.heap.size 4 i0 (.bool false) 1 Try.underlying27 hi hz0 hz1 _ _ _ _ N rfl rfl rfl rfl ?c1 ?c2 ?c3 ?_)
  case c1 => rw [hz2]; omega
  case c2 => unfold maxLen; omega
  case c3 => omega
  intro w1 hown hgrow
  rw [made_bool, boolV_rep] at hown
  have HO : Hid (OwnT w1 w.heap.size w.heap.size N (fun _ => false)) := hown
  have HB : Hid (Below w.heap.size w w1) := (Below.refl _ _).grown hgrow (Nat.le_refl _) (by simp)
  clear hown hgrow
  go_wp2_with fail
  go_loopw [9] (fun i wr => ∃ k : Nat, k ≤ N ∧ i = .int .i64 (k : Int) ∧ OwnT wr w.heap.size w.heap.size N (Bm.cut (andF (listF l) (listF m)) k) ∧ Below w.heap.size w wr) (fun i _ => N - (intOf i).toNat)
  case atStart => exact ⟨0, Nat.zero_le _, rfl, by rw [Bm.cut_zero]; exact HO.out, HB.out⟩
  case round =>
    obtain ⟨k, hk, rfl, ho, hB⟩ := hrel
    by_cases hlt : k < N
    · have hltI : (k : Int) < (N : Int) := by omega
      have hll := HLL.out
      have hmm := HMM.out
      have k1 : k < l.length := by omega
      have k2 : k < m.length := by omega
      obtain ⟨b, off, hA, hb, hc⟩ := HU.out.at (by omega)
      obtain ⟨b', off', hA', hb', hc'⟩ := HV.out.at (by omega)
      subst hA hA'
      have p1 := (hB.cell (p := ⟨b, off + k, none⟩) hb).trans (hc k k1)
      have p2 := (hB.cell (p := ⟨b', off' + k, none⟩) hb').trans (hc' k k2)
      unfold encT at p1 p2
      have hfz := ho.free k
      have hrow := ho.cell hlt
      have hst := (ho.set (i := k) (andF (listF l) (listF m) k)).congr (fun i _ => upd_cut i)
      have hval : andF (listF l) (listF m) k = (l[k] && m[k]) := by
        show (listF l k && listF m k) = _
        rw [listF_at l k k1, listF_at m k k2]
      rw [hval] at hst
      obtain ⟨x, hx⟩ : ∃ x, x = l[k] := ⟨_, rfl⟩
      obtain ⟨z, hz⟩ : ∃ z, z = m[k] := ⟨_, rfl⟩
      rw [← hx, ← hz] at hst
      rw [← hx] at p1
      rw [← hz] at p2
      have HS := Lib.hid hst
      have HB2 := Lib.hid hB
      clear hst ho hB HO HB hc hc' hval hx hz hll hmm
      cases x
      all_goals
        go_wp2_with fail
        go_roundw
        case rel => exact ⟨k + 1, by omega, by go_num, HS.out, HB2.out.setCell (Nat.le_refl _) _⟩
        case measure => simp only [intOf]; omega
    · have hltI : ¬ (k : Int) < (N : Int) := by omega
      have HO2 : Hid (OwnT wr w.heap.size w.heap.size N (andF (listF l) (listF m))) := ho.congr (fun i hi => by
        unfold Bm.cut; rw [decide_eq_true (p := i < k) (by omega), Bool.true_and])
      have HB2 := Lib.hid hB
      clear ho hB
      go_wp2_with fail
      go_ret2
      exact ⟨rfl, HO2.out, HB2.out⟩
theorem rand_ok (w : World) (N : Nat) (u v : Value) (l m : List Bool) (hu : SL encT w w.heap.size u l) (hv : SL encT w w.heap.size v m) (hl : l.length = N) (hm : m.length = N) (hN : N ≤ 100000) :
    Calls Try.prog 25 #[u, v] w fun e w' => e = .returned (.tuple #[.slice (some ⟨w.heap.size, 0, none⟩) N N, .int .i64 0]) ∧ OwnT w' w.heap.size w.heap.size N (andF (listF l) (listF m)) ∧ Below w.heap.size w w' := by
  have HC := Lib.hid (rboth_and w N u v l m hu hv hl hm hN)
  clear hu hv hl hm
  go_enter Try.func25, Try.ntmps25
  go_wp2_with fail
  refine HC.out.mono ?_
  rintro e w' ⟨rfl, ho, hb⟩
  have HO := Lib.hid ho
  have HB := Lib.hid hb
  clear ho hb
  go_wp2_with fail
  go_ret2
  exact ⟨rfl, HO.out, HB.out⟩
theorem rand_arg (w : World) (u v : Value) (l m : List Bool) (hu : SL encT w w.heap.size u l) (hv : SL encT w w.heap.size v m) (hne : l.length ≠ m.length) :
    Calls Try.prog 25 #[u, v] w fun e w' => e = .returned (.tuple #[.slice none 0 0, .int .i64 2]) ∧ w = w' := by
  have HC := Lib.hid (rboth_arg w u v l m 0 hu hv hne)
  clear hu hv hne
  go_enter Try.func25, Try.ntmps25
  go_wp2_with fail
  refine HC.out.mono ?_
  rintro e w' ⟨rfl, rfl⟩
  go_wp2_with fail
  go_ret2
  exact ⟨rfl, rfl⟩
set_option maxRecDepth 100000 in
set_option maxHeartbeats 2000000 in
theorem rboth_or (w : World) (N : Nat) (u v : Value) (l m : List Bool) (hu : SL encT w w.heap.size u l) (hv : SL encT w w.heap.size v m) (hl : l.length = N) (hm : m.length = N) (hN : N ≤ 100000) :
    Calls Try.prog 54 #[u, v, .int .i64 1] w fun e w' => e = .returned (.tuple #[.slice (some ⟨w.heap.size, 0, none⟩) N N, .int .i64 0]) ∧ OwnT w' w.heap.size w.heap.size N (orF (listF l) (listF m)) ∧ Below w.heap.size w w' := by
  obtain ⟨A, c, rfl⟩ := hu.form
  obtain ⟨A2, c2, rfl⟩ := hv.form
  obtain ⟨i0, hi, hz0, hz1, hz2⟩ := info_parts info_bool
  have HU := Lib.hid hu
  have HV := Lib.hid hv
  have HLL := Lib.hid hl
  have HMM := Lib.hid hm
  rw [hl, hm]
  clear hu hv hl hm
  go_enter Try.func54, Try.ntmps54
  go_wp2_with (at_make; refine wpList_make_full _ rfl _ _ 27 rfl w.heap.size 4 i0 (.bool false) 1 Try.underlying27 hi hz0 hz1 _ _ _ _ N rfl rfl rfl rfl ?c1 ?c2 ?c3 ?_)
  case c1 => rw [hz2]; omega
  case c2 => unfold maxLen; omega
  case c3 => omega
  intro w1 hown hgrow
  rw [made_bool, boolV_rep] at hown
  have HO : Hid (OwnT w1 w.heap.size w.heap.size N (fun _ => false)) := hown
  have HB : Hid (Below w.heap.size w w1) := (Below.refl _ _).grown hgrow (Nat.le_refl _) (by simp)
  clear hown hgrow
  go_wp2_with fail
  go_loopw [9] (fun i wr => ∃ k : Nat, k ≤ N ∧ i = .int .i64 (k : Int) ∧ OwnT wr w.heap.size w.heap.size N (Bm.cut (orF (listF l) (listF m)) k) ∧ Below w.heap.size w wr) (fun i _ => N - (intOf i).toNat)
  case atStart => exact ⟨0, Nat.zero_le _, rfl, by rw [Bm.cut_zero]; exact HO.out, HB.out⟩
  case round =>
    obtain ⟨k, hk, rfl, ho, hB⟩ := hrel
    by_cases hlt : k < N
    · have hltI : (k : Int) < (N : Int) := by omega
      have hll := HLL.out
      have hmm := HMM.out
      have k1 : k < l.length := by omega
      have k2 : k < m.length := by omega
      obtain ⟨b, off, hA, hb, hc⟩ := HU.out.at (by omega)
      obtain ⟨b', off', hA', hb', hc'⟩ := HV.out.at (by omega)
      subst hA hA'
      have p1 := (hB.cell (p := ⟨b, off + k, none⟩) hb).trans (hc k k1)
      have p2 := (hB.cell (p := ⟨b', off' + k, none⟩) hb').trans (hc' k k2)
      unfold encT at p1 p2
      have hfz := ho.free k
      have hrow := ho.cell hlt
      have hst := (ho.set (i := k) (orF (listF l) (listF m) k)).congr (fun i _ => upd_cut i)
      have hval : orF (listF l) (listF m) k = (l[k] || m[k]) := by
        show (listF l k || listF m k) = _
        rw [listF_at l k k1, listF_at m k k2]
      rw [hval] at hst
      obtain ⟨x, hx⟩ : ∃ x, x = l[k] := ⟨_, rfl⟩
      obtain ⟨z, hz⟩ : ∃ z, z = m[k] := ⟨_, rfl⟩
      rw [← hx, ← hz] at hst
      rw [← hx] at p1
      rw [← hz] at p2
      have HS := Lib.hid hst
      have HB2 := Lib.hid hB
      clear hst ho hB HO HB hc hc' hval hx hz hll hmm
      cases x
      all_goals
        go_wp2_with fail
        go_roundw
        case rel => exact ⟨k + 1, by omega, by go_num, HS.out, HB2.out.setCell (Nat.le_refl _) _⟩
        case measure => simp only [intOf]; omega
    · have hltI : ¬ (k : Int) < (N : Int) := by omega
      have HO2 : Hid (OwnT wr w.heap.size w.heap.size N (orF (listF l) (listF m))) := ho.congr (fun i hi => by
        unfold Bm.cut; rw [decide_eq_true (p := i < k) (by omega), Bool.true_and])
      have HB2 := Lib.hid hB
      clear ho hB
      go_wp2_with fail
      go_ret2
      exact ⟨rfl, HO2.out, HB2.out⟩
theorem ror_ok (w : World) (N : Nat) (u v : Value) (l m : List Bool) (hu : SL encT w w.heap.size u l) (hv : SL encT w w.heap.size v m) (hl : l.length = N) (hm : m.length = N) (hN : N ≤ 100000) :
    Calls Try.prog 26 #[u, v] w fun e w' => e = .returned (.tuple #[.slice (some ⟨w.heap.size, 0, none⟩) N N, .int .i64 0]) ∧ OwnT w' w.heap.size w.heap.size N (orF (listF l) (listF m)) ∧ Below w.heap.size w w' := by
  have HC := Lib.hid (rboth_or w N u v l m hu hv hl hm hN)
  clear hu hv hl hm
  go_enter Try.func26, Try.ntmps26
  go_wp2_with fail
  refine HC.out.mono ?_
  rintro e w' ⟨rfl, ho, hb⟩
  have HO := Lib.hid ho
  have HB := Lib.hid hb
  clear ho hb
  go_wp2_with fail
  go_ret2
  exact ⟨rfl, HO.out, HB.out⟩
theorem ror_arg (w : World) (u v : Value) (l m : List Bool) (hu : SL encT w w.heap.size u l) (hv : SL encT w w.heap.size v m) (hne : l.length ≠ m.length) :
    Calls Try.prog 26 #[u, v] w fun e w' => e = .returned (.tuple #[.slice none 0 0, .int .i64 2]) ∧ w = w' := by
  have HC := Lib.hid (rboth_arg w u v l m 1 hu hv hne)
  clear hu hv hne
  go_enter Try.func26, Try.ntmps26
  go_wp2_with fail
  refine HC.out.mono ?_
  rintro e w' ⟨rfl, rfl⟩
  go_wp2_with fail
  go_ret2
  exact ⟨rfl, rfl⟩
set_option maxRecDepth 100000 in
set_option maxHeartbeats 2000000 in
theorem rboth_xor (w : World) (N : Nat) (u v : Value) (l m : List Bool) (hu : SL encT w w.heap.size u l) (hv : SL encT w w.heap.size v m) (hl : l.length = N) (hm : m.length = N) (hN : N ≤ 100000) :
    Calls Try.prog 54 #[u, v, .int .i64 2] w fun e w' => e = .returned (.tuple #[.slice (some ⟨w.heap.size, 0, none⟩) N N, .int .i64 0]) ∧ OwnT w' w.heap.size w.heap.size N (xorF (listF l) (listF m)) ∧ Below w.heap.size w w' := by
  obtain ⟨A, c, rfl⟩ := hu.form
  obtain ⟨A2, c2, rfl⟩ := hv.form
  obtain ⟨i0, hi, hz0, hz1, hz2⟩ := info_parts info_bool
  have HU := Lib.hid hu
  have HV := Lib.hid hv
  have HLL := Lib.hid hl
  have HMM := Lib.hid hm
  rw [hl, hm]
  clear hu hv hl hm
  go_enter Try.func54, Try.ntmps54
  go_wp2_with (at_make; refine wpList_make_full _ rfl _ _ 27 rfl w.heap.size 4 i0 (.bool false) 1 Try.underlying27 hi hz0 hz1 _ _ _ _ N rfl rfl rfl rfl ?c1 ?c2 ?c3 ?_)
  case c1 => rw [hz2]; omega
  case c2 => unfold maxLen; omega
  case c3 => omega
  intro w1 hown hgrow
  rw [made_bool, boolV_rep] at hown
  have HO : Hid (OwnT w1 w.heap.size w.heap.size N (fun _ => false)) := hown
  have HB : Hid (Below w.heap.size w w1) := (Below.refl _ _).grown hgrow (Nat.le_refl _) (by simp)
  clear hown hgrow
  go_wp2_with fail
  go_loopw [9] (fun i wr => ∃ k : Nat, k ≤ N ∧ i = .int .i64 (k : Int) ∧ OwnT wr w.heap.size w.heap.size N (Bm.cut (xorF (listF l) (listF m)) k) ∧ Below w.heap.size w wr) (fun i _ => N - (intOf i).toNat)
  case atStart => exact ⟨0, Nat.zero_le _, rfl, by rw [Bm.cut_zero]; exact HO.out, HB.out⟩
  case round =>
    obtain ⟨k, hk, rfl, ho, hB⟩ := hrel
    by_cases hlt : k < N
    · have hltI : (k : Int) < (N : Int) := by omega
      have hll := HLL.out
      have hmm := HMM.out
      have k1 : k < l.length := by omega
      have k2 : k < m.length := by omega
      obtain ⟨b, off, hA, hb, hc⟩ := HU.out.at (by omega)
      obtain ⟨b', off', hA', hb', hc'⟩ := HV.out.at (by omega)
      subst hA hA'
      have p1 := (hB.cell (p := ⟨b, off + k, none⟩) hb).trans (hc k k1)
      have p2 := (hB.cell (p := ⟨b', off' + k, none⟩) hb').trans (hc' k k2)
      unfold encT at p1 p2
      have hfz := ho.free k
      have hrow := ho.cell hlt
      have hst := (ho.set (i := k) (xorF (listF l) (listF m) k)).congr (fun i _ => upd_cut i)
      have hval : xorF (listF l) (listF m) k = (l[k] != m[k]) := by
        show (listF l k != listF m k) = _
        rw [listF_at l k k1, listF_at m k k2]
      rw [hval] at hst
      obtain ⟨x, hx⟩ : ∃ x, x = l[k] := ⟨_, rfl⟩
      obtain ⟨z, hz⟩ : ∃ z, z = m[k] := ⟨_, rfl⟩
      rw [← hx, ← hz] at hst
      rw [← hx] at p1
      rw [← hz] at p2
      have HS := Lib.hid hst
      have HB2 := Lib.hid hB
      clear hst ho hB HO HB hc hc' hval hx hz hll hmm
      go_wp2_with fail
      go_region
      all_goals
        go_wp2_with fail
        go_roundw
        case rel => exact ⟨k + 1, by omega, by go_num, World.ownsRow.kept HS.out (grown_drewN (grown_refl _ none) 1) (.inr (by simp [Value.ownBlock])), (HB2.out.setCell (Nat.le_refl _) _).drew⟩
        case measure => simp only [intOf]; omega
    · have hltI : ¬ (k : Int) < (N : Int) := by omega
      have HO2 : Hid (OwnT wr w.heap.size w.heap.size N (xorF (listF l) (listF m))) := ho.congr (fun i hi => by
        unfold Bm.cut; rw [decide_eq_true (p := i < k) (by omega), Bool.true_and])
      have HB2 := Lib.hid hB
      clear ho hB
      go_wp2_with fail
      go_ret2
      exact ⟨rfl, HO2.out, HB2.out⟩
theorem rxor_ok (w : World) (N : Nat) (u v : Value) (l m : List Bool) (hu : SL encT w w.heap.size u l) (hv : SL encT w w.heap.size v m) (hl : l.length = N) (hm : m.length = N) (hN : N ≤ 100000) :
    Calls Try.prog 27 #[u, v] w fun e w' => e = .returned (.tuple #[.slice (some ⟨w.heap.size, 0, none⟩) N N, .int .i64 0]) ∧ OwnT w' w.heap.size w.heap.size N (xorF (listF l) (listF m)) ∧ Below w.heap.size w w' := by
  have HC := Lib.hid (rboth_xor w N u v l m hu hv hl hm hN)
  clear hu hv hl hm
  go_enter Try.func27, Try.ntmps27
  go_wp2_with fail
  refine HC.out.mono ?_
  rintro e w' ⟨rfl, ho, hb⟩
  have HO := Lib.hid ho
  have HB := Lib.hid hb
  clear ho hb
  go_wp2_with fail
  go_ret2
  exact ⟨rfl, HO.out, HB.out⟩
theorem rxor_arg (w : World) (u v : Value) (l m : List Bool) (hu : SL encT w w.heap.size u l) (hv : SL encT w w.heap.size v m) (hne : l.length ≠ m.length) :
    Calls Try.prog 27 #[u, v] w fun e w' => e = .returned (.tuple #[.slice none 0 0, .int .i64 2]) ∧ w = w' := by
  have HC := Lib.hid (rboth_arg w u v l m 2 hu hv hne)
  clear hu hv hne
  go_enter Try.func27, Try.ntmps27
  go_wp2_with fail
  refine HC.out.mono ?_
  rintro e w' ⟨rfl, rfl⟩
  go_wp2_with fail
  go_ret2
  exact ⟨rfl, rfl⟩
end Go.Proofs.Ytanppmpijadhbaa
