/- The contracts of paths.Check and of the reference's Check: both return checkE of the path, and the world stays. Condition: the strings are of at most 10^9 bytes. -/
import Derived.Test.YtgfmfeaapffdfaaDoorRName
namespace Go.Proofs.YtgfmfeaapffdfaaDoor
open Go.RowKit

theorem name_call {P : Program} {f : FuncId} {args : Array Value} {w : World} {R : Ending → World → Prop} (h : Calls P f args w R) : Calls P f args w R := h

set_option maxRecDepth 100000 in
set_option maxHeartbeats 1000000 in
theorem check_any (w : World) (v : Value) (p : Path) (hv : SL encS w w.heap.size v p) (hs : ∀ s ∈ p, s.size ≤ 1000000000) :
    Calls Tryd.prog 19 #[v] w fun e w' => e = .returned (.int .i64 (checkE p : Nat)) ∧ w = w' := by
  obtain ⟨A, c, rfl⟩ := hv.form
  have HV := Lib.hid hv
  have HS := Lib.hid hs
  clear hv hs
  by_cases h8 : 8 < p.length
  · have hfin : checkE p = 3 := by unfold checkE; rw [if_pos h8]
    have H := Lib.hid hfin
    clear hfin
    go_enter Tryd.func19, Tryd.ntmps19
    go_wp2_with fail
    go_ret
    exact ⟨ret_int (by rw [H.out]; rfl), rfl⟩
  have hfin : checkE p = pathE p := by unfold checkE; rw [if_neg h8]
  have H := Lib.hid hfin
  clear hfin
  go_enter Tryd.func19, Tryd.ntmps19
  go_wp2_with fail
  go_loop [11] (fun i => ∃ k : Nat, k ≤ p.length ∧ i = .int .i64 k ∧ Hid (pathE (p.drop k) = pathE p)) (fun i => p.length - (intOf i).toNat)
  case atStart => exact ⟨0, Nat.zero_le _, rfl, by simp [Hid]⟩
  case round =>
    obtain ⟨k, hk, rfl, HR⟩ := hrel
    by_cases hlt : k < p.length
    · obtain ⟨b, off, rfl, hb, hc⟩ := HV.out.at (by omega)
      have h0 := hc k hlt
      simp only [encS] at h0
      have HC := Lib.hid (name_call (name_any p[k] w (HS.out _ (List.getElem_mem _))))
      clear hc
      by_cases hz : nameE p[k] = 0
      · have hb2 : (((nameE p[k] : Nat) : Int) != 0) = false := by rw [hz]; rfl
        have H2 := Lib.hid (pathE_step p k hlt hz)
        clear hz
        go_wp2_with (go_at_call 17; refine HC.out.mono ?_; rintro e w' ⟨rfl, rfl⟩)
        go_round
        case rel => exact ⟨k + 1, by omega, by go_num, by show pathE (p.drop (k + 1)) = pathE p; rw [← H2.out, HR.out]⟩
        case measure => simp [intOf]; omega
      · have hb2 : (((nameE p[k] : Nat) : Int) != 0) = true := by rw [bne_iff_ne]; omega
        have H2 := Lib.hid (pathE_stop p k hlt hz)
        clear hz
        go_wp2_with (go_at_call 17; refine HC.out.mono ?_; rintro e w' ⟨rfl, rfl⟩)
        go_ret
        exact ⟨ret_int (by rw [H.out, ← HR.out, H2.out]), rfl⟩
    · have H2 : Hid (pathE (p.drop k) = 0) := by show pathE (p.drop k) = 0; rw [List.drop_of_length_le (by omega)]; rfl
      go_wp2_with fail
      go_ret
      exact ⟨ret_int (by rw [H.out, ← HR.out, H2.out]; rfl), rfl⟩

set_option maxRecDepth 100000 in
set_option maxHeartbeats 1000000 in
theorem rcheck_any (w : World) (v : Value) (p : Path) (hv : SL encS w w.heap.size v p) (hs : ∀ s ∈ p, s.size ≤ 1000000000) :
    Calls Tryd.prog 20 #[v] w fun e w' => e = .returned (.int .i64 (checkE p : Nat)) ∧ w = w' := by
  obtain ⟨A, c, rfl⟩ := hv.form
  have HV := Lib.hid hv
  have HS := Lib.hid hs
  clear hv hs
  by_cases h8 : 8 < p.length
  · have hfin : checkE p = 3 := by unfold checkE; rw [if_pos h8]
    have H := Lib.hid hfin
    clear hfin
    go_enter Tryd.func20, Tryd.ntmps20
    go_wp2_with fail
    go_ret
    exact ⟨ret_int (by rw [H.out]; rfl), rfl⟩
  have hfin : checkE p = pathE p := by unfold checkE; rw [if_neg h8]
  have H := Lib.hid hfin
  clear hfin
  go_enter Tryd.func20, Tryd.ntmps20
  go_wp2_with fail
  go_loop [3] (fun i => ∃ k : Nat, k ≤ p.length ∧ i = .int .i64 k ∧ Hid (pathE (p.drop k) = pathE p)) (fun i => p.length - (intOf i).toNat)
  case atStart => exact ⟨0, Nat.zero_le _, rfl, by simp [Hid]⟩
  case round =>
    obtain ⟨k, hk, rfl, HR⟩ := hrel
    by_cases hlt : k < p.length
    · obtain ⟨b, off, rfl, hb, hc⟩ := HV.out.at (by omega)
      have h0 := hc k hlt
      simp only [encS] at h0
      have HC := Lib.hid (name_call (rname_any p[k] w (HS.out _ (List.getElem_mem _))))
      clear hc
      by_cases hz : nameE p[k] = 0
      · have hb2 : (((nameE p[k] : Nat) : Int) != 0) = false := by rw [hz]; rfl
        have H2 := Lib.hid (pathE_step p k hlt hz)
        clear hz
        go_wp2_with (go_at_call 18; refine HC.out.mono ?_; rintro e w' ⟨rfl, rfl⟩)
        go_round
        case rel => exact ⟨k + 1, by omega, by go_num, by show pathE (p.drop (k + 1)) = pathE p; rw [← H2.out, HR.out]⟩
        case measure => simp [intOf]; omega
      · have hb2 : (((nameE p[k] : Nat) : Int) != 0) = true := by rw [bne_iff_ne]; omega
        have H2 := Lib.hid (pathE_stop p k hlt hz)
        clear hz
        go_wp2_with (go_at_call 18; refine HC.out.mono ?_; rintro e w' ⟨rfl, rfl⟩)
        go_ret
        exact ⟨ret_int (by rw [H.out, ← HR.out, H2.out]), rfl⟩
    · have H2 : Hid (pathE (p.drop k) = 0) := by show pathE (p.drop k) = 0; rw [List.drop_of_length_le (by omega)]; rfl
      go_wp2_with fail
      go_ret
      exact ⟨ret_int (by rw [H.out, ← HR.out, H2.out]; rfl), rfl⟩
end Go.Proofs.YtgfmfeaapffdfaaDoor
