/- The contracts of the small methods of a device that change nothing. Condition: a device in memory. -/
import Derived.Test.YtiddbdjcdoiloaaDoorAt
namespace Go.Proofs.YtiddbdjcdoiloaaDoor
open Go.RowKit

section
variable {w : World} {b g c m : Nat} {cv : Value} {s : Dv.S}
theorem isMade_any (M : DevR w b g c cv m s) :
    Calls Tryd.prog 58 #[.pointer (some ⟨b, 0, none⟩)] w fun e w' => e = .returned (.bool true) ∧ w = w' := by
  have h0 := M.c0
  have he := fun w => eq_self w ⟨b, 0, none⟩
  clear M
  go_enter Tryd.func58, Tryd.ntmps58
  go_wp2
  go_ret
  exact ⟨rfl, rfl⟩
theorem sectors_any (M : DevR w b g c cv m s) :
    Calls Tryd.prog 87 #[.pointer (some ⟨b, 0, none⟩)] w fun e w' => e = .returned (.int .i64 (s.st.length : Int)) ∧ w = w' := by
  have h1 := M.c1
  have HM := Lib.hid (isMade_any M)
  clear M
  go_enter Tryd.func87, Tryd.ntmps87
  go_wp2_with fail
  refine HM.out.mono ?_
  rintro e w' ⟨rfl, rfl⟩
  go_wp2_with fail
  go_ret
  exact ⟨rfl, rfl⟩
theorem checkOn_any (M : DevR w b g c cv m s) :
    Calls Tryd.prog 86 #[.pointer (some ⟨b, 0, none⟩)] w fun e w' => e = .returned (.int .i64 (if s.off then 13 else 0)) ∧ w = w' := by
  have h1 := M.c5
  have HM := Lib.hid (isMade_any M)
  clear M
  cases ho : s.off
  all_goals
    rw [ho] at h1
    clear ho
    go_enter Tryd.func86, Tryd.ntmps86
    go_wp2_with fail
    refine HM.out.mono ?_
    rintro e w' ⟨rfl, rfl⟩
    go_wp2_with fail
    go_ret
    exact ⟨rfl, rfl⟩
/-- The error of a sector. -/
def secE (s : Dv.S) (n : Int) : Int := if s.off then 13 else if n < 0 ∨ (s.st.length : Int) ≤ n then 7 else 0
theorem checkSector_any (M : DevR w b g c cv m s) (n : Int) :
    Calls Tryd.prog 69 #[.pointer (some ⟨b, 0, none⟩), .int .i64 n] w fun e w' => e = .returned (.int .i64 (secE s n)) ∧ w = w' := by
  have HC := Lib.hid (checkOn_any M)
  have HS := Lib.hid (sectors_any M)
  obtain ⟨L, hL⟩ : ∃ L, L = s.st.length := ⟨_, rfl⟩
  rw [← hL] at HS
  have HL := Lib.hid hL
  clear M hL
  unfold secE
  cases ho : s.off
  · rw [ho] at HC
    rw [← HL.out]
    clear ho
    simp only [Bool.false_eq_true, if_false] at HC ⊢
    by_cases h0 : n < 0
    · rw [if_pos (.inl h0)]
      go_enter Tryd.func69, Tryd.ntmps69
      go_wp2_with fail
      refine HC.out.mono ?_
      rintro e w' ⟨rfl, rfl⟩
      go_wp2_with fail
      go_ret
      exact ⟨rfl, rfl⟩
    · by_cases h1 : (L : Int) ≤ n
      · rw [if_pos (.inr h1)]
        go_enter Tryd.func69, Tryd.ntmps69
        go_wp2_with fail
        refine HC.out.mono ?_
        rintro e w' ⟨rfl, rfl⟩
        go_wp2_with fail
        refine HS.out.mono ?_
        rintro e w' ⟨rfl, rfl⟩
        go_wp2_with fail
        go_ret
        exact ⟨rfl, rfl⟩
      · rw [if_neg (by omega)]
        go_enter Tryd.func69, Tryd.ntmps69
        go_wp2_with fail
        refine HC.out.mono ?_
        rintro e w' ⟨rfl, rfl⟩
        go_wp2_with fail
        refine HS.out.mono ?_
        rintro e w' ⟨rfl, rfl⟩
        go_wp2_with fail
        go_ret
        exact ⟨rfl, rfl⟩
  · rw [ho] at HC
    clear ho
    simp only [if_true] at HC ⊢
    go_enter Tryd.func69, Tryd.ntmps69
    go_wp2_with fail
    refine HC.out.mono ?_
    rintro e w' ⟨rfl, rfl⟩
    go_wp2_with fail
    go_ret
    exact ⟨rfl, rfl⟩
end
theorem isSize_any (w : World) (n : Int) :
    Calls Tryd.prog 56 #[.int .i64 n] w fun e w' => e = .returned (.bool (decide (64 ≤ n ∧ n ≤ 256))) ∧ w = w' := by
  by_cases h1 : 64 ≤ n
  · by_cases h2 : n ≤ 256
    · rw [decide_eq_true ⟨h1, h2⟩]
      go_enter Tryd.func56, Tryd.ntmps56
      go_wp2_with fail
      go_ret
      exact ⟨rfl, rfl⟩
    · rw [decide_eq_false (fun h => h2 h.2)]
      go_enter Tryd.func56, Tryd.ntmps56
      go_wp2_with fail
      go_ret
      exact ⟨rfl, rfl⟩
  · rw [decide_eq_false (fun h => h1 h.1)]
    go_enter Tryd.func56, Tryd.ntmps56
    go_wp2_with fail
    go_ret
    exact ⟨rfl, rfl⟩
theorem isPower_any (w : World) (n : Int) :
    Calls Tryd.prog 59 #[.int .i64 n] w fun e w' => e = .returned (.bool (decide (-1 ≤ n ∧ n ≤ 1000000000000))) ∧ w = w' := by
  by_cases h1 : -1 ≤ n
  · by_cases h2 : n ≤ 1000000000000
    · rw [decide_eq_true ⟨h1, h2⟩]
      go_enter Tryd.func59, Tryd.ntmps59
      go_wp2_with fail
      go_ret
      exact ⟨rfl, rfl⟩
    · rw [decide_eq_false (fun h => h2 h.2)]
      go_enter Tryd.func59, Tryd.ntmps59
      go_wp2_with fail
      go_ret
      exact ⟨rfl, rfl⟩
  · rw [decide_eq_false (fun h => h1 h.1)]
    go_enter Tryd.func59, Tryd.ntmps59
    go_wp2_with fail
    go_ret
    exact ⟨rfl, rfl⟩
end Go.Proofs.YtiddbdjcdoiloaaDoor
