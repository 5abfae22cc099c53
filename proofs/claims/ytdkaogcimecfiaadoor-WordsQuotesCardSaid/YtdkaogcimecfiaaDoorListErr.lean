/- Slices of integers in memory, and the contract of words.listError. Condition: the slice's cells hold what is said of them; it has fewer than 10^9 elements. -/
import Derived.Test.YtdkaogcimecfiaaDoorInt
import Derived.IntWalk
namespace Go.Proofs.YtdkaogcimecfiaaDoor
open Go.RowKit

/-- A slice value that holds integers, in blocks below lim. -/
def IS (w : World) (lim : Nat) (v : Value) (xs : List Int) : Prop :=
  (xs = [] ∧ ∃ A c, v = .slice A 0 c) ∨
  ∃ b off c, v = .slice (some ⟨b, off, none⟩) xs.length c ∧ b < lim ∧ ∀ i, i < xs.length → w.cell? ⟨b, off + i, none⟩ = some (.int .i64 (xs.getD i 0))
theorem IS.below {w w' : World} {lim : Nat} {v : Value} {xs : List Int} (h : IS w lim v xs) {B : Nat} (hb : Below B w w') (hB : lim ≤ B) : IS w' lim v xs := by
  rcases h with h | ⟨b, off, c, rfl, hl, hc⟩
  · exact .inl h
  · exact .inr ⟨b, off, c, rfl, hl, fun i hi => (hb.cell (p := ⟨b, _, none⟩) (show b < B by omega)).trans (hc i hi)⟩
def inR (x : Int) : Prop := 0 ≤ x ∧ x ≤ 1000000000
instance (x : Int) : Decidable (inR x) := by unfold inR; exact inferInstance
/-- The error of a list. -/
def listE (xs : List Int) : Nat := if 500 < xs.length then 3 else if ¬ (∀ i, i < xs.length → inR (xs.getD i 0)) then 7 else if ¬ (∀ i, i < xs.length - 1 → xs.getD i 0 < xs.getD (i + 1) 0) then 6 else 0

set_option maxRecDepth 100000 in
set_option maxHeartbeats 2000000 in
theorem listError_any (w : World) (v : Value) (xs : List Int) (hv : IS w w.heap.size v xs) (hx : xs.length ≤ 1000000000) :
    Calls Tryd.prog 50 #[v] w fun e w' => e = .returned (.int .i64 (listE xs : Int)) ∧ ∃ n, w' = w.drewN n := by
  rcases hv with ⟨rfl, A, c, rfl⟩ | ⟨b, off, c, rfl, hb, hc⟩
  · go_enter Tryd.func50, Tryd.ntmps50
    go_wp2_with fail
    go_rounds 1
    go_rounds 1
    go_ret
    exact ⟨rfl, 0, rfl⟩
  by_cases h500 : 500 < xs.length
  · have hfin : listE xs = 3 := by unfold listE; rw [if_pos h500]
    have H := Lib.hid hfin
    clear hfin
    go_enter Tryd.func50, Tryd.ntmps50
    go_wp2_with fail
    go_ret
    exact ⟨by rw [H.out]; rfl, 0, rfl⟩
  have HC := Lib.hid hc
  clear hc
  go_enter Tryd.func50, Tryd.ntmps50
  go_wp2_with fail
  go_loop [11] (fun i => ∃ k : Nat, k ≤ xs.length ∧ i = .int .i64 k ∧ Hid (∀ i, i < k → inR (xs.getD i 0))) (fun i => xs.length - (intOf i).toNat)
  case atStart => exact ⟨0, Nat.zero_le _, rfl, fun i h => by omega⟩
  case round =>
    obtain ⟨k, hk, rfl, HR⟩ := hrel
    by_cases hlt : k < xs.length
    · have h0 := HC.out k hlt
      obtain ⟨x, hx0⟩ : ∃ x, x = xs.getD k 0 := ⟨_, rfl⟩
      rw [← hx0] at h0
      have HX := Lib.hid hx0
      clear hx0
      by_cases h1 : x < 0
      · have hfin : listE xs = 7 := by
          unfold listE; rw [if_neg h500, if_pos]
          intro h; have := (h k hlt).1; rw [← HX.out] at this; omega
        have H := Lib.hid hfin
        clear hfin
        go_wp2_with fail
        go_ret
        exact ⟨by rw [H.out]; rfl, 0, rfl⟩
      · by_cases h2 : 1000000000 < x
        · have hfin : listE xs = 7 := by
            unfold listE; rw [if_neg h500, if_pos]
            intro h; have := (h k hlt).2; rw [← HX.out] at this; omega
          have H := Lib.hid hfin
          clear hfin
          go_wp2_with fail
          go_ret
          exact ⟨by rw [H.out]; rfl, 0, rfl⟩
        · have hnx : ∀ i, i < k + 1 → inR (xs.getD i 0) := by
            intro i hi
            by_cases e : i = k
            · subst e; rw [← HX.out]; exact ⟨by omega, by omega⟩
            · exact HR.out i (by omega)
          have H := Lib.hid hnx
          clear hnx
          go_wp2_with fail
          go_round
          case rel => exact ⟨k + 1, by omega, by go_num, H.out⟩
          case measure => simp [intOf]; omega
    · have hall : ∀ i, i < xs.length → inR (xs.getD i 0) := fun i hi => HR.out i (by omega)
      have HA := Lib.hid hall
      clear hall
      go_wp2_with fail
      go_loopw [5] (fun i wr => ∃ j : Nat, j ≤ xs.length ∧ i = .int .i64 ((j : Int) + 1) ∧ (∃ n, wr = w.drewN n) ∧ Hid (∀ i, i < j → i < xs.length - 1 → xs.getD i 0 < xs.getD (i + 1) 0)) (fun i _ => xs.length - (intOf i).toNat)
      case atStart => exact ⟨0, by omega, rfl, ⟨0, rfl⟩, fun i h => by omega⟩
      case round =>
        obtain ⟨j, hj, rfl, ⟨nd, rfl⟩, HJ⟩ := hrel
        by_cases hl2 : j + 1 < xs.length
        · have p0 := HC.out j (by omega)
          have p1 := HC.out (j + 1) hl2
          obtain ⟨x, hx0⟩ : ∃ x, x = xs.getD j 0 := ⟨_, rfl⟩
          obtain ⟨y, hy0⟩ : ∃ y, y = xs.getD (j + 1) 0 := ⟨_, rfl⟩
          rw [← hx0] at p0
          rw [← hy0] at p1
          have HX := Lib.hid hx0
          have HY := Lib.hid hy0
          clear hx0 hy0
          have i1 : (j : Int) + 1 < (xs.length : Int) := by omega
          have i2 : (j : Int) < (xs.length : Int) := by omega
          have i3 : (0 : Int) ≤ (j : Int) + 1 := by omega
          have i5 : IntKind.i64.wrap ((j : Int) + 1 - 1) = (j : Int) := by rw [show (j : Int) + 1 - 1 = (j : Int) from by omega]; exact IntWalk.i64_in _ (by omega)
          have i6 : IntKind.i64.wrap (j : Int) = (j : Int) := IntWalk.i64_in _ (by omega)
          have i4 : ((j : Int) + 1).toNat = j + 1 := by omega
          go_wp2_with fail
          go_quiet (fail)
          go_wp2_with fail
          · have hyx : y ≤ x := by assumption
            have hfin : listE xs = 6 := by
              unfold listE; rw [if_neg h500, if_neg (by simpa using HA.out), if_pos]
              intro h; have := h j (by omega); rw [← HX.out, ← HY.out] at this; omega
            go_ret
            exact ⟨by rw [hfin]; rfl, _, World.drewN_drewN _ _ _⟩
          · have hxy : x < y := by assumption
            have hnx : ∀ i, i < j + 1 → i < xs.length - 1 → xs.getD i 0 < xs.getD (i + 1) 0 := by
              intro i hi hi2
              by_cases e : i = j
              · subst e; rw [← HX.out, ← HY.out]; exact hxy
              · exact HJ.out i (by omega) hi2
            go_roundw
            case rel => exact ⟨j + 1, by omega, by go_num, ⟨nd + nq, rfl⟩, hnx⟩
            case measure => simp [intOf]; omega
        · have hfin : listE xs = 0 := by
            unfold listE; rw [if_neg h500, if_neg (by simpa using HA.out), if_neg]
            rw [Decidable.not_not]
            exact fun i hi => HJ.out i (by omega) hi
          have H := Lib.hid hfin
          clear hfin
          go_wp2_with fail
          go_ret
          exact ⟨by rw [H.out]; rfl, nd, rfl⟩
end Go.Proofs.YtdkaogcimecfiaaDoor
