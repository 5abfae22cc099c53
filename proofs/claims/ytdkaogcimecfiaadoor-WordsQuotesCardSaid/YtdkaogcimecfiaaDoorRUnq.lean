/- The contract of the reference's Unquote. Condition: strings shorter than 10^9 bytes. -/
import Derived.Test.YtdkaogcimecfiaaDoorRQuoted
import Derived.Test.YtdkaogcimecfiaaDoorBare
namespace Go.Proofs.YtdkaogcimecfiaaDoor
open Go.RowKit

set_option maxRecDepth 100000 in
set_option maxHeartbeats 1000000 in
theorem runquote_any (s : ByteArray) (w : World) (hs : s.size ≤ 1000000000) :
    Calls Tryd.prog 19 #[.string s] w fun e w' => e = .returned (unqV (bs s)) ∧ Below w.heap.size w w' := by
  have HQ := Lib.hid (quoted_any s w hs)
  have HL := Lib.hid (bs_len s)
  cases hq : quotedAt (bs s) 0 with
  | none =>
    have hfin : unqV (bs s) = .tuple #[.string ⟨#[]⟩, .int .i64 6] := by unfold unqV; rw [hq]
    have H := Lib.hid hfin
    have HX := Lib.hid hq
    clear hfin hq
    go_enter Tryd.func19, Tryd.ntmps19
    go_wp2_with fail
    refine (HQ.out).mono ?_
    rintro e w1 ⟨rfl, hb1⟩
    simp only [HX.out, rqV]
    go_wp2_with fail
    go_ret2
    exact ⟨by rw [H.out]; rfl, hb1⟩
  | some p =>
    obtain ⟨y, n⟩ := p
    have hn1 : 1 ≤ n := by
      unfold quotedAt at hq
      split at hq
      · cases hq
      · split at hq
        · rw [Option.map_eq_some_iff] at hq
          obtain ⟨q, _, hq⟩ := hq
          simp only [Prod.mk.injEq] at hq
          omega
        · cases hq
    have e0 : ((n : Int) == 0) = false := by rw [beq_eq_false_iff_ne]; omega
    by_cases hn : n = s.size
    · have hfin : unqV (bs s) = .tuple #[.string ⟨y.toArray⟩, .int .i64 0] := by
        unfold unqV; rw [hq]; simp only; rw [if_pos (by rw [HL.out]; exact hn)]
      have H := Lib.hid hfin
      have HX := Lib.hid hq
      have e1 : ((n : Int) != (s.size : Int)) = false := by rw [hn]; simp
      clear hfin hq hn
      go_enter Tryd.func19, Tryd.ntmps19
      go_wp2_with fail
      refine (HQ.out).mono ?_
      rintro e w1 ⟨rfl, hb1⟩
      simp only [HX.out, rqV]
      go_wp2_with fail
      go_ret2
      exact ⟨by rw [H.out]; rfl, hb1⟩
    · have hfin : unqV (bs s) = .tuple #[.string ⟨#[]⟩, .int .i64 6] := by
        unfold unqV; rw [hq]; simp only; rw [if_neg (by rw [HL.out]; exact hn)]
      have H := Lib.hid hfin
      have HX := Lib.hid hq
      have e1 : ((n : Int) != (s.size : Int)) = true := by rw [bne_iff_ne]; omega
      clear hfin hq hn
      go_enter Tryd.func19, Tryd.ntmps19
      go_wp2_with fail
      refine (HQ.out).mono ?_
      rintro e w1 ⟨rfl, hb1⟩
      simp only [HX.out, rqV]
      go_wp2_with fail
      go_ret2
      exact ⟨by rw [H.out]; rfl, hb1⟩
end Go.Proofs.YtdkaogcimecfiaaDoor
