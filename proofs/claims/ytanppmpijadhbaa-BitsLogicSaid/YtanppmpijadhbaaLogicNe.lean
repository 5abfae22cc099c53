/- The walk of BitsLogic at maps with different numbers of bits: it returns true. Condition: the bytes lie as said. -/
import Derived.Test.YtanppmpijadhbaaLogic
import Derived.Deep.RegionHeld
namespace Go.Proofs.Ytanppmpijadhbaa
open Go.RowKit

set_option maxRecDepth 100000 in
set_option maxHeartbeats 8000000 in
theorem law_logic_ne (w : World) (n0 n1 : Nat) (v v2 : Value) (y y2 : List UInt8) (hv : SL encB w w.heap.size v y) (hv2 : SL encB w w.heap.size v2 y2) (hn0 : n0 < 65536) (hn1 : n1 < 65536) (hy : y.length ≤ 9223372036854775807) (hy2 : y2.length ≤ 9223372036854775807) (hne : n0 % 601 ≠ n1 % 601) :
    Calls Try.prog 5 #[.agg #[.int .u16 (n0 : Int), .int .u16 (n1 : Int)], v, v2] w fun e w' => e = .returned (.bool true) ∧ Below w.heap.size w w' := by
  obtain ⟨A, c0, rfl⟩ := hv.form
  obtain ⟨A2, c2, rfl⟩ := hv2.form
  obtain ⟨N, hN⟩ : ∃ N, N = n0 % 601 := ⟨_, rfl⟩
  obtain ⟨M, hM⟩ : ∃ M, M = n1 % 601 := ⟨_, rfl⟩
  have hNM : N ≠ M := by omega
  have hN6 : N ≤ 600 := by omega
  have hM6 : M ≤ 600 := by omega
  obtain ⟨l, hl⟩ : ∃ l, l = madeL N y := ⟨_, rfl⟩
  obtain ⟨m, hm⟩ : ∃ m, m = madeL M y2 := ⟨_, rfl⟩
  have LL : Hid (l.length = N) := by rw [hl]; exact madeL_len _ _
  have LM : Hid (m.length = M) := by rw [hm]; exact madeL_len _ _
  have B0 : Hid (Below w.heap.size w (w.alloc (.cells #[.int .u16 (n0 : Int), .int .u16 (n1 : Int)] 47))) := (Below.refl _ _).alloc (Nat.le_refl _) _
  have hmk := made_any _ n0 _ y ((hv.below B0.out (Nat.le_refl _)).mono B0.out.size) hn0 hy
  rw [← hN, ← hl] at hmk
  have HMK := Lib.hid hmk
  have HV2 := Lib.hid hv2
  have HM := Lib.hid hM
  have HMl := Lib.hid hm
  have HNE := Lib.hid hNM
  clear hv hv2 hN hM hNM hne hl hm hmk
  go_enter Try.func5, Try.ntmps5
  go_wp2_with fail
  refine HMK.out.mono ?_
  rintro e w1 ⟨b, u, rfl, hMx, hSl, hb, hB⟩
  have hs : ∀ o, (w.alloc o).heap.size = w.heap.size + 1 := fun o => by simp
  rw [hs] at hb
  have hcell : w1.cell? ⟨w.heap.size, 1, none⟩ = some (.int .u16 (n1 : Int)) := (hB.cell (p := ⟨w.heap.size, 1, none⟩) (by rw [hs]; show w.heap.size < _; omega)).trans (cell_of_row _ w.heap.size 1 _ _ _ (heap_alloc_new w _))
  have B1 : Hid (Below w.heap.size w w1) := B0.out.trans (hB.mono (by rw [hs]; omega))
  have hmk := made_any w1 n1 _ y2 ((HV2.out.below B1.out (Nat.le_refl _)).mono B1.out.size) hn1 hy2
  rw [← HM.out, ← HMl.out] at hmk
  have HMK2 := Lib.hid hmk
  have MX := Lib.hid hMx
  have SL1 := Lib.hid hSl
  clear hMx hSl hB hmk HMK hs hb B0
  go_wp2_with fail
  refine HMK2.out.mono ?_
  rintro e w2 ⟨c, u2, rfl, hMy, hSm, hc, hB⟩
  have B2 : Hid (Below w.heap.size w w2) := B1.out.trans (hB.mono B1.out.size)
  have T2 : Hid (Two w2 b c N M u u2 l m) := ⟨MX.out.below hB MX.out.lt, hMy, (SL1.out.below hB (Nat.le_refl _)).mono hB.size, hSm, LL.out, LM.out⟩
  obtain ⟨U, cu, hu⟩ := T2.out.sl.form
  obtain ⟨U2, cu2, hu2⟩ := T2.out.sm.form
  rw [LL.out] at hu
  rw [LM.out] at hu2
  subst hu hu2
  clear hMy hSm hc hB HMK2 MX SL1 B1 hcell
  go_wp2_with fail
  refine (and_arg w2 b c N M _ _ T2.out.mx T2.out.my HNE.out).mono ?_
  rintro e w3 ⟨rfl, hB⟩
  have B3 : Hid (Below w.heap.size w w3) := B2.out.trans (hB.mono B2.out.size)
  have T3 : Hid (Two w3 b c N M (.slice U N cu) (.slice U2 M cu2) l m) := T2.out.below hB
  clear hB B2 T2
  go_wp2_with fail
  refine (or_arg w3 b c N M _ _ T3.out.mx T3.out.my HNE.out).mono ?_
  rintro e w4 ⟨rfl, hB⟩
  have B4 : Hid (Below w.heap.size w w4) := B3.out.trans (hB.mono B3.out.size)
  have T4 : Hid (Two w4 b c N M (.slice U N cu) (.slice U2 M cu2) l m) := T3.out.below hB
  clear hB B3 T3
  go_wp2_with fail
  refine (xor_arg w4 b c N M _ _ T4.out.mx T4.out.my HNE.out).mono ?_
  rintro e w5 ⟨rfl, hB⟩
  have B5 : Hid (Below w.heap.size w w5) := B4.out.trans (hB.mono B4.out.size)
  have T5 : Hid (Two w5 b c N M (.slice U N cu) (.slice U2 M cu2) l m) := T4.out.below hB
  clear hB B4 T4
  go_wp2_with fail
  refine (rand_arg w5 _ _ l m T5.out.sl T5.out.sm (by rw [LL.out, LM.out]; exact HNE.out)).mono ?_
  rintro e w' ⟨rfl, rfl⟩
  go_wp2_with fail
  refine (ror_arg w5 _ _ l m T5.out.sl T5.out.sm (by rw [LL.out, LM.out]; exact HNE.out)).mono ?_
  rintro e w' ⟨rfl, rfl⟩
  go_wp2_with fail
  refine (rxor_arg w5 _ _ l m T5.out.sl T5.out.sm (by rw [LL.out, LM.out]; exact HNE.out)).mono ?_
  rintro e w' ⟨rfl, rfl⟩
  have HS := Lib.hid (same_len w5.drew b c N M _ _ (T5.out.mx.of_block rfl) (T5.out.my.of_block rfl) HNE.out)
  have hnm : ((N : Int) == (M : Int)) = false := by rw [beq_eq_false_iff_ne]; have := HNE.out; omega
  obtain ⟨vs, hvs⟩ : ∃ t : Bool, t = decide (bytesOf N (listF l) = bytesOf M (listF m)) := ⟨_, rfl⟩
  have heqs := str_eq (bytesOf N (listF l)) (bytesOf M (listF m))
  rw [← hvs] at heqs
  obtain ⟨s1, hs1⟩ : ∃ s : ByteArray, s = ⟨(bytesOf N (listF l)).toArray⟩ := ⟨_, rfl⟩
  obtain ⟨s2, hs2⟩ : ∃ s : ByteArray, s = ⟨(bytesOf M (listF m)).toArray⟩ := ⟨_, rfl⟩
  rw [← hs1, ← hs2] at heqs
  have S1 := Lib.hid hs1
  have S2 := Lib.hid hs2
  have heqd : decide (s1.toList = s2.toList) = vs := by rw [← heqs, Bool.eq_iff_iff]; simp
  clear hs1 hs2
  clear hvs
  have TD : Hid (Two w5.drew b c N M (.slice U N cu) (.slice U2 M cu2) l m) := ⟨T5.out.mx.of_block rfl, T5.out.my.of_block rfl, T5.out.sl, T5.out.sm, LL.out, LM.out⟩
  cases vs
  all_goals
    go_wp2_with fail
    first | (go_region_held (fun _ => True) (exact trivial) (first
      | (go_at_call 21; refine HS.out.mono ?_; rintro e ws ⟨rfl, hBs⟩)
      | (go_at_call 28; (with_reducible refine (rbytes_any ws _ l ((TD.out.sl.below (w' := ws) hBs (Nat.le_refl _)).mono hBs.size) (by rw [LL.out]; omega)).mono ?_); rintro e wt ⟨v3, rfl, hS1, hB1⟩; rw [LL.out] at hS1; have hstr1 := hS1.str; rw [← S1.out] at hstr1)
      | (go_at_call 28; (with_reducible refine (rbytes_any wt _ m ((((TD.out.sm.below (w' := ws) hBs (Nat.le_refl _)).mono hBs.size).below hB1 (Nat.le_refl _)).mono hB1.size) (by rw [LM.out]; omega)).mono ?_); rintro e wu ⟨v4, rfl, hS2, hB2⟩; rw [LM.out] at hS2; have hstr2 := hS2.str; rw [← S2.out] at hstr2; have hstr3 := (hS1.below hB2 (Nat.le_refl _)).str; rw [← S1.out] at hstr3))) | fail
    all_goals
      have BU : Hid (Below w5.heap.size w5 wu) := ((Below.refl w5.heap.size w5).drew.trans hBs).trans ((hB1.mono hBs.size).trans (hB2.mono (Nat.le_trans hBs.size hB1.size)))
      have BV : Hid (Below w.heap.size w wu) := B5.out.trans (BU.out.mono B5.out.size)
      clear hstr1 hstr2 hstr3 hS1 hS2 hB1 hB2 hBs
      go_wp2_with fail
      refine (awake_any _).mono ?_
      rintro e wz ⟨rfl, hB⟩
      have BZ : Hid (Below w.heap.size w wz) := BV.out.trans (hB.mono BV.out.size)
      clear hB
      go_wp2_with fail
      go_ret
      exact ⟨rfl, BZ.out⟩
end Go.Proofs.Ytanppmpijadhbaa
