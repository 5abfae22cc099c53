/- The walk of BitsLogic at maps with the same number of bits: it returns true. Condition: the bytes lie as said. -/
import Derived.Test.YtanppmpijadhbaaLogic
import Derived.Deep.RegionHeld
namespace Go.Proofs.Ytanppmpijadhbaa
open Go.RowKit

set_option maxRecDepth 100000 in
set_option maxHeartbeats 8000000 in
theorem law_logic_eq (w : World) (n0 n1 : Nat) (v v2 : Value) (y y2 : List UInt8) (hv : SL encB w w.heap.size v y) (hv2 : SL encB w w.heap.size v2 y2) (hn0 : n0 < 65536) (hn1 : n1 < 65536) (hy : y.length ≤ 9223372036854775807) (hy2 : y2.length ≤ 9223372036854775807) (hne : n0 % 601 = n1 % 601) :
    Calls Try.prog 5 #[.agg #[.int .u16 (n0 : Int), .int .u16 (n1 : Int)], v, v2] w fun e w' => e = .returned (.bool true) ∧ Below w.heap.size w w' := by
  obtain ⟨A, c0, rfl⟩ := hv.form
  obtain ⟨A2, c2, rfl⟩ := hv2.form
  obtain ⟨N, hN⟩ : ∃ N, N = n0 % 601 := ⟨_, rfl⟩
  obtain ⟨M, hM⟩ : ∃ M, M = n1 % 601 := ⟨_, rfl⟩
  obtain rfl : M = N := by omega
  have hNM : True := trivial
  have hN6 : M ≤ 600 := by omega
  have hM6 : M ≤ 600 := by omega
  obtain ⟨l, hl⟩ : ∃ l, l = madeL M y := ⟨_, rfl⟩
  obtain ⟨m, hm⟩ : ∃ m, m = madeL M y2 := ⟨_, rfl⟩
  have LL : Hid (l.length = M) := by rw [hl]; exact madeL_len _ _
  have LM : Hid (m.length = M) := by rw [hm]; exact madeL_len _ _
  have B0 : Hid (Below w.heap.size w (w.alloc (.cells #[.int .u16 (n0 : Int), .int .u16 (n1 : Int)] 47))) := (Below.refl _ _).alloc (Nat.le_refl _) _
  have hmk := made_any _ n0 _ y ((hv.below B0.out (Nat.le_refl _)).mono B0.out.size) hn0 hy
  rw [← hN, ← hl] at hmk
  have HMK := Lib.hid hmk
  have HV2 := Lib.hid hv2
  have HM := Lib.hid hM
  have HMl := Lib.hid hm
  have HNE := Lib.hid hNM
  clear hv hv2 hN hM hNM hne hl hm hmk
  go_enter Try.func5, Try.ntmps5
  go_wp2_with fail
  refine HMK.out.mono ?_
  rintro e w1 ⟨b, u, rfl, hMx, hSl, hb, hB⟩
  have hs : ∀ o, (w.alloc o).heap.size = w.heap.size + 1 := fun o => by simp
  rw [hs] at hb
  have hcell : w1.cell? ⟨w.heap.size, 1, none⟩ = some (.int .u16 (n1 : Int)) := (hB.cell (p := ⟨w.heap.size, 1, none⟩) (by rw [hs]; show w.heap.size < _; omega)).trans (cell_of_row _ w.heap.size 1 _ _ _ (heap_alloc_new w _))
  have B1 : Hid (Below w.heap.size w w1) := B0.out.trans (hB.mono (by rw [hs]; omega))
  have hmk := made_any w1 n1 _ y2 ((HV2.out.below B1.out (Nat.le_refl _)).mono B1.out.size) hn1 hy2
  rw [← HM.out, ← HMl.out] at hmk
  have HMK2 := Lib.hid hmk
  have MX := Lib.hid hMx
  have SL1 := Lib.hid hSl
  clear hMx hSl hB hmk HMK hs hb B0
  go_wp2_with fail
  refine HMK2.out.mono ?_
  rintro e w2 ⟨c, u2, rfl, hMy, hSm, hc, hB⟩
  have B2 : Hid (Below w.heap.size w w2) := B1.out.trans (hB.mono B1.out.size)
  have T2 : Hid (Two w2 b c M M u u2 l m) := ⟨MX.out.below hB MX.out.lt, hMy, (SL1.out.below hB (Nat.le_refl _)).mono hB.size, hSm, LL.out, LM.out⟩
  obtain ⟨U, cu, hu⟩ := T2.out.sl.form
  obtain ⟨U2, cu2, hu2⟩ := T2.out.sm.form
  rw [LL.out] at hu
  rw [LM.out] at hu2
  subst hu hu2
  clear hMy hSm hc hB HMK2 MX SL1 B1 hcell
  go_wp2_with fail
  refine (and_ok w2 b c M _ _ T2.out.mx T2.out.my).mono ?_
  rintro e w3 ⟨rfl, hM, hB⟩
  obtain ⟨qa, hq⟩ : ∃ q, q = w2.heap.size := ⟨_, rfl⟩
  rw [← hq] at hM ⊢
  have Mqa3 := Lib.hid hM
  have B3 : Hid (Below w.heap.size w w3) := B2.out.trans (hB.mono B2.out.size)
  have T3 : Hid (Two w3 b c M M (.slice U M cu) (.slice U2 M cu2) l m) := T2.out.below hB
  clear hB hM hq B2 T2 
  go_wp2_with fail
  refine (or_ok w3 b c M _ _ T3.out.mx T3.out.my).mono ?_
  rintro e w4 ⟨rfl, hM, hB⟩
  obtain ⟨qo, hq⟩ : ∃ q, q = w3.heap.size := ⟨_, rfl⟩
  rw [← hq] at hM ⊢
  have Mqo4 := Lib.hid hM
  have Mqa4 : Hid (MapAt w4 qa M (andF (listF l) (listF m))) := Mqa3.out.below hB Mqa3.out.lt
  have B4 : Hid (Below w.heap.size w w4) := B3.out.trans (hB.mono B3.out.size)
  have T4 : Hid (Two w4 b c M M (.slice U M cu) (.slice U2 M cu2) l m) := T3.out.below hB
  clear hB hM hq B3 T3 Mqa3
  go_wp2_with fail
  refine (xor_ok w4 b c M _ _ T4.out.mx T4.out.my).mono ?_
  rintro e w5 ⟨rfl, hM, hB⟩
  obtain ⟨qx, hq⟩ : ∃ q, q = w4.heap.size := ⟨_, rfl⟩
  rw [← hq] at hM ⊢
  have Mqx5 := Lib.hid hM
  have Mqa5 : Hid (MapAt w5 qa M (andF (listF l) (listF m))) := Mqa4.out.below hB Mqa4.out.lt
  have Mqo5 : Hid (MapAt w5 qo M (orF (listF l) (listF m))) := Mqo4.out.below hB Mqo4.out.lt
  have B5 : Hid (Below w.heap.size w w5) := B4.out.trans (hB.mono B4.out.size)
  have T5 : Hid (Two w5 b c M M (.slice U M cu) (.slice U2 M cu2) l m) := T4.out.below hB
  clear hB hM hq B4 T4 Mqa4 Mqo4
  go_wp2_with fail
  refine (rand_ok w5 M _ _ l m T5.out.sl T5.out.sm LL.out LM.out (by omega)).mono ?_
  rintro e w6 ⟨rfl, hO, hB⟩
  obtain ⟨ga, hq⟩ : ∃ q, q = w5.heap.size := ⟨_, rfl⟩
  rw [← hq] at hO ⊢
  have Oga6 := Lib.hid hO
  have Mqa6 : Hid (MapAt w6 qa M (andF (listF l) (listF m))) := Mqa5.out.below hB Mqa5.out.lt
  have Mqo6 : Hid (MapAt w6 qo M (orF (listF l) (listF m))) := Mqo5.out.below hB Mqo5.out.lt
  have Mqx6 : Hid (MapAt w6 qx M (xorF (listF l) (listF m))) := Mqx5.out.below hB Mqx5.out.lt
  have B6 : Hid (Below w.heap.size w w6) := B5.out.trans (hB.mono B5.out.size)
  have T6 : Hid (Two w6 b c M M (.slice U M cu) (.slice U2 M cu2) l m) := T5.out.below hB
  clear hB hO hq B5 T5 Mqa5 Mqo5 Mqx5 
  go_wp2_with fail
  refine (ror_ok w6 M _ _ l m T6.out.sl T6.out.sm LL.out LM.out (by omega)).mono ?_
  rintro e w7 ⟨rfl, hO, hB⟩
  obtain ⟨go, hq⟩ : ∃ q, q = w6.heap.size := ⟨_, rfl⟩
  rw [← hq] at hO ⊢
  have Ogo7 := Lib.hid hO
  have Mqa7 : Hid (MapAt w7 qa M (andF (listF l) (listF m))) := Mqa6.out.below hB Mqa6.out.lt
  have Mqo7 : Hid (MapAt w7 qo M (orF (listF l) (listF m))) := Mqo6.out.below hB Mqo6.out.lt
  have Mqx7 : Hid (MapAt w7 qx M (xorF (listF l) (listF m))) := Mqx6.out.below hB Mqx6.out.lt
  have Oga7 : Hid (OwnT w7 ga ga M (andF (listF l) (listF m))) := World.ownsRow.kept Oga6.out (grown_below hB none) (.inr (by simp [Value.ownBlock]))
  have B7 : Hid (Below w.heap.size w w7) := B6.out.trans (hB.mono B6.out.size)
  have T7 : Hid (Two w7 b c M M (.slice U M cu) (.slice U2 M cu2) l m) := T6.out.below hB
  clear hB hO hq B6 T6 Mqa6 Mqo6 Mqx6 Oga6
  go_wp2_with fail
  refine (rxor_ok w7 M _ _ l m T7.out.sl T7.out.sm LL.out LM.out (by omega)).mono ?_
  rintro e w8 ⟨rfl, hO, hB⟩
  obtain ⟨gx, hq⟩ : ∃ q, q = w7.heap.size := ⟨_, rfl⟩
  rw [← hq] at hO ⊢
  have Ogx8 := Lib.hid hO
  have Mqa8 : Hid (MapAt w8 qa M (andF (listF l) (listF m))) := Mqa7.out.below hB Mqa7.out.lt
  have Mqo8 : Hid (MapAt w8 qo M (orF (listF l) (listF m))) := Mqo7.out.below hB Mqo7.out.lt
  have Mqx8 : Hid (MapAt w8 qx M (xorF (listF l) (listF m))) := Mqx7.out.below hB Mqx7.out.lt
  have Oga8 : Hid (OwnT w8 ga ga M (andF (listF l) (listF m))) := World.ownsRow.kept Oga7.out (grown_below hB none) (.inr (by simp [Value.ownBlock]))
  have Ogo8 : Hid (OwnT w8 go go M (orF (listF l) (listF m))) := World.ownsRow.kept Ogo7.out (grown_below hB none) (.inr (by simp [Value.ownBlock]))
  have B8 : Hid (Below w.heap.size w w8) := B7.out.trans (hB.mono B7.out.size)
  have T8 : Hid (Two w8 b c M M (.slice U M cu) (.slice U2 M cu2) l m) := T7.out.below hB
  clear hB hO hq B7 T7 Mqa7 Mqo7 Mqx7 Oga7 Ogo7
  have hS := same_ok w8.drew b c M _ _ (T8.out.mx.of_block rfl) (T8.out.my.of_block rfl)
  have heqs := str_eq (bytesOf M (listF l)) (bytesOf M (listF m))
  rw [bytes_eq_words (by omega) T8.out.mx.off T8.out.my.off] at heqs
  obtain ⟨vs, hvs⟩ : ∃ t : Bool, t = eqW (listF l) (listF m) := ⟨_, rfl⟩
  rw [← hvs] at heqs hS
  obtain ⟨s1, hs1⟩ : ∃ s : ByteArray, s = ⟨(bytesOf M (listF l)).toArray⟩ := ⟨_, rfl⟩
  obtain ⟨s2, hs2⟩ : ∃ s : ByteArray, s = ⟨(bytesOf M (listF m)).toArray⟩ := ⟨_, rfl⟩
  rw [← hs1, ← hs2] at heqs
  have S1 := Lib.hid hs1
  have S2 := Lib.hid hs2
  have heqd : decide (s1.toList = s2.toList) = vs := by rw [← heqs, Bool.eq_iff_iff]; simp
  clear hs1 hs2
  have HS := Lib.hid hS
  clear hvs hS
  have TD : Hid (Two w8.drew b c M M (.slice U M cu) (.slice U2 M cu2) l m) := ⟨T8.out.mx.of_block rfl, T8.out.my.of_block rfl, T8.out.sl, T8.out.sm, LL.out, LM.out⟩
  cases vs
  all_goals
    go_wp2_with fail
    first | (go_region_held (fun _ => True) (exact trivial) (first
      | (go_at_call 21; refine HS.out.mono ?_; rintro e ws ⟨rfl, hBs⟩)
      | (go_at_call 28; (with_reducible refine (rbytes_any ws _ l ((TD.out.sl.below (w' := ws) hBs (Nat.le_refl _)).mono hBs.size) (by rw [LL.out]; omega)).mono ?_); rintro e wt ⟨v3, rfl, hS1, hB1⟩; rw [LL.out] at hS1; have hstr1 := hS1.str; rw [← S1.out] at hstr1)
      | (go_at_call 28; (with_reducible refine (rbytes_any wt _ m ((((TD.out.sm.below (w' := ws) hBs (Nat.le_refl _)).mono hBs.size).below hB1 (Nat.le_refl _)).mono hB1.size) (by rw [LM.out]; omega)).mono ?_); rintro e wu ⟨v4, rfl, hS2, hB2⟩; rw [LM.out] at hS2; have hstr2 := hS2.str; rw [← S2.out] at hstr2; have hstr3 := (hS1.below hB2 (Nat.le_refl _)).str; rw [← S1.out] at hstr3))) | fail
    all_goals
      have BU : Hid (Below w8.heap.size w8 wu) := ((Below.refl w8.heap.size w8).drew.trans hBs).trans ((hB1.mono hBs.size).trans (hB2.mono (Nat.le_trans hBs.size hB1.size)))
      clear hstr1 hstr2 hstr3 hS1 hS2 hB1 hB2 hBs HS
      have B9 : Hid (Below w.heap.size w wu) := B8.out.trans (BU.out.mono B8.out.size)
      have Mqa9 : Hid (MapAt wu qa M (andF (listF l) (listF m))) := Mqa8.out.below BU.out Mqa8.out.lt
      have Mqo9 : Hid (MapAt wu qo M (orF (listF l) (listF m))) := Mqo8.out.below BU.out Mqo8.out.lt
      have Mqx9 : Hid (MapAt wu qx M (xorF (listF l) (listF m))) := Mqx8.out.below BU.out Mqx8.out.lt
      have Oga9 : Hid (OwnT wu ga ga M (andF (listF l) (listF m))) := World.ownsRow.kept Oga8.out (grown_below BU.out none) (.inr (by simp [Value.ownBlock]))
      have Ogo9 : Hid (OwnT wu go go M (orF (listF l) (listF m))) := World.ownsRow.kept Ogo8.out (grown_below BU.out none) (.inr (by simp [Value.ownBlock]))
      have Ogx9 : Hid (OwnT wu gx gx M (xorF (listF l) (listF m))) := World.ownsRow.kept Ogx8.out (grown_below BU.out none) (.inr (by simp [Value.ownBlock]))
      have T9 : Hid (Two wu b c M M (.slice U M cu) (.slice U2 M cu2) l m) := T8.out.below BU.out
      have HX := Lib.hid (lsame_own wu qa _ ga M _ Mqa9.out Oga9.out)
      go_wp2_with fail
      refine HX.out.mono ?_
      rintro e w30 ⟨rfl, hB⟩
      have B10 : Hid (Below w.heap.size w w30) := B9.out.trans (hB.mono B9.out.size)
      have Mqa10 : Hid (MapAt w30 qa M (andF (listF l) (listF m))) := Mqa9.out.below hB Mqa9.out.lt
      have Mqo10 : Hid (MapAt w30 qo M (orF (listF l) (listF m))) := Mqo9.out.below hB Mqo9.out.lt
      have Mqx10 : Hid (MapAt w30 qx M (xorF (listF l) (listF m))) := Mqx9.out.below hB Mqx9.out.lt
      have Oga10 : Hid (OwnT w30 ga ga M (andF (listF l) (listF m))) := World.ownsRow.kept Oga9.out (grown_below hB none) (.inr (by simp [Value.ownBlock]))
      have Ogo10 : Hid (OwnT w30 go go M (orF (listF l) (listF m))) := World.ownsRow.kept Ogo9.out (grown_below hB none) (.inr (by simp [Value.ownBlock]))
      have Ogx10 : Hid (OwnT w30 gx gx M (xorF (listF l) (listF m))) := World.ownsRow.kept Ogx9.out (grown_below hB none) (.inr (by simp [Value.ownBlock]))
      have T10 : Hid (Two w30 b c M M (.slice U M cu) (.slice U2 M cu2) l m) := T9.out.below hB
      clear hB HX
      have HX := Lib.hid (lsame_own w30 qo _ go M _ Mqo10.out Ogo10.out)
      go_wp2_with fail
      refine HX.out.mono ?_
      rintro e w31 ⟨rfl, hB⟩
      have B11 : Hid (Below w.heap.size w w31) := B10.out.trans (hB.mono B10.out.size)
      have Mqa11 : Hid (MapAt w31 qa M (andF (listF l) (listF m))) := Mqa10.out.below hB Mqa10.out.lt
      have Mqo11 : Hid (MapAt w31 qo M (orF (listF l) (listF m))) := Mqo10.out.below hB Mqo10.out.lt
      have Mqx11 : Hid (MapAt w31 qx M (xorF (listF l) (listF m))) := Mqx10.out.below hB Mqx10.out.lt
      have Oga11 : Hid (OwnT w31 ga ga M (andF (listF l) (listF m))) := World.ownsRow.kept Oga10.out (grown_below hB none) (.inr (by simp [Value.ownBlock]))
      have Ogo11 : Hid (OwnT w31 go go M (orF (listF l) (listF m))) := World.ownsRow.kept Ogo10.out (grown_below hB none) (.inr (by simp [Value.ownBlock]))
      have Ogx11 : Hid (OwnT w31 gx gx M (xorF (listF l) (listF m))) := World.ownsRow.kept Ogx10.out (grown_below hB none) (.inr (by simp [Value.ownBlock]))
      have T11 : Hid (Two w31 b c M M (.slice U M cu) (.slice U2 M cu2) l m) := T10.out.below hB
      clear hB HX
      have HX := Lib.hid (lsame_own w31 qx _ gx M _ Mqx11.out Ogx11.out)
      go_wp2_with fail
      refine HX.out.mono ?_
      rintro e w32 ⟨rfl, hB⟩
      have B12 : Hid (Below w.heap.size w w32) := B11.out.trans (hB.mono B11.out.size)
      have Mqa12 : Hid (MapAt w32 qa M (andF (listF l) (listF m))) := Mqa11.out.below hB Mqa11.out.lt
      have Mqo12 : Hid (MapAt w32 qo M (orF (listF l) (listF m))) := Mqo11.out.below hB Mqo11.out.lt
      have Mqx12 : Hid (MapAt w32 qx M (xorF (listF l) (listF m))) := Mqx11.out.below hB Mqx11.out.lt
      have Oga12 : Hid (OwnT w32 ga ga M (andF (listF l) (listF m))) := World.ownsRow.kept Oga11.out (grown_below hB none) (.inr (by simp [Value.ownBlock]))
      have Ogo12 : Hid (OwnT w32 go go M (orF (listF l) (listF m))) := World.ownsRow.kept Ogo11.out (grown_below hB none) (.inr (by simp [Value.ownBlock]))
      have Ogx12 : Hid (OwnT w32 gx gx M (xorF (listF l) (listF m))) := World.ownsRow.kept Ogx11.out (grown_below hB none) (.inr (by simp [Value.ownBlock]))
      have T12 : Hid (Two w32 b c M M (.slice U M cu) (.slice U2 M cu2) l m) := T11.out.below hB
      clear hB HX
      have HX := Lib.hid (lsame_any w32 b _ l (by rw [LL.out]; exact T12.out.mx) T12.out.sl)
      go_wp2_with fail
      refine HX.out.mono ?_
      rintro e w33 ⟨rfl, hB⟩
      have B13 : Hid (Below w.heap.size w w33) := B12.out.trans (hB.mono B12.out.size)
      have Mqa13 : Hid (MapAt w33 qa M (andF (listF l) (listF m))) := Mqa12.out.below hB Mqa12.out.lt
      have Mqo13 : Hid (MapAt w33 qo M (orF (listF l) (listF m))) := Mqo12.out.below hB Mqo12.out.lt
      have Mqx13 : Hid (MapAt w33 qx M (xorF (listF l) (listF m))) := Mqx12.out.below hB Mqx12.out.lt
      have Oga13 : Hid (OwnT w33 ga ga M (andF (listF l) (listF m))) := World.ownsRow.kept Oga12.out (grown_below hB none) (.inr (by simp [Value.ownBlock]))
      have Ogo13 : Hid (OwnT w33 go go M (orF (listF l) (listF m))) := World.ownsRow.kept Ogo12.out (grown_below hB none) (.inr (by simp [Value.ownBlock]))
      have Ogx13 : Hid (OwnT w33 gx gx M (xorF (listF l) (listF m))) := World.ownsRow.kept Ogx12.out (grown_below hB none) (.inr (by simp [Value.ownBlock]))
      have T13 : Hid (Two w33 b c M M (.slice U M cu) (.slice U2 M cu2) l m) := T12.out.below hB
      clear hB HX
      have HX := Lib.hid (lsame_any w33 c _ m (by rw [LM.out]; exact T13.out.my) T13.out.sm)
      go_wp2_with fail
      refine HX.out.mono ?_
      rintro e w34 ⟨rfl, hB⟩
      have B14 : Hid (Below w.heap.size w w34) := B13.out.trans (hB.mono B13.out.size)
      have Mqa14 : Hid (MapAt w34 qa M (andF (listF l) (listF m))) := Mqa13.out.below hB Mqa13.out.lt
      have Mqo14 : Hid (MapAt w34 qo M (orF (listF l) (listF m))) := Mqo13.out.below hB Mqo13.out.lt
      have Mqx14 : Hid (MapAt w34 qx M (xorF (listF l) (listF m))) := Mqx13.out.below hB Mqx13.out.lt
      have Oga14 : Hid (OwnT w34 ga ga M (andF (listF l) (listF m))) := World.ownsRow.kept Oga13.out (grown_below hB none) (.inr (by simp [Value.ownBlock]))
      have Ogo14 : Hid (OwnT w34 go go M (orF (listF l) (listF m))) := World.ownsRow.kept Ogo13.out (grown_below hB none) (.inr (by simp [Value.ownBlock]))
      have Ogx14 : Hid (OwnT w34 gx gx M (xorF (listF l) (listF m))) := World.ownsRow.kept Ogx13.out (grown_below hB none) (.inr (by simp [Value.ownBlock]))
      have T14 : Hid (Two w34 b c M M (.slice U M cu) (.slice U2 M cu2) l m) := T13.out.below hB
      clear hB HX
      go_wp2_with fail
      refine (awake_any _).mono ?_
      rintro e wz ⟨rfl, hB⟩
      have BZ : Hid (Below w.heap.size w wz) := B14.out.trans (hB.mono B14.out.size)
      clear hB
      go_wp2_with fail
      go_ret
      exact ⟨rfl, BZ.out⟩
end Go.Proofs.Ytanppmpijadhbaa
