/- The walk of BitsLoads: it returns true. Conditions: the bytes lie as said, the number has 64 bits. -/
import Derived.Test.YtanppmpijadhbaaRLoadB
import Derived.Test.YtanppmpijadhbaaAwake
import Derived.Test.YtanppmpijadhbaaSame
namespace Go.Proofs.Ytanppmpijadhbaa
open Go.RowKit

theorem list_range (n : Nat) (F : Nat → Bool) : (((List.range n).map F).length = n) := by simp
theorem listF_range (n : Nat) (F : Nat → Bool) (h : ∀ i, n ≤ i → F i = false) : listF ((List.range n).map F) = F := by
  funext i
  unfold listF
  by_cases hi : i < n
  · rw [List.getD_eq_getElem?_getD, List.getElem?_map, List.getElem?_range hi]; rfl
  · rw [List.getD_eq_getElem?_getD, List.getElem?_eq_none (by simp; omega), h i (by omega)]; rfl
theorem eqW_refl (f : Nat → Bool) : eqW f f = true := by
  unfold eqW; rw [List.all_eq_true]; intro k _; exact beq_self_eq_true _
/-- The law's same of a map and a slice of the call's own with its bits. -/
theorem lsame_own (w : World) (b base g n : Nat) (F : Nat → Bool) (M : MapAt w b n F) (h : OwnT w base g n F) :
    Calls Try.prog 14 #[.pointer (some ⟨b, 0, none⟩), .slice (some ⟨g, 0, none⟩) n n] w fun e w' => e = .returned (.bool true) ∧ Below w.heap.size w w' := by
  have := lsame_any w b _ ((List.range n).map F) (by rw [list_range, listF_range n F M.off]; exact M) h.sl
  exact this
set_option maxRecDepth 100000 in
set_option maxHeartbeats 4000000 in
theorem law_loads (w : World) (s : Int) (v : Value) (y : List UInt8) (hv : SL encB w w.heap.size v y) (hy : y.length ≤ 9223372036854775807) :
    Calls Try.prog 4 #[.int .i64 s, v] w fun e w' => e = .returned (.bool true) ∧ Below w.heap.size w w' := by
  obtain ⟨A, c0, rfl⟩ := hv.form
  by_cases hbig : (600 : Int) < (y.length : Int)
  · go_enter Try.func4, Try.ntmps4
    go_wp2_with fail
    refine (awake_any _).mono ?_
    rintro e w2 ⟨rfl, hB2⟩
    have HB2 := Lib.hid hB2
    clear hB2
    go_wp2_with fail
    go_ret
    exact ⟨rfl, HB2.out⟩
  have HV := Lib.hid hv
  have hyl : y.length ≤ 600 := by omega
  clear hv
  by_cases hin : 0 ≤ s ∧ s ≤ 4096
  case neg =>
    have hbad : s < 0 ∨ 4096 < s := by omega
    have H1 := Lib.hid (new_bad w s hbad)
    have H2 := Lib.hid (rnew_bad w s hbad)
    have H3 := Lib.hid (load_range w s _ y HV.out hbad)
    have H4 := Lib.hid (rload_range w s _ y HV.out hbad)
    clear hin hbad
    go_enter Try.func4, Try.ntmps4
    go_wp2_with fail
    refine H1.out.mono ?_
    rintro e w' ⟨rfl, rfl⟩
    go_wp2_with fail
    refine H2.out.mono ?_
    rintro e w' ⟨rfl, rfl⟩
    go_wp2_with fail
    refine H3.out.mono ?_
    rintro e w' ⟨rfl, rfl⟩
    go_wp2_with fail
    refine H4.out.mono ?_
    rintro e w' ⟨rfl, rfl⟩
    go_wp2_with fail
    refine (awake_any _).mono ?_
    rintro e w2 ⟨rfl, hB2⟩
    have HB2 := Lib.hid hB2
    clear hB2
    go_wp2_with fail
    go_ret
    exact ⟨rfl, HB2.out⟩
  case pos =>
    obtain ⟨n, rfl⟩ : ∃ n : Nat, s = (n : Int) := ⟨s.toNat, by omega⟩
    have hn : n ≤ 4096 := by omega
    have H1 := Lib.hid (new_ok w n hn)
    clear hin
    go_enter Try.func4, Try.ntmps4
    go_wp2_with fail
    refine H1.out.mono ?_
    rintro e w1 ⟨rfl, hM, hB⟩
    have B1 := Lib.hid hB
    have M1 := Lib.hid hM
    have H2 := Lib.hid (rnew_ok w1 n hn)
    clear hM hB H1
    go_wp2_with fail
    refine H2.out.mono ?_
    rintro e w2 ⟨rfl, hO, hB⟩
    have B2 : Hid (Below w.heap.size w w2) := B1.out.trans (hB.mono B1.out.size)
    have M2 := M1.out.below hB M1.out.lt
    have H3 := Lib.hid (lsame_own w2 w.heap.size _ _ n _ M2 hO)
    clear hO hB M2 H2
    go_wp2_with fail
    refine H3.out.mono ?_
    rintro e w3 ⟨rfl, hB⟩
    have B3 : Hid (Below w.heap.size w w3) := B2.out.trans (hB.mono B2.out.size)
    have HV3 : Hid (SL encB w3 w3.heap.size (.slice A y.length c0) y) := (HV.out.below B3.out (Nat.le_refl _)).mono B3.out.size
    clear hB H3 M1 B1 B2
    by_cases hl : y.length = (n + 7) / 8
    case neg =>
      have hform : formB n y = false := by unfold formB; rw [decide_eq_false hl]; rfl
      have H4 := Lib.hid (load_form w3 n _ y HV3.out hn (by omega) hform)
      clear hform
      go_wp2_with fail
      refine H4.out.mono ?_
      rintro e w4 ⟨rfl, hB⟩
      have B4 : Hid (Below w.heap.size w w4) := B3.out.trans (hB.mono B3.out.size)
      have H5 := Lib.hid (rload_len w4 n _ y ((HV3.out.below hB (Nat.le_refl _)).mono hB.size) hn hl)
      clear hB H4
      go_wp2_with fail
      refine H5.out.mono ?_
      rintro e w5 ⟨rfl, hB⟩
      have B5 : Hid (Below w.heap.size w w5) := B4.out.trans (hB.mono B4.out.size)
      clear hB H5 hl
      go_wp2_with fail
      refine (awake_any _).mono ?_
      rintro e w6 ⟨rfl, hB⟩
      have B6 : Hid (Below w.heap.size w w6) := B5.out.trans (hB.mono B5.out.size)
      clear hB
      go_wp2_with fail
      go_ret
      exact ⟨rfl, B6.out⟩
    case pos =>
      have HLN := Lib.hid hl
      clear hl
      cases hform : formB n y with
      | false =>
        have H4 := Lib.hid (load_form w3 n _ y HV3.out hn (by omega) hform)
        have HFM := Lib.hid hform
        clear hform
        go_wp2_with fail
        refine H4.out.mono ?_
        rintro e w4 ⟨rfl, hB⟩
        have B4 : Hid (Below w.heap.size w w4) := B3.out.trans (hB.mono B3.out.size)
        have H5 := Lib.hid (rload_form w4 n _ y ((HV3.out.below hB (Nat.le_refl _)).mono hB.size) hn HLN.out HFM.out)
        clear hB H4
        go_wp2_with fail
        refine H5.out.mono ?_
        rintro e w5 ⟨rfl, hB⟩
        have B5 : Hid (Below w.heap.size w w5) := B4.out.trans (hB.mono B4.out.size)
        clear hB H5
        go_wp2_with fail
        refine (awake_any _).mono ?_
        rintro e w6 ⟨rfl, hB⟩
        have B6 : Hid (Below w.heap.size w w6) := B5.out.trans (hB.mono B5.out.size)
        clear hB
        go_wp2_with fail
        go_ret
        exact ⟨rfl, B6.out⟩
      | true =>
        have H4 := Lib.hid (load_ok w3 n _ y HV3.out hn hform)
        have HFM := Lib.hid hform
        clear hform
        go_wp2_with fail
        refine H4.out.mono ?_
        rintro e w4 ⟨rfl, hM, hB⟩
        obtain ⟨q, hq⟩ : ∃ q, q = w3.heap.size := ⟨_, rfl⟩
        rw [← hq] at hM ⊢
        have B4 : Hid (Below w.heap.size w w4) := B3.out.trans (hB.mono B3.out.size)
        have M4 := Lib.hid hM
        have H5 := Lib.hid (rload_ok w4 n _ y ((HV3.out.below hB (Nat.le_refl _)).mono hB.size) hn HLN.out HFM.out)
        clear hB H4 hM hq
        go_wp2_with fail
        refine H5.out.mono ?_
        rintro e w5 ⟨rfl, hO, hB⟩
        have B5 : Hid (Below w.heap.size w w5) := B4.out.trans (hB.mono B4.out.size)
        have M5 : Hid (MapAt w5 q n (Bm.bitsY y)) := M4.out.below hB M4.out.lt
        obtain ⟨g, hg⟩ : ∃ g, g = w4.heap.size := ⟨_, rfl⟩
        rw [← hg] at hO ⊢
        have O5 := Lib.hid hO
        have OFF : Hid (∀ i, n ≤ i → Bm.bitsY y i = false) := fun i hi => M5.out.off i hi
        clear hB H5 hO hg M4
        have HL := Lib.hid (len_any w5 q n _ M5.out)
        go_wp2_with fail
        refine HL.out.mono ?_
        rintro e w' ⟨rfl, rfl⟩
        go_wp2_with fail
        refine (bytes_any w5 q n _ M5.out).mono ?_
        rintro e w6 ⟨vb, rfl, hS, hB⟩
        have B6 : Hid (Below w.heap.size w w6) := B5.out.trans (hB.mono B5.out.size)
        have M6 : Hid (MapAt w6 q n (Bm.bitsY y)) := M5.out.below hB M5.out.lt
        have O6 : Hid (OwnT w6 g g n (Bm.bitsY y)) := World.ownsRow.kept O5.out (grown_below hB none) (.inr (by simp [Value.ownBlock]))
        have H7 := load_ok w6 n vb _ hS.sl hn (bytesOf_form n _ OFF.out)
        rw [bytesOf_bits n _ OFF.out] at H7
        have H7' := Lib.hid H7
        clear hB hS H7 HL
        go_wp2_with fail
        refine H7'.out.mono ?_
        rintro e w7 ⟨rfl, hM, hB⟩
        obtain ⟨r, hr⟩ : ∃ r, r = w6.heap.size := ⟨_, rfl⟩
        rw [← hr] at hM ⊢
        have B7 : Hid (Below w.heap.size w w7) := B6.out.trans (hB.mono B6.out.size)
        have M7 : Hid (MapAt w7 q n (Bm.bitsY y)) := M6.out.below hB M6.out.lt
        have R7 := Lib.hid hM
        have O7 : Hid (OwnT w7 g g n (Bm.bitsY y)) := World.ownsRow.kept O6.out (grown_below hB none) (.inr (by simp [Value.ownBlock]))
        have H8 := Lib.hid (lsame_own w7 q _ g n _ M7.out O7.out)
        clear hB hM hr H7'
        go_wp2_with fail
        refine H8.out.mono ?_
        rintro e w8 ⟨rfl, hB⟩
        have B8 : Hid (Below w.heap.size w w8) := B7.out.trans (hB.mono B7.out.size)
        have M8 : Hid (MapAt w8 q n (Bm.bitsY y)) := M7.out.below hB M7.out.lt
        have R8 : Hid (MapAt w8 r n (Bm.bitsY y)) := R7.out.below hB R7.out.lt
        have H9 := same_ok w8 q r n _ _ M8.out R8.out
        rw [eqW_refl] at H9
        have H9' := Lib.hid H9
        clear hB H8 H9
        go_wp2_with fail
        refine H9'.out.mono ?_
        rintro e w9 ⟨rfl, hB⟩
        have B9 : Hid (Below w.heap.size w w9) := B8.out.trans (hB.mono B8.out.size)
        have M9 : Hid (MapAt w9 q n (Bm.bitsY y)) := M8.out.below hB M8.out.lt
        have R9 : Hid (MapAt w9 r n (Bm.bitsY y)) := R8.out.below hB R8.out.lt
        have H10 := same_ok w9 r q n _ _ R9.out M9.out
        rw [eqW_refl] at H10
        have H10' := Lib.hid H10
        clear hB H9' H10
        go_wp2_with fail
        refine H10'.out.mono ?_
        rintro e wa ⟨rfl, hB⟩
        have BA : Hid (Below w.heap.size w wa) := B9.out.trans (hB.mono B9.out.size)
        clear hB H10'
        go_wp2_with fail
        refine (awake_any _).mono ?_
        rintro e wb ⟨rfl, hB⟩
        have BB : Hid (Below w.heap.size w wb) := BA.out.trans (hB.mono BA.out.size)
        clear hB
        go_wp2_with fail
        go_ret
        exact ⟨rfl, BB.out⟩
end Go.Proofs.Ytanppmpijadhbaa
