/- The walk of BitsPlays: it returns true. Condition: the bytes and the calls lie as said. -/
import Derived.Test.YtanppmpijadhbaaDoReads
import Derived.Test.YtanppmpijadhbaaDoWrites
import Derived.Test.YtanppmpijadhbaaCalls
namespace Go.Proofs.Ytanppmpijadhbaa
open Go.RowKit

theorem do_any (w : World) (base b N wh : Nat) (u : Value) (l : List Bool) (i k : Int) (t : Bool) (M : MapAt w b N (listF l)) (hu : SL encT w w.heap.size u l) (hl : l.length = N) (hN : N ≤ 4096) (hb : base ≤ b) (hbw : base ≤ w.heap.size) (hi : i64 i) (hk : i64 k) (hw : wh < 256) :
    Calls Try.prog 13 #[.pointer (some ⟨b, 0, none⟩), u, .agg (callC wh i k t)] w (DoPost w base N) := by
  have h : (wh : Int) % 9 = 0 ∨ (wh : Int) % 9 = 1 ∨ (wh : Int) % 9 = 2 ∨ (wh : Int) % 9 = 3 ∨ (wh : Int) % 9 = 4 ∨ (wh : Int) % 9 = 5 ∨ (wh : Int) % 9 = 6 ∨ (wh : Int) % 9 = 7 ∨ (wh : Int) % 9 = 8 := by omega
  rcases h with h | h | h | h | h | h | h | h | h
  · exact do_0 w base b N wh u l i k t M hu hl hN hb hbw hi hk hw h
  · exact do_1 w base b N wh u l i k t M hu hl hN hb hbw hi hk hw h
  · exact do_2 w base b N wh u l i k t M hu hl hN hb hbw hi hk hw h
  · exact do_3 w base b N wh u l i k t M hu hl hN hb hbw hi hk hw h
  · exact do_4 w base b N wh u l i k t M hu hl hN hb hbw hi hk hw h
  · exact do_5 w base b N wh u l i k t M hu hl hN hb hbw hi hk hw h
  · exact do_6 w base b N wh u l i k t M hu hl hN hb hbw hi hk hw h
  · exact do_7 w base b N wh u l i k t M hu hl hN hb hbw hi hk hw h
  · exact do_8 w base b N wh u l i k t M hu hl hN hb hbw hi hk hw h
set_option maxRecDepth 100000 in
set_option maxHeartbeats 4000000 in
theorem law_plays (w : World) (n : Nat) (v v2 : Value) (y : List UInt8) (cs : List CallD) (hv : SL encB w w.heap.size v y) (hc : CL w w.heap.size v2 cs) (hn : n < 65536) (hy : y.length ≤ 9223372036854775807) (hcl : cs.length ≤ 9223372036854775807) :
    Calls Try.prog 3 #[.int .u16 (n : Int), v, v2] w fun e w' => e = .returned (.bool true) ∧ Below w.heap.size w w' := by
  obtain ⟨A, c0, rfl⟩ := hv.form
  obtain ⟨A2, c2, rfl⟩ := hc.form
  by_cases hbig : (100 : Int) < (cs.length : Int)
  · clear hv hc
    go_enter Try.func3, Try.ntmps3
    go_wp2_with fail
    refine (awake_any _).mono ?_
    rintro e w2 ⟨rfl, hB2⟩
    have HB2 := Lib.hid hB2
    clear hB2
    go_wp2_with fail
    go_ret
    exact ⟨rfl, HB2.out⟩
  obtain ⟨N, hN⟩ : ∃ N, N = n % 601 := ⟨_, rfl⟩
  have hmk := made_any w n _ y hv hn hy
  rw [← hN] at hmk
  have HMK := Lib.hid hmk
  have HC := Lib.hid hc
  have hN6 : N ≤ 600 := by omega
  obtain ⟨l0, hl0⟩ : ∃ l, l = madeL N y := ⟨_, rfl⟩
  rw [← hl0] at HMK
  have LL : Hid (l0.length = N) := by rw [hl0]; exact madeL_len _ _
  clear hv hc hmk hN hl0
  go_enter Try.func3, Try.ntmps3
  go_wp2_with fail
  refine HMK.out.mono ?_
  rintro e w1 ⟨b0, u0, rfl, hM, hS, hb, hB⟩
  have HM := Lib.hid hM
  have HS := Lib.hid hS
  have HB := Lib.hid hB
  have HBB := Lib.hid hb
  clear hM hS hB hb HMK
  go_wp2_with fail
  go_loopw [7, 8, 9] (fun p u s wr => ∃ j : Nat, j ≤ cs.length ∧ s = .int .i64 (j : Int) ∧ ∃ (b : Nat) (l : List Bool), p = .pointer (some ⟨b, 0, none⟩) ∧ MapAt wr b N (listF l) ∧ SL encT wr wr.heap.size u l ∧ Hid (l.length = N) ∧ Hid (w.heap.size ≤ b) ∧ Below w.heap.size w wr) (fun _ _ s _ => cs.length - (intOf s).toNat)
  case atStart => exact ⟨0, Nat.zero_le _, rfl, b0, l0, rfl, HM.out, HS.out, LL.out, HBB.out, HB.out⟩
  case round =>
    obtain ⟨j, hj, rfl, b, l, rfl, M, S, HL, HW, hB⟩ := hrel
    clear HM HS HB HBB LL
    by_cases hlt : j < cs.length
    · have hltI : (j : Int) < (cs.length : Int) := by omega
      obtain ⟨cb, co, hA, hcb, hcc⟩ := HC.out.at (by omega)
      subst hA
      have hca := (hcc j hlt).below hB hcb
      obtain ⟨x, hx⟩ : ∃ x, x = cs[j] := ⟨_, rfl⟩
      rw [← hx] at hca
      obtain ⟨q, i, k, t⟩ := x
      obtain ⟨p0, p1, p2, p3, hq, hi, hk⟩ := hca
      simp only at p0 p1 p2 p3 hq hi hk
      have HD : Hid (Calls Try.prog 13 #[.pointer (some ⟨b, 0, none⟩), _, .agg #[.int .u8 (q : Int), .int .i64 i, .int .i64 k, .bool t]] wr (DoPost wr w.heap.size N)) := do_any wr w.heap.size b N q _ l i k t M S HL.out (by omega) HW.out hB.size hi hk hq
      have HB := Lib.hid hB
      clear M S hB hcc hx hi hk hq
      go_wp2_with fail
      refine HD.out.mono ?_
      rintro e w2 ⟨b', u', l', rfl, hM, hS, hL, hbb, hB⟩
      have HL2 := Lib.hid hL
      have HW2 := Lib.hid hbb
      have M2 := Lib.hid hM
      have S2 := Lib.hid hS
      have B2 : Hid (Below w.heap.size w w2) := HB.out.trans hB
      have HX := Lib.hid (lsame_any w2 b' u' l' (by rw [hL]; exact hM) hS)
      clear hM hS hL hbb hB HD HB p0 p1 p2 p3
      go_wp2_with fail
      refine HX.out.mono ?_
      rintro e w3 ⟨rfl, hB⟩
      have M3 : Hid (MapAt w3 b' N (listF l')) := M2.out.below hB M2.out.lt
      have S3 : Hid (SL encT w3 w3.heap.size u' l') := (S2.out.below hB (Nat.le_refl _)).mono hB.size
      have B3 : Hid (Below w.heap.size w w3) := B2.out.trans (hB.mono B2.out.size)
      clear hB HX
      go_wp2_with fail
      go_roundw
      case rel => exact ⟨j + 1, by omega, by go_num, b', l', rfl, M3.out, S3.out, HL2.out, HW2.out, B3.out⟩
      case measure => simp only [intOf]; omega
    · have hltI : ¬ (j : Int) < (cs.length : Int) := by omega
      have HB := Lib.hid hB
      clear M S hB
      go_wp2_with fail
      refine (awake_any _).mono ?_
      rintro e w2 ⟨rfl, hB2⟩
      have HB2 : Hid (Below w.heap.size w w2) := HB.out.trans (hB2.mono HB.out.size)
      clear hB2
      go_wp2_with fail
      go_ret
      exact ⟨rfl, HB2.out⟩
end Go.Proofs.Ytanppmpijadhbaa
