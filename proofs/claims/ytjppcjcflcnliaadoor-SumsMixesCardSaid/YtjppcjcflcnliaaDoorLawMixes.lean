/- The walk of SumsMixes: it returns true. Conditions: the table of half bytes, a slice that holds the bytes, numbers of their kinds. -/
import Derived.Test.YtjppcjcflcnliaaDoorLawCrc
import Derived.Test.YtjppcjcflcnliaaDoorRMix
namespace Go.Proofs.YtjppcjcflcnliaaDoor
open Go.RowKit

theorem rolls (h : Nat) (n : Int) (out inn : Nat) (hh : h < 18446744073709551616) (ho : out < 256) (hi : inn < 256) : ∃ a e : Nat,
    (∀ w, Calls Tryd.prog 29 #[.int .u64 (h : Int), .int .i64 n, .int .u8 (out : Int), .int .u8 (inn : Int)] w fun x w' => x = .returned (.tuple #[.int .u64 (a : Int), .int .i64 (e : Int)]) ∧ Below w.heap.size w w') ∧
    (∀ w, Calls Tryd.prog 30 #[.int .u64 (h : Int), .int .i64 n, .int .u8 (out : Int), .int .u8 (inn : Int)] w fun x w' => x = .returned (.tuple #[.int .u64 (a : Int), .int .i64 (e : Int)]) ∧ w = w') := by
  by_cases hm : Cm.isMix h
  · by_cases hn : 1 ≤ n ∧ n ≤ 1000000
    · obtain ⟨k, rfl⟩ : ∃ k : Nat, n = (k : Int) := ⟨n.toNat, by omega⟩
      exact ⟨rollN h k out inn, 0, fun w => roll_ok w h k out inn hh hm (by omega) (by omega) ho hi, fun w => rroll_ok w h k out inn hh hm (by omega) (by omega) ho hi⟩
    · exact ⟨0, 7, fun w => roll_range w h n out inn hh hm (by omega), fun w => rroll_range w h n out inn hh hm (by omega)⟩
  · exact ⟨0, 6, fun w => roll_form w h n out inn hh hm, fun w => rroll_form w h n out inn hh hm⟩
theorem mixOns (h : Nat) (v : Value) (y : List UInt8) (hh : h < 18446744073709551616) (hy : y.length ≤ 9223372036854775807) : ∃ a e : Nat,
    (∀ w, SL encB w w.heap.size v y → Calls Tryd.prog 27 #[.int .u64 (h : Int), v] w fun x w' => x = .returned (.tuple #[.int .u64 (a : Int), .int .i64 (e : Int)]) ∧ Below w.heap.size w w') ∧
    (∀ w, SL encB w w.heap.size v y → Calls Tryd.prog 28 #[.int .u64 (h : Int), v] w fun x w' => x = .returned (.tuple #[.int .u64 (a : Int), .int .i64 (e : Int)]) ∧ w = w') := by
  by_cases hm : Cm.isMix h
  · exact ⟨mixOnN h y, 0, fun w hv => mixOn_ok w h v y hv hh hm hy, fun w hv => rmixOn_ok w h _ v y hv hh hm hy⟩
  · exact ⟨0, 6, fun w _ => mixOn_bad w h v hh hm, fun w _ => rmixOn_bad w h v hh hm⟩
set_option maxRecDepth 100000 in
set_option maxHeartbeats 1000000 in
theorem law_mixes (w : World) (h : Nat) (v : Value) (y : List UInt8) (n : Int) (out inn : Nat) (hT : TB w) (hv : SL encB w w.heap.size v y) (hh : h < 18446744073709551616) (hy : y.length ≤ 9223372036854775807) (ho : out < 256) (hi : inn < 256) :
    Calls Tryd.prog 8 #[.int .u64 (h : Int), v, .agg #[.int .i64 n, .int .u8 (out : Int), .int .u8 (inn : Int)]] w fun e w' => e = .returned (.bool true) ∧ Below w.heap.size w w' := by
  obtain ⟨A, c0, rfl⟩ := hv.form
  obtain ⟨a1, e1, M1, M2⟩ := mixOns h (.slice A y.length c0) y hh hy
  obtain ⟨a2, e2, R1, R2⟩ := rolls h n out inn hh ho hi
  have H1 := Lib.hid M1
  have H2 := Lib.hid M2
  have H3 := Lib.hid R1
  have H4 := Lib.hid R2
  have hB0 : Below w.heap.size w (w.alloc (.cells #[.int .i64 n, .int .u8 (out : Int), .int .u8 (inn : Int)] 43)) := (Below.refl _ _).alloc (Nat.le_refl _) _
  have HV : Hid (SL encB (w.alloc (.cells #[.int .i64 n, .int .u8 (out : Int), .int .u8 (inn : Int)] 43)) (w.alloc (.cells #[.int .i64 n, .int .u8 (out : Int), .int .u8 (inn : Int)] 43)).heap.size (.slice A y.length c0) y) := hv.next hB0
  have HT : Hid (TB (w.alloc (.cells #[.int .i64 n, .int .u8 (out : Int), .int .u8 (inn : Int)] 43))) := hT.below hB0 hT.lt
  have HN : Hid (Blk (w.alloc (.cells #[.int .i64 n, .int .u8 (out : Int), .int .u8 (inn : Int)] 43)) w.heap.size #[.int .i64 n, .int .u8 (out : Int), .int .u8 (inn : Int)] 43) := Blk.new _ _ _
  have HB0 := Lib.hid hB0
  clear M1 M2 R1 R2 hB0 hv hT
  by_cases hbig : (2000 : Int) < (y.length : Int)
  · go_enter Tryd.func8, Tryd.ntmps8
    go_wp2_with fail
    refine (shown_any _ HT.out).mono ?_
    rintro e w2 ⟨rfl, hB⟩
    have HB := Lib.hid hB
    clear hB
    go_wp2_with fail
    go_ret
    exact ⟨rfl, HB0.out.trans (HB.out.mono (by simp))⟩
  · go_enter Tryd.func8, Tryd.ntmps8
    go_wp2_with fail
    refine (H1.out _ HV.out).mono ?_
    rintro e w1 ⟨rfl, hb⟩
    have HB1 : Hid (Below w.heap.size w w1) := HB0.out.trans (hb.mono (by simp))
    have HT1 : Hid (TB w1) := HT.out.below hb HT.out.lt
    have HV1 : Hid (SL encB w1 w1.heap.size (.slice A y.length c0) y) := HV.out.next hb
    have hblk : Blk w1 w.heap.size #[.int .i64 n, .int .u8 (out : Int), .int .u8 (inn : Int)] 43 := HN.out.below hb HN.out.lt
    have c0' := hblk.cell 0 (v := .int .i64 n) rfl
    have c1' := hblk.cell 1 (v := .int .u8 (out : Int)) rfl
    have c2' := hblk.cell 2 (v := .int .u8 (inn : Int)) rfl
    have HK := Lib.hid hblk
    clear hb hblk HV HT HN HB0 H1
    go_wp2_with fail
    refine (H2.out _ HV1.out).mono ?_
    rintro e w' ⟨rfl, rfl⟩
    go_wp2_with fail
    refine (H3.out _).mono ?_
    rintro e w2 ⟨rfl, hb⟩
    have HB2 : Hid (Below w.heap.size w w2) := HB1.out.trans (hb.mono HB1.out.size)
    have HT2 : Hid (TB w2) := HT1.out.below hb HT1.out.lt
    have HV2 : Hid (SL encB w2 w2.heap.size (.slice A y.length c0) y) := HV1.out.next hb
    have hblk : Blk w2 w.heap.size #[.int .i64 n, .int .u8 (out : Int), .int .u8 (inn : Int)] 43 := HK.out.below hb HK.out.lt
    have c0' := hblk.cell 0 (v := .int .i64 n) rfl
    have c1' := hblk.cell 1 (v := .int .u8 (out : Int)) rfl
    have c2' := hblk.cell 2 (v := .int .u8 (inn : Int)) rfl
    clear hb hblk HV1 HT1 HB1 H2 H3
    go_wp2_with fail
    refine (H4.out _).mono ?_
    rintro e w' ⟨rfl, rfl⟩
    go_wp2_with fail
    refine (mix_any w2 _ y HV2.out hy).mono ?_
    rintro e w3 ⟨rfl, hb⟩
    have HB3 : Hid (Below w.heap.size w w3) := HB2.out.trans (hb.mono HB2.out.size)
    have HT3 : Hid (TB w3) := HT2.out.below hb HT2.out.lt
    have HV3 : Hid (SL encB w3 w3.heap.size (.slice A y.length c0) y) := HV2.out.next hb
    clear hb c0' c1' c2'
    go_wp2_with fail
    refine (rmix_any w3 _ _ y HV3.out hy).mono ?_
    rintro e w' ⟨rfl, rfl⟩
    have hs := int_self (Cm.mix y)
    have hs1 := int_self a1
    have hs2 := int_self e1
    have hs3 := int_self a2
    have hs4 := int_self e2
    go_wp2_with fail
    refine (shown_any w3 HT3.out).mono ?_
    rintro e w4 ⟨rfl, hB⟩
    have HB4 : Hid (Below w.heap.size w w4) := HB3.out.trans (hB.mono HB3.out.size)
    clear hB
    go_wp2_with fail
    go_ret
    exact ⟨rfl, HB4.out⟩
end Go.Proofs.YtjppcjcflcnliaaDoor
