/- The contract of shown: the calls that each statement makes besides. Condition: the table of half bytes. -/
import Derived.Test.YtjppcjcflcnliaaDoorLocate
import Derived.Test.YtjppcjcflcnliaaDoorComb
import Derived.Test.YtjppcjcflcnliaaDoorMix
import Derived.Lib.SlBytesConst
namespace Go.Proofs.YtjppcjcflcnliaaDoor
open Go.RowKit

theorem sl_lit (w : World) (l : List UInt8) (cs : Array Value) (n : Nat) (hc : cs.toList = l.map encB) (hn : n = l.length) : SL encB (w.alloc (.cells cs 5 (cs.size, cs.size + 1))) (w.alloc (.cells cs 5 (cs.size, cs.size + 1))).heap.size (.slice (some ⟨w.heap.size, 0, none⟩) n n) l := by
  subst hn
  refine .inr ⟨w.heap.size, 0, l.length, rfl, by simp, Nat.le_refl _, fun i hi => ?_⟩
  rw [Nat.zero_add, cell_of_row _ w.heap.size i _ _ _ (heap_alloc_new w _), ← Array.getElem?_toList, hc]
  simp [hi]
theorem tb_alloc {w : World} (h : TB w) (o : Obj) : TB (w.alloc o) := h.below ((Below.refl w.heap.size w).alloc (Nat.le_refl _) o) h.lt
theorem crc_lit (w : World) (l : List UInt8) (cs : Array Value) (n c : Nat) (hc : cs.toList = l.map encB) (hn : n = l.length) (hl : l.length ≤ 100) (hcrc : Cm.crc l = c) (hT : TB w) :
    Calls Tryd.prog 14 #[.slice (some ⟨w.heap.size, 0, none⟩) n n] (w.alloc (.cells cs 5 (cs.size, cs.size + 1))) fun e w' => e = .returned (.int .u32 (c : Int)) ∧ Below w.heap.size w w' ∧ TB w' := by
  refine (crc_any _ _ l (tb_alloc hT _) (sl_lit w l cs n hc hn) (by omega)).mono ?_
  rintro e w' ⟨rfl, hb⟩
  exact ⟨by rw [hcrc], ((Below.refl _ _).alloc (Nat.le_refl _) _).trans (hb.mono (by simp)), (tb_alloc hT _).below hb (by simp)⟩
theorem mix_lit (w : World) (l : List UInt8) (cs : Array Value) (n c : Nat) (hc : cs.toList = l.map encB) (hn : n = l.length) (hl : l.length ≤ 100) (hcrc : Cm.mix l = c) (hT : TB w) :
    Calls Tryd.prog 31 #[.slice (some ⟨w.heap.size, 0, none⟩) n n] (w.alloc (.cells cs 5 (cs.size, cs.size + 1))) fun e w' => e = .returned (.int .u64 (c : Int)) ∧ Below w.heap.size w w' ∧ TB w' := by
  refine (mix_any _ _ l (sl_lit w l cs n hc hn) (by omega)).mono ?_
  rintro e w' ⟨rfl, hb⟩
  exact ⟨by rw [hcrc], ((Below.refl _ _).alloc (Nat.le_refl _) _).trans (hb.mono (by simp)), (tb_alloc hT _).below hb (by simp)⟩
theorem kc (w : World) (C : Array Value) (n c : Nat) : (convert 23 23 (.slice (some ⟨w.heap.size, 0, none⟩) n c)).run Tryd.prog (w.alloc (.cells C 5)) = .ok (.slice (some ⟨w.heap.size, 0, none⟩) n c) (w.alloc (.cells C 5 (C.size, C.size + 1))) :=
  Lib.run_convert_bytes_const (P := Tryd.prog) w 23 5 C n c Tryd.underlying23 Tryd.underlying5
theorem nil_sl (w : World) : SL encB w w.heap.size (.slice none 0 0) [] := SL.nil w _
theorem k1 : Cm.crc [49, 50, 51, 52] = 2615402659 := by decide +kernel
theorem k2 : Cm.crc [53, 54, 55, 56, 57] = 320708720 := by decide +kernel
theorem k3 : Cm.zs 5 2615402659 ^^^ 320708720 = 3421780262 := by decide +kernel
theorem k4 : Cm.found [98] 3904355907 0 = some 0 := by decide +kernel
theorem k5 : Cm.val [98] 3904355907 0 = 97 := by decide +kernel
theorem k6 : Cm.mix [97, 98] = 1262720385220 := by decide +kernel
theorem k7 : rollN 1262720385220 2 97 99 = 1275605287110 := by decide +kernel
theorem k8 : Cm.mix [98, 99] = 1275605287110 := by decide +kernel
theorem k9 : Cm.crc [97] = 3904355907 := by decide +kernel
theorem k10 : Cm.crc [49, 50, 51, 52, 53, 54, 55, 56, 57] = 3421780262 := by decide +kernel
theorem k11 : Cm.crc [98] ≠ 3904355907 := by decide +kernel
theorem k12 : Cm.isMix 1262720385220 := by unfold Cm.isMix; omega
set_option maxRecDepth 100000 in
set_option maxHeartbeats 2000000 in
theorem shown_any (w : World) (hT : TB w) :
    Calls Tryd.prog 13 #[] w fun e w' => e = .returned (.bool true) ∧ Below w.heap.size w w' := by
  have HT := Lib.hid hT
  have kc := kc
  clear hT
  go_enter Tryd.func13, Tryd.ntmps13
  go_wp2_with fail
  refine (crc_lit w [49, 50, 51, 52] #[.int .u8 49, .int .u8 50, .int .u8 51, .int .u8 52] 4 2615402659 (by rfl) (by rfl) (by decide) k1 HT.out).mono ?_
  rintro e w1 ⟨rfl, hb, ht⟩
  have HB1 := Lib.hid hb
  have HT1 := Lib.hid ht
  clear hb ht
  go_wp2_with fail
  refine (crc_lit w1 [53, 54, 55, 56, 57] #[.int .u8 53, .int .u8 54, .int .u8 55, .int .u8 56, .int .u8 57] 5 320708720 (by rfl) (by rfl) (by decide) k2 HT1.out).mono ?_
  rintro e w2 ⟨rfl, hb, ht⟩
  have HB2 : Hid (Below w.heap.size w w2) := HB1.out.trans (hb.mono HB1.out.size)
  have HT2 := Lib.hid ht
  clear hb ht
  have HC := comb_ok w2 2615402659 320708720 5 HT2.out (by omega) (by omega) (by omega)
  rw [k3] at HC
  have HC2 := Lib.hid HC
  clear HC
  go_wp2_with fail
  refine HC2.out.mono ?_
  rintro e w3 ⟨rfl, hb⟩
  have HT3 : Hid (TB w3) := HT2.out.below hb HT2.out.lt
  have HB3 : Hid (Below w.heap.size w w3) := HB2.out.trans (hb.mono HB2.out.size)
  clear hb HC2
  have HL := locate_ok (w3.alloc (.cells #[.int .u8 98] 5 (1, 2))) (.slice (some ⟨w3.heap.size, 0, none⟩) 1 1) [98] 3904355907 (tb_alloc HT3.out _) (sl_lit w3 [98] _ 1 rfl rfl) (by omega) (by decide) k11
  rw [k4] at HL
  have HL2 : Hid (Calls Tryd.prog 25 #[.slice (some ⟨w3.heap.size, 0, none⟩) 1 1, .int .u32 3904355907] (w3.alloc (.cells #[.int .u8 98] 5 (1, 2))) fun e w' => e = .returned (.tuple #[.int .i64 0, .int .u8 97, .int .i64 0]) ∧ Below (w3.alloc (.cells #[.int .u8 98] 5 (1, 2))).heap.size (w3.alloc (.cells #[.int .u8 98] 5 (1, 2))) w') := by
    refine HL.mono ?_
    rintro e w' ⟨rfl, hb⟩
    exact ⟨by rw [show locV [98] 3904355907 (some 0) = 97 from k5]; rfl, hb⟩
  clear HL
  go_wp2_with fail
  refine HL2.out.mono ?_
  rintro e w4 ⟨rfl, hb⟩
  have HT4 : Hid (TB w4) := (tb_alloc HT3.out _).below hb (by simp)
  have HB4 : Hid (Below w.heap.size w w4) := (HB3.out.alloc HB3.out.size _).trans (hb.mono (by have := HB3.out.size; simp; omega))
  clear hb HL2
  go_wp2_with fail
  refine (mix_lit w4 [97, 98] #[.int .u8 97, .int .u8 98] 2 1262720385220 (by rfl) (by rfl) (by decide) k6 HT4.out).mono ?_
  rintro e w5 ⟨rfl, hb, ht⟩
  have HB5 : Hid (Below w.heap.size w w5) := HB4.out.trans (hb.mono HB4.out.size)
  have HT5 := Lib.hid ht
  clear hb ht
  have HR := roll_ok w5 1262720385220 2 97 99 (by omega) k12 (by omega) (by omega) (by omega) (by omega)
  rw [k7] at HR
  have HR2 := Lib.hid HR
  clear HR
  go_wp2_with fail
  refine HR2.out.mono ?_
  rintro e w6 ⟨rfl, hb⟩
  have HB6 : Hid (Below w.heap.size w w6) := HB5.out.trans (hb.mono HB5.out.size)
  have HT6 : Hid (TB w6) := HT5.out.below hb HT5.out.lt
  clear hb HR2
  go_wp2_with fail
  refine (crc_any w6 _ [] HT6.out (nil_sl w6) (by decide)).mono ?_
  rintro e w7 ⟨rfl, hb⟩
  have HB7 : Hid (Below w.heap.size w w7) := HB6.out.trans (hb.mono HB6.out.size)
  have HT7 : Hid (TB w7) := HT6.out.below hb HT6.out.lt
  clear hb
  have h0 : (((Cm.crc [] : Nat) : Int) == 0) = true := by decide
  go_wp2_with fail
  refine (crc_lit w7 [97] #[.int .u8 97] 1 3904355907 (by rfl) (by rfl) (by decide) k9 HT7.out).mono ?_
  rintro e w8 ⟨rfl, hb, ht⟩
  have HB8 : Hid (Below w.heap.size w w8) := HB7.out.trans (hb.mono HB7.out.size)
  have HT8 := Lib.hid ht
  clear hb ht
  go_wp2_with fail
  refine (crc_lit w8 [49, 50, 51, 52, 53, 54, 55, 56, 57] #[.int .u8 49, .int .u8 50, .int .u8 51, .int .u8 52, .int .u8 53, .int .u8 54, .int .u8 55, .int .u8 56, .int .u8 57] 9 3421780262 (by rfl) (by rfl) (by decide) k10 HT8.out).mono ?_
  rintro e w9 ⟨rfl, hb, ht⟩
  have HB9 : Hid (Below w.heap.size w w9) := HB8.out.trans (hb.mono HB8.out.size)
  have HT9 := Lib.hid ht
  clear hb ht
  go_wp2_with fail
  refine (mix_lit w9 [97, 98] #[.int .u8 97, .int .u8 98] 2 1262720385220 (by rfl) (by rfl) (by decide) k6 HT9.out).mono ?_
  rintro e wa ⟨rfl, hb, ht⟩
  have HBa : Hid (Below w.heap.size w wa) := HB9.out.trans (hb.mono HB9.out.size)
  have HTa := Lib.hid ht
  clear hb ht
  go_wp2_with fail
  refine (mix_lit wa [98, 99] #[.int .u8 98, .int .u8 99] 2 1275605287110 (by rfl) (by rfl) (by decide) k8 HTa.out).mono ?_
  rintro e wb ⟨rfl, hb, ht⟩
  have HBb : Hid (Below w.heap.size w wb) := HBa.out.trans (hb.mono HBa.out.size)
  clear hb ht
  go_wp2_with fail
  go_ret
  exact ⟨rfl, HBb.out⟩
end Go.Proofs.YtjppcjcflcnliaaDoor
