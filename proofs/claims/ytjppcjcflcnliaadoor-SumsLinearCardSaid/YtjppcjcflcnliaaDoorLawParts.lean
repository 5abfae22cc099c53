/- The walk of SumsParts: it returns true. Conditions: the table of half bytes, slices that hold the bytes, a number of 16 bits. -/
import Derived.Test.YtjppcjcflcnliaaDoorLawCrc
import Derived.Test.YtjppcjcflcnliaaDoorPatch
import Derived.Deep.RegionHeld
namespace Go.Proofs.YtjppcjcflcnliaaDoor
open Go.RowKit

theorem parts_comb (a b : List UInt8) : Cm.zs b.length (Cm.crc a) ^^^ Cm.crc b = Cm.crc (a ++ b) := by
  have h1 : Cm.crc (a ++ b) = Cm.go (Cm.crc a ^^^ Cm.top) b ^^^ Cm.top := by
    unfold Cm.crc Cm.on
    rw [Cm.go_append, Cm.xor_xor]
  rw [h1, Nat.xor_comm (Cm.crc a), Cm.go_diff]
  unfold Cm.crc Cm.on
  rw [Nat.zero_xor, Nat.xor_comm (Cm.zs _ _), Cm.xor_swap]
theorem parts_zeros (a : List UInt8) (n : Nat) : zerosN (Cm.crc a) n = Cm.on (Cm.crc a) (List.replicate n 0) := by
  unfold zerosN Cm.on; rw [Cm.go_zero]
theorem parts_on (a b : List UInt8) : Cm.on (Cm.crc a) b = Cm.crc (a ++ b) := by
  unfold Cm.crc Cm.on; rw [Cm.xor_xor, Cm.go_append]
theorem parts_mix (a b : List UInt8) : mixOnN (Cm.mix a) b = Cm.mix (a ++ b) := by
  unfold mixOnN
  rw [Cm.mixed_mix, ← Cm.mgo_append]; rfl
theorem mix_lt (a : List UInt8) : Cm.mix a < 18446744073709551616 := Cm.mval_lt (Cm.mgo_ok a Cm.one_ok)
/-- What the walk keeps of each world: the table, three slices, what was there before. -/
structure Four (w : World) (va vb vc : Value) (a b c : List UInt8) (W : World) : Prop where
  tb : TB W
  a : SL encB W W.heap.size va a
  b : SL encB W W.heap.size vb b
  c : SL encB W W.heap.size vc c
  bl : Below w.heap.size w W
section
variable {w W W' : World} {va vb vc v : Value} {a b c : List UInt8} {n : Nat}
theorem Four.next (h : Four w va vb vc a b c W) (hb : Below W.heap.size W W') : Four w va vb vc a b c W' :=
  ⟨h.tb.below hb h.tb.lt, h.a.next hb, h.b.next hb, h.c.next hb, h.bl.trans (hb.mono h.bl.size)⟩
theorem Four.drew (h : Four w va vb vc a b c W) : Four w va vb vc a b c W.drew := ⟨h.tb.drewN 1, h.a, h.b, h.c, h.bl.drew⟩
theorem Four.alloc (h : Four w va vb vc a b c W) (o : Obj) : Four w va vb vc a b c (W.alloc o) := h.next ((Below.refl _ _).alloc (Nat.le_refl _) o)
theorem Four.crc_a (h : Four w va vb vc a b c W) (hy : a.length ≤ 9223372036854775807) : Calls Tryd.prog 14 #[va] W fun e W' => e = .returned (.int .u32 ((Cm.crc a : Nat) : Int)) ∧ Four w va vb vc a b c W' ∧ Below W.heap.size W W' :=
  (crc_any W _ a h.tb h.a hy).mono fun _ _ ⟨e, hb⟩ => ⟨e, h.next hb, hb⟩
theorem Four.crc_c (h : Four w va vb vc a b c W) (hy : c.length ≤ 9223372036854775807) : Calls Tryd.prog 14 #[vc] W fun e W' => e = .returned (.int .u32 ((Cm.crc c : Nat) : Int)) ∧ Four w va vb vc a b c W' ∧ Below W.heap.size W W' :=
  (crc_any W _ c h.tb h.c hy).mono fun _ _ ⟨e, hb⟩ => ⟨e, h.next hb, hb⟩
theorem Four.on_b (h : Four w va vb vc a b c W) (r : Nat) (hr : r < 4294967296) (hy : b.length ≤ 9223372036854775807) : Calls Tryd.prog 16 #[.int .u32 (r : Int), vb] W fun e W' => e = .returned (.int .u32 ((Cm.on r b : Nat) : Int)) ∧ Four w va vb vc a b c W' ∧ Below W.heap.size W W' :=
  (on_any W r _ b h.tb h.b hr hy).mono fun _ _ ⟨e, hb⟩ => ⟨e, h.next hb, hb⟩
theorem Four.on_z (h : Four w va vb vc a b c W) (r : Nat) (hr : r < 4294967296) (hz : SL encB W W.heap.size v (List.replicate n 0)) (hn : n ≤ 100000) : Calls Tryd.prog 16 #[.int .u32 (r : Int), v] W fun e W' => e = .returned (.int .u32 ((Cm.on r (List.replicate n 0) : Nat) : Int)) ∧ Four w va vb vc a b c W' ∧ Below W.heap.size W W' :=
  (on_any W r _ _ h.tb hz hr (by simp; omega)).mono fun _ _ ⟨e, hb⟩ => ⟨e, h.next hb, hb⟩
theorem Four.mix_c (h : Four w va vb vc a b c W) (hy : c.length ≤ 9223372036854775807) : Calls Tryd.prog 31 #[vc] W fun e W' => e = .returned (.int .u64 ((Cm.mix c : Nat) : Int)) ∧ Four w va vb vc a b c W' ∧ Below W.heap.size W W' :=
  (mix_any W _ c h.c hy).mono fun _ _ ⟨e, hb⟩ => ⟨e, h.next hb, hb⟩
theorem Four.shown (h : Four w va vb vc a b c W) : Calls Tryd.prog 13 #[] W fun e W' => e = .returned (.bool true) ∧ Four w va vb vc a b c W' ∧ Below W.heap.size W W' :=
  (shown_any W h.tb).mono fun _ _ ⟨e, hb⟩ => ⟨e, h.next hb, hb⟩
end
theorem make_u8 (W : World) (k : IntKind) (n : Nat) (hn : n ≤ 100000) : (Instr.makeSlice 23 (.int k (n : Int)) (.int k (n : Int))).run Tryd.prog W = .ok (.slice (some ⟨W.heap.size, 0, none⟩) n n) (W.alloc (.cells (madeCells #[.int .u8 0] n) 5)) := by
  obtain ⟨i0, hi, hz0, hz1, hz2⟩ := info_parts info_u8
  have hb : (i0.bytes : Int) * (n : Int) ≤ 281474976710656 := by rw [hz2]; omega
  have hr := run_make (P := Tryd.prog) W 23 5 i0 (.int .u8 0) Tryd.underlying23 hi hz0 k k n n (by omega) (Int.le_refl _) hb (by omega)
  rw [hz1] at hr
  have hr2 : (Instr.makeSlice 23 (.int k (n : Int)) (.int k (n : Int))).run Tryd.prog W = .ok (.slice (some ⟨W.heap.size, 0, none⟩) n n) (W.alloc (.cells (madeCells (Value.int .u8 0).cells n) 5)) := by simpa using hr
  exact hr2
theorem sl_zero (W : World) (n : Nat) : SL encB (W.alloc (.cells (madeCells #[.int .u8 0] n) 5)) (W.alloc (.cells (madeCells #[.int .u8 0] n) 5)).heap.size (.slice (some ⟨W.heap.size, 0, none⟩) n n) (List.replicate n 0) := by
  refine .inr ⟨W.heap.size, 0, n, by simp, by simp, by simp, fun i hi => ?_⟩
  rw [Nat.zero_add, cell_of_row _ W.heap.size i _ _ _ (heap_alloc_new W _), ← Array.getElem?_toList, made_u8]
  simp at hi
  simp [hi, encB]
set_option maxRecDepth 100000 in
set_option maxHeartbeats 4000000 in
theorem law_parts (w : World) (va vb : Value) (a b : List UInt8) (n : Nat) (hT : TB w) (hva : SL encB w w.heap.size va a) (hvb : SL encB w w.heap.size vb b) (hn : n < 65536) (hya : a.length ≤ 9223372036854775807) (hyb : b.length ≤ 9223372036854775807) :
    Calls Tryd.prog 10 #[va, vb, .int .u16 (n : Int)] w fun e w' => e = .returned (.bool true) ∧ Below w.heap.size w w' := by
  obtain ⟨A, ca, rfl⟩ := hva.form
  obtain ⟨B, cb, rfl⟩ := hvb.form
  have HT := Lib.hid hT
  by_cases h1 : (1000 : Int) < (a.length : Int)
  · clear hva hvb hT
    go_enter Tryd.func10, Tryd.ntmps10
    go_wp2_with fail
    refine (shown_any w HT.out).mono ?_
    rintro e w2 ⟨rfl, hB⟩
    have HB := Lib.hid hB
    clear hB
    go_wp2_with fail
    go_ret
    exact ⟨rfl, HB.out⟩
  by_cases h2 : (1000 : Int) < (b.length : Int)
  · clear hva hvb hT
    go_enter Tryd.func10, Tryd.ntmps10
    go_wp2_with fail
    refine (shown_any w HT.out).mono ?_
    rintro e w2 ⟨rfl, hB⟩
    have HB := Lib.hid hB
    clear hB
    go_wp2_with fail
    go_ret
    exact ⟨rfl, HB.out⟩
  by_cases h3 : (1000 : Int) < (n : Int)
  · clear hva hvb hT
    go_enter Tryd.func10, Tryd.ntmps10
    go_wp2_with fail
    refine (shown_any w HT.out).mono ?_
    rintro e w2 ⟨rfl, hB⟩
    have HB := Lib.hid hB
    clear hB
    go_wp2_with fail
    go_ret
    exact ⟨rfl, HB.out⟩
  have hla : a.length ≤ 1000 := by omega
  have hlb : b.length ≤ 1000 := by omega
  have hln : n ≤ 1000 := by omega
  have hB1 : Below w.heap.size w (w.alloc (.cells #[] 5)) := (Below.refl _ _).alloc (Nat.le_refl _) _
  have HA1 := Lib.hid (hva.next hB1)
  have HAV := Lib.hid hva
  have HBV := Lib.hid hvb
  have HN1 := Lib.hid (own_new w 5)
  have HB1 := Lib.hid hB1
  clear hva hvb hT hB1
  go_enter Tryd.func10, Tryd.ntmps10
  go_wp2_with
    (first
    | (at_builtin
       refine wpList_append_sl rfl (.tmp 27) _ rfl w.heap.size _ _ 0 [] rfl HN1.out _ a rfl HA1.out (by omega) (by simp) ?_
       intro v1 w2 hown hgrow
       rw [List.nil_append, Nat.zero_add] at hown
       have hB2 : Below w.heap.size w w2 := HB1.out.grown hgrow (by simp) (fun k hk => by have : w.heap.size = k := Option.some.inj hk; omega)
       have HO2 := Lib.hid hown
       have HV2 := Lib.hid (HBV.out.next hB2)
       have HB2 := Lib.hid hB2
       clear hown hgrow hB2)
    | (at_builtin
       refine wpList_append_sl rfl (.tmp 29) _ rfl w.heap.size _ _ a.length (a.map encB) rfl HO2.out _ b rfl HV2.out (by omega) HB2.out.size ?_
       intro v2 w3 hown hgrow
       rw [← List.map_append] at hown
       have hB3 : Below w.heap.size w w3 := HB2.out.grown hgrow HB2.out.size (fun k hk => (HO2.out.lt k hk).1)
       have HO3 := Lib.hid (SL.of_own (l := a ++ b) (by simp) hown)
       have HB3 := Lib.hid hB3
       clear hown hgrow hB3))
  have HF : Hid (Four w (.slice A a.length ca) (.slice B b.length cb) v2 a b (a ++ b) w3) := ⟨HT.out.below HB3.out HT.out.lt, HAV.out.next HB3.out, HBV.out.next HB3.out, HO3.out, HB3.out⟩
  clear HB3 HO3 HV2 HO2 HB2 HB1 HN1 HA1 HAV HBV HT
  have ha32 := Cm.crc_lt a
  have hb32 := Cm.crc_lt b
  have hmx := mix_lt a
  have HMI := Lib.hid (Cm.mix_isMix a)
  refine (crc_any w3 _ a HF.out.tb HF.out.a hya).mono ?_
  rintro e w4 ⟨rfl, hb⟩
  have HF4 := Lib.hid (HF.out.next hb)
  clear hb HF
  go_wp2_with fail
  refine (crc_any w4 _ b HF4.out.tb HF4.out.b hyb).mono ?_
  rintro e w5 ⟨rfl, hb⟩
  have HF5 := Lib.hid (HF4.out.next hb)
  clear hb HF4
  have HC := comb_ok w5 (Cm.crc a) (Cm.crc b) b.length HF5.out.tb ha32 hb32 (by omega)
  rw [parts_comb] at HC
  have HC2 := Lib.hid HC
  clear HC
  go_wp2_with fail
  refine HC2.out.mono ?_
  rintro e w6 ⟨rfl, hb⟩
  have HF6 := Lib.hid (HF5.out.next hb)
  clear hb HF5 HC2
  go_wp2_with fail
  refine (crc_any w6 _ a HF6.out.tb HF6.out.a hya).mono ?_
  rintro e w7 ⟨rfl, hb⟩
  have HF7 := Lib.hid (HF6.out.next hb)
  clear hb HF6
  have HZ := zer_ok w7 (Cm.crc a) n HF7.out.tb ha32 (by omega)
  rw [parts_zeros] at HZ
  have HZ2 := Lib.hid HZ
  clear HZ
  go_wp2_with fail
  refine HZ2.out.mono ?_
  rintro e w8 ⟨rfl, hb⟩
  have HF8 := Lib.hid (HF7.out.next hb)
  clear hb HF7 HZ2
  go_wp2_with fail
  refine (mix_any w8 _ a HF8.out.a hya).mono ?_
  rintro e w9 ⟨rfl, hb⟩
  have HF9 := Lib.hid (HF8.out.next hb)
  clear hb HF8
  have HM := mixOn_ok w9 (Cm.mix a) _ b HF9.out.b hmx HMI.out hyb
  rw [parts_mix] at HM
  have HM2 := Lib.hid HM
  clear HM
  go_wp2_with fail
  refine HM2.out.mono ?_
  rintro e wa ⟨rfl, hb⟩
  have HFa := Lib.hid (HF9.out.next hb)
  clear hb HF9 HM2
  go_wp2_with fail
  have hmk := fun W => make_u8 W .u16 n (by omega)
  have hs1 := int_self (Cm.crc (a ++ b))
  have hs2 := int_self (Cm.on (Cm.crc a) (List.replicate n 0))
  have hs3 := int_self (Cm.mix (a ++ b))
  have hyc : (a ++ b).length ≤ 9223372036854775807 := by rw [List.length_append]; omega
  have hon := parts_on a b
  have hlz : n ≤ 100000 := by omega
  have HYC := Lib.hid hyc
  have HON := Lib.hid hon
  have hfa := HFa.out.drew
  clear hyc hon
  first | (go_region_held (Four w (.slice A a.length ca) (.slice B b.length cb) v2 a b (a ++ b)) (first | assumption | (exact Four.alloc (by assumption) _))
    (first
    | (go_at_call 14; (with_reducible refine (Four.crc_a (by assumption) hya).mono ?_); rintro e W' ⟨rfl, hf, hb⟩)
    | (go_at_call 14; (with_reducible refine (Four.crc_c (by assumption) HYC.out).mono ?_); rintro e W' ⟨rfl, hf, hb⟩)
    | (go_at_call 16; (with_reducible refine (Four.on_b (by assumption) _ ha32 hyb).mono ?_); rintro e W' ⟨rfl, hf, hb⟩; rw [HON.out])
    | (go_at_call 16; (with_reducible refine (Four.on_z (n := n) (by assumption) _ ha32 (by first | exact sl_zero _ _ | exact (sl_zero _ _).next (by assumption)) hlz).mono ?_); rintro e W' ⟨rfl, hf, hb⟩)
    | (go_at_call 31; (with_reducible refine (Four.mix_c (by assumption) HYC.out).mono ?_); rintro e W' ⟨rfl, hf, hb⟩)
    | (go_at_call 13; (with_reducible refine (Four.shown (by assumption)).mono ?_); rintro e W' ⟨rfl, hf, hb⟩))) | fail
  all_goals
    have hfin : Four w (.slice A a.length ca) (.slice B b.length cb) v2 a b (a ++ b) W' := by assumption
    have HFIN := Lib.hid hfin.bl
    clear hfin
    go_wp2
    go_ret
    exact ⟨rfl, HFIN.out⟩
end Go.Proofs.YtjppcjcflcnliaaDoor
