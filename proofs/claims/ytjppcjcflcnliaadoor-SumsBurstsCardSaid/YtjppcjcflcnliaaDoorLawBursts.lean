/- The walk of SumsBursts: it returns true. Conditions: the table of half bytes, a slice that holds the bytes, numbers of their kinds. -/
import Derived.Test.YtjppcjcflcnliaaDoorLawCrc
import Derived.Test.YtjppcjcflcnliaaDoorPatch
import Derived.Test.YtjppcjcflcnliaaDoorMath5
namespace Go.Proofs.YtjppcjcflcnliaaDoor
open Go.RowKit

theorem bit_test (pat k : Nat) : ((((pat : Int) / 2 ^ k).tmod 2 == 1) : Bool) = pat.testBit k := by
  have e : (pat : Int) / 2 ^ k = ((pat / 2 ^ k : Nat) : Int) := by rw [Int.natCast_ediv, Int.natCast_pow]; rfl
  rw [e, Int.tmod_eq_emod_of_nonneg (Int.natCast_nonneg _), Nat.testBit_eq_decide_div_mod_eq, Bool.eq_iff_iff, beq_iff_eq, decide_eq_true_eq]
  omega
theorem pow8 {i : Nat} (h : i < 8) : 2 ^ i < 256 := show 2 ^ i < 2 ^ 8 from Nat.pow_lt_pow_right (by omega) h
set_option maxRecDepth 100000 in
set_option maxHeartbeats 2000000 in
theorem law_bursts (w : World) (v : Value) (y : List UInt8) (bit pat : Nat) (hT : TB w) (hv : SL encB w w.heap.size v y) (hbit : bit < 65536) (hpat : pat < 4294967296) (hy : y.length ≤ 9223372036854775807) :
    Calls Tryd.prog 9 #[v, .int .u16 (bit : Int), .int .u32 (pat : Int)] w fun e w' => e = .returned (.bool true) ∧ Below w.heap.size w w' := by
  obtain ⟨A, c0, rfl⟩ := hv.form
  have HT := Lib.hid hT
  by_cases hbig : (500 : Int) < (y.length : Int)
  · clear hv hT
    go_enter Tryd.func9, Tryd.ntmps9
    go_wp2_with fail
    refine (shown_any w HT.out).mono ?_
    rintro e w2 ⟨rfl, hB⟩
    have HB := Lib.hid hB
    clear hB
    go_wp2_with fail
    go_ret
    exact ⟨rfl, HB.out⟩
  by_cases h0 : y.length = 0
  · have h0I : ((y.length : Int) == 0) = true := by rw [beq_iff_eq]; omega
    clear hv hT h0
    go_enter Tryd.func9, Tryd.ntmps9
    go_wp2_with fail
    refine (shown_any w HT.out).mono ?_
    rintro e w2 ⟨rfl, hB⟩
    have HB := Lib.hid hB
    clear hB
    go_wp2_with fail
    go_ret
    exact ⟨rfl, HB.out⟩
  have h0I : ((y.length : Int) == 0) = false := by rw [beq_eq_false_iff_ne]; omega
  have hlen1 : 0 < y.length := by omega
  have hlen5 : y.length ≤ 500 := by omega
  obtain ⟨p, hp⟩ : ∃ p, p = bit % (8 * y.length) := ⟨_, rfl⟩
  have hp8 : p < 8 * y.length := by rw [hp]; exact Nat.mod_lt _ (by omega)
  have hpI : (bit : Int) % (8 * (y.length : Int)) = (p : Int) := by rw [hp, Int.natCast_emod, Int.natCast_mul]; rfl
  have HBL := Lib.hid (Cm.burst_law y p pat hp8 hpat)
  have hB1 : Below w.heap.size w (w.alloc (.cells #[] 5)) := (Below.refl _ _).alloc (Nat.le_refl _) _
  have HV1 := Lib.hid (hv.next hB1)
  have HV := Lib.hid hv
  have HN1 := Lib.hid (own_new w 5)
  have HB1 := Lib.hid hB1
  have HP := Lib.hid hp
  clear hv hT h0 hp hB1
  go_enter Tryd.func9, Tryd.ntmps9
  go_wp2_with
    (at_builtin
     refine wpList_append_sl rfl _ _ rfl w.heap.size _ _ 0 [] rfl HN1.out _ y rfl HV1.out (by omega) (by simp) ?_
     intro vo w2 hown hgrow
     rw [List.nil_append, Nat.zero_add] at hown
     obtain ⟨g, cap, rfl, ho⟩ := OwnB.of_row (by omega) rfl hown
     have hB2 : Below w.heap.size w w2 := HB1.out.grown hgrow (by simp) (fun k hk => by have : w.heap.size = k := Option.some.inj hk; omega)
     have hng : w.heap.size ≤ g := ho.lt.1
     have HO := Lib.hid ho
     have HB2 := Lib.hid hB2
     clear hown hgrow ho hB2)
  go_loopw [8, 9] (fun ch i wr => ∃ k : Nat, k ≤ 32 ∧ i = .int .i64 (k : Int) ∧ ch = .bool (Cm.chgB y.length p pat k) ∧ Hid (OwnB wr w.heap.size g y.length cap (Cm.flipL y p pat k)) ∧ Hid (Below w.heap.size w wr)) (fun _ i _ => 32 - (intOf i).toNat)
  case atStart => exact ⟨0, by omega, rfl, rfl, HO.out, HB2.out⟩
  case round =>
    clear HO HB2 HN1 HV1 HB1
    obtain ⟨k, hk, rfl, rfl, HO, HB⟩ := hrel
    by_cases hlt : k < 32
    · have hltI : (k : Int) < 32 := by omega
      have htb := bit_test pat k
      have HCH : Hid (Cm.chgB y.length p pat (k + 1) = (Cm.chgB y.length p pat k || (pat.testBit k && decide (p + k < 8 * y.length)))) := rfl
      cases hb : pat.testBit k with
      | true =>
        rw [hb] at htb
        by_cases hin : p + k < 8 * y.length
        · have hinI : (p : Int) + (k : Int) < 8 * (y.length : Int) := by omega
          have HN : Hid (Cm.flipL y p pat (k + 1) = (Cm.flipL y p pat k).set ((p + k) / 8) (Cm.flipB (Cm.flipL y p pat k) (p + k))) := if_pos ⟨hb, hin⟩
          have HC2 : Hid (Cm.chgB y.length p pat (k + 1) = true) := by show _ = true; rw [HCH.out, hb, decide_eq_true hin]; simp
          have hll := Cm.flipL_len y p pat k
          have hq : (p + k) / 8 < (Cm.flipL y p pat k).length := by rw [hll]; omega
          have hcell := HO.out.cell ((p + k) / 8) hq
          have hfr := HO.out.free ((p + k) / 8)
          have hfb := Cm.flipB_nat (Cm.flipL y p pat k) (p + k)
          rw [List.getD_eq_getElem?_getD, List.getElem?_eq_getElem hq, Option.getD_some] at hfb
          have hc8 := (Cm.flipL y p pat k)[(p + k) / 8].toNat_lt
          unfold encB at hcell
          obtain ⟨c, hc⟩ : ∃ c, c = (Cm.flipL y p pat k)[(p + k) / 8].toNat := ⟨_, rfl⟩
          rw [← hc] at hcell hfb hc8
          obtain ⟨m, hm⟩ : ∃ m, m = 2 ^ ((p + k) % 8) := ⟨_, rfl⟩
          have hm8 : m < 256 := by rw [hm]; exact pow8 (Nat.mod_lt _ (by omega))
          rw [← hm] at hfb
          have hx := u8_xor_nat c m (by omega) hm8
          rw [← hfb] at hx
          have HS : Hid (OwnB (wr.setCell ⟨g, (p + k) / 8, none⟩ (.int .u8 (((Cm.flipB (Cm.flipL y p pat k) (p + k)).toNat : Nat) : Int))) w.heap.size g y.length cap (Cm.flipL y p pat (k + 1))) := by
            have := HO.out.set ((p + k) / 8) (Cm.flipB (Cm.flipL y p pat k) (p + k))
            rw [← HN.out] at this; exact this
          have hpow : (2 : Int) ^ ((p + k) % 8) % 256 = (m : Int) := by
            have e : (2 : Int) ^ ((p + k) % 8) = (m : Int) := by rw [hm, Int.natCast_pow]; rfl
            rw [e]; omega
          obtain ⟨fb, hfb2⟩ : ∃ fb, fb = (Cm.flipB (Cm.flipL y p pat k) (p + k)).toNat := ⟨_, rfl⟩
          rw [← hfb2] at hx HS
          clear hll hq hfb hc hm hfb2 hb hin
          go_wp2_with fail
          go_region
          all_goals
            go_wp2
            go_roundw
            case rel => exact ⟨k + 1, by omega, by go_num, by rw [HC2.out], HS.out.drewN 1, (HB.out.setCell (by show w.heap.size ≤ g; exact hng) _).drew⟩
            case measure => simp [intOf]; omega
        · have hinI : ¬ ((p : Int) + (k : Int) < 8 * (y.length : Int)) := by omega
          have HN : Hid (Cm.flipL y p pat (k + 1) = Cm.flipL y p pat k) := if_neg (fun h => hin h.2)
          have HC2 : Hid (Cm.chgB y.length p pat (k + 1) = Cm.chgB y.length p pat k) := by show _ = _; rw [HCH.out, decide_eq_false hin]; simp
          clear hb hin
          go_wp2_with fail
          go_roundw
          case rel => exact ⟨k + 1, by omega, by go_num, by rw [HC2.out], by rw [HN.out]; exact HO.out, HB.out⟩
          case measure => simp [intOf]; omega
      | false =>
        rw [hb] at htb
        have HN : Hid (Cm.flipL y p pat (k + 1) = Cm.flipL y p pat k) := if_neg (fun h => by rw [hb] at h; cases h.1)
        have HC2 : Hid (Cm.chgB y.length p pat (k + 1) = Cm.chgB y.length p pat k) := by show _ = _; rw [HCH.out, hb]; simp
        clear hb
        go_wp2_with fail
        go_roundw
        case rel => exact ⟨k + 1, by omega, by go_num, by rw [HC2.out], by rw [HN.out]; exact HO.out, HB.out⟩
        case measure => simp [intOf]; omega
    · obtain rfl : k = 32 := by omega
      have hltI : ¬ (((32 : Nat) : Int) < 32) := by omega
      have hll := Cm.flipL_len y p pat 32
      obtain ⟨z, hz⟩ : ∃ z, z = Cm.flipL y p pat 32 := ⟨_, rfl⟩
      have hbl := HBL.out
      obtain ⟨ch, hch⟩ : ∃ ch, ch = Cm.chgB y.length p pat 32 := ⟨_, rfl⟩
      rw [← hz, ← hch] at hbl
      rw [← hz] at HO hll
      rw [← hch]
      have hne : (((Cm.crc y : Nat) : Int) != ((Cm.crc z : Nat) : Int)) = ch := by
        cases ch with
        | false => rw [hbl.2 rfl]; simp
        | true =>
          rw [bne_iff_ne]
          intro e
          have := hbl.1 (by omega)
          cases this
      have hself : (ch == ch) = true := by cases ch <;> rfl
      have HLL := Lib.hid hll
      have HTr : Hid (TB wr) := HT.out.below HB.out HT.out.lt
      have HVr : Hid (SL encB wr wr.heap.size (.slice A y.length c0) y) := HV.out.next HB.out
      clear hz hch hbl hll HBL
      go_wp2_with fail
      refine (crc_any wr _ y HTr.out HVr.out hy).mono ?_
      rintro e w3 ⟨rfl, hb⟩
      have HB3 : Hid (Below w.heap.size w w3) := HB.out.trans (hb.mono HB.out.size)
      have HT3 : Hid (TB w3) := HTr.out.below hb HTr.out.lt
      have HO3 : Hid (OwnB w3 w.heap.size g y.length cap z) := HO.out.below hb
      clear hb
      go_wp2_with fail
      refine (crc_any w3 _ z HT3.out HO3.out.sl (by rw [HLL.out]; exact hy)).mono ?_
      rintro e w4 ⟨rfl, hb⟩
      have HB4 : Hid (Below w.heap.size w w4) := HB3.out.trans (hb.mono HB3.out.size)
      have HT4 : Hid (TB w4) := HT3.out.below hb HT3.out.lt
      clear hb
      go_wp2_with fail
      refine (shown_any w4 HT4.out).mono ?_
      rintro e w5 ⟨rfl, hb⟩
      have HB5 : Hid (Below w.heap.size w w5) := HB4.out.trans (hb.mono HB4.out.size)
      clear hb
      go_wp2_with fail
      go_ret
      exact ⟨rfl, HB5.out⟩
end Go.Proofs.YtjppcjcflcnliaaDoor
