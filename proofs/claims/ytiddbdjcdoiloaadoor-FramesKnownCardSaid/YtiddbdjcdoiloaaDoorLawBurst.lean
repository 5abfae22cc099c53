/- The law FramesBursts: it is true. Condition: the table of half bytes. -/
import Derived.Test.YtiddbdjcdoiloaaDoorLawPlace
import Derived.Laws.BitsAllLaws
namespace Go.Proofs.YtiddbdjcdoiloaaDoor
open Go.RowKit Fm

theorem bit_test (pat k : Nat) : ((((pat : Int) / 2 ^ k).tmod 2 == 1) : Bool) = pat.testBit k := by
  have e : (pat : Int) / 2 ^ k = ((pat / 2 ^ k : Nat) : Int) := by rw [Int.natCast_ediv, Int.natCast_pow]; rfl
  rw [e, Int.tmod_eq_emod_of_nonneg (Int.natCast_nonneg _), Nat.testBit_eq_decide_div_mod_eq, Bool.eq_iff_iff, beq_iff_eq, decide_eq_true_eq]
  omega
theorem pow8 {i : Nat} (h : i < 8) : 2 ^ i < 256 := show 2 ^ i < 2 ^ 8 from Nat.pow_lt_pow_right (by omega) h
theorem Blk.setOther {w : World} {b c : Nat} {cs : Array Value} {t : TypeId} (h : Blk w c cs t) (o : Nat) (v : Value) (hne : b ≠ c) : Blk (w.setCell ⟨b, o, none⟩ v) c cs t := h.grown (grown_setCell w b o v) (fun e => hne (Option.some.inj e).symm)
/-- The sector with bits turned. -/
def flipS (x : Dv.Sec) (p pat k : Nat) : Dv.Sec := ⟨Cm.flipL x.1 p pat k, by rw [Cm.flipL_len]; exact x.2⟩
set_option maxRecDepth 100000 in
set_option maxHeartbeats 2500000 in
theorem law_burst (w : World) (a o pat : Nat) (k : Int) (q : Nat) (s : ByteArray) (ch : Value) (fx : Bool) (ha : a < 256) (ho : o < 65536) (hpat : pat < 4294967296) (hq : q < 4294967296) (hT : TB w) :
    Calls Tryd.prog 9 #[.agg #[.int .u8 (a : Int), .int .i64 k, .int .u32 (q : Int), .string s, ch, .bool fx], .int .u16 (o : Int), .int .u32 (pat : Int)] w fun e w' => e = .returned (.bool true) ∧ Below w.heap.size w w' := by
  obtain ⟨z, hzz, hz, hbz⟩ := zero_gen
  obtain ⟨w1, hw1⟩ : ∃ w1, w1 = w.alloc (.cells #[.int .u8 (a : Int), .int .i64 k, .int .u32 (q : Int), .string s, ch, .bool fx] 44) := ⟨_, rfl⟩
  have HB1 : Hid (Below w.heap.size w w1) := by rw [hw1]; exact (Below.refl _ _).alloc (Nat.le_refl _) _
  have HF1 : Hid (Blk w1 w.heap.size #[.int .u8 (a : Int), .int .i64 k, .int .u32 (q : Int), .string s, ch, .bool fx] 44) := by rw [hw1]; exact Blk.new w _ _
  have HT1 := Lib.hid (hT.below HB1.out hT.lt)
  have HW1 := Lib.hid hw1
  have HT0 := Lib.hid hT
  clear hw1 hT
  by_cases hl : 112 < s.size
  · have hlI : 112 < (s.size : Int) := by omega
    go_enter Tryd.func9, Tryd.ntmps9
    go_wp2_with fail
    rw [← HW1.out]
    refine (awake_any w1 HT1.out).mono ?_
    rintro e w2 ⟨rfl, hb⟩
    have HB2 := Lib.hid (HB1.out.trans (hb.mono HB1.out.size))
    clear hb
    go_wp2_with fail
    go_ret
    exact ⟨rfl, HB2.out⟩
  · have hlI : ¬ 112 < (s.size : Int) := by omega
    have hlD : s.data.toList.length ≤ 112 := by rw [Array.length_toList]; have : s.data.size = s.size := rfl; omega
    obtain ⟨m, hm, hm2⟩ : ∃ m : Nat, IntKind.u64.wrap k = (m : Int) ∧ 1 + (m : Int) % 255 = (kdN k : Int) := ⟨(k % 18446744073709551616).toNat, by rw [Int.toNat_of_nonneg (by omega)]; simp only [IntKind.wrap, IntKind.bits, IntKind.signed]; rfl, by unfold kdN; omega⟩
    have hkd := kd_lt k
    have hm3 : Int.tmod (m : Int) 255 = ((m % 255 : Nat) : Int) := rfl
    have hmod : IntKind.i64.wrap ((m % 255 : Nat) : Int) = ((m % 255 : Nat) : Int) := IntWalk.i64_in _ (by omega)
    obtain ⟨f, hf⟩ : ∃ f : Frm, f = ⟨kdN k, q, s.data.toList⟩ := ⟨_, rfl⟩
    have hfk : f.kind = kdN k := by rw [hf]
    have hfo : FrOk f := by rw [hf]; exact ⟨hkd.1, hkd.2, hq, hlD⟩
    have hse : seE (a : Int) (kdN k : Int) s.data.toList.length = 0 := by unfold seE; rw [if_neg (by omega), if_neg (by omega)]
    obtain ⟨x, hx⟩ : ∃ x, x = sealR (a : Int) (kdN k : Int) q s.data.toList := ⟨_, rfl⟩
    have hx1 : x.1 = sealL a f := by rw [hx, sealR_ok hse, hf]; rfl
    have hxo : opE (a : Int) x.1 = 0 := by rw [hx1, opE_seal a _ f hfo ha ⟨by omega, by omega⟩, if_pos rfl]
    have hxs : sumOk x.1 := by rw [hx1]; exact seal_sumOk a f (by rw [hf]; exact hlD)
    obtain ⟨p, hp⟩ : ∃ p, p = o % 1024 := ⟨_, rfl⟩
    have hp8 : p < 1024 := by omega
    have hpI : (o : Int) % 1024 = (p : Int) := by omega
    have HXB : Hid (∀ y : Dv.Sec, y = flipS x p pat 32 → (opE (a : Int) y.1 = 0 ↔ y = x)) := fun y hy => ⟨fun h => Subtype.ext (by rw [hy] at h ⊢; exact burst_open x.1 p pat a x.2 hxs hp8 hpat h), fun h => by rw [h]; exact hxo⟩
    have HS1 : Hid (∀ W, TB W → Calls Tryd.prog 23 #[.int .i64 (a : Int), .int .i64 (1 + (m : Int) % 255), .int .u32 (q : Int), .string s] W fun e w' => e = .returned (.tuple #[.agg (secC x).toArray, .int .i64 0]) ∧ Below W.heap.size W w') := fun W hW => by rw [hx, hm2, ← hse]; exact seal_any W (a : Int) (kdN k : Int) q s hW
    have HP := Lib.hid hp
    clear hx hx1 hf hse hm2 hkd hfk hfo hlD hxo hxs hp
    go_enter Tryd.func9, Tryd.ntmps9
    go_wp2_with fail
    rw [← HW1.out]
    refine (HS1.out w1 HT1.out).mono ?_
    rintro e w2 ⟨rfl, hb2⟩
    have HB2 := Lib.hid (HB1.out.trans (hb2.mono HB1.out.size))
    have HF2 := Lib.hid (HF1.out.below hb2 HF1.out.lt)
    have HZ2 := Lib.hid (Blk.new w2 (secC z).toArray 38)
    clear hb2 HS1 hm hm3 hmod
    go_wp2_with (first
      | (refine wpList_store_sec rfl _ _ rfl rfl w2.heap.size x rfl rfl z HZ2.out ?_; intro w3 hb3 hg3; have hbe3 := sec_new hg3; have HB3 : Hid (Below w.heap.size w w3) := HB2.out.trans (hbe3.mono HB2.out.size); have hf3 := HF2.out.below hbe3 HF2.out.lt; have HF3 := Lib.hid hf3; have HX3 := Lib.hid hb3; have r1 := Lib.hid (Blk.range hb3); have HZ3 := Lib.hid (Blk.new w3 (secC z).toArray 38); clear hb3 hg3 hbe3 hf3)
      | (refine wpList_load_mid rfl 38 _ rfl w2.heap.size 0 rfl (secC x) _ r1.out uSec rfl (by rw [iSec, secC_len]) ?_)
      | (refine wpList_store_sec rfl _ _ rfl rfl w3.heap.size x rfl rfl z HZ3.out ?_; intro w4 hb4 hg4; have hbe4 := sec_new hg4; have HB4 : Hid (Below w.heap.size w w4) := HB3.out.trans (hbe4.mono HB3.out.size); have HF4 := Lib.hid (HF3.out.below hbe4 HF3.out.lt); have HX4 := Lib.hid (HX3.out.below hbe4 HX3.out.lt); have HY4 := Lib.hid hb4; clear hb4 hg4 hbe4))
    obtain ⟨g, hg⟩ : ∃ g, g = w2.heap.size := ⟨_, rfl⟩
    obtain ⟨g2, hg2⟩ : ∃ g2, g2 = w3.heap.size := ⟨_, rfl⟩
    have hn1 : g ≠ g2 := by rw [hg, hg2]; have := HX3.out.lt; omega
    have hn2 : g ≠ w.heap.size := by rw [hg]; have := HF2.out.lt; omega
    have hn3 : w.heap.size ≤ g := by rw [hg]; have := HF2.out.lt; omega
    rw [← hg] at HX4
    rw [← hg2] at HY4
    have HX5 : Hid (ByB w4 g (Cm.flipL x.1 p pat 0)) := HX4.out
    rw [← hg, ← hg2]
    clear hg hg2 HX4
    go_loopw [10] (fun i wr => ∃ j : Nat, j ≤ 32 ∧ i = .int .i64 (j : Int) ∧ Hid (ByB wr g (Cm.flipL x.1 p pat j)) ∧ Hid (Below w.heap.size w wr) ∧ Hid (Blk wr g2 (secC x).toArray 38) ∧ Hid (Blk wr w.heap.size #[.int .u8 (a : Int), .int .i64 k, .int .u32 (q : Int), .string s, ch, .bool fx] 44)) (fun i _ => 32 - (intOf i).toNat)
    case atStart => exact ⟨0, by omega, rfl, HX5, HB4, HY4, HF4⟩
    case round =>
      clear HX5 HB4 HY4 HF4 HX3 HF3 HB3 HB2 HF2 HB1 HF1 HT1 HW1 r1 HZ2 HZ3
      obtain ⟨j, hj, rfl, HX, HB, HY, HF⟩ := hrel
      by_cases hlt : j < 32
      · have hltI : (j : Int) < 32 := by omega
        have htb := bit_test pat j
        have hx2 := x.2
        by_cases hin : p + j < 1024
        · have hinI : (p : Int) + (j : Int) < 1024 := by omega
          cases hb : pat.testBit j with
          | true =>
            rw [hb] at htb
            have HN : Hid (Cm.flipL x.1 p pat (j + 1) = (Cm.flipL x.1 p pat j).set ((p + j) / 8) (Cm.flipB (Cm.flipL x.1 p pat j) (p + j))) := if_pos ⟨hb, by omega⟩
            have hll := Cm.flipL_len x.1 p pat j
            have hq : (p + j) / 8 < (Cm.flipL x.1 p pat j).length := by rw [hll]; omega
            have hcell := HX.out.cell ((p + j) / 8) hq
            have hfr := HX.out.free ((p + j) / 8)
            have hfb := Cm.flipB_nat (Cm.flipL x.1 p pat j) (p + j)
            rw [List.getD_eq_getElem?_getD, List.getElem?_eq_getElem hq, Option.getD_some] at hfb
            have hc8 := (Cm.flipL x.1 p pat j)[(p + j) / 8].toNat_lt
            obtain ⟨c, hc⟩ : ∃ c, c = (Cm.flipL x.1 p pat j)[(p + j) / 8].toNat := ⟨_, rfl⟩
            rw [← hc] at hcell hfb hc8
            obtain ⟨m, hm⟩ : ∃ m, m = 2 ^ ((p + j) % 8) := ⟨_, rfl⟩
            have hm8 : m < 256 := by rw [hm]; exact pow8 (Nat.mod_lt _ (by omega))
            rw [← hm] at hfb
            have hx := u8_xor_nat c m (by omega) hm8
            rw [← hfb] at hx
            have HS : Hid (ByB (wr.setCell ⟨g, (p + j) / 8, none⟩ (.int .u8 (((Cm.flipB (Cm.flipL x.1 p pat j) (p + j)).toNat : Nat) : Int))) g (Cm.flipL x.1 p pat (j + 1))) := by
              have := HX.out.set ((p + j) / 8) (Cm.flipB (Cm.flipL x.1 p pat j) (p + j))
              rw [← HN.out] at this; exact this
            have hpow : (2 : Int) ^ ((p + j) % 8) % 256 = (m : Int) := by
              have e : (2 : Int) ^ ((p + j) % 8) = (m : Int) := by rw [hm, Int.natCast_pow]; rfl
              rw [e]; omega
            obtain ⟨fb, hfb2⟩ : ∃ fb, fb = (Cm.flipB (Cm.flipL x.1 p pat j) (p + j)).toNat := ⟨_, rfl⟩
            rw [← hfb2] at hx HS
            have hq8 : (p + j) / 8 < 128 := by omega
            clear hll hq hfb hc hm hfb2 hb hin hx2
            go_wp2_with fail
            go_roundw
            case rel => exact ⟨j + 1, by omega, by go_num, HS.out, HB.out.setCell hn3 _, HY.out.setOther _ _ hn1, HF.out.setOther _ _ hn2⟩
            case measure => simp [intOf]; omega
          | false =>
            rw [hb] at htb
            have HN : Hid (Cm.flipL x.1 p pat (j + 1) = Cm.flipL x.1 p pat j) := if_neg (fun h => by rw [hb] at h; cases h.1)
            clear hb hx2
            go_wp2_with fail
            go_roundw
            case rel => exact ⟨j + 1, by omega, by go_num, by rw [HN.out]; exact HX.out, HB.out, HY, HF⟩
            case measure => simp [intOf]; omega
        · have hinI : ¬ ((p : Int) + (j : Int) < 1024) := by omega
          have HN : Hid (Cm.flipL x.1 p pat (j + 1) = Cm.flipL x.1 p pat j) := if_neg (fun h => hin (by omega))
          clear hin hx2
          go_wp2_with fail
          go_roundw
          case rel => exact ⟨j + 1, by omega, by go_num, by rw [HN.out]; exact HX.out, HB.out, HY, HF⟩
          case measure => simp [intOf]; omega
      · obtain rfl : j = 32 := by omega
        have hltI : ¬ (((32 : Nat) : Int) < 32) := by omega
        obtain ⟨y, hy⟩ : ∃ y, y = flipS x p pat 32 := ⟨_, rfl⟩
        have hyx := HXB.out y hy
        have HX6 : Hid (Blk wr g (secC y).toArray 38) := by rw [hy]; exact HX.out
        have r2 := Lib.hid (Blk.range HX6.out)
        have c1 := HF.out.cell 0 rfl
        obtain ⟨er, her⟩ : ∃ er, er = opE (a : Int) y.1 := ⟨_, rfl⟩
        obtain ⟨g1, g2', g3, hgg⟩ : ∃ (g1 g2 : Int) (g3 : ByteArray), frV (opF (a : Int) y.1) = .agg #[.int .i64 g1, .int .u32 g2, .string g3] := ⟨_, _, _, rfl⟩
        have HS2 : Hid (∀ W, TB W → Calls Tryd.prog 26 #[.int .i64 (a : Int), .agg (secC y).toArray] W fun e w' => e = .returned (.tuple #[.agg #[.int .i64 g1, .int .u32 g2', .string g3], .int .i64 er]) ∧ Below W.heap.size W w') := fun W hW => by rw [her, ← hgg]; exact open_any W (a : Int) y hW
        have hE0 : er ≠ 0 → g1 = 0 ∧ g2' = 0 ∧ g3 = ⟨#[]⟩ := fun h => by
          have := opV_bad (her.symm) h
          unfold opV zF at this
          rw [hgg] at this
          simp at this
          exact this.1
        rw [← her] at hyx
        have HYX := Lib.hid hyx
        have HE0 := Lib.hid hE0
        clear hyx hE0 her hgg hy HX HXB
        go_wp2_with (refine wpList_load_mid rfl 38 _ rfl g 0 rfl (secC y) _ r2.out uSec rfl (by rw [iSec, secC_len]) ?_)
        refine (HS2.out wr (HT0.out.below HB.out HT0.out.lt)).mono ?_
        rintro e w5 ⟨rfl, hb5⟩
        have HB5 := Lib.hid (HB.out.trans (hb5.mono HB.out.size))
        have hs6 := (Below.refl w5.heap.size w5).alloc (Nat.le_refl _) (.cells #[.int .i64 g1, .int .u32 g2', .string g3] 36)
        have hx5 := HX6.out.below hb5 HX6.out.lt
        have hy5 := HY.out.below hb5 HY.out.lt
        have HX7 : Hid (Blk (w5.alloc (.cells #[.int .i64 g1, .int .u32 g2', .string g3] 36)) g (secC y).toArray 38) := hx5.below hs6 hx5.lt
        have HY7 : Hid (Blk (w5.alloc (.cells #[.int .i64 g1, .int .u32 g2', .string g3] 36)) g2 (secC x).toArray 38) := hy5.below hs6 hy5.lt
        have r3 := Lib.hid (Blk.range HX7.out)
        have r4 := Lib.hid (Blk.range HY7.out)
        have HB6 : Hid (Below w.heap.size w (w5.alloc (.cells #[.int .i64 g1, .int .u32 g2', .string g3] 36))) := HB5.out.alloc HB5.out.size _
        clear hb5 hs6 hx5 hy5 HS2 c1
        by_cases hyx : y = x
        · have he0 : er = 0 := HYX.out.2 hyx
          have heq : ∀ w, (binOp .eql 38 (.agg (secC y).toArray) (.agg (secC x).toArray)).run Tryd.prog w = .ok (.bool true) w := fun w => by rw [eql_sec, decide_eq_true hyx]
          clear HYX HE0 hyx
          go_wp2_with (first
            | (refine wpList_load_mid rfl 38 _ rfl g 0 rfl (secC y) _ r3.out uSec rfl (by rw [iSec, secC_len]) ?_)
            | (refine wpList_load_mid rfl 38 _ rfl g2 0 rfl (secC x) _ r4.out uSec rfl (by rw [iSec, secC_len]) ?_))
          refine (awake_any _ (HT0.out.below HB6.out HT0.out.lt)).mono ?_
          rintro e w7 ⟨rfl, hb7⟩
          have HB7 := Lib.hid (HB6.out.trans (hb7.mono HB6.out.size))
          clear hb7
          go_wp2_with fail
          go_ret
          exact ⟨rfl, HB7.out⟩
        · have he0 : er ≠ 0 := fun h => hyx (HYX.out.1 h)
          obtain ⟨rfl, rfl, rfl⟩ := HE0.out he0
          have heq : ∀ w, (binOp .eql 38 (.agg (secC y).toArray) (.agg (secC x).toArray)).run Tryd.prog w = .ok (.bool false) w := fun w => by rw [eql_sec, decide_eq_false hyx]
          have hf7 := Blk.new w5 #[.int .i64 0, .int .u32 0, .string ⟨#[]⟩] 36
          have d0 := hf7.cell 0 rfl
          have d1 := hf7.cell 1 rfl
          have d2 := hf7.cell 2 rfl
          have he1 : (er == 0) = false := beq_eq_false_iff_ne.2 he0
          clear HYX HE0 hyx hf7
          go_wp2_with (first
            | (refine wpList_load_mid rfl 38 _ rfl g 0 rfl (secC y) _ r3.out uSec rfl (by rw [iSec, secC_len]) ?_)
            | (refine wpList_load_mid rfl 38 _ rfl g2 0 rfl (secC x) _ r4.out uSec rfl (by rw [iSec, secC_len]) ?_))
          refine (awake_any _ (HT0.out.below HB6.out HT0.out.lt)).mono ?_
          rintro e w7 ⟨rfl, hb7⟩
          have HB7 := Lib.hid (HB6.out.trans (hb7.mono HB6.out.size))
          clear hb7
          go_wp2_with fail
          go_ret
          exact ⟨rfl, HB7.out⟩
end Go.Proofs.YtiddbdjcdoiloaaDoor
