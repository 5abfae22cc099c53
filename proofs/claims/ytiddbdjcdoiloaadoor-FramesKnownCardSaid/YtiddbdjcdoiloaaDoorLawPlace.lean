/- The law FramesPlace: it is true. Condition: the table of half bytes. -/
import Derived.Test.YtiddbdjcdoiloaaDoorAwk
namespace Go.Proofs.YtiddbdjcdoiloaaDoor
open Go.RowKit Fm

/-- Kind, counted modulo 255. -/
def kdN (k : Int) : Nat := 1 + (k % 18446744073709551616).toNat % 255
theorem kd_lt (k : Int) : 1 ≤ kdN k ∧ kdN k ≤ 255 := by unfold kdN; omega
set_option maxRecDepth 100000 in
set_option maxHeartbeats 1500000 in
theorem law_place (w : World) (a o : Nat) (k : Int) (q : Nat) (s : ByteArray) (ch : Value) (fx : Bool) (ha : a < 256) (ho : o < 256) (hq : q < 4294967296) (hT : TB w) :
    Calls Tryd.prog 8 #[.agg #[.int .u8 (a : Int), .int .i64 k, .int .u32 (q : Int), .string s, ch, .bool fx], .int .u8 (o : Int)] w fun e w' => e = .returned (.bool true) ∧ Below w.heap.size w w' := by
  obtain ⟨z, hzz, hz, hbz⟩ := zero_gen
  obtain ⟨w1, hw1⟩ : ∃ w1, w1 = w.alloc (.cells #[.int .u8 (a : Int), .int .i64 k, .int .u32 (q : Int), .string s, ch, .bool fx] 44) := ⟨_, rfl⟩
  have HB1 : Hid (Below w.heap.size w w1) := by rw [hw1]; exact (Below.refl _ _).alloc (Nat.le_refl _) _
  have HF1 : Hid (Blk w1 w.heap.size #[.int .u8 (a : Int), .int .i64 k, .int .u32 (q : Int), .string s, ch, .bool fx] 44) := by rw [hw1]; exact Blk.new w _ _
  have HT1 := Lib.hid (hT.below HB1.out hT.lt)
  have HW1 := Lib.hid hw1
  have HT0 := Lib.hid hT
  clear hw1 hT
  by_cases hl : 112 < s.size
  · have hlI : 112 < (s.size : Int) := by omega
    go_enter Tryd.func8, Tryd.ntmps8
    go_wp2_with fail
    rw [← HW1.out]
    refine (awake_any w1 HT1.out).mono ?_
    rintro e w2 ⟨rfl, hb⟩
    have HB2 := Lib.hid (HB1.out.trans (hb.mono HB1.out.size))
    clear hb
    go_wp2_with fail
    go_ret
    exact ⟨rfl, HB2.out⟩
  · have hlI : ¬ 112 < (s.size : Int) := by omega
    have hlD : s.data.toList.length ≤ 112 := by rw [Array.length_toList]; have : s.data.size = s.size := rfl; omega
    obtain ⟨m, hm, hm2⟩ : ∃ m : Nat, IntKind.u64.wrap k = (m : Int) ∧ 1 + (m : Int) % 255 = (kdN k : Int) := ⟨(k % 18446744073709551616).toNat, by rw [Int.toNat_of_nonneg (by omega)]; simp only [IntKind.wrap, IntKind.bits, IntKind.signed]; rfl, by unfold kdN; omega⟩
    have hkd := kd_lt k
    have hm3 : Int.tmod (m : Int) 255 = ((m % 255 : Nat) : Int) := rfl
    have hmod : IntKind.i64.wrap ((m % 255 : Nat) : Int) = ((m % 255 : Nat) : Int) := IntWalk.i64_in _ (by omega)
    obtain ⟨f, hf⟩ : ∃ f : Frm, f = ⟨kdN k, q, s.data.toList⟩ := ⟨_, rfl⟩
    have hfk : f.kind = kdN k := by rw [hf]
    have hfo : FrOk f := by rw [hf]; exact ⟨hkd.1, hkd.2, hq, hlD⟩
    have hse : seE (a : Int) (kdN k : Int) s.data.toList.length = 0 := by unfold seE; rw [if_neg (by omega), if_neg (by omega)]
    obtain ⟨x, hx⟩ : ∃ x, x = sealR (a : Int) (kdN k : Int) q s.data.toList := ⟨_, rfl⟩
    have hx1 : x.1 = sealL a f := by rw [hx, sealR_ok hse, hf]; rfl
    obtain ⟨er, her⟩ : ∃ er, er = opE (o : Int) x.1 := ⟨_, rfl⟩
    have her2 : er = if (a : Int) = o then 0 else 72 := by rw [her, hx1, opE_seal a _ f hfo ha ⟨by omega, by omega⟩]
    obtain ⟨g1, g2, g3, hg⟩ : ∃ (g1 g2 : Int) (g3 : ByteArray), frV (opF (o : Int) x.1) = .agg #[.int .i64 g1, .int .u32 g2, .string g3] := ⟨_, _, _, rfl⟩
    have HS1 : Hid (∀ W, TB W → Calls Tryd.prog 23 #[.int .i64 (a : Int), .int .i64 (1 + (m : Int) % 255), .int .u32 (q : Int), .string s] W fun e w' => e = .returned (.tuple #[.agg (secC x).toArray, .int .i64 0]) ∧ Below W.heap.size W w') := fun W hW => by rw [hx, hm2, ← hse]; exact seal_any W (a : Int) (kdN k : Int) q s hW
    have HS2 : Hid (∀ W, TB W → Calls Tryd.prog 26 #[.int .i64 (o : Int), .agg (secC x).toArray] W fun e w' => e = .returned (.tuple #[.agg #[.int .i64 g1, .int .u32 g2, .string g3], .int .i64 er]) ∧ Below W.heap.size W w') := fun W hW => by rw [her, ← hg]; exact open_any W (o : Int) x hW
    clear her hg hx hx1 hf hse hm2 hkd hfk hfo hlD
    have HE2 := Lib.hid her2
    clear her2
    go_enter Tryd.func8, Tryd.ntmps8
    go_wp2_with fail
    rw [← HW1.out]
    refine (HS1.out w1 HT1.out).mono ?_
    rintro e w2 ⟨rfl, hb2⟩
    have HB2 := Lib.hid (HB1.out.trans (hb2.mono HB1.out.size))
    have HF2 := Lib.hid (HF1.out.below hb2 HF1.out.lt)
    have HZ2 := Lib.hid (Blk.new w2 (secC z).toArray 38)
    clear hb2 HS1 hm hm3 hmod
    go_wp2_with (first
      | (refine wpList_store_sec rfl _ _ rfl rfl w2.heap.size x rfl rfl z HZ2.out ?_; intro w3 hb3 hg3; have hbe3 := sec_new hg3; have HB3 : Hid (Below w.heap.size w w3) := HB2.out.trans (hbe3.mono HB2.out.size); have hf3 := HF2.out.below hbe3 HF2.out.lt; have c0 := hf3.cell 0 rfl; have HF3 := Lib.hid hf3; have HX3 := Lib.hid hb3; have r1 := Lib.hid (Blk.range hb3); clear hb3 hg3 hbe3 hf3)
      | (refine wpList_load_mid rfl 38 _ rfl w2.heap.size 0 rfl (secC x) _ r1.out uSec rfl (by rw [iSec, secC_len]) ?_))
    refine (HS2.out w3 (HT0.out.below HB3.out HT0.out.lt)).mono ?_
    rintro e w4 ⟨rfl, hb4⟩
    have HB4 := Lib.hid (HB3.out.trans (hb4.mono HB3.out.size))
    have hf4 := HF3.out.below hb4 HF3.out.lt
    have c4 := hf4.cell 0 rfl
    have HB5 : Hid (Below w.heap.size w (w4.alloc (.cells #[.int .i64 g1, .int .u32 g2, .string g3] 36))) := HB4.out.alloc HB4.out.size _
    have c5 : ((w4.alloc (.cells #[.int .i64 g1, .int .u32 g2, .string g3] 36))).cell? ⟨w.heap.size, 0, none⟩ = some (.int .u8 (a : Int)) := (hf4.below ((Below.refl _ _).alloc (Nat.le_refl _) _) hf4.lt).cell 0 rfl
    clear hb4 HS2 c0 c4 hf4
    by_cases hao : a = o
    · subst hao
      have her2 := HE2.out
      rw [if_pos rfl] at her2
      clear HE2
      go_wp2_with fail
      refine (awake_any _ (HT0.out.below HB5.out HT0.out.lt)).mono ?_
      rintro e w6 ⟨rfl, hb6⟩
      have HB6 := Lib.hid (HB5.out.trans (hb6.mono HB5.out.size))
      clear hb6
      go_wp2_with fail
      go_ret
      exact ⟨rfl, HB6.out⟩
    · have her2 := HE2.out
      rw [if_neg (by omega)] at her2
      clear HE2
      have e3 : (o : Int) ≠ (a : Int) := by omega
      have e6 : ((o : Int) == (a : Int)) = false := beq_eq_false_iff_ne.2 e3
      go_wp2_with fail
      refine (awake_any _ (HT0.out.below HB5.out HT0.out.lt)).mono ?_
      rintro e w6 ⟨rfl, hb6⟩
      have HB6 := Lib.hid (HB5.out.trans (hb6.mono HB5.out.size))
      clear hb6
      go_wp2_with fail
      go_ret
      exact ⟨rfl, HB6.out⟩
end Go.Proofs.YtiddbdjcdoiloaaDoor
