/- The law FramesSeals: it is true. Condition: the table of half bytes. -/
import Derived.Test.YtiddbdjcdoiloaaDoorAwk
namespace Go.Proofs.YtiddbdjcdoiloaaDoor
open Go.RowKit Fm

set_option maxRecDepth 100000 in
set_option maxHeartbeats 4000000 in
theorem law_seals (w : World) (at' kind k : Int) (sq : Nat) (s : ByteArray) (hT : TB w) :
    Calls Tryd.prog 5 #[.int .i64 at', .int .i64 kind, .agg #[.int .i64 k, .int .u32 (sq : Int), .string s]] w fun e w' => e = .returned (.bool true) ∧ Below w.heap.size w w' := by
  obtain ⟨z, hzz, hz, hbz⟩ := zero_gen
  obtain ⟨w1, hw1⟩ : ∃ w1, w1 = w.alloc (.cells #[.int .i64 k, .int .u32 (sq : Int), .string s] 36) := ⟨_, rfl⟩
  have HB1 : Hid (Below w.heap.size w w1) := by rw [hw1]; exact (Below.refl _ _).alloc (Nat.le_refl _) _
  have HF1 : Hid (Blk w1 w.heap.size #[.int .i64 k, .int .u32 (sq : Int), .string s] 36) := by rw [hw1]; exact Blk.new w _ _
  have HT1 := Lib.hid (hT.below HB1.out hT.lt)
  have HW1 := Lib.hid hw1
  have HT0 := Lib.hid hT
  clear hw1 hT
  by_cases hl : 300 < s.size
  · have hlI : 300 < (s.size : Int) := by omega
    go_enter Tryd.func5, Tryd.ntmps5
    go_wp2_with fail
    rw [← HW1.out]
    refine (awake_any w1 HT1.out).mono ?_
    rintro e w2 ⟨rfl, hb⟩
    have HB2 := Lib.hid (HB1.out.trans (hb.mono HB1.out.size))
    clear hb
    go_wp2_with fail
    go_ret
    exact ⟨rfl, HB2.out⟩
  · have hlI : ¬ 300 < (s.size : Int) := by omega
    obtain ⟨er, her⟩ : ∃ er, er = seE at' kind s.data.toList.length := ⟨_, rfl⟩
    obtain ⟨x, hx⟩ : ∃ x, x = sealR at' kind sq s.data.toList := ⟨_, rfl⟩
    have HS1 : Hid (∀ W, TB W → Calls Tryd.prog 23 #[.int .i64 at', .int .i64 kind, .int .u32 (sq : Int), .string s] W fun e w' => e = .returned (.tuple #[.agg (secC x).toArray, .int .i64 er]) ∧ Below W.heap.size W w') := fun W hW => by rw [hx, her]; exact seal_any W at' kind sq s hW
    have HS2 : Hid (∀ W, Calls Tryd.prog 24 #[.int .i64 at', .int .i64 kind, .int .u32 (sq : Int), .string s] W fun e w' => e = .returned (.tuple #[.agg (secC x).toArray, .int .i64 er]) ∧ Below W.heap.size W w') := fun W => by rw [hx, her]; exact rseal_any W at' kind sq s
    have hee : (er == er) = true := by simp
    have heq : ∀ w, (binOp .eql 38 (.agg (secC x).toArray) (.agg (secC x).toArray)).run Tryd.prog w = .ok (.bool true) w := fun w => by rw [eql_sec, decide_eq_true rfl]
    clear her hx hl
    go_enter Tryd.func5, Tryd.ntmps5
    go_wp2_with fail
    rw [← HW1.out]
    refine (HS1.out w1 HT1.out).mono ?_
    rintro e w2 ⟨rfl, hb2⟩
    have HB2 := Lib.hid (HB1.out.trans (hb2.mono HB1.out.size))
    have HF2 := Lib.hid (HF1.out.below hb2 HF1.out.lt)
    have HZ2 := Lib.hid (Blk.new w2 (secC z).toArray 38)
    clear hb2 HS1
    go_wp2_with (refine wpList_store_sec rfl _ _ rfl rfl w2.heap.size x rfl rfl z HZ2.out ?_; intro w3 hb3 hg3; have hbe3 := sec_new hg3; have HB3 : Hid (Below w.heap.size w w3) := HB2.out.trans (hbe3.mono HB2.out.size); have hf3 := HF2.out.below hbe3 HF2.out.lt; have c1 := hf3.cell 1 rfl; have c2 := hf3.cell 2 rfl; have HF3 := Lib.hid hf3; have HX3 := Lib.hid hb3; clear hb3 hg3 hbe3 hf3)
    refine (HS2.out w3).mono ?_
    rintro e w4 ⟨rfl, hb4⟩
    have HB4 := Lib.hid (HB3.out.trans (hb4.mono HB3.out.size))
    have HX4 := Lib.hid (HX3.out.below hb4 HX3.out.lt)
    have HZ4 := Lib.hid (Blk.new w4 (secC z).toArray 38)
    clear hb4 HS2 c1 c2
    go_wp2_with (first
      | (refine wpList_store_sec rfl _ _ rfl rfl w4.heap.size x rfl rfl z HZ4.out ?_; intro w5 hb5 hg5; have hbe5 := sec_new hg5; have HB5 : Hid (Below w.heap.size w w5) := HB4.out.trans (hbe5.mono HB4.out.size); have r1 := Lib.hid (Blk.range (HX4.out.below hbe5 HX4.out.lt)); have r2 := Lib.hid (Blk.range hb5); clear hb5 hg5 hbe5)
      | (refine wpList_load_mid rfl 38 _ rfl w2.heap.size 0 rfl (secC x) _ r1.out uSec rfl (by rw [iSec, secC_len]) ?_)
      | (refine wpList_load_mid rfl 38 _ rfl w4.heap.size 0 rfl (secC x) _ r2.out uSec rfl (by rw [iSec, secC_len]) ?_))
    refine (awake_any w5 (HT0.out.below HB5.out HT0.out.lt)).mono ?_
    rintro e w6 ⟨rfl, hb6⟩
    have HB6 := Lib.hid (HB5.out.trans (hb6.mono HB5.out.size))
    clear hb6
    go_wp2_with fail
    go_ret
    exact ⟨rfl, HB6.out⟩
end Go.Proofs.YtiddbdjcdoiloaaDoor
