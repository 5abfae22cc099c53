/- The law FramesOpens: it is true. Conditions: the table of half bytes, a row of changes, numbers of their kinds. -/
import Derived.Test.YtiddbdjcdoiloaaDoorOddS
import Derived.Test.YtiddbdjcdoiloaaDoorROpen
namespace Go.Proofs.YtiddbdjcdoiloaaDoor
open Go.RowKit Fm

/-- What a world of the law holds: the argument's box, the sector. -/
structure OW (w0 W : World) (cs : Array Value) (g : Nat) (x : Dv.Sec) : Prop where
  box : Blk W w0.heap.size cs 44
  sec : Blk W g (secC x).toArray 38
  bel : Below w0.heap.size w0 W
theorem OW.below {w0 W W' : World} {cs : Array Value} {g : Nat} {x : Dv.Sec} (h : OW w0 W cs g x) (hb : Below W.heap.size W W') : OW w0 W' cs g x := ⟨h.box.below hb h.box.lt, h.sec.below hb h.sec.lt, h.bel.trans (hb.mono h.bel.size)⟩
theorem OW.older {w0 W : World} {cs : Array Value} {g : Nat} {x : Dv.Sec} (h : OW w0 W cs g x) (o : Obj) : OW w0 (W.alloc o) cs g x := h.below ((Below.refl _ _).alloc (Nat.le_refl _) o)
set_option maxRecDepth 100000 in
set_option maxHeartbeats 4000000 in
theorem law_opens (w : World) (at' : Int) (a : Nat) (k : Int) (q : Nat) (s : ByteArray) (ch : Value) (fx : Bool) (l : List (UInt8 × UInt8)) (ha : a < 256) (hch : ChL w ch l) (hT : TB w) :
    Calls Tryd.prog 6 #[.int .i64 at', .agg #[.int .u8 (a : Int), .int .i64 k, .int .u32 (q : Int), .string s, ch, .bool fx]] w fun e w' => e = .returned (.bool true) ∧ Below w.heap.size w w' := by
  obtain ⟨z, hzz, hz, hbz⟩ := zero_gen
  obtain ⟨w1, hw1⟩ : ∃ w1, w1 = w.alloc (.cells #[.int .u8 (a : Int), .int .i64 k, .int .u32 (q : Int), .string s, ch, .bool fx] 44) := ⟨_, rfl⟩
  have HB1 : Hid (Below w.heap.size w w1) := by rw [hw1]; exact (Below.refl _ _).alloc (Nat.le_refl _) _
  have HF1 : Hid (Blk w1 w.heap.size #[.int .u8 (a : Int), .int .i64 k, .int .u32 (q : Int), .string s, ch, .bool fx] 44) := by rw [hw1]; exact Blk.new w _ _
  have HC1 : Hid (Calls Tryd.prog 25 #[.agg #[.int .u8 (a : Int), .int .i64 k, .int .u32 (q : Int), .string s, ch, .bool fx]] w1 fun e w' => ∃ x : Dv.Sec, e = .returned (.agg (secC x).toArray) ∧ Below w1.heap.size w1 w') := odd_any w1 a k q s ch fx l ha (hch.below HB1.out)
  have HW1 := Lib.hid hw1
  have HT0 := Lib.hid hT
  clear hw1 hT hch
  go_enter Tryd.func6, Tryd.ntmps6
  go_wp2_with fail
  rw [← HW1.out]
  refine HC1.out.mono ?_
  rintro e w2 ⟨x, rfl, hb2⟩
  have HB2 := Lib.hid (HB1.out.trans (hb2.mono HB1.out.size))
  have HF2 := Lib.hid (HF1.out.below hb2 HF1.out.lt)
  have HZ2 := Lib.hid (Blk.new w2 (secC z).toArray 38)
  clear hb2 HC1
  obtain ⟨er, her⟩ : ∃ er, er = opE at' x.1 := ⟨_, rfl⟩
  obtain ⟨er2, her2⟩ : ∃ er2, er2 = opE (a : Int) x.1 := ⟨_, rfl⟩
  obtain ⟨f1, f2, f3, hff⟩ : ∃ (g1 g2 : Int) (g3 : ByteArray), frV (opF at' x.1) = .agg #[.int .i64 g1, .int .u32 g2, .string g3] := ⟨_, _, _, rfl⟩
  obtain ⟨g1, g2, g3, hgg⟩ : ∃ (g1 g2 : Int) (g3 : ByteArray), frV (opF (a : Int) x.1) = .agg #[.int .i64 g1, .int .u32 g2, .string g3] := ⟨_, _, _, rfl⟩
  have HS1 : Hid (∀ W, TB W → Calls Tryd.prog 26 #[.int .i64 at', .agg (secC x).toArray] W fun e w' => e = .returned (.tuple #[.agg #[.int .i64 f1, .int .u32 f2, .string f3], .int .i64 er]) ∧ Below W.heap.size W w') := fun W hW => by rw [her, ← hff]; exact open_any W at' x hW
  have HS2 : Hid (∀ W, Calls Tryd.prog 27 #[.int .i64 at', .agg (secC x).toArray] W fun e w' => e = .returned (.tuple #[.agg #[.int .i64 f1, .int .u32 f2, .string f3], .int .i64 er]) ∧ Below W.heap.size W w') := fun W => by rw [her, ← hff]; exact ropen_any W at' x
  have HS3 : Hid (∀ W, TB W → Calls Tryd.prog 26 #[.int .i64 (a : Int), .agg (secC x).toArray] W fun e w' => e = .returned (.tuple #[.agg #[.int .i64 g1, .int .u32 g2, .string g3], .int .i64 er2]) ∧ Below W.heap.size W w') := fun W hW => by rw [her2, ← hgg]; exact open_any W (a : Int) x hW
  have HS4 : Hid (∀ W, Calls Tryd.prog 27 #[.int .i64 (a : Int), .agg (secC x).toArray] W fun e w' => e = .returned (.tuple #[.agg #[.int .i64 g1, .int .u32 g2, .string g3], .int .i64 er2]) ∧ Below W.heap.size W w') := fun W => by rw [her2, ← hgg]; exact ropen_any W (a : Int) x
  clear her her2 hff hgg
  go_wp2_with (first
    | (refine wpList_store_sec rfl _ _ rfl rfl w2.heap.size x rfl rfl z HZ2.out ?_; intro w3 hb3 hg3; have hbe3 := sec_new hg3; have O3 : Hid (OW w w3 #[.int .u8 (a : Int), .int .i64 k, .int .u32 (q : Int), .string s, ch, .bool fx] w2.heap.size x) := ⟨HF2.out.below hbe3 HF2.out.lt, hb3, HB2.out.trans (hbe3.mono HB2.out.size)⟩; have r3 := Lib.hid (Blk.range hb3); clear hb3 hg3 hbe3)
    | (refine wpList_load_mid rfl 38 _ rfl w2.heap.size 0 rfl (secC x) _ r3.out uSec rfl (by rw [iSec, secC_len]) ?_))
  refine (HS1.out w3 (HT0.out.below O3.out.bel HT0.out.lt)).mono ?_
  rintro e w4 ⟨rfl, hb4⟩
  have O4 : Hid (OW w (w4.alloc (.cells #[.int .i64 f1, .int .u32 f2, .string f3] 36)) #[.int .u8 (a : Int), .int .i64 k, .int .u32 (q : Int), .string s, ch, .bool fx] w2.heap.size x) := (O3.out.below hb4).older _
  have G4_4 : Hid (Blk (w4.alloc (.cells #[.int .i64 f1, .int .u32 f2, .string f3] 36)) w4.heap.size #[.int .i64 f1, .int .u32 f2, .string f3] 36) := Blk.new _ _ _
  have r4 := Lib.hid (Blk.range O4.out.sec)
  clear hb4 HS1
  go_wp2_with (refine wpList_load_mid rfl 38 _ rfl w2.heap.size 0 rfl (secC x) _ r4.out uSec rfl (by rw [iSec, secC_len]) ?_)
  refine (HS2.out (w4.alloc (.cells #[.int .i64 f1, .int .u32 f2, .string f3] 36))).mono ?_
  rintro e w5 ⟨rfl, hb5⟩
  have O5 : Hid (OW w (w5.alloc (.cells #[.int .i64 f1, .int .u32 f2, .string f3] 36)) #[.int .u8 (a : Int), .int .i64 k, .int .u32 (q : Int), .string s, ch, .bool fx] w2.heap.size x) := (O4.out.below hb5).older _
  have G4_5 : Hid (Blk (w5.alloc (.cells #[.int .i64 f1, .int .u32 f2, .string f3] 36)) w4.heap.size #[.int .i64 f1, .int .u32 f2, .string f3] 36) := (G4_4.out.below hb5 G4_4.out.lt).older _
  have G5_5 : Hid (Blk (w5.alloc (.cells #[.int .i64 f1, .int .u32 f2, .string f3] 36)) w5.heap.size #[.int .i64 f1, .int .u32 f2, .string f3] 36) := Blk.new _ _ _
  have r5 := Lib.hid (Blk.range O5.out.sec)
  have c5 : (w5.alloc (.cells #[.int .i64 f1, .int .u32 f2, .string f3] 36)).cell? ⟨w.heap.size, 0, none⟩ = some (.int .u8 (a : Int)) := O5.out.box.cell 0 rfl
  clear hb5 HS2
  go_wp2_with (refine wpList_load_mid rfl 38 _ rfl w2.heap.size 0 rfl (secC x) _ r5.out uSec rfl (by rw [iSec, secC_len]) ?_)
  refine (HS3.out (w5.alloc (.cells #[.int .i64 f1, .int .u32 f2, .string f3] 36)) (HT0.out.below O5.out.bel HT0.out.lt)).mono ?_
  rintro e w6 ⟨rfl, hb6⟩
  have O6 : Hid (OW w (w6.alloc (.cells #[.int .i64 g1, .int .u32 g2, .string g3] 36)) #[.int .u8 (a : Int), .int .i64 k, .int .u32 (q : Int), .string s, ch, .bool fx] w2.heap.size x) := (O5.out.below hb6).older _
  have G4_6 : Hid (Blk (w6.alloc (.cells #[.int .i64 g1, .int .u32 g2, .string g3] 36)) w4.heap.size #[.int .i64 f1, .int .u32 f2, .string f3] 36) := (G4_5.out.below hb6 G4_5.out.lt).older _
  have G5_6 : Hid (Blk (w6.alloc (.cells #[.int .i64 g1, .int .u32 g2, .string g3] 36)) w5.heap.size #[.int .i64 f1, .int .u32 f2, .string f3] 36) := (G5_5.out.below hb6 G5_5.out.lt).older _
  have G6_6 : Hid (Blk (w6.alloc (.cells #[.int .i64 g1, .int .u32 g2, .string g3] 36)) w6.heap.size #[.int .i64 g1, .int .u32 g2, .string g3] 36) := Blk.new _ _ _
  have r6 := Lib.hid (Blk.range O6.out.sec)
  have c6 : (w6.alloc (.cells #[.int .i64 g1, .int .u32 g2, .string g3] 36)).cell? ⟨w.heap.size, 0, none⟩ = some (.int .u8 (a : Int)) := O6.out.box.cell 0 rfl
  clear hb6 HS3 c5
  go_wp2_with (refine wpList_load_mid rfl 38 _ rfl w2.heap.size 0 rfl (secC x) _ r6.out uSec rfl (by rw [iSec, secC_len]) ?_)
  refine (HS4.out (w6.alloc (.cells #[.int .i64 g1, .int .u32 g2, .string g3] 36))).mono ?_
  rintro e w7 ⟨rfl, hb7⟩
  have O7 : Hid (OW w (w7.alloc (.cells #[.int .i64 g1, .int .u32 g2, .string g3] 36)) #[.int .u8 (a : Int), .int .i64 k, .int .u32 (q : Int), .string s, ch, .bool fx] w2.heap.size x) := (O6.out.below hb7).older _
  have G4_7 : Hid (Blk (w7.alloc (.cells #[.int .i64 g1, .int .u32 g2, .string g3] 36)) w4.heap.size #[.int .i64 f1, .int .u32 f2, .string f3] 36) := (G4_6.out.below hb7 G4_6.out.lt).older _
  have G5_7 : Hid (Blk (w7.alloc (.cells #[.int .i64 g1, .int .u32 g2, .string g3] 36)) w5.heap.size #[.int .i64 f1, .int .u32 f2, .string f3] 36) := (G5_6.out.below hb7 G5_6.out.lt).older _
  have G6_7 : Hid (Blk (w7.alloc (.cells #[.int .i64 g1, .int .u32 g2, .string g3] 36)) w6.heap.size #[.int .i64 g1, .int .u32 g2, .string g3] 36) := (G6_6.out.below hb7 G6_6.out.lt).older _
  have G7_7 : Hid (Blk (w7.alloc (.cells #[.int .i64 g1, .int .u32 g2, .string g3] 36)) w7.heap.size #[.int .i64 g1, .int .u32 g2, .string g3] 36) := Blk.new _ _ _
  have r7 := Lib.hid (Blk.range O7.out.sec)
  have d4_0 : (w7.alloc (.cells #[.int .i64 g1, .int .u32 g2, .string g3] 36)).cell? ⟨w4.heap.size, 0, none⟩ = some (.int .i64 f1) := G4_7.out.cell 0 rfl
  have d4_1 : (w7.alloc (.cells #[.int .i64 g1, .int .u32 g2, .string g3] 36)).cell? ⟨w4.heap.size, 1, none⟩ = some (.int .u32 f2) := G4_7.out.cell 1 rfl
  have d4_2 : (w7.alloc (.cells #[.int .i64 g1, .int .u32 g2, .string g3] 36)).cell? ⟨w4.heap.size, 2, none⟩ = some (.string f3) := G4_7.out.cell 2 rfl
  have d5_0 : (w7.alloc (.cells #[.int .i64 g1, .int .u32 g2, .string g3] 36)).cell? ⟨w5.heap.size, 0, none⟩ = some (.int .i64 f1) := G5_7.out.cell 0 rfl
  have d5_1 : (w7.alloc (.cells #[.int .i64 g1, .int .u32 g2, .string g3] 36)).cell? ⟨w5.heap.size, 1, none⟩ = some (.int .u32 f2) := G5_7.out.cell 1 rfl
  have d5_2 : (w7.alloc (.cells #[.int .i64 g1, .int .u32 g2, .string g3] 36)).cell? ⟨w5.heap.size, 2, none⟩ = some (.string f3) := G5_7.out.cell 2 rfl
  have d6_0 : (w7.alloc (.cells #[.int .i64 g1, .int .u32 g2, .string g3] 36)).cell? ⟨w6.heap.size, 0, none⟩ = some (.int .i64 g1) := G6_7.out.cell 0 rfl
  have d6_1 : (w7.alloc (.cells #[.int .i64 g1, .int .u32 g2, .string g3] 36)).cell? ⟨w6.heap.size, 1, none⟩ = some (.int .u32 g2) := G6_7.out.cell 1 rfl
  have d6_2 : (w7.alloc (.cells #[.int .i64 g1, .int .u32 g2, .string g3] 36)).cell? ⟨w6.heap.size, 2, none⟩ = some (.string g3) := G6_7.out.cell 2 rfl
  have d7_0 : (w7.alloc (.cells #[.int .i64 g1, .int .u32 g2, .string g3] 36)).cell? ⟨w7.heap.size, 0, none⟩ = some (.int .i64 g1) := G7_7.out.cell 0 rfl
  have d7_1 : (w7.alloc (.cells #[.int .i64 g1, .int .u32 g2, .string g3] 36)).cell? ⟨w7.heap.size, 1, none⟩ = some (.int .u32 g2) := G7_7.out.cell 1 rfl
  have d7_2 : (w7.alloc (.cells #[.int .i64 g1, .int .u32 g2, .string g3] 36)).cell? ⟨w7.heap.size, 2, none⟩ = some (.string g3) := G7_7.out.cell 2 rfl
  clear hb7 HS4 c6
  go_wp2_with fail
  refine (awake_any _ (HT0.out.below O7.out.bel HT0.out.lt)).mono ?_
  rintro e w8 ⟨rfl, hb8⟩
  have HB8 := Lib.hid (O7.out.bel.trans (hb8.mono O7.out.bel.size))
  clear hb8
  go_wp2_with fail
  go_ret
  exact ⟨rfl, HB8.out⟩
end Go.Proofs.YtiddbdjcdoiloaaDoor
