/- The contract of Get of package frames. Conditions: a device, the table of half bytes. -/
import Derived.Test.YtiddbdjcdoiloaaDoorOpenP
import Derived.Test.YtiddbdjcdoiloaaDoorAwk
import Derived.Test.YtiddbdjcdoiloaaDoorNew
namespace Go.Proofs.YtiddbdjcdoiloaaDoor
open Go.RowKit Fm

noncomputable def getV (s : Dv.S) (n : Int) : Value := if secE s n = 0 then opV n (rdS s n).1 else .tuple #[.agg zF, .int .i64 (secE s n)]
set_option maxRecDepth 100000 in
set_option maxHeartbeats 2500000 in
theorem get_any (w : World) (b : Nat) (F : List Nat) (s : Dv.S) (n : Int) (M : DevAt w b F s) (hT : TB w) :
    Calls Tryd.prog 32 #[.pointer (some ⟨b, 0, none⟩), .int .i64 n] w fun e w' => e = .returned (getV s n) ∧ Below w.heap.size w w' := by
  obtain ⟨z, hzz, hz, hbz⟩ := zero_gen
  obtain ⟨gb, c, cv, m, M, rfl⟩ := M
  obtain ⟨w1, hw1⟩ : ∃ w1, w1 = w.alloc (.cells #[.int .i64 0, .int .u32 0, .string ⟨#[]⟩] 36) := ⟨_, rfl⟩
  have hbe : Below w.heap.size w w1 := by rw [hw1]; exact (Below.refl _ _).alloc (Nat.le_refl _) _
  have HB1 := Lib.hid hbe
  have HF1 : Hid (Blk w1 w.heap.size zF 36) := by rw [hw1]; exact Blk.new w _ _
  obtain ⟨x, hx⟩ : ∃ x, x = rdS s n := ⟨_, rfl⟩
  obtain ⟨er, her⟩ : ∃ er, er = secE s n := ⟨_, rfl⟩
  have HR : Hid (Calls Tryd.prog 60 #[.pointer (some ⟨b, 0, none⟩), .int .i64 n] w1 fun e w' => e = .returned (.tuple #[.agg (secC x).toArray, .int .i64 er]) ∧ Below w1.heap.size w1 w') := by
    rw [hx, her]; exact read_any (M.below hbe) n
  have HW1 := Lib.hid hw1
  have HT0 := Lib.hid hT
  have HV : Hid (getV s n = if er = 0 then opV n x.1 else .tuple #[.agg zF, .int .i64 er]) := by rw [her, hx]; rfl
  clear hw1 hT hbe hx her M
  go_enter Tryd.func32, Tryd.ntmps32
  go_wp2_with fail
  rw [← HW1.out]
  refine HR.out.mono ?_
  rintro e w2 ⟨rfl, hb2⟩
  have HB2 := Lib.hid (HB1.out.trans (hb2.mono HB1.out.size))
  have HF2 := Lib.hid (HF1.out.below hb2 HF1.out.lt)
  have HZ2 := Lib.hid (Blk.new w2 (secC z).toArray 38)
  clear hb2 HR
  by_cases h0 : er = 0
  · have HV2 : Hid (getV s n = opV n x.1) := by show _ = _; rw [HV.out, if_pos h0]
    obtain ⟨eo, heo⟩ : ∃ eo, eo = opE n x.1 := ⟨_, rfl⟩
    obtain ⟨g1, g2, g3, hgg⟩ : ∃ (g1 g2 : Int) (g3 : ByteArray), frV (opF n x.1) = .agg #[.int .i64 g1, .int .u32 g2, .string g3] := ⟨_, _, _, rfl⟩
    have hov : opV n x.1 = .tuple #[.agg #[.int .i64 g1, .int .u32 g2, .string g3], .int .i64 eo] := by unfold opV; rw [hgg, heo]
    have HS : Hid (∀ W, TB W → Calls Tryd.prog 26 #[.int .i64 n, .agg (secC x).toArray] W fun e w' => e = .returned (.tuple #[.agg #[.int .i64 g1, .int .u32 g2, .string g3], .int .i64 eo]) ∧ Below W.heap.size W w') := fun W hW => by rw [← hov]; exact open_any W n x hW
    have HOV := Lib.hid hov
    clear HV heo hgg hov
    go_wp2_with (first
      | (refine wpList_store_sec rfl _ _ rfl rfl w2.heap.size x rfl rfl z HZ2.out ?_; intro w3 hb3 hg3; have hbe3 := sec_new hg3; have HB3 := Lib.hid (HB2.out.trans (hbe3.mono HB2.out.size)); have HF3 := Lib.hid (HF2.out.below hbe3 HF2.out.lt); have r3 := Lib.hid (Blk.range hb3); clear hb3 hg3 hbe3)
      | (refine wpList_load_mid rfl 38 _ rfl w2.heap.size 0 rfl (secC x) _ r3.out uSec rfl (by rw [iSec, secC_len]) ?_))
    refine (HS.out w3 (HT0.out.below HB3.out HT0.out.lt)).mono ?_
    rintro e w4 ⟨rfl, hb4⟩
    have HB4 := Lib.hid (HB3.out.trans (hb4.mono HB3.out.size))
    have HF4 := Lib.hid (HF3.out.below hb4 HF3.out.lt)
    obtain ⟨a0, b0, a1, b1, a2, b2, HBK, HGR⟩ := fr_store HF4.out (.int .i64 g1) (.int .u32 g2) (.string g3)
    clear hb4 HS
    go_wp2_with (refine bodyPost_ret (results_row2 rfl _ _ w.heap.size #[.int .i64 g1, .int .u32 g2, .string g3] rfl HBK.out rfl Tryd.underlying36 (by rw [iFr]; rfl)) rfl ?_)
    exact ⟨(HV2.out.trans HOV.out).symm, below_grown HB4.out HGR.out HB4.out.size (Nat.le_refl _)⟩
  · have HV2 : Hid (getV s n = .tuple #[.agg zF, .int .i64 er]) := by show _ = _; rw [HV.out, if_neg h0]
    have h1 : (er != 0) = true := by rw [bne_iff_ne]; exact h0
    clear HV h0
    go_wp2_with (refine wpList_store_sec rfl _ _ rfl rfl w2.heap.size x rfl rfl z HZ2.out ?_; intro w3 hb3 hg3; have hbe3 := sec_new hg3; have HB3 := Lib.hid (HB2.out.trans (hbe3.mono HB2.out.size)); have HF3 := Lib.hid (HF2.out.below hbe3 HF2.out.lt); clear hb3 hg3 hbe3; obtain ⟨a0, b0, a1, b1, a2, b2, HBK, HGR⟩ := fr_store HF3.out (.int .i64 0) (.int .u32 0) (.string ⟨#[]⟩))
    refine bodyPost_ret (results_row2 rfl _ _ w.heap.size zF rfl HBK.out rfl Tryd.underlying36 (by rw [iFr]; rfl)) rfl ?_
    exact ⟨congrArg Ending.returned HV2.out.symm, below_grown HB3.out HGR.out HB3.out.size (Nat.le_refl _)⟩
end Go.Proofs.YtiddbdjcdoiloaaDoor
