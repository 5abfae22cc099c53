/- The contract of awake of the laws of frames: it is true. Condition: the table of half bytes. -/
import Derived.Test.YtiddbdjcdoiloaaDoorROpen
namespace Go.Proofs.YtiddbdjcdoiloaaDoor
open Go.RowKit Fm

def fA : Frm := ⟨2, 258, [97, 98]⟩
theorem fA_ok : FrOk fA := ⟨by decide, by decide, by decide, by decide⟩
theorem seal_A : sealR 3 2 258 [97, 98] = ⟨sealL 3 fA, sealL_len 3 fA (by decide)⟩ := by
  apply Subtype.ext
  exact sealR_ok (at' := 3) (kind := 2) (seq := 258) (data := [97, 98]) rfl
theorem open_A3 : opV 3 (sealL 3 fA) = .tuple #[.agg #[.int .i64 2, .int .u32 258, .string ⟨#[97, 98]⟩], .int .i64 0] := by
  have h1 := opE_seal 3 3 fA fA_ok (by omega) (by omega)
  have h2 := opF_seal 3 fA fA_ok (by omega)
  unfold opV
  rw [h1, if_pos (by omega)]
  have h3 : opF 3 (sealL 3 fA) = fA := h2
  rw [h3]; rfl
theorem open_A4 : opV 4 (sealL 3 fA) = .tuple #[.agg zF, .int .i64 72] := opV_bad (by rw [opE_seal 3 4 fA fA_ok (by omega) (by omega), if_neg (by omega)]) (by omega)
theorem open_Z (n : Int) (h0 : 0 ≤ n) (h1 : n < 256) : opV n Dv.zeroS.1 = .tuple #[.agg zF, .int .i64 70] := opV_bad (by unfold opE; rw [if_neg (by omega)]; exact if_pos rfl) (by omega)
theorem head_A : sub (sealL 3 fA) 0 12 = [76, 2, 2, 0, 2, 1, 0, 0, 97, 98, 0, 0] := by rw [sealL_form]; rfl
theorem at_A120 : (sealL 3 fA)[120]? = some 3 := by rw [sealL_form]; rfl
theorem at_A121 : (sealL 3 fA)[121]? = some 0 := by rw [sealL_form]; rfl
theorem ByB.cellAt {w : World} {b : Nat} {l : List UInt8} (h : ByB w b l) {i : Nat} {c : UInt8} (hc : l[i]? = some c) : w.cell? ⟨b, i, none⟩ = some (.int .u8 (c.toNat : Int)) := by
  obtain ⟨hi, rfl⟩ := List.getElem?_eq_some_iff.1 hc
  exact h.cell i hi
set_option maxRecDepth 100000 in
set_option maxHeartbeats 4000000 in
theorem awake_any (w : World) (hT : TB w) :
    Calls Tryd.prog 22 #[] w fun e w' => e = .returned (.bool true) ∧ Below w.heap.size w w' := by
  obtain ⟨z, hzz, hz, hbz⟩ := zero_gen
  have HS1 := Lib.hid (seal_any w 3 2 258 ⟨#[97, 98]⟩ hT)
  have e0 : seE 3 2 ((⟨#[97, 98]⟩ : ByteArray).data.toList.length) = 0 := rfl
  have e1 : sealR 3 2 258 ((⟨#[97, 98]⟩ : ByteArray).data.toList) = ⟨sealL 3 fA, sealL_len 3 fA (by decide)⟩ := seal_A
  rw [e0, e1] at HS1
  obtain ⟨x, hx⟩ : ∃ x : Dv.Sec, x = ⟨sealL 3 fA, sealL_len 3 fA (by decide)⟩ := ⟨_, rfl⟩
  rw [← hx] at HS1
  have HX : Hid (x.1 = sealL 3 fA) := by rw [hx]; rfl
  have HT := Lib.hid hT
  have hvx : secV x = .agg (secC x).toArray := rfl
  rw [hvx] at HS1
  clear hx hT e0 e1 hvx
  go_enter Tryd.func22, Tryd.ntmps22
  go_wp2_with fail
  refine HS1.out.mono ?_
  rintro e w1 ⟨rfl, hb1⟩
  have HZ1 := Lib.hid (Blk.new w1 (secC z).toArray 38)
  have HB1 := Lib.hid hb1
  have HA1 : Hid (Below w1.heap.size w1 (w1.alloc (.cells (secC z).toArray 38))) := (Below.refl _ _).alloc (Nat.le_refl _) _
  obtain ⟨b, hb⟩ : ∃ b, b = w1.heap.size := ⟨_, rfl⟩
  have HBB : Hid (Blk (w1.alloc (.cells (secC z).toArray 38)) b (secC z).toArray 38) := by rw [hb]; exact HZ1.out
  clear hb1 HS1
  go_wp2_with (first
    | (refine wpList_store_sec rfl _ _ rfl rfl w1.heap.size x rfl rfl z HZ1.out ?_; intro w2 hb2 hg2; have HB2 : Hid (Below w.heap.size w w2) := (HB1.out.trans (HA1.out.mono HB1.out.size)).grown hg2 (Nat.le_trans HB1.out.size HA1.out.size) (fun k hk => by cases hk; exact HB1.out.size); have HY2 : Hid (ByB w2 w1.heap.size x.1) := hb2; have hr2 := Lib.hid (Blk.range hb2); clear hb2 hg2)
    | (refine wpList_load_mid rfl 38 _ rfl w1.heap.size 0 rfl (secC x) _ hr2.out uSec rfl (by rw [iSec, secC_len]) ?_))
  clear hb HBB HZ1 HA1
  obtain ⟨b, hb⟩ : ∃ b, b = w1.heap.size := ⟨_, rfl⟩
  rw [← hb] at HY2 hr2 ⊢
  have hbw : Hid (w.heap.size ≤ b) := by rw [hb]; exact HB1.out.size
  clear hb
  refine (open_any w2 3 x (HT.out.below HB2.out HT.out.lt)).mono ?_
  rintro e w3 ⟨rfl, hb3⟩
  rw [HX.out, open_A3]
  have HB3 : Hid (Below w.heap.size w w3) := HB2.out.trans (hb3.mono HB2.out.size)
  have HY3 : Hid (ByB w3 b x.1) := Blk.below HY2.out hb3 (Blk.lt HY2.out)
  have HA3 : Hid (Below w3.heap.size w3 (w3.alloc (.cells #[.int .i64 2, .int .u32 258, .string ⟨#[97, 98]⟩] 36))) := (Below.refl _ _).alloc (Nat.le_refl _) _
  have HF3 : Hid (Blk (w3.alloc (.cells #[.int .i64 2, .int .u32 258, .string ⟨#[97, 98]⟩] 36)) w3.heap.size #[.int .i64 2, .int .u32 258, .string ⟨#[97, 98]⟩] 36) := Blk.new w3 _ _
  have HR3 : Hid ((w3.alloc (.cells #[.int .i64 2, .int .u32 258, .string ⟨#[97, 98]⟩] 36)).rangeAt b 0 (secC x)) := Blk.range (Blk.below HY3.out HA3.out (Blk.lt HY3.out))
  clear hb3
  go_wp2_with (refine wpList_load_mid rfl 38 _ rfl b 0 rfl (secC x) _ HR3.out uSec rfl (by rw [iSec, secC_len]) ?_)
  obtain ⟨w4, hw4⟩ : ∃ w4, w4 = w3.alloc (.cells #[.int .i64 2, .int .u32 258, .string ⟨#[97, 98]⟩] 36) := ⟨_, rfl⟩
  obtain ⟨q, hq⟩ : ∃ q, q = w3.heap.size := ⟨_, rfl⟩
  rw [← hw4, ← hq] at HF3
  rw [← hw4] at HA3
  rw [← hw4, ← hq]
  have HB4 : Hid (Below w.heap.size w w4) := HB3.out.trans (HA3.out.mono HB3.out.size)
  have HY4 : Hid (ByB w4 b x.1) := Blk.below HY3.out HA3.out (Blk.lt HY3.out)
  clear hw4 hq HR3 HA3
  refine (open_any w4 4 x (HT.out.below HB4.out HT.out.lt)).mono ?_
  rintro e w5 ⟨rfl, hb5⟩
  rw [HX.out, open_A4]
  have HA5 : Hid (Below w5.heap.size w5 (w5.alloc (.cells #[.int .i64 0, .int .u32 0, .string ⟨#[]⟩] 36))) := (Below.refl _ _).alloc (Nat.le_refl _) _
  have HB6 : Hid (Below w4.heap.size w4 (w5.alloc (.cells #[.int .i64 0, .int .u32 0, .string ⟨#[]⟩] 36))) := hb5.trans (HA5.out.mono hb5.size)
  unfold zF
  clear hb5
  go_wp2_with (refine wpList_buildTo rfl 38 #[] rfl (some 24) rfl (secC z).toArray (by simp [hbz]) ?_)
  obtain ⟨w6, hw6⟩ : ∃ w6, w6 = w5.alloc (.cells #[.int .i64 0, .int .u32 0, .string ⟨#[]⟩] 36) := ⟨_, rfl⟩
  rw [← hw6] at HB6 ⊢
  have HB7 : Hid (Below w.heap.size w w6) := HB4.out.trans (HB6.out.mono HB4.out.size)
  have HY6 : Hid (ByB w6 b x.1) := Blk.below HY4.out HB6.out (Blk.lt HY4.out)
  have HF6 : Hid (Blk w6 q #[.int .i64 2, .int .u32 258, .string ⟨#[97, 98]⟩] 36) := Blk.below HF3.out HB6.out (Blk.lt HF3.out)
  clear hw6 HA5
  refine (open_any w6 3 z (HT.out.below HB7.out HT.out.lt)).mono ?_
  rintro e w7 ⟨rfl, hb7⟩
  rw [hzz.out, open_Z 3 (by omega) (by omega)]
  have hb8 : Below w6.heap.size w6 (w7.alloc (.cells #[.int .i64 0, .int .u32 0, .string ⟨#[]⟩] 36)) := hb7.alloc hb7.size _
  have HB8 : Hid (Below w.heap.size w (w7.alloc (.cells #[.int .i64 0, .int .u32 0, .string ⟨#[]⟩] 36))) := HB7.out.trans (hb8.mono HB7.out.size)
  have hy8 : ByB (w7.alloc (.cells #[.int .i64 0, .int .u32 0, .string ⟨#[]⟩] 36)) b x.1 := Blk.below HY6.out hb8 (Blk.lt HY6.out)
  have hf8 : Blk (w7.alloc (.cells #[.int .i64 0, .int .u32 0, .string ⟨#[]⟩] 36)) q #[.int .i64 2, .int .u32 258, .string ⟨#[97, 98]⟩] 36 := Blk.below HF6.out hb8 (Blk.lt HF6.out)
  have c0 := hf8.cell 0 rfl
  have c1 := hf8.cell 1 rfl
  have c2 := hf8.cell 2 rfl
  have d0 := hy8.cellAt (show x.1[120]? = some 3 by rw [HX.out]; exact at_A120)
  have d1 := hy8.cellAt (show x.1[121]? = some 0 by rw [HX.out]; exact at_A121)
  have hst : (convert 22 9 (.slice (some ⟨b, 0, none⟩) 12 128)).run Tryd.prog (w7.alloc (.cells #[.int .i64 0, .int .u32 0, .string ⟨#[]⟩] 36)) = .ok (.string ⟨#[76, 2, 2, 0, 2, 1, 0, 0, 97, 98, 0, 0]⟩) (w7.alloc (.cells #[.int .i64 0, .int .u32 0, .string ⟨#[]⟩] 36)) := by
    have h := str_sl (hy8.sl 0 12 128 (by have := x.2; omega) (by omega))
    rw [HX.out, head_A] at h
    exact h
  have hu := uArr
  unfold zF
  clear hb7 hb8 hy8 hf8
  go_wp2_with fail
  go_ret
  exact ⟨rfl, HB8.out⟩
theorem sec_new {w w' : World} {z : Dv.Sec} (hg : (w.alloc (.cells (secC z).toArray 38)).grownBy w' (some w.heap.size)) : Below w.heap.size w w' :=
  ((Below.refl _ _).alloc (Nat.le_refl _) _).grown hg (by simp) (fun k hk => by cases hk; exact Nat.le_refl _)
end Go.Proofs.YtiddbdjcdoiloaaDoor
