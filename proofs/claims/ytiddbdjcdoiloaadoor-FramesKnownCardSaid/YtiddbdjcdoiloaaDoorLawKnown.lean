/- The law FramesKnown: it is true. Condition: the table of half bytes. -/
import Derived.Test.YtiddbdjcdoiloaaDoorLawBurst
import Derived.Test.YtiddbdjcdoiloaaDoorGet
namespace Go.Proofs.YtiddbdjcdoiloaaDoor
open Go.RowKit Fm

theorem Blk.oldK {w : World} {b : Nat} {cs : Array Value} {t : TypeId} (h : Blk w b cs t) (o : Obj) : Blk (w.alloc o) b cs t := h.below ((Below.refl _ _).alloc (Nat.le_refl _) o) h.lt
theorem get_new : getV (Dv.new 64) 5 = .tuple #[.agg zF, .int .i64 70] := by
  have h1 : secE (Dv.new 64) 5 = 0 := by unfold secE Dv.new; simp
  have h2 : (rdS (Dv.new 64) 5).1 = List.replicate 128 0 := by
    unfold rdS
    rw [if_pos h1]
    have h3 : Dv.reads (Dv.new 64) 5 = Dv.zeroS := by unfold Dv.reads Dv.new Dv.readF; simp
    show (Dv.reads (Dv.new 64) 5).1 = _
    rw [h3]; rfl
  unfold getV
  rw [if_pos h1]
  refine opV_bad ?_ (by omega)
  rw [h2]
  unfold opE
  rw [if_neg (by omega), if_pos rfl]
theorem info_u8k : (Tryd.prog.info? 5).map (fun i => (i.zero, i.size, i.bytes)) = some (some (.int .u8 0), 1, 1) := by kernel_rfl
theorem make_kn (W : World) : (Instr.makeSlice 22 (.int .i64 113) (.int .i64 113)).run Tryd.prog W = .ok (.slice (some ⟨W.heap.size, 0, none⟩) 113 113) (W.alloc (.cells (madeCells #[.int .u8 0] 113) 5)) := by
  obtain ⟨i0, hi, hz0, hz1, hz2⟩ := info_parts info_u8k
  have hb : (i0.bytes : Int) * (113 : Int) ≤ 281474976710656 := by rw [hz2]; omega
  have hr := run_make (P := Tryd.prog) W 22 5 i0 (.int .u8 0) Tryd.underlying22 hi hz0 .i64 .i64 113 113 (by omega) (Int.le_refl _) hb (by omega)
  rw [hz1] at hr
  have hr2 : (Instr.makeSlice 22 (.int .i64 113) (.int .i64 113)).run Tryd.prog W = .ok (.slice (some ⟨W.heap.size, 0, none⟩) 113 113) (W.alloc (.cells (madeCells (Value.int .u8 0).cells 113) 5)) := by simpa using hr
  exact hr2
theorem sl_zeroK (W : World) (n : Nat) : SL encB (W.alloc (.cells (madeCells #[.int .u8 0] n) 5)) (W.alloc (.cells (madeCells #[.int .u8 0] n) 5)).heap.size (.slice (some ⟨W.heap.size, 0, none⟩) n n) (List.replicate n 0) := by
  refine .inr ⟨W.heap.size, 0, n, by simp, by simp, by simp, fun i hi => ?_⟩
  rw [Nat.zero_add, cell_of_row _ W.heap.size i _ _ _ (heap_alloc_new W _), ← Array.getElem?_toList, toList_madeCells_one]
  simp at hi
  simp [hi, encB]
/-- A hundred and thirteen zero bytes, as letters. -/
theorem kn_gen : ∃ (mc : Array Value) (s3 : ByteArray), s3.data.toList.length = 113 ∧
    (∀ W : World, (Instr.makeSlice 22 (.int .i64 113) (.int .i64 113)).run Tryd.prog W = .ok (.slice (some ⟨W.heap.size, 0, none⟩) 113 113) (W.alloc (.cells mc 5))) ∧
    (∀ W : World, (convert 22 9 (.slice (some ⟨W.heap.size, 0, none⟩) 113 113)).run Tryd.prog (W.alloc (.cells mc 5)) = .ok (.string s3) (W.alloc (.cells mc 5))) :=
  ⟨madeCells #[.int .u8 0] 113, ⟨(List.replicate 113 (0 : UInt8)).toArray⟩, by rw [List.toList_toArray, List.length_replicate], make_kn, fun W => str_sl (sl_zeroK W 113)⟩
set_option maxRecDepth 100000 in
set_option maxHeartbeats 2500000 in
theorem law_known (w : World) (hT : TB w) :
    Calls Tryd.prog 11 #[] w fun e w' => e = .returned (.bool true) ∧ Below w.heap.size w w' := by
  obtain ⟨z, hzz, hz, hbz⟩ := zero_gen
  obtain ⟨x, hx⟩ : ∃ x, x = sealR 3 2 258 [97, 98] := ⟨_, rfl⟩
  have hse : seE 3 2 ([97, 98] : List UInt8).length = 0 := by decide
  have hx1 : x.1 = sealL 3 ⟨2, 258, [97, 98]⟩ := by rw [hx, sealR_ok hse]; rfl
  have hxs : sumOk x.1 := by rw [hx1]; exact seal_sumOk 3 _ (by show 2 ≤ 112; omega)
  have HXB : Hid (∀ (i : Nat) (h : i < x.1.length) (v : UInt8), opE 3 (x.1.set i v) = 0 → v = x.1[i]) := fun i h v he => byte_open x.1 i v 3 x.2 hxs h he
  have HS0 : Hid (∀ W, TB W → Calls Tryd.prog 23 #[.int .i64 3, .int .i64 2, .int .u32 258, .string ⟨#[97, 98]⟩] W fun e w' => e = .returned (.tuple #[.agg (secC x).toArray, .int .i64 0]) ∧ Below W.heap.size W w') := fun W hW => by
    have h := seal_any W 3 2 258 ⟨#[97, 98]⟩ hW
    rw [hx, ← hse]; exact h
  obtain ⟨mc, s3, hs3, hmk, hcv⟩ := kn_gen
  obtain ⟨x3, hx3⟩ : ∃ x, x = sealR 3 2 258 s3.data.toList := ⟨_, rfl⟩
  have HS3 : Hid (∀ W, TB W → Calls Tryd.prog 23 #[.int .i64 3, .int .i64 2, .int .u32 258, .string s3] W fun e w' => e = .returned (.tuple #[.agg (secC x3).toArray, .int .i64 3]) ∧ Below W.heap.size W w') := fun W hW => by
    have h := seal_any W 3 2 258 s3 hW
    rw [hs3, ← hx3] at h
    exact h
  have HMK := Lib.hid hmk
  have HCV := Lib.hid hcv
  obtain ⟨x4, hx4⟩ : ∃ x, x = sealR 3 0 258 [] := ⟨_, rfl⟩
  have HS4 : Hid (∀ W, TB W → Calls Tryd.prog 23 #[.int .i64 3, .int .i64 0, .int .u32 258, .string ⟨#[]⟩] W fun e w' => e = .returned (.tuple #[.agg (secC x4).toArray, .int .i64 7]) ∧ Below W.heap.size W w') := fun W hW => by
    have h := seal_any W 3 0 258 ⟨#[]⟩ hW
    rw [hx4]; exact h
  have HT0 := Lib.hid hT
  clear hx hse hx1 hxs hx3 hx4 hT hs3 hmk hcv
  go_enter Tryd.func11, Tryd.ntmps11
  go_wp2_with fail
  refine (HS0.out w HT0.out).mono ?_
  rintro e w2 ⟨rfl, hb2⟩
  have HB2 := Lib.hid hb2
  have HZ2 := Lib.hid (Blk.new w2 (secC z).toArray 38)
  clear hb2 HS0
  go_wp2_with (refine wpList_store_sec rfl _ _ rfl rfl w2.heap.size x rfl rfl z HZ2.out ?_; intro w3 hb3 hg3; have hbe3 := sec_new hg3; have HB3 : Hid (Below w.heap.size w w3) := HB2.out.trans (hbe3.mono HB2.out.size); have HX3 := Lib.hid hb3; clear hb3 hg3 hbe3)
  obtain ⟨g, hg⟩ : ∃ g, g = w2.heap.size := ⟨_, rfl⟩
  rw [← hg] at HX3 ⊢
  clear hg HZ2 HB2
  go_loopw [3] (fun i wr => ∃ j : Nat, j ≤ 128 ∧ i = .int .i64 (j : Int) ∧ Hid (Blk wr g (secC x).toArray 38) ∧ Hid (Below w.heap.size w wr)) (fun i _ => 128 - (intOf i).toNat)
  case atStart => exact ⟨0, by omega, rfl, HX3, HB3⟩
  case round =>
    clear HX3 HB3
    obtain ⟨j, hj, rfl, HX, HB⟩ := hrel
    by_cases hlt : j < 128
    · have hltI : (j : Int) < 128 := by omega
      have hxl := x.2
      have r1 := Lib.hid (Blk.range HX.out)
      have HZr := Lib.hid (Blk.new wr (secC z).toArray 38)
      obtain ⟨c, hc⟩ : ∃ c, c = (x.1[j]'(by omega)).toNat := ⟨_, rfl⟩
      have hc8 : c < 256 := by rw [hc]; exact UInt8.toNat_lt _
      obtain ⟨v, hv⟩ : ∃ v, v = (c + 1) % 256 := ⟨_, rfl⟩
      have hv8 : v < 256 := by omega
      have hwv : ((c : Int) + 1) % 256 = (v : Int) := by omega
      obtain ⟨y, hy⟩ : ∃ y : Dv.Sec, y.1 = x.1.set j (UInt8.ofNat v) := ⟨⟨x.1.set j (UInt8.ofNat v), by rw [List.length_set]; exact hxl⟩, rfl⟩
      have HCL : Hid (∀ W b, Blk W b (secC x).toArray 38 → W.cell? ⟨b, j, none⟩ = some (.int .u8 (c : Int)) ∧ W.frozen? ⟨b, j, none⟩ = false ∧ Blk (W.setCell ⟨b, j, none⟩ (.int .u8 (v : Int))) b (secC y).toArray 38) := fun W b h => by
        have hB : ByB W b x.1 := h
        refine ⟨by rw [hc]; exact hB.cell j (by omega), hB.free j, ?_⟩
        have := hB.set j (UInt8.ofNat v)
        rw [UInt8.toNat_ofNat', Nat.mod_eq_of_lt (by omega), ← hy] at this
        exact this
      obtain ⟨er, her⟩ : ∃ er, er = opE 3 y.1 := ⟨_, rfl⟩
      have hne : er ≠ 0 := fun h => by
        rw [her, hy] at h
        have h2 := congrArg UInt8.toNat (HXB.out j (by omega) _ h)
        rw [UInt8.toNat_ofNat', ← hc] at h2
        omega
      have he1 : (er == 0) = false := beq_eq_false_iff_ne.2 hne
      obtain ⟨g1, g2, g3, hgg⟩ : ∃ (g1 g2 : Int) (g3 : ByteArray), frV (opF 3 y.1) = .agg #[.int .i64 g1, .int .u32 g2, .string g3] := ⟨_, _, _, rfl⟩
      have HS1 : Hid (∀ W, TB W → Calls Tryd.prog 26 #[.int .i64 3, .agg (secC y).toArray] W fun e w' => e = .returned (.tuple #[.agg #[.int .i64 g1, .int .u32 g2, .string g3], .int .i64 er]) ∧ Below W.heap.size W w') := fun W hW => by rw [her, ← hgg]; exact open_any W 3 y hW
      clear hxl hc hv hy her hgg hne HXB
      go_wp2_with (first
        | (refine wpList_load_mid rfl 38 _ rfl g 0 rfl (secC x) _ r1.out uSec rfl (by rw [iSec, secC_len]) ?_)
        | (refine wpList_store_sec rfl _ _ rfl rfl wr.heap.size x rfl rfl z HZr.out ?_; intro w4 hb4 hg4; have hbe4 := sec_new hg4; have HB4 := Lib.hid (HB.out.trans (hbe4.mono HB.out.size)); have HX4 := Lib.hid (HX.out.below hbe4 HX.out.lt); obtain ⟨d0, d1, d2⟩ := HCL.out w4 wr.heap.size hb4; have HNE : Hid (wr.heap.size ≠ g) := (show wr.heap.size ≠ g by have := HX.out.lt; omega); have HGE : Hid (w.heap.size ≤ wr.heap.size) := HB.out.size; have HY4 := Lib.hid d2; have r2 := Lib.hid (Blk.range d2); clear hb4 hg4 hbe4 d2)
        | (refine wpList_load_mid rfl 38 _ rfl wr.heap.size 0 rfl (secC y) _ r2.out uSec rfl (by rw [iSec, secC_len]) ?_))
      have HBs := Lib.hid (HB4.out.setCell (p := ⟨wr.heap.size, j, none⟩) HGE.out (.int .u8 (v : Int)))
      have HXs := Lib.hid (HX4.out.setOther j (.int .u8 (v : Int)) HNE.out)
      refine (HS1.out _ (HT0.out.below HBs.out HT0.out.lt)).mono ?_
      rintro e w5 ⟨rfl, hb5⟩
      have HB6 : Hid (Below w.heap.size w (w5.alloc (.cells #[.int .i64 g1, .int .u32 g2, .string g3] 36))) := ((HBs.out.trans (hb5.mono HBs.out.size)).alloc (HBs.out.trans (hb5.mono HBs.out.size)).size _)
      have HX6 : Hid (Blk (w5.alloc (.cells #[.int .i64 g1, .int .u32 g2, .string g3] 36)) g (secC x).toArray 38) := (HXs.out.below hb5 HXs.out.lt).oldK _
      clear hb5 HS1
      go_wp2_with fail
      go_roundw
      case rel => exact ⟨j + 1, by omega, by go_num, HX6, HB6⟩
      case measure => simp [intOf]; omega
    · obtain rfl : j = 128 := by omega
      have hltI : ¬ (((128 : Nat) : Int) < 128) := by omega
      have hmk := HMK.out wr
      have hcv := HCV.out wr
      have HB7 : Hid (Below w.heap.size w (wr.alloc (.cells mc 5))) := HB.out.alloc HB.out.size _
      go_wp2_with fail
      refine (HS3.out _ (HT0.out.below HB7.out HT0.out.lt)).mono ?_
      rintro e w8 ⟨rfl, hb8⟩
      have HB8 := Lib.hid (HB7.out.trans (hb8.mono HB7.out.size))
      have HZ8 := Lib.hid (Blk.new w8 (secC z).toArray 38)
      clear hb8 HS3 hmk hcv
      go_wp2_with (refine wpList_store_sec rfl _ _ rfl rfl w8.heap.size x3 rfl rfl z HZ8.out ?_; intro w9 hb9 hg9; have HB9 := Lib.hid (HB8.out.trans ((sec_new hg9).mono HB8.out.size)); clear hb9 hg9)
      refine (HS4.out _ (HT0.out.below HB9.out HT0.out.lt)).mono ?_
      rintro e w10 ⟨rfl, hb10⟩
      have HB10 := Lib.hid (HB9.out.trans (hb10.mono HB9.out.size))
      have HZ10 := Lib.hid (Blk.new w10 (secC z).toArray 38)
      clear hb10 HS4
      go_wp2_with (refine wpList_store_sec rfl _ _ rfl rfl w10.heap.size x4 rfl rfl z HZ10.out ?_; intro w11 hb11 hg11; have HB11 := Lib.hid (HB10.out.trans ((sec_new hg11).mono HB10.out.size)); clear hb11 hg11)
      refine (new_ok w11 64 (by omega) (by omega)).mono ?_
      rintro e w12 ⟨b, F, rfl, hD, hb12, _⟩
      have HB12 := Lib.hid (HB11.out.trans (hb12.mono HB11.out.size))
      have HG : Hid (Calls Tryd.prog 32 #[.pointer (some ⟨b, 0, none⟩), .int .i64 5] w12 fun e w' => e = .returned (.tuple #[.agg #[.int .i64 0, .int .u32 0, .string ⟨#[]⟩], .int .i64 70]) ∧ Below w12.heap.size w12 w') := by
        have h := get_any w12 b F (Dv.new 64) 5 hD (HT0.out.below HB12.out HT0.out.lt)
        rw [get_new] at h
        exact h
      clear hb12 hD
      go_wp2_with fail
      refine HG.out.mono ?_
      rintro e w13 ⟨rfl, hb13⟩
      have HB13 : Hid (Below w.heap.size w (w13.alloc (.cells #[.int .i64 0, .int .u32 0, .string ⟨#[]⟩] 36))) := (HB12.out.trans (hb13.mono HB12.out.size)).alloc (HB12.out.trans (hb13.mono HB12.out.size)).size _
      clear hb13 HG
      go_wp2_with fail
      refine (awake_any _ (HT0.out.below HB13.out HT0.out.lt)).mono ?_
      rintro e w14 ⟨rfl, hb14⟩
      have HB14 := Lib.hid (HB13.out.trans (hb14.mono HB13.out.size))
      clear hb14
      go_wp2_with fail
      go_ret
      exact ⟨rfl, HB14.out⟩
end Go.Proofs.YtiddbdjcdoiloaaDoor
