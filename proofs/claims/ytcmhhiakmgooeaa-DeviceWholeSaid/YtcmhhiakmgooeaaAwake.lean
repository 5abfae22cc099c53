/- The contract of awake: it is true. No condition. -/
import Derived.Test.YtcmhhiakmgooeaaOwn
import Derived.Lib.QuietBelow
namespace Go.Proofs.Ytcmhhiakmgooeaa
open Go.RowKit Go.Maps

theorem range_regrown {w : World} {g o : Nat} {cs : List Value} (h : w.rangeAt g o cs) (d : Nat) (os : Array Obj) : (Go.Sort.grow (redrawn w d) os).rangeAt g o cs := fun j v hv => cell_regrown (h j v hv) d os
/-- A whole sector is loaded in a region that draws its order, whose callees make memory alone. -/
theorem quiet_load_sec {w : World} {g : Nat} {v : Dv.Sec} (hr : w.rangeAt g 0 (secC v)) {o : Oper} {a : Act} {K : Act → Prop} (x : Operand) (ho : o.op = .load 58 x) (hx : a.eval x = .pointer (some ⟨g, 0, none⟩)) (h : K (a.put o.dst (.agg (secC v).toArray))) :
    Oper.quiet Try.prog o a (fun w' => ∃ p : Regrown, w' = Go.Sort.grow (redrawn w p.d) p.os) K := by
  refine ⟨_, fun W hW => ?_, h⟩
  obtain ⟨p, rfl⟩ := hW
  unfold Oper.quietAt execOp
  simp only [ho, hx, Instr.loadAt, Instr.sureAddr, Sem.run_bind, Sem.run_pure, Result.andThen_ok, run_loadVar_mid _ g 0 58 (secC v) _ (range_regrown hr p.d p.os) uSec rfl (by rw [iSec, secC_len])]
  exact ⟨rfl, rfl⟩
theorem keep02 : keepE 3 [0, 2] = 0 := keepE_of (fun i hi => by simp at hi; rcases hi with rfl | rfl <;> omega) (fun i h1 h2 => by
  have : i = 1 := by simp at h2; omega
  subst this; decide)
set_option maxRecDepth 100000 in
set_option maxHeartbeats 4000000 in
theorem awake_any (w : World) :
    Calls Try.prog 9 #[] w fun e w' => e = .returned (.bool true) ∧ Below w.heap.size w w' := by
  obtain ⟨z, _, hz, _⟩ := zero_gen
  obtain ⟨x1, hx1⟩ : ∃ x, x = Dv.filled 1 1 := ⟨_, rfl⟩
  obtain ⟨x2, hx2⟩ : ∃ x, x = Dv.filled 2 2 := ⟨_, rfl⟩
  have HO : Hid (∀ W, Calls Try.prog 29 #[] W fun e w' => e = .returned (secV x1) ∧ Below W.heap.size W w') := fun W => by rw [hx1]; exact ones_any W
  have HT : Hid (∀ W, Calls Try.prog 33 #[] W fun e w' => e = .returned (secV x2) ∧ Below W.heap.size W w') := fun W => by rw [hx2]; exact twos_any W
  clear hx1 hx2
  obtain ⟨st, hst⟩ : ∃ st, st = List.replicate 64 Dv.zeroS := ⟨_, rfl⟩
  have hl : st.length = 64 := by rw [hst]; simp
  have HL := Lib.hid hl
  have HN := Lib.hid (new_ok w 64 (by omega) (by omega))
  rw [new_aw, ← hst] at HN
  clear hst hl
  go_enter Try.func9, Try.ntmps9
  go_wp2_with fail
  refine HN.out.mono ?_
  rintro e w1 ⟨b, F1, rfl, hd, hb, hn⟩
  have O1 : Hid (Own w w1 b F1 (sAw st [] 0)) := ⟨hd, hb, hn⟩
  clear hd hb hn HN
  go_wp2_with fail
  refine (HO.out _).mono ?_
  rintro e w2 ⟨rfl, hb⟩
  have O2 := Lib.hid (O1.out.below hb)
  clear hb O1
  go_wp2_with fail
  refine (wr_step O2.out 3 3 x1 rfl (by rw [HL.out]; omega) (by simp) (by omega)).mono ?_
  rintro e w3 ⟨rfl, F3, ho, _, _⟩
  have O3 := Lib.hid ho
  clear ho O2
  go_wp2_with fail
  refine (HT.out _).mono ?_
  rintro e w4 ⟨rfl, hb⟩
  have O4 := Lib.hid (O3.out.below hb)
  clear hb O3
  go_wp2_with fail
  refine (wr_step O4.out 3 3 x2 rfl (by rw [HL.out]; omega) (by simp) (by omega)).mono ?_
  rintro e w5 ⟨rfl, F5, ho, _, _⟩
  have O5 := Lib.hid ho
  clear ho O4
  go_wp2_with fail
  refine (HO.out _).mono ?_
  rintro e w6 ⟨rfl, hb⟩
  have O6 := Lib.hid (O5.out.below hb)
  clear hb O5
  go_wp2_with fail
  refine (wr_step O6.out 4 4 x1 rfl (by rw [HL.out]; omega) (by simp) (by omega)).mono ?_
  rintro e w7 ⟨rfl, F7, ho, _, _⟩
  have O7 : Hid (Own w w7 b F7 (sAw st [(3, x1), (3, x2), (4, x1)] 3)) := ho
  clear ho O6
  go_wp2_with fail
  refine (rd_step O7.out 3 3 x2 rfl (by rw [HL.out]; omega) (by simp [Dv.readF])).mono ?_
  rintro e w8 ⟨rfl, hb⟩
  have O8 := Lib.hid (O7.out.below hb)
  have hv1 : secV x1 = .agg (secC x1).toArray := rfl
  have hv2 : secV x2 = .agg (secC x2).toArray := rfl
  have HBL8 := Lib.hid (Blk.new w8 (secC z).toArray 58)
  rw [hv2]
  clear hb O7
  go_wp2_with (refine wpList_store_sec rfl _ _ rfl rfl w8.heap.size x2 rfl rfl z HBL8.out ?_; intro w9 hb9 hg9)
  have hx9 := box_new O8.out.dev hb9 hg9
  have O9 := Lib.hid (O8.out.below hx9.2)
  obtain ⟨p1, hp1⟩ : ∃ p, p = w8.heap.size := ⟨_, rfl⟩
  rw [← hp1] at hx9 ⊢
  have B9 := Lib.hid hx9.1
  clear hb9 hg9 hx9 HBL8 O8 hp1
  refine (pending_dev O9.out.dev).mono ?_
  rintro e w' ⟨rfl, rfl⟩
  rw [show (((sAw st [(3, x1), (3, x2), (4, x1)] 3).ca.length : Nat) : Int) = 3 from rfl]
  have OA := Lib.hid (O9.out.alloc (.cells #[.int .i64 0, .int .i64 2] 3))
  have BA := Lib.hid (B9.out.below ((Below.refl _ _).alloc (Nat.le_refl _) (.cells #[.int .i64 0, .int .i64 2] 3)))
  have HSL : Hid (SL encI (w9.alloc (.cells #[.int .i64 0, .int .i64 2] 3)) (w9.alloc (.cells #[.int .i64 0, .int .i64 2] 3)).heap.size (.slice (some ⟨w9.heap.size, 0, none⟩) 2 2) [0, 2]) :=
    .inr ⟨w9.heap.size, 0, 2, rfl, by simp, by simp, fun i hi => by
      have hb := Blk.new w9 #[.int .i64 0, .int .i64 2] 3
      simp at hi
      rcases (show i = 0 ∨ i = 1 by omega) with rfl | rfl
      · exact hb.cell 0 rfl
      · exact hb.cell 1 rfl⟩
  clear O9 B9
  go_wp2_with fail
  refine (cr_step OA.out _ [0, 2] HSL.out (by simp) keep02).mono ?_
  rintro e w10 ⟨rfl, F10, ho, hf, hn⟩
  have B10 := Lib.hid (BA.out.after hf hn)
  obtain ⟨st2, hst2⟩ : ∃ st2, st2 = Dv.put st (keptW [(3, x1), (3, x2), (4, x1)] [0, 2]) := ⟨_, rfl⟩
  have hs3 : st2.getD 3 Dv.zeroS = x1 := by rw [hst2, Dv.put_get st 3 (by rw [HL.out]; omega)]; rfl
  have hs4 : st2.getD 4 Dv.zeroS = x1 := by rw [hst2, Dv.put_get st 4 (by rw [HL.out]; omega)]; rfl
  have hsl : st2.length = 64 := by rw [hst2, Dv.put_length, HL.out]
  rw [← hst2] at ho
  have O10 := Lib.hid ho
  have HS3 := Lib.hid hs3
  have HS4 := Lib.hid hs4
  have HSL2 := Lib.hid hsl
  clear ho hf hn OA BA HSL hst2 hs3 hs4 hsl
  go_wp2_with fail
  refine (rd_step O10.out 3 3 x1 rfl (by rw [HSL2.out]; omega) HS3.out).mono ?_
  rintro e w11 ⟨rfl, hb⟩
  have O11 := Lib.hid (O10.out.below hb)
  have B11 := Lib.hid (B10.out.below hb)
  have HBL11 := Lib.hid (Blk.new w11 (secC z).toArray 58)
  rw [hv1]
  clear hb O10 B10
  go_wp2_with (refine wpList_store_sec rfl _ _ rfl rfl w11.heap.size x1 rfl rfl z HBL11.out ?_; intro w12 hb12 hg12)
  have hx12 := box_new O11.out.dev hb12 hg12
  have O12 := Lib.hid (O11.out.below hx12.2)
  have B12 := Lib.hid (B11.out.below hx12.2)
  obtain ⟨p2, hp2⟩ : ∃ p, p = w11.heap.size := ⟨_, rfl⟩
  rw [← hp2] at hx12 ⊢
  have C12 := Lib.hid hx12.1
  clear hb12 hg12 hx12 HBL11 O11 B11 hp2
  refine (rd_step O12.out 4 4 x1 rfl (by rw [HSL2.out]; omega) HS4.out).mono ?_
  rintro e w13 ⟨rfl, hb⟩
  have O13 := Lib.hid (O12.out.below hb)
  have B13 := Lib.hid (B12.out.below hb)
  have C13 := Lib.hid (C12.out.below hb)
  have HBL13 := Lib.hid (Blk.new w13 (secC z).toArray 58)
  rw [hv1]
  clear hb O12 B12 C12
  go_wp2_with (refine wpList_store_sec rfl _ _ rfl rfl w13.heap.size x1 rfl rfl z HBL13.out ?_; intro w14 hb14 hg14)
  have hx14 := box_new O13.out.dev hb14 hg14
  have O14 := Lib.hid (O13.out.below hx14.2)
  have B14 := Lib.hid (B13.out.below hx14.2)
  have C14 := Lib.hid (C13.out.below hx14.2)
  obtain ⟨p3, hp3⟩ : ∃ p, p = w13.heap.size := ⟨_, rfl⟩
  rw [← hp3] at hx14 ⊢
  have D14 := Lib.hid hx14.1
  clear hb14 hg14 hx14 HBL13 O13 B13 C13 hp3
  have heq1 : ∀ w, (binOp .eql 58 (.agg (secC x1).toArray) (.agg (secC x1).toArray)).run Try.prog w = .ok (.bool true) w := fun w => by rw [eql_sec]; simp
  have heq2 : ∀ w, (binOp .eql 58 (.agg (secC x2).toArray) (.agg (secC x2).toArray)).run Try.prog w = .ok (.bool true) w := fun w => by rw [eql_sec]; simp
  have HB1 := Lib.hid B14.out.range
  have HC1 := Lib.hid C14.out.range
  have HD1 := Lib.hid D14.out.range
  have HBW := Lib.hid O14.out.bel
  clear O14 B14 C14 D14
  have HT2 : Hid (∀ d os, Calls Try.prog 33 #[] (Go.Sort.grow (redrawn w14 d) os) fun e w'' => e = .returned (.agg (secC x2).toArray) ∧ ∃ p : Regrown, w'' = Go.Sort.grow (redrawn w14 p.d) p.os) := fun d os => Calls.regrown_of (HT.out _)
  have HO2 : Hid (∀ d os, Calls Try.prog 29 #[] (Go.Sort.grow (redrawn w14 d) os) fun e w'' => e = .returned (.agg (secC x1).toArray) ∧ ∃ p : Regrown, w'' = Go.Sort.grow (redrawn w14 p.d) p.os) := fun d os => Calls.regrown_of (HO.out _)
  refine wp_region_quiet_below (by kernel_rfl) (by kernel_rfl) ?_
  iterate 27 (go_big_quiet_step (fail))
  go_big_quiet_want
  refine quiet_load_sec HB1.out _ rfl rfl ?_
  go_simp
  go_big_quiet_on
  iterate 8 (go_big_quiet_step ((first | (go_at_call 33; exact HT2.out _ _) | (go_at_call 29; exact HO2.out _ _))))
  go_big_quiet_want
  refine quiet_load_sec HC1.out _ rfl rfl ?_
  go_simp
  go_big_quiet_on
  iterate 4 (go_big_quiet_step ((first | (go_at_call 33; exact HT2.out _ _) | (go_at_call 29; exact HO2.out _ _))))
  go_big_quiet_want
  refine quiet_load_sec HD1.out _ rfl rfl ?_
  go_simp
  go_big_quiet_on
  iterate 4 (go_big_quiet_step ((first | (go_at_call 33; exact HT2.out _ _) | (go_at_call 29; exact HO2.out _ _))))
  refine wpQuiet_nil ?_
  rintro w' ⟨pp, rfl⟩
  have HFIN : Hid (Below w.heap.size w (Go.Sort.grow (redrawn w14 pp.d) pp.os)) := HBW.out.trans ((below_regrown w14 pp.d pp.os).mono HBW.out.size)
  go_wp2_with fail
  go_ret
  exact ⟨rfl, HFIN.out⟩
end Go.Proofs.Ytcmhhiakmgooeaa
