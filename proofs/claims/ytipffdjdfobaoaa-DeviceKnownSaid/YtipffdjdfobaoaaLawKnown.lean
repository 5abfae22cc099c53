/- The law DeviceKnown: it is true. No condition. -/
import Derived.Test.YtipffdjdfobaoaaAwake
namespace Go.Proofs.Ytipffdjdfobaoaa
open Go.RowKit Go.Maps

theorem kS_below {a W w' : World} {p : Nat} {x : List Value} (h : W.rangeAt p 0 x ∧ Below a.heap.size a W) (hb : Below W.heap.size W w') : w'.rangeAt p 0 x ∧ Below a.heap.size a w' :=
  ⟨fun j v hv => (hb.cell (p := ⟨p, _, none⟩) (block_lt_of_cell (h.1 j v hv))).trans (h.1 j v hv), h.2.trans (hb.mono h.2.size)⟩
theorem kS_alloc {a W : World} {p : Nat} {x : List Value} (o : Obj) (h : W.rangeAt p 0 x ∧ Below a.heap.size a W) : (W.alloc o).rangeAt p 0 x ∧ Below a.heap.size a (W.alloc o) :=
  kS_below h ((Below.refl _ _).alloc (Nat.le_refl _) o)
theorem crash_err {w : World} {b : Nat} {F : List Nat} {s : Dv.S} (M : DevAt w b F s) (v : Value) (l : List Int) (hv : SL encI w w.heap.size v l) (hn : l.length ≤ 1000000) (he : keepE s.ca.length l ≠ 0) :
    Calls Try.prog 26 #[.pointer (some ⟨b, 0, none⟩), v] w fun e w' => e = .returned (.int .i64 (keepE s.ca.length l)) ∧ Below w.heap.size w w' := by
  obtain ⟨g, c, cv, m, M, rfl⟩ := M
  refine (crash_bad M v l hv hn he).mono ?_
  rintro e w' ⟨rfl, k, rfl⟩
  exact ⟨rfl, below_drewN (Below.refl _ _) k⟩
theorem write_err {w : World} {b : Nat} {F : List Nat} {s : Dv.S} (M : DevAt w b F s) (n : Int) (x : Dv.Sec) (hn : secE s n ≠ 0) :
    Calls Try.prog 30 #[.pointer (some ⟨b, 0, none⟩), .int .i64 n, secV x] w fun e w' => e = .returned (.int .i64 (secE s n)) ∧ Below w.heap.size w w' := by
  obtain ⟨g, c, cv, m, M, rfl⟩ := M
  exact write_bad M n x hn
theorem keep_nil (m : Nat) : keepE m [] = 0 := keepE_of (fun i hi => by cases hi) (fun i _ h2 => by simp at h2)
theorem keep_one (m : Nat) (h : 0 < m) : keepE m [0] = 0 := keepE_of (fun i hi => by simp at hi; subst hi; omega) (fun i h1 h2 => by simp at h2; omega)
theorem keep_none : keepE 0 [0] = 7 := by
  unfold keepE
  rw [if_neg]
  simp [inR]
theorem sl_nil (w : World) : SL encI w w.heap.size (.slice none 0 0) [] := .inl ⟨rfl, .inl rfl⟩
theorem sl_zero (w : World) : SL encI (w.alloc (.cells #[.int .i64 0] 3)) (w.alloc (.cells #[.int .i64 0] 3)).heap.size (.slice (some ⟨w.heap.size, 0, none⟩) 1 1) [0] :=
  .inr ⟨w.heap.size, 0, 1, rfl, by simp, by simp, fun i hi => by
    have hb := Blk.new w #[.int .i64 0] 3
    simp at hi
    subst hi
    exact hb.cell 0 rfl⟩
theorem kn_wr1 (st : List Dv.Sec) (x : Dv.Sec) (h : st.length = 64) : wrE ⟨st, [], 2, 1, false⟩ 6 = 0 ∧ wrS ⟨st, [], 2, 1, false⟩ 6 x = ⟨st, [(6, x)], 3, 0, false⟩ := by
  have h0 : secE ⟨st, [], 2, 1, false⟩ 6 = 0 := secE_ok (k := 6) rfl (by show 6 < st.length; omega)
  unfold wrE wrS Dv.writeS
  rw [if_pos h0, if_pos h0]
  exact ⟨rfl, rfl⟩
theorem kn_wr2 (st : List Dv.Sec) (x y : Dv.Sec) (h : st.length = 64) : wrE ⟨st, [(6, x)], 3, 0, false⟩ 6 = 13 ∧ wrS ⟨st, [(6, x)], 3, 0, false⟩ 6 y = ⟨st, [(6, x)], 3, 0, true⟩ := by
  have h0 : secE ⟨st, [(6, x)], 3, 0, false⟩ 6 = 0 := secE_ok (k := 6) rfl (by show 6 < st.length; omega)
  unfold wrE wrS Dv.writeS
  rw [if_pos h0, if_pos h0]
  exact ⟨rfl, rfl⟩
set_option maxRecDepth 100000 in
set_option maxHeartbeats 8000000 in
theorem law_known (w : World) :
    Calls Try.prog 10 #[] w fun e w' => e = .returned (.bool true) ∧ Below w.heap.size w w' := by
  obtain ⟨z, _, hz, _⟩ := zero_gen
  obtain ⟨x1, hx1⟩ : ∃ x, x = Dv.filled 1 1 := ⟨_, rfl⟩
  obtain ⟨x2, hx2⟩ : ∃ x, x = Dv.filled 2 2 := ⟨_, rfl⟩
  have HO : Hid (∀ W, Calls Try.prog 32 #[] W fun e w' => e = .returned (secV x1) ∧ Below W.heap.size W w') := fun W => by rw [hx1]; exact ones_any W
  have HT : Hid (∀ W, Calls Try.prog 36 #[] W fun e w' => e = .returned (secV x2) ∧ Below W.heap.size W w') := fun W => by rw [hx2]; exact twos_any W
  clear hx1 hx2
  obtain ⟨st, hst⟩ : ∃ st, st = List.replicate 64 Dv.zeroS := ⟨_, rfl⟩
  have hl : st.length = 64 := by rw [hst]; simp
  have HL := Lib.hid hl
  have HN := Lib.hid (new_step w 64 64 rfl (by omega) (by omega))
  rw [← hst] at HN
  have hv1 : secV x1 = .agg (secC x1).toArray := rfl
  have hv2 : secV x2 = .agg (secC x2).toArray := rfl
  clear hst hl
  go_enter Try.func10, Try.ntmps10
  go_wp2_with fail
  refine HN.out.mono ?_
  rintro e w1 ⟨b, F1, rfl, ho⟩
  have O1 := Lib.hid ho
  clear ho HN
  go_wp2_with fail
  refine (awake_any _).mono ?_
  rintro e w2 ⟨rfl, hb⟩
  have O2 := Lib.hid (O1.out.below hb)
  clear hb O1
  go_wp2_with fail
  refine (HO.out _).mono ?_
  rintro e w3 ⟨rfl, hb⟩
  have O3 := Lib.hid (O2.out.below hb)
  clear hb O2
  go_wp2_with fail
  refine (wr_step O3.out 5 5 x1 rfl (by rw [HL.out]; omega) (by simp) (by omega)).mono ?_
  rintro e w4 ⟨rfl, F4, ho, _, _⟩
  have O4 := Lib.hid ho
  clear ho O3
  go_wp2_with fail
  refine (fl_step O4.out).mono ?_
  rintro e w5 ⟨rfl, F5, ho, _, _⟩
  obtain ⟨st1, hst1⟩ : ∃ st1, st1 = Dv.put st ([] ++ [(5, x1)]) := ⟨_, rfl⟩
  have hs5 : st1.getD 5 Dv.zeroS = x1 := by rw [hst1, Dv.put_get st 5 (by rw [HL.out]; omega)]; rfl
  have hsl : st1.length = 64 := by rw [hst1, Dv.put_length, HL.out]
  rw [← hst1] at ho
  have O5 := Lib.hid ho
  have HS5 := Lib.hid hs5
  have HL1 := Lib.hid hsl
  clear ho O4 hs5 hsl hst1
  go_wp2_with fail
  refine (HT.out _).mono ?_
  rintro e w6 ⟨rfl, hb⟩
  have O6 := Lib.hid (O5.out.below hb)
  clear hb O5
  go_wp2_with fail
  refine (wr_step O6.out 5 5 x2 rfl (by rw [HL1.out]; omega) (by simp) (by omega)).mono ?_
  rintro e w7 ⟨rfl, F7, ho, _, _⟩
  have O7 : Hid (Own w w7 b F7 (sAw st1 [(5, x2)] 2)) := ho
  clear ho O6
  go_wp2_with fail
  refine (cr_step O7.out _ [] (sl_nil _) (by simp) (keep_nil _)).mono ?_
  rintro e w8 ⟨rfl, F8, ho, _, _⟩
  have O8 : Hid (Own w w8 b F8 (sAw st1 [] 2)) := ho
  clear ho O7
  go_wp2_with fail
  refine (rd_step O8.out 5 5 x1 rfl (by rw [HL1.out]; omega) HS5.out).mono ?_
  rintro e w9 ⟨rfl, hb⟩
  have O9 := Lib.hid (O8.out.below hb)
  have HBL9 := Lib.hid (Blk.new w9 (secC z).toArray 50)
  rw [hv1]
  clear hb O8
  go_wp2_with (refine wpList_store_sec rfl _ _ rfl rfl w9.heap.size x1 rfl rfl z HBL9.out ?_; intro wa hba hga)
  have hxa := box_new O9.out.dev hba hga
  have OA := Lib.hid (O9.out.below hxa.2)
  obtain ⟨p1, hp1⟩ : ∃ p, p = w9.heap.size := ⟨_, rfl⟩
  have HP1 : Hid (w.heap.size ≤ p1) := by rw [hp1]; exact O9.out.bel.size
  rw [← hp1] at hxa ⊢
  have BA := Lib.hid hxa.1
  clear hba hga hxa HBL9 O9 hp1
  have hne1 : ∀ w, (binOp .neq 50 (.agg (secC x1).toArray) (.agg (secC x1).toArray)).run Try.prog w = .ok (.bool false) w := fun w => by rw [neq_sec]; simp
  have heq1 : ∀ w, (binOp .eql 50 (.agg (secC x1).toArray) (.agg (secC x1).toArray)).run Try.prog w = .ok (.bool true) w := fun w => by rw [eql_sec]; simp
  have HB1 := Lib.hid BA.out.range
  have HO2 : Hid (∀ d os, Calls Try.prog 32 #[] (Go.Sort.grow (redrawn wa d) os) fun e w'' => e = .returned (.agg (secC x1).toArray) ∧ ∃ p : Regrown, w'' = Go.Sort.grow (redrawn wa p.d) p.os) := fun d os => Calls.regrown_of (HO.out _)
  refine wp_region_quiet_below (by kernel_rfl) (by kernel_rfl) ?_
  iterate 19 (go_big_quiet_step (fail))
  go_big_quiet_want
  refine quiet_load_sec HB1.out _ rfl rfl ?_
  go_simp
  go_big_quiet_on
  iterate 3 (go_big_quiet_step ((go_at_call 32; exact HO2.out _ _)))
  refine wpQuiet_nil ?_
  rintro w' ⟨pp, rfl⟩
  have hbb := below_regrown wa pp.d pp.os
  obtain ⟨wb, hwb⟩ : ∃ wb, wb = Go.Sort.grow (redrawn wa pp.d) pp.os := ⟨_, rfl⟩
  rw [← hwb] at hbb ⊢
  have OB := Lib.hid (OA.out.below hbb)
  have BB := Lib.hid (BA.out.below hbb)
  clear hbb hwb OA BA HB1 HO2
  go_wp2_with fail
  refine (limit_dev OB.out.dev 1).mono ?_
  rintro e wc ⟨rfl, FC, hd, hf, hn⟩
  rw [if_pos (by omega)] at hd
  have OC : Hid (Own w wc b FC ⟨st1, [], 2, 1, false⟩) := OB.out.after hd hf hn
  have BC := Lib.hid (BB.out.after hf hn)
  rw [show liE 1 = 0 from if_pos (by omega)]
  clear hd hf hn OB BB
  go_wp2_with fail
  refine (HO.out _).mono ?_
  rintro e wd ⟨rfl, hb⟩
  have OD := Lib.hid (OC.out.below hb)
  have BD := Lib.hid (BC.out.below hb)
  clear hb OC BC
  go_wp2_with fail
  refine (write_dev OD.out.dev 6 x1).mono ?_
  rintro e we ⟨rfl, FE, hd, hf, hn⟩
  rw [(kn_wr1 st1 x1 HL1.out).2] at hd
  rw [(kn_wr1 st1 x1 HL1.out).1]
  have OE := Lib.hid (OD.out.after hd hf hn)
  have BE := Lib.hid (BD.out.after hf hn)
  clear hd hf hn OD BD
  go_wp2_with fail
  refine (HT.out _).mono ?_
  rintro e wf ⟨rfl, hb⟩
  have OF := Lib.hid (OE.out.below hb)
  have BF := Lib.hid (BE.out.below hb)
  clear hb OE BE
  go_wp2_with fail
  refine (write_dev OF.out.dev 6 x2).mono ?_
  rintro e wg ⟨rfl, FG, hd, hf, hn⟩
  rw [(kn_wr2 st1 x1 x2 HL1.out).2] at hd
  rw [(kn_wr2 st1 x1 x2 HL1.out).1]
  have OG := Lib.hid (OF.out.after hd hf hn)
  have BG := Lib.hid (BF.out.after hf hn)
  clear hd hf hn OF BF
  go_wp2_with fail
  refine (read_dev OG.out.dev 6).mono ?_
  rintro e wh ⟨rfl, hb⟩
  rw [show secE ⟨st1, [(6, x1)], 3, 0, true⟩ 6 = 13 from rfl]
  have OH := Lib.hid (OG.out.below hb)
  have BH := Lib.hid (BG.out.below hb)
  clear hb OG BG
  go_wp2_with fail
  refine (on_dev OH.out.dev).mono ?_
  rintro e w' ⟨rfl, rfl⟩
  rw [show (!(⟨st1, [(6, x1)], 3, 0, true⟩ : Dv.S).off) = false from rfl]
  have OI := Lib.hid (OH.out.alloc (.cells #[.int .i64 0] 3))
  have BI := Lib.hid (BH.out.below ((Below.refl _ _).alloc (Nat.le_refl _) (.cells #[.int .i64 0] 3)))
  have HSL := Lib.hid (sl_zero wh)
  clear OH BH
  go_wp2_with fail
  refine (crash_dev OI.out.dev _ [0] HSL.out (by simp)).mono ?_
  rintro e wj ⟨rfl, FJ, hd, hf, hn⟩
  have hk0 : keepE (⟨st1, [(6, x1)], 3, 0, true⟩ : Dv.S).ca.length [0] = 0 := keep_one _ (by show 0 < 1; omega)
  rw [if_pos hk0] at hd
  rw [hk0]
  obtain ⟨st2, hst2⟩ : ∃ st2, st2 = Dv.put st1 (keptW [(6, x1)] [0]) := ⟨_, rfl⟩
  have hs6 : st2.getD 6 Dv.zeroS = x1 := by rw [hst2, Dv.put_get st1 6 (by rw [HL1.out]; omega)]; rfl
  have hsl2 : st2.length = 64 := by rw [hst2, Dv.put_length, HL1.out]
  have OJ : Hid (Own w wj b FJ (sAw st2 [] 3)) := by rw [hst2]; exact OI.out.after hd hf hn
  have BJ := Lib.hid (BI.out.after hf hn)
  have HS6 := Lib.hid hs6
  have HL2 := Lib.hid hsl2
  clear hd hf hn OI BI HSL hk0 hst2 hs6 hsl2
  go_wp2_with fail
  refine (rd_step OJ.out 6 6 x1 rfl (by rw [HL2.out]; omega) HS6.out).mono ?_
  rintro e wk ⟨rfl, hb⟩
  have OK := Lib.hid (OJ.out.below hb)
  have BK := Lib.hid (BJ.out.below hb)
  rw [hv1]
  clear hb OJ BJ
  go_wp2_with (refine wpList_store_sec rfl _ _ rfl rfl p1 x1 rfl rfl x1 BK.out.blk ?_; intro wl hbl hgl)
  have hfl : Fr wk wl [p1] := Fr.of_grown hgl (by simp)
  have DL := Lib.hid (OK.out.dev.fr hfl (fun i hi hm => BK.out.out (by obtain rfl := List.mem_singleton.1 hm; exact hi)))
  have HBL : Hid (Below w.heap.size w wl) := hfl.below OK.out.bel OK.out.bel.size (fun i hi => by obtain rfl := List.mem_singleton.1 hi; exact HP1.out)
  have HRL := Lib.hid (Blk.range hbl)
  clear hbl hgl hfl OK BK
  refine (new_bad _ 63 (by omega)).mono ?_
  rintro e w' ⟨rfl, rfl⟩
  have HTK : Hid (∀ W, (W.rangeAt p1 0 (secC x1) ∧ Below wl.heap.size wl W) → Calls Try.prog 24 #[.pointer (some ⟨b, 0, none⟩)] W fun e w' => e = .returned (.int .i64 3) ∧ W = w') := fun W hW => taken_dev (DL.out.below hW.2)
  have HCR : Hid (∀ W : World, ((W.alloc (.cells #[.int .i64 0] 3)).rangeAt p1 0 (secC x1) ∧ Below wl.heap.size wl (W.alloc (.cells #[.int .i64 0] 3))) → Calls Try.prog 26 #[.pointer (some ⟨b, 0, none⟩), .slice (some ⟨W.heap.size, 0, none⟩) 1 1] (W.alloc (.cells #[.int .i64 0] 3)) fun e w' => e = .returned (.int .i64 7) ∧ Below (W.alloc (.cells #[.int .i64 0] 3)).heap.size (W.alloc (.cells #[.int .i64 0] 3)) w') := fun W hW => by
    have := crash_err (DL.out.below hW.2) _ [0] (sl_zero W) (by simp) (by rw [show (sAw st2 [] 3).ca.length = 0 from rfl, keep_none]; omega)
    rw [show (sAw st2 [] 3).ca.length = 0 from rfl, keep_none] at this
    exact this
  have HWR : Hid (∀ W, (W.rangeAt p1 0 (secC x1) ∧ Below wl.heap.size wl W) → Calls Try.prog 30 #[.pointer (some ⟨b, 0, none⟩), .int .i64 64, .agg (secC x1).toArray] W fun e w' => e = .returned (.int .i64 7) ∧ Below W.heap.size W w') := fun W hW => by
    have h7 : secE (sAw st2 [] 3) 64 = 7 := by
      unfold secE
      have : ((sAw st2 [] 3).st.length : Int) = 64 := by show ((st2.length : Nat) : Int) = 64; rw [HL2.out]; rfl
      rw [if_neg (by simp [sAw]), if_pos (by omega)]
    have := write_err (DL.out.below hW.2) 64 x1 (by rw [h7]; omega)
    rw [h7] at this
    exact this
  have u0 : Try.prog.underlying 50 = some (.array 128 5) := uSec
  have u1 : (Try.prog.info? 50).map (·.size) = some (secC x1).length := by rw [iSec, secC_len]
  have hS0 : wl.drew.rangeAt p1 0 (secC x1) ∧ Below wl.heap.size wl wl.drew := ⟨HRL.out, below_drewN (Below.refl _ _) 1⟩
  clear DL HP1
  go_wp2_with fail
  first
  | (go_region_held (fun w' => w'.rangeAt p1 0 (secC x1) ∧ Below wl.heap.size wl w') (first | assumption | exact kS_below (by assumption) (by assumption) | exact kS_alloc _ (by assumption))
    (first
     | (go_at_call 32; refine (HO.out _).mono ?_; rintro e w' ⟨rfl, hbb⟩; rw [hv1])
     | (go_at_call 24; refine (HTK.out _ (by assumption)).mono ?_; rintro e w' ⟨rfl, rfl⟩)
     | (go_at_call 26; refine (HCR.out _ (by assumption)).mono ?_; rintro e w' ⟨rfl, hbb⟩)
     | (go_at_call 30; refine (HWR.out _ (by assumption)).mono ?_; rintro e w' ⟨rfl, hbb⟩)))
  | fail
  have hfin : ∀ W, (W.rangeAt p1 0 (secC x1) ∧ Below wl.heap.size wl W) → Below w.heap.size w W := fun W hW => HBL.out.trans (hW.2.mono HBL.out.size)
  have HFIN := Lib.hid hfin
  clear hfin
  go_wp2_with fail
  go_ret
  exact ⟨rfl, HFIN.out _ (by assumption)⟩
end Go.Proofs.Ytipffdjdfobaoaa
