/- The contract of Open of the reference. Condition: none beside the numbers' kinds. -/
import Derived.Test.YtiddbdjcdoiloaaDoorRSealO
import Derived.Test.YtiddbdjcdoiloaaDoorOpenP
namespace Go.Proofs.YtiddbdjcdoiloaaDoor
open Go.RowKit Fm

/-- What an open of the reference stands on: the sector, the cell of the result. -/
structure RS (w0 w : World) (r b : Nat) (l : List UInt8) : Prop where
  sec : ByB w b l
  res : Blk w r zF 36
  bel : Below w0.heap.size w0 w
theorem RS.below {w0 w w' : World} {r b : Nat} {l : List UInt8} (h : RS w0 w r b l) (hb : Below w.heap.size w w') : RS w0 w' r b l :=
  ⟨Blk.below h.sec hb (Blk.lt h.sec), h.res.below hb h.res.lt, h.bel.trans (hb.mono h.bel.size)⟩
theorem RS.row {w0 w : World} {r b g : Nat} {l : List UInt8} {cs cs' : Array Value} (h : RS w0 w r b l) (hg : Blk w g cs 36) (hn : g ≠ r) (hl : w0.heap.size ≤ g) : RS w0 (w.setRow g cs') r b l := by
  have hgr := grown_setRow (w := w) (g := g) cs'
  exact ⟨Blk.grown h.sec hgr (fun e => h.sec.type_ne hg (by decide) (Option.some.inj e).symm), h.res.grown hgr (fun e => hn (Option.some.inj e).symm), below_grown h.bel hgr h.bel.size hl⟩
theorem RS.cell {w0 w : World} {r b g o : Nat} {l : List UInt8} {cs : Array Value} {v : Value} (h : RS w0 w r b l) (hg : Blk w g cs 36) (hn : g ≠ r) (hl : w0.heap.size ≤ g) : RS w0 (w.setCell ⟨g, o, none⟩ v) r b l := by
  have hgr := grown_setCell w g o v
  exact ⟨Blk.grown h.sec hgr (fun e => h.sec.type_ne hg (by decide) (Option.some.inj e).symm), h.res.grown hgr (fun e => hn (Option.some.inj e).symm), below_grown h.bel hgr h.bel.size hl⟩
theorem uSecE : Tryd.prog.underlying 38 = some (.array (Tryd.prog.arrayLen 38) (Tryd.prog.elem 38)) := by kernel_rfl
theorem lenSec : Tryd.prog.arrayLen 38 = 128 := by kernel_rfl
theorem sizeU8 (w : World) : (Go.sizeOf (Tryd.prog.elem 38)).run Tryd.prog w = .ok 1 w := by kernel_rfl
/-- s[o : o + n] of a sector at b. -/
theorem slice_sec (w : World) (b o n : Nat) (h : o + n ≤ 128) (ho : o < 128) : (Instr.sliceAt 38 (.pointer (some ⟨b, 0, none⟩)) (some (.int .i64 (o : Int))) (some (.int .i64 ((o : Int) + (n : Int)))) none).run Tryd.prog w = .ok (.slice (some ⟨b, o, none⟩) n (128 - o)) w := by
  have e := run_sliceAt_array_lh (P := Tryd.prog) w 38 ⟨b, 0, none⟩ uSecE .i64 .i64 (o : Int) ((o : Int) + (n : Int)) (by omega) (by omega) (by rw [lenSec]; omega)
  rw [sizeU8, lenSec] at e
  rw [e]
  have h1 : ((o : Int) + (n : Int)).toNat = o + n := by omega
  have hadd : (⟨b, 0, none⟩ : Addr).add o = ⟨b, o, none⟩ := by unfold Addr.add; split <;> simp_all
  simp only [Result.andThen_ok, slicedAt, h1, Int.toNat_natCast, Nat.mul_one, hadd]
  rw [if_neg (by omega), Nat.add_sub_cancel_left]
set_option maxRecDepth 100000 in
set_option maxHeartbeats 8000000 in
theorem ropen_any (w : World) (at' : Int) (x : Dv.Sec) :
    Calls Tryd.prog 27 #[.int .i64 at', .agg (secC x).toArray] w fun e w' => e = .returned (opV at' x.1) ∧ Below w.heap.size w w' := by
  obtain ⟨z, hzz, hz, hbz⟩ := zero_gen
  have hxl : x.1.length = 128 := x.2
  obtain ⟨w2, hw2⟩ : ∃ w2, w2 = (w.alloc (.cells (secC x).toArray 38)).alloc (.cells #[.int .i64 0, .int .u32 0, .string ⟨#[]⟩] 36) := ⟨_, rfl⟩
  have hB2 : Below w.heap.size w w2 := by rw [hw2]; exact ((Below.refl _ _).alloc (Nat.le_refl _) _).alloc (by simp) _
  obtain ⟨b, hb⟩ : ∃ b, b = w.heap.size := ⟨_, rfl⟩
  obtain ⟨fb, hfb⟩ : ∃ fb, fb = w.heap.size + 1 := ⟨_, rfl⟩
  have hS2 : ByB w2 b x.1 := by rw [hw2, hb]; exact (Blk.new w _ _).below ((Below.refl _ _).alloc (Nat.le_refl _) _) (by simp)
  have hF2 : Blk w2 fb zF 36 := by
    have := Blk.new (w.alloc (.cells (secC x).toArray 38)) #[.int .i64 0, .int .u32 0, .string ⟨#[]⟩] 36
    rw [show (w.alloc (.cells (secC x).toArray 38)).heap.size = w.heap.size + 1 by simp, ← hw2, ← hfb] at this; exact this
  have R2 : Hid (RS w w2 fb b x.1) := ⟨hS2, hF2, hB2⟩
  have HFE := Lib.hid hfb
  have hp : (Value.agg (secC x).toArray).cells = (secC x).toArray := rfl
  have HRG : Hid (∀ W, ByB W b x.1 → W.rangeAt b 0 (secC x)) := fun W h => Blk.range h
  have hr0 := HRG.out _ hS2
  have a2 := hF2
  rw [hw2, hb] at hr0
  rw [hw2, hfb] at a2
  have HF2 := Lib.hid a2
  have HB2 := hB2
  rw [hw2] at HB2
  have HBB := Lib.hid HB2
  have HR0 := Lib.hid hr0
  clear hB2 hS2 hF2 hr0 a2 HB2
  by_cases h1 : 0 ≤ at' ∧ at' < 256
  case neg =>
    have HE : opE at' x.1 = 7 := by unfold opE; rw [if_pos (by omega)]
    rw [opV_bad HE (by omega)]
    clear HE
    have HBK0 := Lib.hid (fr_store HF2.out (.int .i64 0) (.int .u32 0) (.string ⟨#[]⟩))
    rcases (show at' < 0 ∨ (¬ at' < 0 ∧ 256 ≤ at') by omega) with h2 | ⟨h2, h3⟩
    all_goals
      clear h1 hw2 hfb hb
      go_enter Tryd.func27, Tryd.ntmps27
      go_wp2_with (first
        | (refine bodyPost_ret (results_row2 rfl _ _ (w.heap.size + 1) zF rfl (setRow_of HF2.out zF) rfl Tryd.underlying36 (by rw [iFr]; rfl)) rfl ?_; exact ⟨rfl, below_grown HBB.out (grown_setRow zF) HBB.out.size (by omega)⟩)
        | (refine wpList_store_row rfl 36 (.tmp 4) (.tmp 16) rfl (w.heap.size + 1) zF rfl rfl 36 _ HF2.out (by rw [iFr]; rfl) rfl zF_one ?_))
  case pos =>
    obtain ⟨h3, h4⟩ := h1
    have h3n : ¬ at' < 0 := by omega
    have h4n : ¬ 256 ≤ at' := by omega
    by_cases h2 : x = z
    · have HE : opE at' x.1 = 70 := by unfold opE; rw [if_neg (by omega), if_pos ((sec_zero_iff x).1 (h2.trans hzz.out))]
      rw [opV_bad HE (by omega)]
      have heq : ∀ w, (binOp .eql 38 (.agg (secC x).toArray) (.agg (secC z).toArray)).run Tryd.prog w = .ok (.bool true) w := fun w => by rw [eql_sec, decide_eq_true h2]
      clear HE h2 hw2 hfb hb
      go_enter Tryd.func27, Tryd.ntmps27
      go_wp2_with (first
        | (refine bodyPost_ret (results_row2 rfl _ _ (w.heap.size + 1) zF rfl (setRow_of HF2.out zF) rfl Tryd.underlying36 (by rw [iFr]; rfl)) rfl ?_; exact ⟨rfl, below_grown HBB.out (grown_setRow zF) HBB.out.size (by omega)⟩)
        | (refine wpList_load_mid rfl 38 _ rfl w.heap.size 0 rfl (secC x) _ HR0.out uSec rfl (by rw [iSec, secC_len]) ?_)
        | (refine wpList_buildTo rfl 38 #[] rfl (some 18) rfl (secC z).toArray (by simp [hbz]) ?_)
        | (refine wpList_store_row rfl 36 (.tmp 4) (.tmp 20) rfl (w.heap.size + 1) zF rfl rfl 36 _ HF2.out (by rw [iFr]; rfl) rfl zF_one ?_))
    · have hnz : ¬ x.1 = List.replicate 128 0 := fun h => h2 (((sec_zero_iff x).2 h).trans hzz.out.symm)
      have HE0 : Hid ((¬ sumOk x.1 → opE at' x.1 = 71) ∧ (sumOk x.1 → ¬ formed x.1 → opE at' x.1 = 6) ∧ (sumOk x.1 → formed x.1 → (placeOf x.1 : Int) ≠ at' → opE at' x.1 = 72) ∧ (sumOk x.1 → formed x.1 → (placeOf x.1 : Int) = at' → opE at' x.1 = 0)) := by
        unfold opE
        rw [if_neg (show ¬ (at' < 0 ∨ 256 ≤ at') by omega), if_neg hnz]
        refine ⟨fun h => by rw [if_pos h], fun h g => ?_, fun h g k => ?_, fun h g k => ?_⟩
        · rw [if_neg (by simpa using h), if_pos g]
        · rw [if_neg (by simpa using h), if_neg (by simpa using g), if_pos k]
        · rw [if_neg (by simpa using h), if_neg (by simpa using g), if_neg (by simpa using k)]
      have heq : ∀ w, (binOp .eql 38 (.agg (secC x).toArray) (.agg (secC z).toArray)).run Tryd.prog w = .ok (.bool false) w := fun w => by rw [eql_sec, decide_eq_false h2]
      obtain ⟨sv, hsv⟩ : ∃ sv, sv = num (sub x.1 124 4) := ⟨_, rfl⟩
      obtain ⟨cv, hcv⟩ : ∃ cv, cv = Cm.crc (x.1.take 124) := ⟨_, rfl⟩
      have HSV : Hid (num (sub x.1 124 4) = sv) := hsv.symm
      have hso : sumOk x.1 ↔ sv = cv := by rw [hsv, hcv]; rfl
      have HCRC : Hid (∀ W, ByB W b x.1 → Calls Tryd.prog 43 #[.slice (some ⟨b, 0, none⟩) 124 128] W fun e w' => e = .returned (.int .u32 (cv : Int)) ∧ W = w') := fun W hW => by
        have h := rcrc_any W _ _ _ (hW.sl 0 124 128 (by omega) (by omega)) (by rw [sub_len _ _ _ (by omega)]; omega)
        rw [show sub x.1 0 124 = x.1.take 124 by simp [sub], ← hcv] at h
        exact h
      have hu := uArr
      clear hnz h2 hsv hcv
      go_enter Tryd.func27, Tryd.ntmps27
      go_wp2_with (first
        | (refine wpList_load_mid rfl 38 _ rfl w.heap.size 0 rfl (secC x) _ HR0.out uSec rfl (by rw [iSec, secC_len]) ?_)
        | (refine wpList_buildTo rfl 38 #[] rfl (some 18) rfl (secC z).toArray (by simp [hbz]) ?_))
      rw [← hw2, ← hfb, ← hb]
      clear hw2 hfb hb hp heq
      by_cases hsum : sumOk x.1
      case neg =>
        have HOV : Hid (opV at' x.1 = .tuple #[.agg zF, .int .i64 71]) := opV_bad (HE0.out.1 hsum) (by omega)
        have hne : ((sv : Int) != (cv : Int)) = true := by rw [bne_iff_ne]; intro h; exact hsum (hso.2 (by omega))
        clear hsum hso
        try simp only [Act.put]
        try simp only [List.setIfInBounds_toArray]
        try simp only [List.set_cons_succ]
        try simp only [List.set_cons_zero]
        refine wp_region_held_drew (S := fun W => ByB W b x.1) (by kernel_rfl) (show ByB w2.drew b x.1 from R2.out.sec) (fun hHeld => ?_)
        refine wpAnyH_take (i := 0) rfl (by kernel_rfl) (by kernel_rfl) (by kernel_rfl) (fun _ _ _ h => h) (yieldsIf_load_mid (by rfl) _ _ rfl b 0 rfl (secC x) _ (fun _ h => Blk.range h) uSec rfl (by rw [iSec, secC_len])) (by assumption) ?_
        try simp only [Act.put]
        try simp only [List.setIfInBounds_toArray]
        try simp only [List.set_cons_succ]
        try simp only [List.set_cons_zero]
        refine wpAnyH_take (i := 2) (v := ?_) rfl (by kernel_rfl) (by kernel_rfl) (by kernel_rfl) (fun _ _ _ h => h) (Or.inl ⟨by rfl, ?_⟩) (by assumption) ?_
        rotate_left
        · intro w' hSw
          go_simp
          try with_reducible rfl
        try simp only [Act.put]
        try simp only [List.setIfInBounds_toArray]
        try simp only [List.set_cons_succ]
        try simp only [List.set_cons_zero]
        refine wpAnyH_ready (rs := [1]) (by kernel_rfl) (by simp) ?_
        refine AllReadyH.cons rfl (fun K hK => ?_) AllReadyH.nil
        go_simp
        refine (rnumbered_any w2.drew x 124 (by omega)).mono ?_
        rintro e w3 ⟨rfl, hb3⟩
        have R3 : Hid (RS w w3 fb b x.1) := R2.out.below (below_undrew hb3)
        clear hb3
        refine hK.out _ _ R3.out.sec (fun hHeld => ?_)
        clear hK K
        try simp only [Act.put]
        try simp only [List.setIfInBounds_toArray]
        try simp only [List.set_cons_succ]
        try simp only [List.set_cons_zero]
        rw [HSV.out]
        refine wpAnyH_ready (rs := [3]) (by kernel_rfl) (by simp) ?_
        refine AllReadyH.cons rfl (fun K hK => ?_) AllReadyH.nil
        go_simp
        refine (HCRC.out w3 R3.out.sec).mono ?_
        rintro e w' ⟨rfl, rfl⟩
        refine hK.out _ _ R3.out.sec (fun hHeld => ?_)
        clear hK K
        try simp only [Act.put]
        try simp only [List.setIfInBounds_toArray]
        try simp only [List.set_cons_succ]
        try simp only [List.set_cons_zero]
        refine wpAnyH_take (i := 4) (v := ?_) rfl (by kernel_rfl) (by kernel_rfl) (by kernel_rfl) (fun _ _ _ h => h) (Or.inl ⟨by rfl, ?_⟩) (by assumption) ?_
        rotate_left
        · intro w' hSw
          go_simp
          try with_reducible rfl
        try simp only [Act.put]
        try simp only [List.setIfInBounds_toArray]
        try simp only [List.set_cons_succ]
        try simp only [List.set_cons_zero]
        refine wpAnyH_done (by kernel_rfl) ?_ _
        obtain ⟨a0, b0, a1, b1, a2, b2, HBK, HGR⟩ := fr_store R3.out.res (.int .i64 0) (.int .u32 0) (.string ⟨#[]⟩)
        go_wp2_with (refine bodyPost_ret (results_row2 rfl _ _ fb zF rfl HBK.out rfl Tryd.underlying36 (by rw [iFr]; rfl)) rfl ?_)
        exact ⟨HOV.out.symm, below_grown R3.out.bel HGR.out R3.out.bel.size (by have := HFE.out; omega)⟩
      case pos =>
        have hne : ((sv : Int) != (cv : Int)) = false := by rw [bne_eq_false_iff_eq]; have := hso.1 hsum; omega
        have HSUM := Lib.hid hsum
        clear hsum hso
        try simp only [Act.put]
        try simp only [List.setIfInBounds_toArray]
        try simp only [List.set_cons_succ]
        try simp only [List.set_cons_zero]
        refine wp_region_held_drew (S := fun W => ByB W b x.1) (by kernel_rfl) (show ByB w2.drew b x.1 from R2.out.sec) (fun hHeld => ?_)
        refine wpAnyH_take (i := 0) rfl (by kernel_rfl) (by kernel_rfl) (by kernel_rfl) (fun _ _ _ h => h) (yieldsIf_load_mid (by rfl) _ _ rfl b 0 rfl (secC x) _ (fun _ h => Blk.range h) uSec rfl (by rw [iSec, secC_len])) (by assumption) ?_
        try simp only [Act.put]
        try simp only [List.setIfInBounds_toArray]
        try simp only [List.set_cons_succ]
        try simp only [List.set_cons_zero]
        refine wpAnyH_take (i := 2) (v := ?_) rfl (by kernel_rfl) (by kernel_rfl) (by kernel_rfl) (fun _ _ _ h => h) (Or.inl ⟨by rfl, ?_⟩) (by assumption) ?_
        rotate_left
        · intro w' hSw
          go_simp
          try with_reducible rfl
        try simp only [Act.put]
        try simp only [List.setIfInBounds_toArray]
        try simp only [List.set_cons_succ]
        try simp only [List.set_cons_zero]
        refine wpAnyH_ready (rs := [1]) (by kernel_rfl) (by simp) ?_
        refine AllReadyH.cons rfl (fun K hK => ?_) AllReadyH.nil
        go_simp
        refine (rnumbered_any w2.drew x 124 (by omega)).mono ?_
        rintro e w3 ⟨rfl, hb3⟩
        have R3 : Hid (RS w w3 fb b x.1) := R2.out.below (below_undrew hb3)
        clear hb3
        refine hK.out _ _ R3.out.sec (fun hHeld => ?_)
        clear hK K
        try simp only [Act.put]
        try simp only [List.setIfInBounds_toArray]
        try simp only [List.set_cons_succ]
        try simp only [List.set_cons_zero]
        rw [HSV.out]
        refine wpAnyH_ready (rs := [3]) (by kernel_rfl) (by simp) ?_
        refine AllReadyH.cons rfl (fun K hK => ?_) AllReadyH.nil
        go_simp
        refine (HCRC.out w3 R3.out.sec).mono ?_
        rintro e w' ⟨rfl, rfl⟩
        refine hK.out _ _ R3.out.sec (fun hHeld => ?_)
        clear hK K
        try simp only [Act.put]
        try simp only [List.setIfInBounds_toArray]
        try simp only [List.set_cons_succ]
        try simp only [List.set_cons_zero]
        refine wpAnyH_take (i := 4) (v := ?_) rfl (by kernel_rfl) (by kernel_rfl) (by kernel_rfl) (fun _ _ _ h => h) (Or.inl ⟨by rfl, ?_⟩) (by assumption) ?_
        rotate_left
        · intro w' hSw
          go_simp
          try with_reducible rfl
        try simp only [Act.put]
        try simp only [List.setIfInBounds_toArray]
        try simp only [List.set_cons_succ]
        try simp only [List.set_cons_zero]
        refine wpAnyH_done (by kernel_rfl) ?_ _
        obtain ⟨pl, hpl⟩ : ∃ pl, pl = num (sub x.1 120 4) := ⟨_, rfl⟩
        have HPL : Hid (num (sub x.1 120 4) = pl) := hpl.symm
        have hrg3 := Lib.hid (HRG.out _ R3.out.sec)
        clear hpl
        go_wp2_with (refine wpList_load_mid rfl 38 _ rfl b 0 rfl (secC x) _ hrg3.out uSec rfl (by rw [iSec, secC_len]) ?_)
        refine (rnumbered_any w3 x 120 (by omega)).mono ?_
        rintro e w5 ⟨rfl, hb5⟩
        have R5 := Lib.hid (R3.out.below hb5)
        rw [HPL.out]
        clear hb5 hrg3
        obtain ⟨kd, hkd⟩ : ∃ kd, kd = kindOf x.1 := ⟨_, rfl⟩
        have hkd8 : kd < 256 := by rw [hkd]; exact (x.1.getD 1 0).toNat_lt
        have HKC : Hid (∀ W, ByB W b x.1 → W.cell? ⟨b, 1, none⟩ = some (.int .u8 (kd : Int))) := fun W hW => by
          rw [hW.cell 1 (by omega), hkd]; unfold kindOf
          simp [List.getD_eq_getElem?_getD, List.getElem?_eq_getElem (show 1 < x.1.length by omega)]
        have HWK : Hid (IntKind.i64.wrap (kd : Int) = (kd : Int)) := IntWalk.i64_in _ (by omega)
        obtain ⟨ln, hln⟩ : ∃ ln, ln = lenOf x.1 := ⟨_, rfl⟩
        have hln8 : ln < 256 := by rw [hln]; exact (x.1.getD 2 0).toNat_lt
        have HLC : Hid (∀ W, ByB W b x.1 → W.cell? ⟨b, 2, none⟩ = some (.int .u8 (ln : Int))) := fun W hW => by
          rw [hW.cell 2 (by omega), hln]; unfold lenOf
          simp [List.getD_eq_getElem?_getD, List.getElem?_eq_getElem (show 2 < x.1.length by omega)]
        obtain ⟨sq, hsq⟩ : ∃ sq, sq = num (sub x.1 4 4) := ⟨_, rfl⟩
        have HSQ : Hid (num (sub x.1 4 4) = sq) := hsq.symm
        have HKD := Lib.hid hkd
        have HLN := Lib.hid hln
        clear hkd hln hsq
        go_wp2_with fail
        try simp only [Act.put]
        try simp only [List.setIfInBounds_toArray]
        try simp only [List.set_cons_succ]
        try simp only [List.set_cons_zero]
        refine wp_region_held_drew (S := fun W => ByB W b x.1) (by kernel_rfl) (show ByB w5.drew b x.1 from R5.out.sec) (fun hHeld => ?_)
        refine wpAnyH_take (i := 0) (v := ?_) rfl (by kernel_rfl) (by kernel_rfl) (by kernel_rfl) (fun _ _ _ h => h) (Or.inl ⟨by rfl, ?_⟩) (by assumption) ?_
        rotate_left
        · intro w' hSw
          go_simp
          try with_reducible rfl
        try simp only [Act.put]
        try simp only [List.setIfInBounds_toArray]
        try simp only [List.set_cons_succ]
        try simp only [List.set_cons_zero]
        refine wpAnyH_take (i := 1) (v := ?_) rfl (by kernel_rfl) (by kernel_rfl) (by kernel_rfl) (fun _ _ _ h => h) (Or.inl ⟨by rfl, ?_⟩) (by assumption) ?_
        rotate_left
        · intro w' hSw
          have cc := HKC.out _ hSw; go_simp
          try with_reducible rfl
        try simp only [Act.put]
        try simp only [List.setIfInBounds_toArray]
        try simp only [List.set_cons_succ]
        try simp only [List.set_cons_zero]
        refine wpAnyH_take (i := 2) (v := ?_) rfl (by kernel_rfl) (by kernel_rfl) (by kernel_rfl) (fun _ _ _ h => h) (Or.inl ⟨by rfl, ?_⟩) (by assumption) ?_
        rotate_left
        · intro w' hSw
          have cw := HWK.out; go_simp
          try with_reducible rfl
        try simp only [Act.put]
        try simp only [List.setIfInBounds_toArray]
        try simp only [List.set_cons_succ]
        try simp only [List.set_cons_zero]
        refine wpAnyH_take (i := 3) rfl (by kernel_rfl) (by kernel_rfl) (by kernel_rfl) (fun _ _ _ h => h) (yieldsIf_load_mid (by rfl) _ _ rfl b 0 rfl (secC x) _ (fun _ h => Blk.range h) uSec rfl (by rw [iSec, secC_len])) (by assumption) ?_
        try simp only [Act.put]
        try simp only [List.setIfInBounds_toArray]
        try simp only [List.set_cons_succ]
        try simp only [List.set_cons_zero]
        refine wpAnyH_ready (rs := [4, 6]) (by kernel_rfl) (by simp) ?_
        refine AllReadyH.cons rfl (fun K hK => ?_) ?_
        case' refine_1 =>
          go_simp
          refine (rnumbered_any w5.drew x 4 (by omega)).mono ?_
          rintro e w6 ⟨rfl, hb6⟩
          have R6 : Hid (RS w w6 fb b x.1) := R5.out.below (below_undrew hb6)
          clear hb6
          refine hK.out _ _ R6.out.sec (fun hHeld => ?_)
          clear hK K
          try simp only [Act.put]
          try simp only [List.setIfInBounds_toArray]
          try simp only [List.set_cons_succ]
          try simp only [List.set_cons_zero]
          rw [HSQ.out]
          refine wpAnyH_take (i := 5) (v := ?_) rfl (by kernel_rfl) (by kernel_rfl) (by kernel_rfl) (fun _ _ _ h => h) (Or.inl ⟨by rfl, ?_⟩) (by assumption) ?_
          rotate_left
          · intro w' hSw
            go_simp
            try with_reducible rfl
          try simp only [Act.put]
          try simp only [List.setIfInBounds_toArray]
          try simp only [List.set_cons_succ]
          try simp only [List.set_cons_zero]
          have hal : Below w6.heap.size w6 (w6.alloc (.cells #[.int .i64 0, .int .u32 0, .string ⟨#[]⟩] 36)) := (Below.refl _ _).alloc (Nat.le_refl _) _
          have hbn := Blk.new w6 #[.int .i64 0, .int .u32 0, .string ⟨#[]⟩] 36
          have hrs := R6.out.below hal
          have hne : w6.heap.size ≠ fb := by have := R6.out.res.lt; omega
          have hge : w.heap.size ≤ w6.heap.size := R6.out.bel.size
          refine wpAnyH_ready (rs := [6]) (by kernel_rfl) (by simp) ?_
          refine AllReadyH.cons rfl (fun K hK => ?_) AllReadyH.nil
          go_simp
          refine hK.out _ _ hrs.sec (fun hHeld => ?_)
          clear hK K
          try simp only [Act.put]
          try simp only [List.setIfInBounds_toArray]
          try simp only [List.set_cons_succ]
          try simp only [List.set_cons_zero]
          obtain ⟨g7, hg7⟩ : ∃ g7, g7 = w6.heap.size := ⟨_, rfl⟩
          have HN7 : Hid (Blk (w6.alloc (.cells #[.int .i64 0, .int .u32 0, .string ⟨#[]⟩] 36)) g7 #[.int .i64 0, .int .u32 0, .string ⟨#[]⟩] 36) := by rw [hg7]; exact hbn
          obtain ⟨w7, hw7⟩ : ∃ w7, w7 = (w6.alloc (.cells #[.int .i64 0, .int .u32 0, .string ⟨#[]⟩] 36)).setRow g7 #[.int .i64 (kd : Int), .int .u32 (sq : Int), .string ⟨#[]⟩] := ⟨_, rfl⟩
          have R7 : Hid (RS w w7 fb b x.1) := by
            rw [hw7]
            exact hrs.row HN7.out (by rw [hg7]; exact hne) (by rw [hg7]; exact hge)
          have HB7 : Hid (Blk w7 g7 #[.int .i64 (kd : Int), .int .u32 (sq : Int), .string ⟨#[]⟩] 36) := by rw [hw7]; exact setRow_of HN7.out _
          have HNE7 : Hid (g7 ≠ fb) := by rw [hg7]; exact hne
          have HGE7 : Hid (w.heap.size ≤ g7) := by rw [hg7]; exact hge
          rw [← hg7]
          clear hal hbn hrs hne hge hg7
          refine wpAnyH_ready (rs := [7]) (by kernel_rfl) (by simp) ?_
          refine AllReadyH.cons rfl (fun K hK => ?_) AllReadyH.nil
          rw [if_pos (by simp [Region.wanted])]
          refine wp_store_row 36 _ _ rfl g7 #[.int .i64 (kd : Int), .int .u32 (sq : Int), .string ⟨#[]⟩] rfl rfl 36 _ HN7.out (by rw [iFr]; rfl) rfl (by simp [Value.oneCell']) ?_
          rw [← hw7]
          clear hw7
          refine hK.out _ _ R7.out.sec (fun hHeld => ?_)
          clear hK K
          try simp only [List.getElem_toArray, List.getElem_cons_succ, List.getElem_cons_zero]
          try simp only [Act.put]
          try simp only [List.setIfInBounds_toArray]
          try simp only [List.set_cons_succ]
          try simp only [List.set_cons_zero]
          refine wpAnyH_done (by kernel_rfl) ?_ _
        case' refine_2 =>
          refine AllReadyH.cons rfl (fun K hK => ?_) AllReadyH.nil
          have hal : Below w5.heap.size w5 (w5.alloc (.cells #[.int .i64 0, .int .u32 0, .string ⟨#[]⟩] 36)).drew := below_drewN ((Below.refl _ _).alloc (Nat.le_refl _) _) 1
          have hbn0 : Blk (w5.alloc (.cells #[.int .i64 0, .int .u32 0, .string ⟨#[]⟩] 36)).drew w5.heap.size #[.int .i64 0, .int .u32 0, .string ⟨#[]⟩] 36 := (Blk.new w5 _ _).drewN 1
          have hrs0 := R5.out.below hal
          have hne0 : w5.heap.size ≠ fb := by have := R5.out.res.lt; omega
          have hge0 : w.heap.size ≤ w5.heap.size := R5.out.bel.size
          go_simp
          refine hK.out _ _ hrs0.sec (fun hHeld => ?_)
          clear hK K
          try simp only [Act.put]
          try simp only [List.setIfInBounds_toArray]
          try simp only [List.set_cons_succ]
          try simp only [List.set_cons_zero]
          obtain ⟨wa, hwa⟩ : ∃ wa, wa = (w5.alloc (.cells #[.int .i64 0, .int .u32 0, .string ⟨#[]⟩] 36)).drew := ⟨_, rfl⟩
          rw [← hwa] at hrs0 hbn0 hal ⊢
          rw [← hwa] at hHeld
          clear hwa
          refine wpAnyH_ready (rs := [4]) (by kernel_rfl) (by simp) ?_
          refine AllReadyH.cons rfl (fun K hK => ?_) AllReadyH.nil
          go_simp
          refine (rnumbered_any wa x 4 (by omega)).mono ?_
          rintro e w6 ⟨rfl, hb6⟩
          have hrs := hrs0.below hb6
          have hbn : Blk w6 w5.heap.size #[.int .i64 0, .int .u32 0, .string ⟨#[]⟩] 36 := Blk.below hbn0 hb6 hbn0.lt
          have hne := hne0
          have hge := hge0
          refine hK.out _ _ hrs.sec (fun hHeld => ?_)
          clear hK K
          try simp only [Act.put]
          try simp only [List.setIfInBounds_toArray]
          try simp only [List.set_cons_succ]
          try simp only [List.set_cons_zero]
          rw [HSQ.out]
          refine wpAnyH_take (i := 5) (v := ?_) rfl (by kernel_rfl) (by kernel_rfl) (by kernel_rfl) (fun _ _ _ h => h) (Or.inl ⟨by rfl, ?_⟩) (by assumption) ?_
          rotate_left
          · intro w' hSw
            go_simp
            try with_reducible rfl
          try simp only [Act.put]
          try simp only [List.setIfInBounds_toArray]
          try simp only [List.set_cons_succ]
          try simp only [List.set_cons_zero]
          obtain ⟨g7, hg7⟩ : ∃ g7, g7 = w5.heap.size := ⟨_, rfl⟩
          have HN7 : Hid (Blk (w6) g7 #[.int .i64 0, .int .u32 0, .string ⟨#[]⟩] 36) := by rw [hg7]; exact hbn
          obtain ⟨w7, hw7⟩ : ∃ w7, w7 = (w6).setRow g7 #[.int .i64 (kd : Int), .int .u32 (sq : Int), .string ⟨#[]⟩] := ⟨_, rfl⟩
          have R7 : Hid (RS w w7 fb b x.1) := by
            rw [hw7]
            exact hrs.row HN7.out (by rw [hg7]; exact hne) (by rw [hg7]; exact hge)
          have HB7 : Hid (Blk w7 g7 #[.int .i64 (kd : Int), .int .u32 (sq : Int), .string ⟨#[]⟩] 36) := by rw [hw7]; exact setRow_of HN7.out _
          have HNE7 : Hid (g7 ≠ fb) := by rw [hg7]; exact hne
          have HGE7 : Hid (w.heap.size ≤ g7) := by rw [hg7]; exact hge
          rw [← hg7]
          clear hal hbn hbn0 hrs hrs0 hne hne0 hge hge0 hb6 hg7
          refine wpAnyH_ready (rs := [7]) (by kernel_rfl) (by simp) ?_
          refine AllReadyH.cons rfl (fun K hK => ?_) AllReadyH.nil
          rw [if_pos (by simp [Region.wanted])]
          refine wp_store_row 36 _ _ rfl g7 #[.int .i64 (kd : Int), .int .u32 (sq : Int), .string ⟨#[]⟩] rfl rfl 36 _ HN7.out (by rw [iFr]; rfl) rfl (by simp [Value.oneCell']) ?_
          rw [← hw7]
          clear hw7
          refine hK.out _ _ R7.out.sec (fun hHeld => ?_)
          clear hK K
          try simp only [List.getElem_toArray, List.getElem_cons_succ, List.getElem_cons_zero]
          try simp only [Act.put]
          try simp only [List.setIfInBounds_toArray]
          try simp only [List.set_cons_succ]
          try simp only [List.set_cons_zero]
          refine wpAnyH_done (by kernel_rfl) ?_ _
        all_goals
          have HPLE : Hid (placeOf x.1 = pl) := HPL.out
          by_cases hpl : 256 ≤ pl
          case pos =>
            have hform : ¬ formed x.1 := fun h => by have := h.1; rw [HPLE.out] at this; omega
            have HOV : Hid (opV at' x.1 = .tuple #[.agg zF, .int .i64 6]) := opV_bad (HE0.out.2.1 HSUM.out hform) (by omega)
            have hplI : 256 ≤ (pl : Int) := by omega
            obtain ⟨a0, b0, a1, b1, a2, b2, HBK, HGR⟩ := fr_store R7.out.res (.int .i64 0) (.int .u32 0) (.string ⟨#[]⟩)
            clear hform hpl
            go_wp2_with (refine bodyPost_ret (results_row2 rfl _ _ fb zF rfl HBK.out rfl Tryd.underlying36 (by rw [iFr]; rfl)) rfl ?_)
            exact ⟨HOV.out.symm, below_grown R7.out.bel HGR.out R7.out.bel.size (by have := HFE.out; omega)⟩
          case neg =>
            have hplI : ¬ 256 ≤ (pl : Int) := by omega
            have cl := HLC.out w7 R7.out.sec
            by_cases hln : 112 < ln
            case pos =>
              have hform : ¬ formed x.1 := fun h => by have := h.2.2.1; rw [← HLN.out] at this; omega
              have HOV : Hid (opV at' x.1 = .tuple #[.agg zF, .int .i64 6]) := opV_bad (HE0.out.2.1 HSUM.out hform) (by omega)
              have hlnI : 112 < (ln : Int) := by omega
              obtain ⟨a0, b0, a1, b1, a2, b2, HBK, HGR⟩ := fr_store R7.out.res (.int .i64 0) (.int .u32 0) (.string ⟨#[]⟩)
              clear hform hln hpl
              go_wp2_with (refine bodyPost_ret (results_row2 rfl _ _ fb zF rfl HBK.out rfl Tryd.underlying36 (by rw [iFr]; rfl)) rfl ?_)
              exact ⟨HOV.out.symm, below_grown R7.out.bel HGR.out R7.out.bel.size (by have := HFE.out; omega)⟩
            case neg =>
              have hlnI : ¬ 112 < (ln : Int) := by omega
              obtain ⟨fd, hfd⟩ : ∃ fd : ByteArray, fd = ⟨(sub x.1 8 ln).toArray⟩ := ⟨_, rfl⟩
              have hfdl : fd.data.toList = sub x.1 8 ln := by rw [hfd]
              have hpf : partF x.1 = ⟨kd, sq, sub x.1 8 ln⟩ := by
                unfold partF
                rw [← HKD.out, ← HLN.out, HSQ.out, Nat.min_eq_left (by omega)]
              have HFI : Hid ((seE (pl : Int) (kd : Int) fd.data.toList.length = 0 ∧ sealR (pl : Int) (kd : Int) sq fd.data.toList = x) ↔ formed x.1) := by
                have h := formed_iff x
                rw [hpf, HPLE.out, ← HKD.out] at h
                rw [hfdl]; exact h
              have HFO : Hid (frV (frOf x.1) = .agg #[.int .i64 (kd : Int), .int .u32 (sq : Int), .string fd]) := by
                have e : frOf x.1 = ⟨kd, sq, sub x.1 8 ln⟩ := by unfold frOf; rw [← HKD.out, ← HLN.out, HSQ.out]
                rw [e, hfd]; rfl
              have hstr : (convert 22 9 (.slice (some ⟨b, 8, none⟩) ln 120)).run Tryd.prog w7 = .ok (.string fd) w7 := by
                rw [hfd]; exact str_sl (R7.out.sec.sl 8 ln 120 (by omega) (by omega))
              have hsa : (Instr.sliceAt 38 (.pointer (some ⟨b, 0, none⟩)) (some (.int .i64 8)) (some (.int .i64 (8 + (ln : Int)))) none).run Tryd.prog w7 = .ok (.slice (some ⟨b, 8, none⟩) ln 120) w7 := slice_sec w7 b 8 ln (by omega) (by omega)
              have x2 := HB7.out.cell 2 rfl
              have y2 := HB7.out.free 2
              have hge7 : w.heap.size ≤ g7 := HGE7.out
              obtain ⟨w8, hw8⟩ : ∃ w8, w8 = w7.setCell ⟨g7, 2, none⟩ (.string fd) := ⟨_, rfl⟩
              have HB8 : Hid (Blk w8 g7 #[.int .i64 (kd : Int), .int .u32 (sq : Int), .string fd] 36) := by rw [hw8]; exact HB7.out.set 2 (.string fd)
              have R8 : Hid (RS w w8 fb b x.1) := by rw [hw8]; exact R7.out.cell HB7.out HNE7.out hge7
              have c0 := HB8.out.cell 0 rfl
              have c1 := HB8.out.cell 1 rfl
              have c2 := HB8.out.cell 2 rfl
              rw [hw8] at c0 c1 c2
              obtain ⟨er, her⟩ : ∃ er, er = seE (pl : Int) (kd : Int) fd.data.toList.length := ⟨_, rfl⟩
              obtain ⟨y, hy⟩ : ∃ y, y = sealR (pl : Int) (kd : Int) sq fd.data.toList := ⟨_, rfl⟩
              have HSEAL : Hid (Calls Tryd.prog 24 #[.int .i64 (pl : Int), .int .i64 (kd : Int), .int .u32 (sq : Int), .string fd] w8 fun e w' => e = .returned (.tuple #[.agg (secC y).toArray, .int .i64 er]) ∧ Below w8.heap.size w8 w') := by
                rw [hy, her]; exact rseal_any w8 (pl : Int) (kd : Int) sq fd
              rw [← her, ← hy] at HFI
              have HW8 := Lib.hid hw8
              have h8l : (8 : Int) + (ln : Int) ≤ 128 := by omega
              clear her hy hw8 hfd hfdl hpf hge7 hln hpl
              go_wp2_with fail
              rw [← HW8.out]
              clear c0 c1 c2 x2 y2 hstr cl hsa
              refine HSEAL.out.mono ?_
              rintro e w9 ⟨rfl, hb9⟩
              have R9 := Lib.hid (R8.out.below hb9)
              have HB9 := Lib.hid (HB8.out.below hb9 HB8.out.lt)
              have HZ9 := Lib.hid (Blk.new w9 (secC z).toArray 38)
              have HA9 : Hid (Below w9.heap.size w9 (w9.alloc (.cells (secC z).toArray 38))) := (Below.refl _ _).alloc (Nat.le_refl _) _
              clear hb9 HSEAL
              by_cases her : er = 0
              · by_cases hyx : y = x
                · have hform := HFI.out.1 ⟨her, hyx⟩
                  have hd : (er != 0) = false := by rw [bne_eq_false_iff_eq]; exact her
                  have hne : ∀ w, (binOp .neq 38 (.agg (secC y).toArray) (.agg (secC x).toArray)).run Tryd.prog w = .ok (.bool false) w := fun w => by rw [neq_sec, decide_eq_true hyx]; rfl
                  by_cases hpa : (pl : Int) = at'
                  · have HOE : Hid (opE at' x.1 = 0) := HE0.out.2.2.2 HSUM.out hform (by rw [HPLE.out]; exact hpa)
                    have HOV : Hid (opV at' x.1 = .tuple #[.agg #[.int .i64 (kd : Int), .int .u32 (sq : Int), .string fd], .int .i64 0]) := by
                      show _ = _
                      unfold opV opF
                      rw [HOE.out, if_pos rfl, HFO.out]
                    have hpe : ((pl : Int) != at') = false := by rw [bne_eq_false_iff_eq]; exact hpa
                    clear her hyx hform hpa HFI HFO HE0
                    go_wp2_with (first
                      | (refine bodyPost_ret (results_row2 rfl _ _ fb #[.int .i64 (kd : Int), .int .u32 (sq : Int), .string fd] rfl HBK.out rfl Tryd.underlying36 (by rw [iFr]; rfl)) rfl ?_; exact ⟨congrArg Ending.returned HOV.out.symm, below_grown R10.out.bel HGR.out R10.out.bel.size (by have := HFE.out; omega)⟩)
                      | (refine wpList_load_secG (by rfl) _ rfl w9.heap.size 0 rfl y r9.out ?_)
                      | (refine wpList_load_secG (by rfl) _ rfl b 0 rfl x rx9.out ?_)
                      | (refine wpList_store_sec rfl _ _ rfl rfl w9.heap.size y rfl rfl z HZ9.out ?_; intro w10 hb9 hg9; have hbe9 : Below w9.heap.size w9 w10 := HA9.out.grown hg9 HA9.out.size (fun k hk => by cases hk; exact Nat.le_refl _); have R10 := Lib.hid (R9.out.below hbe9); have HB10 := Lib.hid (HB9.out.below hbe9 HB9.out.lt); have r9 := Lib.hid (Blk.range hb9); have rx9 := Lib.hid (HRG.out _ R10.out.sec); clear hb9 hg9 hbe9; have c0 := HB10.out.cell 0 rfl; have c1 := HB10.out.cell 1 rfl; have c2 := HB10.out.cell 2 rfl; obtain ⟨a0, b0, a1, b1, a2, b2, HBK, HGR⟩ := fr_store R10.out.res (.int .i64 (kd : Int)) (.int .u32 (sq : Int)) (.string fd)))
                  · have HOV : Hid (opV at' x.1 = .tuple #[.agg zF, .int .i64 72]) := opV_bad (HE0.out.2.2.1 HSUM.out hform (by rw [HPLE.out]; exact hpa)) (by omega)
                    have hpe : ((pl : Int) != at') = true := by rw [bne_iff_ne]; exact hpa
                    clear her hyx hform hpa HFI HFO HE0
                    go_wp2_with (first
                      | (refine bodyPost_ret (results_row2 rfl _ _ fb zF rfl HBK.out rfl Tryd.underlying36 (by rw [iFr]; rfl)) rfl ?_; exact ⟨congrArg Ending.returned HOV.out.symm, below_grown R10.out.bel HGR.out R10.out.bel.size (by have := HFE.out; omega)⟩)
                      | (refine wpList_load_secG (by rfl) _ rfl w9.heap.size 0 rfl y r9.out ?_)
                      | (refine wpList_load_secG (by rfl) _ rfl b 0 rfl x rx9.out ?_)
                      | (refine wpList_store_sec rfl _ _ rfl rfl w9.heap.size y rfl rfl z HZ9.out ?_; intro w10 hb9 hg9; have hbe9 : Below w9.heap.size w9 w10 := HA9.out.grown hg9 HA9.out.size (fun k hk => by cases hk; exact Nat.le_refl _); have R10 := Lib.hid (R9.out.below hbe9); have HB10 := Lib.hid (HB9.out.below hbe9 HB9.out.lt); have r9 := Lib.hid (Blk.range hb9); have rx9 := Lib.hid (HRG.out _ R10.out.sec); clear hb9 hg9 hbe9; obtain ⟨a0, b0, a1, b1, a2, b2, HBK, HGR⟩ := fr_store R10.out.res (.int .i64 0) (.int .u32 0) (.string ⟨#[]⟩)))
                · have hform : ¬ formed x.1 := fun h => hyx (HFI.out.2 h).2
                  have HOV : Hid (opV at' x.1 = .tuple #[.agg zF, .int .i64 6]) := opV_bad (HE0.out.2.1 HSUM.out hform) (by omega)
                  have hd : (er != 0) = false := by rw [bne_eq_false_iff_eq]; exact her
                  have hne : ∀ w, (binOp .neq 38 (.agg (secC y).toArray) (.agg (secC x).toArray)).run Tryd.prog w = .ok (.bool true) w := fun w => by rw [neq_sec, decide_eq_false hyx]; rfl
                  clear her hyx hform HFI HFO HE0
                  go_wp2_with (first
                    | (refine bodyPost_ret (results_row2 rfl _ _ fb zF rfl HBK.out rfl Tryd.underlying36 (by rw [iFr]; rfl)) rfl ?_; exact ⟨congrArg Ending.returned HOV.out.symm, below_grown R10.out.bel HGR.out R10.out.bel.size (by have := HFE.out; omega)⟩)
                    | (refine wpList_load_secG (by rfl) _ rfl w9.heap.size 0 rfl y r9.out ?_)
                    | (refine wpList_load_secG (by rfl) _ rfl b 0 rfl x rx9.out ?_)
                    | (refine wpList_store_sec rfl _ _ rfl rfl w9.heap.size y rfl rfl z HZ9.out ?_; intro w10 hb9 hg9; have hbe9 : Below w9.heap.size w9 w10 := HA9.out.grown hg9 HA9.out.size (fun k hk => by cases hk; exact Nat.le_refl _); have R10 := Lib.hid (R9.out.below hbe9); have HB10 := Lib.hid (HB9.out.below hbe9 HB9.out.lt); have r9 := Lib.hid (Blk.range hb9); have rx9 := Lib.hid (HRG.out _ R10.out.sec); clear hb9 hg9 hbe9; obtain ⟨a0, b0, a1, b1, a2, b2, HBK, HGR⟩ := fr_store R10.out.res (.int .i64 0) (.int .u32 0) (.string ⟨#[]⟩)))
              · have hform : ¬ formed x.1 := fun h => her (HFI.out.2 h).1
                have HOV : Hid (opV at' x.1 = .tuple #[.agg zF, .int .i64 6]) := opV_bad (HE0.out.2.1 HSUM.out hform) (by omega)
                have hd : (er != 0) = true := by rw [bne_iff_ne]; exact her
                clear her hform HFI HFO HE0
                go_wp2_with (first
                  | (refine bodyPost_ret (results_row2 rfl _ _ fb zF rfl HBK.out rfl Tryd.underlying36 (by rw [iFr]; rfl)) rfl ?_; exact ⟨congrArg Ending.returned HOV.out.symm, below_grown R10.out.bel HGR.out R10.out.bel.size (by have := HFE.out; omega)⟩)
                  | (refine wpList_store_sec rfl _ _ rfl rfl w9.heap.size y rfl rfl z HZ9.out ?_; intro w10 hb9 hg9; have hbe9 : Below w9.heap.size w9 w10 := HA9.out.grown hg9 HA9.out.size (fun k hk => by cases hk; exact Nat.le_refl _); have R10 := Lib.hid (R9.out.below hbe9); have HB10 := Lib.hid (HB9.out.below hbe9 HB9.out.lt); have r9 := Lib.hid (Blk.range hb9); have rx9 := Lib.hid (HRG.out _ R10.out.sec); clear hb9 hg9 hbe9; obtain ⟨a0, b0, a1, b1, a2, b2, HBK, HGR⟩ := fr_store R10.out.res (.int .i64 0) (.int .u32 0) (.string ⟨#[]⟩)))
end Go.Proofs.YtiddbdjcdoiloaaDoor
