/- The contract of Open of package frames. Condition: the table of half bytes. -/
import Derived.Test.YtiddbdjcdoiloaaDoorFrame
import Derived.Test.YtiddbdjcdoiloaaDoorEql
namespace Go.Proofs.YtiddbdjcdoiloaaDoor
open Go.RowKit Fm

def zF : Array Value := #[.int .i64 0, .int .u32 0, .string ⟨#[]⟩]
theorem zF_one : zF.all (·.oneCell') = true := by simp [zF, Value.oneCell']
theorem seE_zero {at' kind : Int} {n : Nat} (h : seE at' kind n = 0) : (0 ≤ at' ∧ at' < 256) ∧ (1 ≤ kind ∧ kind ≤ 255) ∧ n ≤ 112 := by
  unfold seE at h
  split at h
  · omega
  · split at h
    · omega
    · omega
theorem sealR_ok {at' kind : Int} {seq : Nat} {data : List UInt8} (h : seE at' kind data.length = 0) : (sealR at' kind seq data).1 = sealL at'.toNat ⟨kind.toNat, seq, data⟩ := by
  unfold sealR
  rw [dif_pos h]; rfl
/-- What the program asks of a sector's form, and what the document asks. -/
theorem formed_iff (x : Dv.Sec) : (seE (placeOf x.1 : Int) (kindOf x.1 : Int) (partF x.1).data.length = 0 ∧ sealR (placeOf x.1 : Int) (kindOf x.1 : Int) (partF x.1).seq (partF x.1).data = x) ↔ formed x.1 := by
  have hx := x.2
  have hdl : (partF x.1).data.length = min (lenOf x.1) 112 := sub_len _ _ _ (by omega)
  constructor
  · rintro ⟨h1, h2⟩
    obtain ⟨h3, h4, h5⟩ := seE_zero h1
    have h6 := sealR_ok (seq := (partF x.1).seq) h1
    rw [h2] at h6
    have h7 := seal_size (placeOf x.1 : Int).toNat ⟨(kindOf x.1 : Int).toNat, (partF x.1).seq, (partF x.1).data⟩ h5
    rw [← h6] at h7
    have h8 : lenOf x.1 ≤ 112 := by
      have e : lenOf x.1 = (partF x.1).data.length := h7
      omega
    refine ⟨by omega, by omega, h8, ?_⟩
    have h9 : (partF x.1).data = sub x.1 8 (lenOf x.1) := by unfold partF; rw [Nat.min_eq_left h8]
    have h10 : frOf x.1 = ⟨(kindOf x.1 : Int).toNat, (partF x.1).seq, (partF x.1).data⟩ := by rw [h9]; rfl
    rw [h10]
    exact h6.symm
  · rintro ⟨h1, h2, h3, h4⟩
    have hk : kindOf x.1 < 256 := (x.1.getD 1 0).toNat_lt
    have h5 : seE (placeOf x.1 : Int) (kindOf x.1 : Int) (partF x.1).data.length = 0 := by unfold seE; rw [if_neg (by omega), if_neg (by omega)]
    refine ⟨h5, Subtype.ext ?_⟩
    rw [sealR_ok h5]
    have h9 : (partF x.1).data = sub x.1 8 (lenOf x.1) := by unfold partF; rw [Nat.min_eq_left h3]
    have h10 : frOf x.1 = ⟨(kindOf x.1 : Int).toNat, (partF x.1).seq, (partF x.1).data⟩ := by rw [h9]; rfl
    rw [h10] at h4
    exact h4
theorem fr_store {w : World} {fb : Nat} {a b c : Value} (h : Blk w fb #[a, b, c] 36) (v0 v1 v2 : Value) :
    w.cell? ⟨fb, 0, none⟩ = some a ∧ w.frozen? ⟨fb, 0, none⟩ = false ∧ (w.setCell ⟨fb, 0, none⟩ v0).cell? ⟨fb, 1, none⟩ = some b ∧ (w.setCell ⟨fb, 0, none⟩ v0).frozen? ⟨fb, 1, none⟩ = false ∧
    ((w.setCell ⟨fb, 0, none⟩ v0).setCell ⟨fb, 1, none⟩ v1).cell? ⟨fb, 2, none⟩ = some c ∧ ((w.setCell ⟨fb, 0, none⟩ v0).setCell ⟨fb, 1, none⟩ v1).frozen? ⟨fb, 2, none⟩ = false ∧
    Hid (Blk (((w.setCell ⟨fb, 0, none⟩ v0).setCell ⟨fb, 1, none⟩ v1).setCell ⟨fb, 2, none⟩ v2) fb #[v0, v1, v2] 36) ∧ Hid (w.grownBy (((w.setCell ⟨fb, 0, none⟩ v0).setCell ⟨fb, 1, none⟩ v1).setCell ⟨fb, 2, none⟩ v2) (some fb)) :=
  ⟨h.cell 0 rfl, h.free 0, (h.set 0 v0).cell 1 rfl, (h.set 0 v0).free 1, ((h.set 0 v0).set 1 v1).cell 2 rfl, ((h.set 0 v0).set 1 v1).free 2, ((h.set 0 v0).set 1 v1).set 2 v2, grown_set (grown_set (grown_setCell w fb 0 v0) 1 v1) 2 v2⟩
theorem par_s {w : World} {b q p0 p1 p2 p3 p4 p5 : Nat} (h : Blk w q (partC b p0 p1 p2 p3 p4 p5) 92) : w.cell? ⟨q, 13, none⟩ = some (.slice (some ⟨b, 0, none⟩) 124 124) := h.cell 13 rfl
/-- A guarded load of a whole sector. -/
theorem wpList_load_secG {ops : Array Oper} {rest : List Oper} {op : Oper} {a : Act} {w : World} {Q : Exit → Act → World → Prop} (hgd : Region.wanted op (yielded ops a.tmps) = true) (x : Operand) (ho : op.op = .load 38 x)
    (b o : Nat) (hx : a.eval x = .pointer (some ⟨b, o, none⟩)) (y : Dv.Sec) (hc : w.rangeAt b o (secC y))
    (h : wpList Tryd.prog ops Q rest (a.put op.dst (.agg (secC y).toArray)) w) : wpList Tryd.prog ops Q (op :: rest) a w := by
  refine wpList_step fun K hK => ?_
  rw [if_pos hgd]
  exact wp_load_mid 38 x ho b o hx (secC y) _ hc uSec rfl (by rw [iSec, secC_len]) (hK _ _ h)
/-- What an open stands on: the table, the sector, its parts, the cell of the result. -/
structure OS (w0 w : World) (r b q p0 p1 p2 p3 p4 p5 : Nat) (l : List UInt8) : Prop where
  tb : TB w
  sec : ByB w b l
  par : Blk w q (partC b p0 p1 p2 p3 p4 p5) 92
  pat : PAt w b p0 p1 p2 p3 p4 p5
  res : Blk w r zF 36
  bel : Below w0.heap.size w0 w
theorem OS.below {w0 w w' : World} {r b q p0 p1 p2 p3 p4 p5 : Nat} {l : List UInt8} (h : OS w0 w r b q p0 p1 p2 p3 p4 p5 l) (hb : Below w.heap.size w w') : OS w0 w' r b q p0 p1 p2 p3 p4 p5 l :=
  ⟨h.tb.below hb h.tb.lt, Blk.below h.sec hb (Blk.lt h.sec), h.par.below hb h.par.lt, ⟨h.pat.c0.below hb h.pat.c0.lt, h.pat.c1.below hb h.pat.c1.lt, h.pat.c2.below hb h.pat.c2.lt, h.pat.c3.below hb h.pat.c3.lt, h.pat.c4.below hb h.pat.c4.lt, h.pat.c5.below hb h.pat.c5.lt⟩, h.res.below hb h.res.lt, h.bel.trans (hb.mono h.bel.size)⟩
/-- The frame that Open hands back. -/
noncomputable def opV (at' : Int) (l : List UInt8) : Value := .tuple #[frV (opF at' l), .int .i64 (opE at' l)]
theorem opV_bad {at' : Int} {l : List UInt8} {e : Int} (h : opE at' l = e) (he : e ≠ 0) : opV at' l = .tuple #[.agg zF, .int .i64 e] := by
  unfold opV opF
  rw [h, if_neg he]; rfl
theorem sec_zero_iff (x : Dv.Sec) : x = Dv.zeroS ↔ x.1 = List.replicate 128 0 := ⟨fun h => by rw [h]; rfl, fun h => Subtype.ext h⟩
set_option maxRecDepth 100000 in
set_option maxHeartbeats 4000000 in
theorem open_any (w : World) (at' : Int) (x : Dv.Sec) (hT : TB w) :
    Calls Tryd.prog 26 #[.int .i64 at', .agg (secC x).toArray] w fun e w' => e = .returned (opV at' x.1) ∧ Below w.heap.size w w' := by
  obtain ⟨z, hzz, hz, hbz⟩ := zero_gen
  have hxl : x.1.length = 128 := x.2
  obtain ⟨w2, hw2⟩ : ∃ w2, w2 = (w.alloc (.cells (secC x).toArray 38)).alloc (.cells #[.int .i64 0, .int .u32 0, .string ⟨#[]⟩] 36) := ⟨_, rfl⟩
  have hB2 : Below w.heap.size w w2 := by rw [hw2]; exact ((Below.refl _ _).alloc (Nat.le_refl _) _).alloc (by simp) _
  have HB2 := Lib.hid hB2
  have HT2 := Lib.hid (hT.below hB2 hT.lt)
  obtain ⟨b, hb⟩ : ∃ b, b = w.heap.size := ⟨_, rfl⟩
  obtain ⟨fb, hfb⟩ : ∃ fb, fb = w.heap.size + 1 := ⟨_, rfl⟩
  have HS2 : Hid (ByB w2 b x.1) := by rw [hw2, hb]; exact (Blk.new w _ _).below ((Below.refl _ _).alloc (Nat.le_refl _) _) (by simp)
  have HF2 : Hid (Blk w2 fb zF 36) := by
    have := Blk.new (w.alloc (.cells (secC x).toArray 38)) #[.int .i64 0, .int .u32 0, .string ⟨#[]⟩] 36
    rw [show (w.alloc (.cells (secC x).toArray 38)).heap.size = w.heap.size + 1 by simp, ← hw2, ← hfb] at this; exact this
  have HFE := Lib.hid hfb
  have HBE := Lib.hid hb
  have hp : (Value.agg (secC x).toArray).cells = (secC x).toArray := rfl
  have HRG : Hid (∀ W, ByB W b x.1 → W.rangeAt b 0 (secC x)) := fun W h => Blk.range h
  clear hB2 hT
  by_cases h1 : 0 ≤ at' ∧ at' < 256
  case neg =>
    have HE : opE at' x.1 = 7 := by unfold opE; rw [if_pos (by omega)]
    rw [opV_bad HE (by omega)]
    have HP1 : Hid (∀ W, Calls Tryd.prog 48 #[.int .i64 at'] W fun e w' => e = .returned (.bool false) ∧ W = w') := fun W => by have := isPlace_any W at'; rw [decide_eq_false h1] at this; exact this
    clear HE h1
    go_enter Tryd.func26, Tryd.ntmps26
    go_wp2_with fail
    rw [← hw2, ← hfb, ← hb]
    clear hw2 hfb hb hp
    refine (HP1.out _).mono ?_
    rintro e w' ⟨rfl, rfl⟩
    go_wp2_with (first
      | (refine bodyPost_ret (results_row2 rfl _ _ fb zF rfl (setRow_of HF2.out zF) rfl Tryd.underlying36 (by rw [iFr]; rfl)) rfl ?_; exact ⟨rfl, below_grown HB2.out (grown_setRow zF) HB2.out.size (by have := HFE.out; omega)⟩)
      | (refine wpList_store_row rfl 36 (.tmp 4) (.tmp 14) rfl fb zF rfl rfl 36 _ HF2.out (by rw [iFr]; rfl) rfl zF_one ?_))
  case pos =>
    have HP1 : Hid (∀ W, Calls Tryd.prog 48 #[.int .i64 at'] W fun e w' => e = .returned (.bool true) ∧ W = w') := fun W => by have := isPlace_any W at'; rw [decide_eq_true h1] at this; exact this
    by_cases h2 : x = z
    · have HE : opE at' x.1 = 70 := by unfold opE; rw [if_neg (by omega), if_pos ((sec_zero_iff x).1 (h2.trans hzz.out))]
      rw [opV_bad HE (by omega)]
      have heq : ∀ w, (binOp .eql 38 (.agg (secC x).toArray) (.agg (secC z).toArray)).run Tryd.prog w = .ok (.bool true) w := fun w => by rw [eql_sec, decide_eq_true h2]
      clear HE h2 h1
      go_enter Tryd.func26, Tryd.ntmps26
      go_wp2_with fail
      rw [← hw2, ← hfb, ← hb]
      clear hw2 hfb hb hp
      refine (HP1.out _).mono ?_
      rintro e w' ⟨rfl, rfl⟩
      go_wp2_with (first
        | (refine bodyPost_ret (results_row2 rfl _ _ fb zF rfl (setRow_of HF2.out zF) rfl Tryd.underlying36 (by rw [iFr]; rfl)) rfl ?_; exact ⟨rfl, below_grown HB2.out (grown_setRow zF) HB2.out.size (by have := HFE.out; omega)⟩)
        | (refine wpList_load_mid rfl 38 _ rfl b 0 rfl (secC x) _ (HRG.out _ HS2.out) uSec rfl (by rw [iSec, secC_len]) ?_)
        | (refine wpList_buildTo rfl 38 #[] rfl (some 16) rfl (secC z).toArray (by simp [hbz]) ?_)
        | (refine wpList_store_row rfl 36 (.tmp 4) (.tmp 18) rfl fb zF rfl rfl 36 _ HF2.out (by rw [iFr]; rfl) rfl zF_one ?_))
    · have hnz : ¬ x.1 = List.replicate 128 0 := fun h => h2 (((sec_zero_iff x).2 h).trans hzz.out.symm)
      have HE0 : Hid ((¬ sumOk x.1 → opE at' x.1 = 71) ∧ (sumOk x.1 → ¬ formed x.1 → opE at' x.1 = 6) ∧ (sumOk x.1 → formed x.1 → (placeOf x.1 : Int) ≠ at' → opE at' x.1 = 72) ∧ (sumOk x.1 → formed x.1 → (placeOf x.1 : Int) = at' → opE at' x.1 = 0)) := by
        unfold opE
        rw [if_neg (show ¬ (at' < 0 ∨ 256 ≤ at') by omega), if_neg hnz]
        refine ⟨fun h => by rw [if_pos h], fun h g => ?_, fun h g k => ?_, fun h g k => ?_⟩
        · rw [if_neg (by simpa using h), if_pos g]
        · rw [if_neg (by simpa using h), if_neg (by simpa using g), if_pos k]
        · rw [if_neg (by simpa using h), if_neg (by simpa using g), if_neg (by simpa using k)]
      have heq : ∀ w, (binOp .eql 38 (.agg (secC x).toArray) (.agg (secC z).toArray)).run Tryd.prog w = .ok (.bool false) w := fun w => by rw [eql_sec, decide_eq_false h2]
      clear hnz h2 h1
      go_enter Tryd.func26, Tryd.ntmps26
      go_wp2_with fail
      rw [← hw2, ← hfb, ← hb]
      clear hw2 hfb hb hp
      refine (HP1.out _).mono ?_
      rintro e w' ⟨rfl, rfl⟩
      go_wp2_with (first
        | (refine wpList_load_mid rfl 38 _ rfl b 0 rfl (secC x) _ (HRG.out _ HS2.out) uSec rfl (by rw [iSec, secC_len]) ?_)
        | (refine wpList_buildTo rfl 38 #[] rfl (some 16) rfl (secC z).toArray (by simp [hbz]) ?_))
      refine (partsOf_any w2 b).mono ?_
      rintro e w3 ⟨p0, p1, p2, p3, p4, p5, rfl, hpa, hb3⟩
      have HB3 := Lib.hid hb3
      have HPA := Lib.hid hpa
      have HN3 : Hid (Blk (w3.alloc (.cells #[.nilFunc, .nilFunc, .nilFunc, .nilFunc, .nilFunc, .nilFunc, .nilFunc, .nilFunc, .nilFunc, .nilFunc, .nilFunc, .nilFunc, .slice none 0 0, .slice none 0 0] 92)) w3.heap.size zeroP 92) := Blk.new w3 _ _
      have hsz3 := hb3.size
      have hsz2 := HB2.out.size
      clear hb3 hpa
      obtain ⟨q, hqq⟩ : ∃ q, q = w3.heap.size := ⟨_, rfl⟩
      obtain ⟨w4, hw4⟩ : ∃ w4, w4 = (w3.alloc (.cells #[.nilFunc, .nilFunc, .nilFunc, .nilFunc, .nilFunc, .nilFunc, .nilFunc, .nilFunc, .nilFunc, .nilFunc, .nilFunc, .nilFunc, .slice none 0 0, .slice none 0 0] 92)).setRow q (partC b p0 p1 p2 p3 p4 p5) := ⟨_, rfl⟩
      have S4 : Hid (OS w w4 fb b q p0 p1 p2 p3 p4 p5 x.1) := by
        have hal : Below w3.heap.size w3 (w3.alloc (.cells #[.nilFunc, .nilFunc, .nilFunc, .nilFunc, .nilFunc, .nilFunc, .nilFunc, .nilFunc, .nilFunc, .nilFunc, .nilFunc, .nilFunc, .slice none 0 0, .slice none 0 0] 92)) := (Below.refl _ _).alloc (Nat.le_refl _) _
        have hg := grown_setRow (w := w3.alloc (.cells #[.nilFunc, .nilFunc, .nilFunc, .nilFunc, .nilFunc, .nilFunc, .nilFunc, .nilFunc, .nilFunc, .nilFunc, .nilFunc, .nilFunc, .slice none 0 0, .slice none 0 0] 92)) (g := q) (partC b p0 p1 p2 p3 p4 p5)
        rw [← hw4] at hg
        have hb4 : Below w3.heap.size w3 w4 := below_grown hal hg hal.size (by rw [hqq]; exact Nat.le_refl _)
        have hp := HPA.out
        have h2 := HB3.out.trans (hb4.mono HB3.out.size)
        exact ⟨HT2.out.below h2 HT2.out.lt, Blk.below HS2.out h2 (Blk.lt HS2.out), by rw [hw4]; exact setRow_of (by rw [hqq]; exact HN3.out) _, ⟨hp.c0.below hb4 hp.c0.lt, hp.c1.below hb4 hp.c1.lt, hp.c2.below hb4 hp.c2.lt, hp.c3.below hb4 hp.c3.lt, hp.c4.below hb4 hp.c4.lt, hp.c5.below hb4 hp.c5.lt⟩, HF2.out.below h2 HF2.out.lt, HB2.out.trans (h2.mono HB2.out.size)⟩
      have HN3' : Hid (Blk (w3.alloc (.cells #[.nilFunc, .nilFunc, .nilFunc, .nilFunc, .nilFunc, .nilFunc, .nilFunc, .nilFunc, .nilFunc, .nilFunc, .nilFunc, .nilFunc, .slice none 0 0, .slice none 0 0] 92)) q zeroP 92) := by rw [hqq]; exact HN3.out
      have HW4 := Lib.hid hw4
      have HQQ := Lib.hid hqq
      obtain ⟨sv, hsv⟩ : ∃ sv, sv = num (sub x.1 124 4) := ⟨_, rfl⟩
      obtain ⟨cv, hcv⟩ : ∃ cv, cv = Cm.crc (x.1.take 124) := ⟨_, rfl⟩
      have HSV : Hid (num (sub x.1 124 4) = sv) := hsv.symm
      have HCV : Hid (Cm.crc (x.1.take 124) = cv) := hcv.symm
      have hso : sumOk x.1 ↔ sv = cv := by rw [hsv, hcv]; rfl
      clear hqq hw4 HN3 hsv hcv
      go_wp2_with (first
        | (refine wpList_store_row rfl 92 (.tmp 6) (.tmp 19) rfl q (partC b p0 p1 p2 p3 p4 p5) (by rw [HQQ.out]; rfl) rfl 92 _ HN3'.out (by rw [iParts]; rfl) rfl (partC_one _ _ _ _ _ _ _) ?_; rw [← HW4.out, ← HQQ.out]))
      by_cases hsum : sumOk x.1
      case neg =>
        have HOV : Hid (opV at' x.1 = .tuple #[.agg zF, .int .i64 71]) := opV_bad (HE0.out.1 hsum) (by omega)
        have hne : ((sv : Int) != (cv : Int)) = true := by rw [bne_iff_ne]; intro h; exact hsum (hso.2 (by omega))
        clear hsum hso
        try simp only [Act.put]
        try simp only [List.setIfInBounds_toArray]
        try simp only [List.set_cons_succ]
        try simp only [List.set_cons_zero]
        refine wp_region_held_drew (S := fun W => Blk W q (partC b p0 p1 p2 p3 p4 p5) 92) (by kernel_rfl) (S4.out.par.drewN 1) (fun hHeld => ?_)
        refine wpAnyH_take (i := 0) (v := ?_) rfl (by kernel_rfl) (by kernel_rfl) (by kernel_rfl) (fun _ _ _ h => h) (Or.inl ⟨by rfl, ?_⟩) (by assumption) ?_
        rotate_left
        · intro w' hSw
          go_simp
          try with_reducible rfl
        try simp only [Act.put]
        try simp only [List.setIfInBounds_toArray]
        try simp only [List.set_cons_succ]
        try simp only [List.set_cons_zero]
        refine wpAnyH_take (i := 1) (v := ?_) rfl (by kernel_rfl) (by kernel_rfl) (by kernel_rfl) (fun _ _ _ h => h) (Or.inl ⟨by rfl, ?_⟩) (by assumption) ?_
        rotate_left
        · intro w' hSw
          go_simp
          try with_reducible rfl
        try simp only [Act.put]
        try simp only [List.setIfInBounds_toArray]
        try simp only [List.set_cons_succ]
        try simp only [List.set_cons_zero]
        refine wpAnyH_take (i := 2) (v := ?_) rfl (by kernel_rfl) (by kernel_rfl) (by kernel_rfl) (fun _ _ _ h => h) (Or.inl ⟨by rfl, ?_⟩) (by assumption) ?_
        rotate_left
        · intro w' hSw
          have cc := par_r5 hSw; go_simp
          try with_reducible rfl
        try simp only [Act.put]
        try simp only [List.setIfInBounds_toArray]
        try simp only [List.set_cons_succ]
        try simp only [List.set_cons_zero]
        refine wpAnyH_take (i := 4) rfl (by kernel_rfl) (by kernel_rfl) (by kernel_rfl) (fun _ _ _ h => h) (yieldsIf_load_mid (by rfl) _ _ rfl q 0 rfl (partC b p0 p1 p2 p3 p4 p5).toList _ (fun _ h => Blk.range h) Tryd.underlying92 rfl (by rw [iParts]; rfl)) (by assumption) ?_
        try simp only [Act.put]
        try simp only [List.setIfInBounds_toArray]
        try simp only [List.set_cons_succ]
        try simp only [List.set_cons_zero]
        refine wpAnyH_ready (rs := [3]) (by kernel_rfl) (by simp) ?_
        refine AllReadyH.cons rfl (fun K hK => ?_) AllReadyH.nil
        go_simp
        refine (read_num w4.drew p5 b 124 4 4 x.1 (Blk.cell (w := w4.drew) S4.out.pat.c5 0 rfl) (show ByB w4.drew b x.1 from S4.out.sec) (by omega) (by omega)).mono ?_
        rintro e w' ⟨rfl, rfl⟩
        refine hK.out _ _ (S4.out.par.drewN 1) (fun hHeld => ?_)
        clear hK K
        try simp only [Act.put]
        try simp only [List.setIfInBounds_toArray]
        try simp only [List.set_cons_succ]
        try simp only [List.set_cons_zero]
        rw [HSV.out]
        refine wpAnyH_ready (rs := [5]) (by kernel_rfl) (by simp) ?_
        refine AllReadyH.cons rfl (fun K hK => ?_) AllReadyH.nil
        go_simp
        refine (crcM_any w4.drew b p0 p1 p2 p3 p4 p5 x.1 (S4.out.tb.drewN 1) (show ByB w4.drew b x.1 from S4.out.sec) hxl).mono ?_
        rintro e w5 ⟨rfl, hb5⟩
        have S5 : Hid (OS w w5 fb b q p0 p1 p2 p3 p4 p5 x.1) := S4.out.below (below_undrew hb5)
        clear hb5
        refine hK.out _ _ S5.out.par (fun hHeld => ?_)
        clear hK K
        try simp only [Act.put]
        try simp only [List.setIfInBounds_toArray]
        try simp only [List.set_cons_succ]
        try simp only [List.set_cons_zero]
        rw [HCV.out]
        refine wpAnyH_take (i := 6) (v := ?_) rfl (by kernel_rfl) (by kernel_rfl) (by kernel_rfl) (fun _ _ _ h => h) (Or.inl ⟨by rfl, ?_⟩) (by assumption) ?_
        rotate_left
        · intro w' hSw
          go_simp
          try with_reducible rfl
        try simp only [Act.put]
        try simp only [List.setIfInBounds_toArray]
        try simp only [List.set_cons_succ]
        try simp only [List.set_cons_zero]
        refine wpAnyH_done (by kernel_rfl) ?_ _
        obtain ⟨a0, b0, a1, b1, a2, b2, HBK, HGR⟩ := fr_store S5.out.res (.int .i64 0) (.int .u32 0) (.string ⟨#[]⟩)
        go_wp2_with (refine bodyPost_ret (results_row2 rfl _ _ fb zF rfl HBK.out rfl Tryd.underlying36 (by rw [iFr]; rfl)) rfl ?_)
        exact ⟨HOV.out.symm, below_grown S5.out.bel HGR.out S5.out.bel.size (by have := HFE.out; omega)⟩
      case pos =>
        have hne : ((sv : Int) != (cv : Int)) = false := by rw [bne_eq_false_iff_eq]; have := hso.1 hsum; omega
        have HSUM := Lib.hid hsum
        clear hsum hso
        try simp only [Act.put]
        try simp only [List.setIfInBounds_toArray]
        try simp only [List.set_cons_succ]
        try simp only [List.set_cons_zero]
        refine wp_region_held_drew (S := fun W => Blk W q (partC b p0 p1 p2 p3 p4 p5) 92) (by kernel_rfl) (S4.out.par.drewN 1) (fun hHeld => ?_)
        refine wpAnyH_take (i := 0) (v := ?_) rfl (by kernel_rfl) (by kernel_rfl) (by kernel_rfl) (fun _ _ _ h => h) (Or.inl ⟨by rfl, ?_⟩) (by assumption) ?_
        rotate_left
        · intro w' hSw
          go_simp
          try with_reducible rfl
        try simp only [Act.put]
        try simp only [List.setIfInBounds_toArray]
        try simp only [List.set_cons_succ]
        try simp only [List.set_cons_zero]
        refine wpAnyH_take (i := 1) (v := ?_) rfl (by kernel_rfl) (by kernel_rfl) (by kernel_rfl) (fun _ _ _ h => h) (Or.inl ⟨by rfl, ?_⟩) (by assumption) ?_
        rotate_left
        · intro w' hSw
          go_simp
          try with_reducible rfl
        try simp only [Act.put]
        try simp only [List.setIfInBounds_toArray]
        try simp only [List.set_cons_succ]
        try simp only [List.set_cons_zero]
        refine wpAnyH_take (i := 2) (v := ?_) rfl (by kernel_rfl) (by kernel_rfl) (by kernel_rfl) (fun _ _ _ h => h) (Or.inl ⟨by rfl, ?_⟩) (by assumption) ?_
        rotate_left
        · intro w' hSw
          have cc := par_r5 hSw; go_simp
          try with_reducible rfl
        try simp only [Act.put]
        try simp only [List.setIfInBounds_toArray]
        try simp only [List.set_cons_succ]
        try simp only [List.set_cons_zero]
        refine wpAnyH_take (i := 4) rfl (by kernel_rfl) (by kernel_rfl) (by kernel_rfl) (fun _ _ _ h => h) (yieldsIf_load_mid (by rfl) _ _ rfl q 0 rfl (partC b p0 p1 p2 p3 p4 p5).toList _ (fun _ h => Blk.range h) Tryd.underlying92 rfl (by rw [iParts]; rfl)) (by assumption) ?_
        try simp only [Act.put]
        try simp only [List.setIfInBounds_toArray]
        try simp only [List.set_cons_succ]
        try simp only [List.set_cons_zero]
        refine wpAnyH_ready (rs := [3]) (by kernel_rfl) (by simp) ?_
        refine AllReadyH.cons rfl (fun K hK => ?_) AllReadyH.nil
        go_simp
        refine (read_num w4.drew p5 b 124 4 4 x.1 (Blk.cell (w := w4.drew) S4.out.pat.c5 0 rfl) (show ByB w4.drew b x.1 from S4.out.sec) (by omega) (by omega)).mono ?_
        rintro e w' ⟨rfl, rfl⟩
        refine hK.out _ _ (S4.out.par.drewN 1) (fun hHeld => ?_)
        clear hK K
        try simp only [Act.put]
        try simp only [List.setIfInBounds_toArray]
        try simp only [List.set_cons_succ]
        try simp only [List.set_cons_zero]
        rw [HSV.out]
        refine wpAnyH_ready (rs := [5]) (by kernel_rfl) (by simp) ?_
        refine AllReadyH.cons rfl (fun K hK => ?_) AllReadyH.nil
        go_simp
        refine (crcM_any w4.drew b p0 p1 p2 p3 p4 p5 x.1 (S4.out.tb.drewN 1) (show ByB w4.drew b x.1 from S4.out.sec) hxl).mono ?_
        rintro e w5 ⟨rfl, hb5⟩
        have S5 : Hid (OS w w5 fb b q p0 p1 p2 p3 p4 p5 x.1) := S4.out.below (below_undrew hb5)
        clear hb5
        refine hK.out _ _ S5.out.par (fun hHeld => ?_)
        clear hK K
        try simp only [Act.put]
        try simp only [List.setIfInBounds_toArray]
        try simp only [List.set_cons_succ]
        try simp only [List.set_cons_zero]
        rw [HCV.out]
        refine wpAnyH_take (i := 6) (v := ?_) rfl (by kernel_rfl) (by kernel_rfl) (by kernel_rfl) (fun _ _ _ h => h) (Or.inl ⟨by rfl, ?_⟩) (by assumption) ?_
        rotate_left
        · intro w' hSw
          go_simp
          try with_reducible rfl
        try simp only [Act.put]
        try simp only [List.setIfInBounds_toArray]
        try simp only [List.set_cons_succ]
        try simp only [List.set_cons_zero]
        refine wpAnyH_done (by kernel_rfl) ?_ _
        have d0 := par_w0 S5.out.par
        have d1 := par_r0 S5.out.par
        have d2 := par_w1 S5.out.par
        have d3 := par_r1 S5.out.par
        have d4 := par_w2 S5.out.par
        have d5 := par_r2 S5.out.par
        have d6 := par_w3 S5.out.par
        have d7 := par_r3 S5.out.par
        have d8 := par_w4 S5.out.par
        have d9 := par_r4 S5.out.par
        have d10 := par_w5 S5.out.par
        have d11 := par_r5 S5.out.par
        have d12 := par_d S5.out.par
        have d13 := par_s S5.out.par
        go_wp2_with fail
        refine (frame_any w5 b p0 p1 p2 p3 p4 p5 x.1 S5.out.pat S5.out.sec hxl).mono ?_
        rintro e w6 ⟨rfl, hb6⟩
        have S6 := Lib.hid (S5.out.below hb6)
        clear hb6 d0 d1 d2 d3 d4 d5 d6 d7 d8 d9 d10 d11 d12 d13
        obtain ⟨f, hf⟩ : ∃ f, f = partF x.1 := ⟨_, rfl⟩
        obtain ⟨pl, hpl⟩ : ∃ pl, pl = placeOf x.1 := ⟨_, rfl⟩
        have HFI : Hid ((seE (pl : Int) (f.kind : Int) f.data.length = 0 ∧ sealR (pl : Int) (f.kind : Int) f.seq f.data = x) ↔ formed x.1) := by rw [hpl, hf]; exact formed_iff x
        have HFO : Hid (formed x.1 → f = frOf x.1) := fun h => by
          rw [hf]; unfold partF frOf; rw [Nat.min_eq_left h.2.2.1]
        rw [← hf, ← hpl]
        have HPL : Hid (placeOf x.1 = pl) := hpl.symm
        have hfv : frV f = .agg #[.int .i64 (f.kind : Int), .int .u32 (f.seq : Int), .string ⟨f.data.toArray⟩] := rfl
        rw [hfv]
        obtain ⟨fk, hfk⟩ : ∃ fk, fk = f.kind := ⟨_, rfl⟩
        obtain ⟨fq, hfq⟩ : ∃ fq, fq = f.seq := ⟨_, rfl⟩
        obtain ⟨fd, hfd⟩ : ∃ fd : ByteArray, fd = ⟨f.data.toArray⟩ := ⟨_, rfl⟩
        have hfdl : fd.data.toList = f.data := by rw [hfd]
        rw [← hfk, ← hfq, ← hfd]
        rw [← hfk, ← hfq, ← hfdl] at HFI
        have HFV : Hid (frV f = .agg #[.int .i64 (fk : Int), .int .u32 (fq : Int), .string fd]) := by rw [hfk, hfq, hfd]; rfl
        clear hf hpl hfv hfk hfq hfd hfdl
        obtain ⟨w7, hw7⟩ : ∃ w7, w7 = w6.alloc (.cells #[.int .i64 (fk : Int), .int .u32 (fq : Int), .string fd] 36) := ⟨_, rfl⟩
        have hal : Below w6.heap.size w6 w7 := by rw [hw7]; exact (Below.refl _ _).alloc (Nat.le_refl _) _
        have S7 := Lib.hid (S6.out.below hal)
        obtain ⟨g7, hg7⟩ : ∃ g7, g7 = w6.heap.size := ⟨_, rfl⟩
        have HB7 : Hid (Blk w7 g7 #[.int .i64 (fk : Int), .int .u32 (fq : Int), .string fd] 36) := by rw [hw7, hg7]; exact Blk.new w6 _ _
        have HN7 : Hid (g7 ≠ fb) := by rw [hg7]; have := S6.out.res.lt; show _ ≠ _; omega
        obtain ⟨er, her⟩ : ∃ er, er = seE (pl : Int) (fk : Int) fd.data.toList.length := ⟨_, rfl⟩
        obtain ⟨y, hy⟩ : ∃ y, y = sealR (pl : Int) (fk : Int) fq fd.data.toList := ⟨_, rfl⟩
        have HSEAL : Hid (Calls Tryd.prog 23 #[.int .i64 (pl : Int), .int .i64 (fk : Int), .int .u32 (fq : Int), .string fd] w7 fun e w' => e = .returned (.tuple #[.agg (secC y).toArray, .int .i64 er]) ∧ Below w7.heap.size w7 w') := by
          rw [hy, her]; exact seal_any w7 (pl : Int) (fk : Int) fq fd S7.out.tb
        rw [← her, ← hy] at HFI
        clear hal her hy
        go_wp2_with fail
        rw [← hw7, ← hg7]
        clear hw7 hg7
        refine HSEAL.out.mono ?_
        rintro e w8 ⟨rfl, hb8⟩
        have S8 := Lib.hid (S7.out.below hb8)
        have HB8 := Lib.hid (HB7.out.below hb8 HB7.out.lt)
        have HZ8 := Lib.hid (Blk.new w8 (secC z).toArray 38)
        have HA8 : Hid (Below w8.heap.size w8 (w8.alloc (.cells (secC z).toArray 38))) := (Below.refl _ _).alloc (Nat.le_refl _) _
        clear hb8 HSEAL S7 HB7
        by_cases her : er = 0
        · by_cases hyx : y = x
          · have hform := HFI.out.1 ⟨her, hyx⟩
            have hd : (er != 0) = false := by rw [bne_eq_false_iff_eq]; exact her
            have hne : ∀ w, (binOp .neq 38 (.agg (secC y).toArray) (.agg (secC x).toArray)).run Tryd.prog w = .ok (.bool false) w := fun w => by rw [neq_sec, decide_eq_true hyx]; rfl
            by_cases hpa : (pl : Int) = at'
            · have HOE : Hid (opE at' x.1 = 0) := HE0.out.2.2.2 HSUM.out hform (by rw [HPL.out]; exact hpa)
              have HOV : Hid (opV at' x.1 = .tuple #[.agg #[.int .i64 (fk : Int), .int .u32 (fq : Int), .string fd], .int .i64 0]) := by
                show _ = _
                unfold opV opF
                rw [HOE.out, if_pos rfl, ← HFO.out hform, HFV.out]
              have hpe : ((pl : Int) != at') = false := by rw [bne_eq_false_iff_eq]; exact hpa
              clear her hyx hform hpa HFI HFO HE0
              go_wp2_with (first
                | (refine bodyPost_ret (results_row2 rfl _ _ fb #[.int .i64 (fk : Int), .int .u32 (fq : Int), .string fd] rfl HBK.out rfl Tryd.underlying36 (by rw [iFr]; rfl)) rfl ?_; exact ⟨congrArg Ending.returned HOV.out.symm, below_grown S9.out.bel HGR.out S9.out.bel.size (by have := HFE.out; omega)⟩)
                | (refine wpList_load_secG (by rfl) _ rfl w8.heap.size 0 rfl y r9.out ?_)
                | (refine wpList_load_secG (by rfl) _ rfl b 0 rfl x rx9.out ?_)
                | (refine wpList_store_sec rfl _ _ rfl rfl w8.heap.size y rfl rfl z HZ8.out ?_; intro w9 hb9 hg9; have hbe9 : Below w8.heap.size w8 w9 := HA8.out.grown hg9 HA8.out.size (fun k hk => by cases hk; exact Nat.le_refl _); have S9 := Lib.hid (S8.out.below hbe9); have HB9 := Lib.hid (HB8.out.below hbe9 HB8.out.lt); have r9 := Lib.hid (Blk.range hb9); have rx9 := Lib.hid (HRG.out _ S9.out.sec); clear hb9 hg9 hbe9; have c0 := HB9.out.cell 0 rfl; have c1 := HB9.out.cell 1 rfl; have c2 := HB9.out.cell 2 rfl; obtain ⟨a0, b0, a1, b1, a2, b2, HBK, HGR⟩ := fr_store S9.out.res (.int .i64 (fk : Int)) (.int .u32 (fq : Int)) (.string fd)))
            · have HOV : Hid (opV at' x.1 = .tuple #[.agg zF, .int .i64 72]) := opV_bad (HE0.out.2.2.1 HSUM.out hform (by rw [HPL.out]; exact hpa)) (by omega)
              have hpe : ((pl : Int) != at') = true := by rw [bne_iff_ne]; exact hpa
              clear her hyx hform hpa HFI HFO HE0
              go_wp2_with (first
                | (refine bodyPost_ret (results_row2 rfl _ _ fb zF rfl HBK.out rfl Tryd.underlying36 (by rw [iFr]; rfl)) rfl ?_; exact ⟨congrArg Ending.returned HOV.out.symm, below_grown S9.out.bel HGR.out S9.out.bel.size (by have := HFE.out; omega)⟩)
                | (refine wpList_load_secG (by rfl) _ rfl w8.heap.size 0 rfl y r9.out ?_)
                | (refine wpList_load_secG (by rfl) _ rfl b 0 rfl x rx9.out ?_)
                | (refine wpList_store_sec rfl _ _ rfl rfl w8.heap.size y rfl rfl z HZ8.out ?_; intro w9 hb9 hg9; have hbe9 : Below w8.heap.size w8 w9 := HA8.out.grown hg9 HA8.out.size (fun k hk => by cases hk; exact Nat.le_refl _); have S9 := Lib.hid (S8.out.below hbe9); have HB9 := Lib.hid (HB8.out.below hbe9 HB8.out.lt); have r9 := Lib.hid (Blk.range hb9); have rx9 := Lib.hid (HRG.out _ S9.out.sec); clear hb9 hg9 hbe9; obtain ⟨a0, b0, a1, b1, a2, b2, HBK, HGR⟩ := fr_store S9.out.res (.int .i64 0) (.int .u32 0) (.string ⟨#[]⟩)))
          · have hform : ¬ formed x.1 := fun h => hyx (HFI.out.2 h).2
            have HOV : Hid (opV at' x.1 = .tuple #[.agg zF, .int .i64 6]) := opV_bad (HE0.out.2.1 HSUM.out hform) (by omega)
            have hd : (er != 0) = false := by rw [bne_eq_false_iff_eq]; exact her
            have hne : ∀ w, (binOp .neq 38 (.agg (secC y).toArray) (.agg (secC x).toArray)).run Tryd.prog w = .ok (.bool true) w := fun w => by rw [neq_sec, decide_eq_false hyx]; rfl
            clear her hyx hform HFI HFO HE0
            go_wp2_with (first
              | (refine bodyPost_ret (results_row2 rfl _ _ fb zF rfl HBK.out rfl Tryd.underlying36 (by rw [iFr]; rfl)) rfl ?_; exact ⟨congrArg Ending.returned HOV.out.symm, below_grown S9.out.bel HGR.out S9.out.bel.size (by have := HFE.out; omega)⟩)
              | (refine wpList_load_secG (by rfl) _ rfl w8.heap.size 0 rfl y r9.out ?_)
              | (refine wpList_load_secG (by rfl) _ rfl b 0 rfl x rx9.out ?_)
              | (refine wpList_store_sec rfl _ _ rfl rfl w8.heap.size y rfl rfl z HZ8.out ?_; intro w9 hb9 hg9; have hbe9 : Below w8.heap.size w8 w9 := HA8.out.grown hg9 HA8.out.size (fun k hk => by cases hk; exact Nat.le_refl _); have S9 := Lib.hid (S8.out.below hbe9); have HB9 := Lib.hid (HB8.out.below hbe9 HB8.out.lt); have r9 := Lib.hid (Blk.range hb9); have rx9 := Lib.hid (HRG.out _ S9.out.sec); clear hb9 hg9 hbe9; obtain ⟨a0, b0, a1, b1, a2, b2, HBK, HGR⟩ := fr_store S9.out.res (.int .i64 0) (.int .u32 0) (.string ⟨#[]⟩)))
        · have hform : ¬ formed x.1 := fun h => her (HFI.out.2 h).1
          have HOV : Hid (opV at' x.1 = .tuple #[.agg zF, .int .i64 6]) := opV_bad (HE0.out.2.1 HSUM.out hform) (by omega)
          have hd : (er != 0) = true := by rw [bne_iff_ne]; exact her
          clear her hform HFI HFO HE0
          go_wp2_with (first
            | (refine bodyPost_ret (results_row2 rfl _ _ fb zF rfl HBK.out rfl Tryd.underlying36 (by rw [iFr]; rfl)) rfl ?_; exact ⟨congrArg Ending.returned HOV.out.symm, below_grown S9.out.bel HGR.out S9.out.bel.size (by have := HFE.out; omega)⟩)
            | (refine wpList_store_sec rfl _ _ rfl rfl w8.heap.size y rfl rfl z HZ8.out ?_; intro w9 hb9 hg9; have hbe9 : Below w8.heap.size w8 w9 := HA8.out.grown hg9 HA8.out.size (fun k hk => by cases hk; exact Nat.le_refl _); have S9 := Lib.hid (S8.out.below hbe9); have HB9 := Lib.hid (HB8.out.below hbe9 HB8.out.lt); have r9 := Lib.hid (Blk.range hb9); have rx9 := Lib.hid (HRG.out _ S9.out.sec); clear hb9 hg9 hbe9; obtain ⟨a0, b0, a1, b1, a2, b2, HBK, HGR⟩ := fr_store S9.out.res (.int .i64 0) (.int .u32 0) (.string ⟨#[]⟩)))
end Go.Proofs.YtiddbdjcdoiloaaDoor
