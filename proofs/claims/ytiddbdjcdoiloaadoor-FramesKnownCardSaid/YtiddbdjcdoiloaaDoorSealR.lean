/- The contract of Seal of package frames: the walk. Conditions: the table of half bytes, numbers of 32 bits. -/
import Derived.Test.YtiddbdjcdoiloaaDoorSealP
namespace Go.Proofs.YtiddbdjcdoiloaaDoor
open Go.RowKit Fm

theorem seE_long {at' kind : Int} {n : Nat} (h : ¬ (at' < 0 ∨ 256 ≤ at' ∨ kind < 1 ∨ 255 < kind)) (hn : 112 < n) : seE at' kind n = 3 := by unfold seE; rw [if_neg h, if_pos hn]
theorem seE_ok {at' kind : Int} {n : Nat} (h : ¬ (at' < 0 ∨ 256 ≤ at' ∨ kind < 1 ∨ 255 < kind)) (hn : ¬ 112 < n) : seE at' kind n = 0 := by unfold seE; rw [if_neg h, if_neg hn]
theorem sealR_bad {at' kind : Int} {seq : Nat} {data : List UInt8} (h : seE at' kind data.length ≠ 0) : sealR at' kind seq data = Dv.zeroS := by unfold sealR; rw [dif_neg h]
set_option maxRecDepth 100000 in
set_option maxHeartbeats 1000000 in
theorem seal_bad (w : World) (at' kind : Int) (seq : Nat) (s : ByteArray) (h : seE at' kind s.data.toList.length ≠ 0) :
    Calls Tryd.prog 23 #[.int .i64 at', .int .i64 kind, .int .u32 (seq : Int), .string s] w fun e w' => e = .returned (.tuple #[secV (sealR at' kind seq s.data.toList), .int .i64 (seE at' kind s.data.toList.length)]) ∧ Below w.heap.size w w' := by
  rw [sealR_bad h]
  obtain ⟨z, hzz, hz, hbz⟩ := zero_gen
  rw [← hzz.out]
  have HB0 : Hid (Below w.heap.size w (w.alloc (.cells (secC z).toArray 38))) := (Below.refl _ _).alloc (Nat.le_refl _) _
  have HBL := Lib.hid (Blk.new w (secC z).toArray 38)
  have HP := Lib.hid (fun W => isPlace_any W at')
  have HK := Lib.hid (fun W => isKind_any W kind)
  have hsz : s.data.toList.length = s.size := by simp
  rw [hsz] at h ⊢
  clear hzz hsz
  by_cases h1 : 0 ≤ at' ∧ at' < 256
  · by_cases h2 : 1 ≤ kind ∧ kind ≤ 255
    · have hr : ¬ (at' < 0 ∨ 256 ≤ at' ∨ kind < 1 ∨ 255 < kind) := by omega
      by_cases h3 : 112 < s.size
      · rw [seE_long hr h3]
        have HP1 : Hid (∀ W, Calls Tryd.prog 48 #[.int .i64 at'] W fun e w' => e = .returned (.bool true) ∧ W = w') := fun W => by have := HP.out W; rw [decide_eq_true h1] at this; exact this
        have HK1 : Hid (∀ W, Calls Tryd.prog 49 #[.int .i64 kind] W fun e w' => e = .returned (.bool true) ∧ W = w') := fun W => by have := HK.out W; rw [decide_eq_true h2] at this; exact this
        have h3I : (112 : Int) < (s.size : Int) := by omega
        clear HP HK h1 h2 hr h h3
        go_enter Tryd.func23, Tryd.ntmps23
        go_wp2_with fail
        refine (HP1.out _).mono ?_
        rintro e w' ⟨rfl, rfl⟩
        go_wp2_with fail
        refine (HK1.out _).mono ?_
        rintro e w' ⟨rfl, rfl⟩
        go_wp2_with (first
          | (refine bodyPost_ret (results_sec2 rfl _ _ w.heap.size z rfl hb9) rfl ?_; exact ⟨rfl, HB0.out.grown hg9 (by simp) (fun k hk => by cases hk; exact Nat.le_refl _)⟩)
          | (refine wpList_buildTo rfl 38 #[] rfl (some 24) rfl (secC z).toArray (by simp [hbz]) ?_)
          | (refine wpList_store_sec rfl (.tmp 8) (.tmp 24) rfl rfl w.heap.size z rfl rfl z HBL.out ?_; intro w9 hb9 hg9))
      · exact absurd (seE_ok hr h3) h
    · have HP1 : Hid (∀ W, Calls Tryd.prog 48 #[.int .i64 at'] W fun e w' => e = .returned (.bool true) ∧ W = w') := fun W => by have := HP.out W; rw [decide_eq_true h1] at this; exact this
      have HK1 : Hid (∀ W, Calls Tryd.prog 49 #[.int .i64 kind] W fun e w' => e = .returned (.bool false) ∧ W = w') := fun W => by have := HK.out W; rw [decide_eq_false h2] at this; exact this
      have HE : seE at' kind s.size = 7 := by unfold seE; rw [if_pos (by omega)]
      rw [HE]
      clear HP HK h1 h2 h HE
      go_enter Tryd.func23, Tryd.ntmps23
      go_wp2_with fail
      refine (HP1.out _).mono ?_
      rintro e w' ⟨rfl, rfl⟩
      go_wp2_with fail
      refine (HK1.out _).mono ?_
      rintro e w' ⟨rfl, rfl⟩
      go_wp2_with (first
        | (refine bodyPost_ret (results_sec2 rfl _ _ w.heap.size z rfl hb9) rfl ?_; exact ⟨rfl, HB0.out.grown hg9 (by simp) (fun k hk => by cases hk; exact Nat.le_refl _)⟩)
        | (refine wpList_buildTo rfl 38 #[] rfl (some 19) rfl (secC z).toArray (by simp [hbz]) ?_)
        | (refine wpList_store_sec rfl (.tmp 8) (.tmp 19) rfl rfl w.heap.size z rfl rfl z HBL.out ?_; intro w9 hb9 hg9))
  · have HP1 : Hid (∀ W, Calls Tryd.prog 48 #[.int .i64 at'] W fun e w' => e = .returned (.bool false) ∧ W = w') := fun W => by have := HP.out W; rw [decide_eq_false h1] at this; exact this
    have HE : seE at' kind s.size = 7 := by unfold seE; rw [if_pos (by omega)]
    rw [HE]
    clear HP HK h1 h HE
    go_enter Tryd.func23, Tryd.ntmps23
    go_wp2_with fail
    refine (HP1.out _).mono ?_
    rintro e w' ⟨rfl, rfl⟩
    go_wp2_with (first
      | (refine bodyPost_ret (results_sec2 rfl _ _ w.heap.size z rfl hb9) rfl ?_; exact ⟨rfl, HB0.out.grown hg9 (by simp) (fun k hk => by cases hk; exact Nat.le_refl _)⟩)
      | (refine wpList_buildTo rfl 38 #[] rfl (some 19) rfl (secC z).toArray (by simp [hbz]) ?_)
      | (refine wpList_store_sec rfl (.tmp 8) (.tmp 19) rfl rfl w.heap.size z rfl rfl z HBL.out ?_; intro w9 hb9 hg9))
set_option maxRecDepth 100000 in
set_option maxHeartbeats 4000000 in
theorem seal_ok (w : World) (at' kind seq : Nat) (s : ByteArray) (hT : TB w) (ha : at' < 256) (hk1 : 1 ≤ kind) (hk2 : kind ≤ 255) (hs : s.size ≤ 112) (hsd : s.data.toList.length ≤ 112) :
    Calls Tryd.prog 23 #[.int .i64 (at' : Int), .int .i64 (kind : Int), .int .u32 (seq : Int), .string s] w fun e w' => e = .returned (.tuple #[secV (sealS (at' : Int) (kind : Int) seq s.data.toList hsd), .int .i64 0]) ∧ Below w.heap.size w w' := by
  obtain ⟨z, hzz, hz, hbz⟩ := zero_gen
  have HP1 : Hid (∀ W, Calls Tryd.prog 48 #[.int .i64 (at' : Int)] W fun e w' => e = .returned (.bool true) ∧ W = w') := fun W => by have := isPlace_any W (at' : Int); rw [decide_eq_true (by omega)] at this; exact this
  have HK1 : Hid (∀ W, Calls Tryd.prog 49 #[.int .i64 (kind : Int)] W fun e w' => e = .returned (.bool true) ∧ W = w') := fun W => by have := isKind_any W (kind : Int); rw [decide_eq_true (by omega)] at this; exact this
  obtain ⟨w2, hw2⟩ : ∃ w2, w2 = (w.alloc (.cells (secC z).toArray 38)).alloc (.cells (secC z).toArray 38) := ⟨_, rfl⟩
  have HB2 : Hid (Below w.heap.size w w2) := by rw [hw2]; exact ((Below.refl _ _).alloc (Nat.le_refl _) _).alloc (by simp) _
  have HR2 : Hid (Blk w2 w.heap.size (secC z).toArray 38) := by rw [hw2]; exact (Blk.new w _ _).below ((Below.refl _ _).alloc (Nat.le_refl _) _) (by simp)
  have HS2 : Hid (ByB w2 (w.heap.size + 1) z0) := by
    have := Blk.new (w.alloc (.cells (secC z).toArray 38)) (secC z).toArray 38
    rw [show (w.alloc (.cells (secC z).toArray 38)).heap.size = w.heap.size + 1 by simp, ← hw2, hzz.out, secC_zero] at this; exact this
  have h3I : ¬ (112 : Int) < (s.size : Int) := by omega
  have HT2 := Lib.hid (hT.below HB2.out hT.lt)
  obtain ⟨x, hx⟩ : ∃ x, x = sealS (at' : Int) (kind : Int) seq s.data.toList hsd := ⟨_, rfl⟩
  obtain ⟨d, hd⟩ : ∃ d, d = s.data.toList := ⟨_, rfl⟩
  have HX : Hid (x.1 = b7 at' ⟨kind, seq, d⟩) := by rw [b7_form at' ⟨kind, seq, d⟩ (by rw [hd]; exact hsd), hx, hd]; rfl
  have HDS : Hid (d.length = s.size) := by rw [hd]; simp [Hid]
  have HDE := Lib.hid hd
  rw [← hx]
  have hd112 : d.length ≤ 112 := by rw [hd]; exact hsd
  clear hx hsd hT hd
  go_enter Tryd.func23, Tryd.ntmps23
  go_wp2_with fail
  refine (HP1.out _).mono ?_
  rintro e w' ⟨rfl, rfl⟩
  go_wp2_with fail
  refine (HK1.out _).mono ?_
  rintro e w' ⟨rfl, rfl⟩
  go_wp2_with fail
  rw [← hw2]
  clear hw2 HP1 HK1
  refine (partsOf_any w2 (w.heap.size + 1)).mono ?_
  rintro e w3 ⟨p0, p1, p2, p3, p4, p5, rfl, hpa, hb3⟩
  have HB3 := Lib.hid hb3
  have HPA := Lib.hid hpa
  have HN3 : Hid (Blk (w3.alloc (.cells #[.nilFunc, .nilFunc, .nilFunc, .nilFunc, .nilFunc, .nilFunc, .nilFunc, .nilFunc, .nilFunc, .nilFunc, .nilFunc, .nilFunc, .slice none 0 0, .slice none 0 0] 92)) w3.heap.size zeroP 92) := Blk.new w3 _ _
  have hsz2 := HB2.out.size
  have hsz3 := hb3.size
  clear hb3 hpa
  obtain ⟨q, hqq⟩ : ∃ q, q = w3.heap.size := ⟨_, rfl⟩
  obtain ⟨w4, hw4⟩ : ∃ w4, w4 = (w3.alloc (.cells #[.nilFunc, .nilFunc, .nilFunc, .nilFunc, .nilFunc, .nilFunc, .nilFunc, .nilFunc, .nilFunc, .nilFunc, .nilFunc, .nilFunc, .slice none 0 0, .slice none 0 0] 92)).setRow q (partC (w.heap.size + 1) p0 p1 p2 p3 p4 p5) := ⟨_, rfl⟩
  have S4 : Hid (SP w w4 w.heap.size (w.heap.size + 1) q p0 p1 p2 p3 p4 p5 z0) := by
    have hal : Below w3.heap.size w3 (w3.alloc (.cells #[.nilFunc, .nilFunc, .nilFunc, .nilFunc, .nilFunc, .nilFunc, .nilFunc, .nilFunc, .nilFunc, .nilFunc, .nilFunc, .nilFunc, .slice none 0 0, .slice none 0 0] 92)) := (Below.refl _ _).alloc (Nat.le_refl _) _
    have hg := grown_setRow (w := w3.alloc (.cells #[.nilFunc, .nilFunc, .nilFunc, .nilFunc, .nilFunc, .nilFunc, .nilFunc, .nilFunc, .nilFunc, .nilFunc, .nilFunc, .nilFunc, .slice none 0 0, .slice none 0 0] 92)) (g := q) (partC (w.heap.size + 1) p0 p1 p2 p3 p4 p5)
    rw [← hw4] at hg
    have hb4 : Below w3.heap.size w3 w4 := below_grown hal hg hal.size (by rw [hqq]; exact Nat.le_refl _)
    have hp := HPA.out
    have h2 := HB3.out.trans (hb4.mono HB3.out.size)
    exact ⟨HT2.out.below h2 HT2.out.lt, Blk.below HS2.out h2 (Blk.lt HS2.out), by rw [hw4]; exact setRow_of (by rw [hqq]; exact HN3.out) _, ⟨hp.c0.below hb4 hp.c0.lt, hp.c1.below hb4 hp.c1.lt, hp.c2.below hb4 hp.c2.lt, hp.c3.below hb4 hp.c3.lt, hp.c4.below hb4 hp.c4.lt, hp.c5.below hb4 hp.c5.lt⟩, by rw [← hzz.out]; exact HR2.out.below h2 HR2.out.lt, HB2.out.trans (h2.mono HB2.out.size), by omega, by omega, by omega⟩
  have HN3' : Hid (Blk (w3.alloc (.cells #[.nilFunc, .nilFunc, .nilFunc, .nilFunc, .nilFunc, .nilFunc, .nilFunc, .nilFunc, .nilFunc, .nilFunc, .nilFunc, .nilFunc, .slice none 0 0, .slice none 0 0] 92)) q zeroP 92) := by rw [hqq]; exact HN3.out
  have c4 := par_w0 S4.out.par
  have HW4 := Lib.hid hw4
  have HQQ := Lib.hid hqq
  clear hqq hw4 HN3
  go_wp2_with (first
    | (refine wpList_store_row rfl 92 (.tmp 11) (.tmp 25) rfl q (partC (w.heap.size + 1) p0 p1 p2 p3 p4 p5) (by rw [HQQ.out]; rfl) rfl 92 _ HN3'.out (by rw [iParts]; rfl) rfl (partC_one _ _ _ _ _ _ _) ?_; rw [← HW4.out, ← HQQ.out]))
  refine (S4.out.write z0_len p0 0 1 76 S4.out.pat.c0 (by omega) (by omega)).mono ?_
  rintro e w5 ⟨rfl, hsp⟩
  have S5 : Hid (SP w w5 w.heap.size (w.heap.size + 1) q p0 p1 p2 p3 p4 p5 b1) := hsp
  clear hsp c4
  have c5 := par_w1 S5.out.par
  go_wp2_with fail
  refine (S5.out.write b1_len p1 1 1 kind S5.out.pat.c1 (by omega) (by omega)).mono ?_
  rintro e w6 ⟨rfl, hsp⟩
  have S6 : Hid (SP w w6 w.heap.size (w.heap.size + 1) q p0 p1 p2 p3 p4 p5 (b2 kind)) := hsp
  clear hsp c5
  have c6 := par_w2 S6.out.par
  go_wp2_with fail
  refine (S6.out.write (b2_len kind) p2 2 1 s.size S6.out.pat.c2 (by omega) (by omega)).mono ?_
  rintro e w7 ⟨rfl, hsp⟩
  have S7 : Hid (SP w w7 w.heap.size (w.heap.size + 1) q p0 p1 p2 p3 p4 p5 (b3 kind s.size)) := hsp
  clear hsp c6
  have c7 := par_w3 S7.out.par
  go_wp2_with fail
  refine (S7.out.write (b3_len kind s.size) p3 4 4 seq S7.out.pat.c3 (by omega) (by omega)).mono ?_
  rintro e w8 ⟨rfl, hsp⟩
  have S8 : Hid (SP w w8 w.heap.size (w.heap.size + 1) q p0 p1 p2 p3 p4 p5 (b4 kind s.size seq)) := hsp
  clear hsp c7
  have c8 := par_d S8.out.par
  obtain ⟨w9, hcp, S9⟩ : ∃ w9, (Builtin.copy_ #[22, 9] 3 #[.slice (some ⟨w.heap.size + 1, 8, none⟩) 112 112, .string s]).run Tryd.prog w8 = .ok (goInt s.size) w9 ∧ Hid (SP w w9 w.heap.size (w.heap.size + 1) q p0 p1 p2 p3 p4 p5 (b5 ⟨kind, seq, d⟩)) := by
    have hlen : (b4 kind s.size seq).length = 128 := b4_len _ _ _
    have hsec := S8.out.sec
    refine ⟨_, Go.run_copy_string w8 _ _ _ 5 (w.heap.size + 1) 8 112 112 s Tryd.underlying22 (fun _ => by kernel_rfl) hs (fun j hj => by rw [hsec.cell (8 + j) (by omega)]; rfl) (fun j _ => hsec.free _), ?_⟩
    have h1 := ByB.setCells (w.heap.size + 1) d 8 w8 _ hsec (by rw [hlen]; omega)
    have h2 := S8.out.grown h1 (grown_setCells' w8 (w.heap.size + 1) 8 (d.map encB))
    rw [← HDE.out]
    rw [← HDS.out] at h2
    exact h2
  have c9 := par_w4 S9.out.par
  go_wp2_with fail
  refine (S9.out.write (b5_len ⟨kind, seq, d⟩ hd112) p4 120 4 at' S9.out.pat.c4 (by omega) (by omega)).mono ?_
  rintro e w10 ⟨rfl, hsp⟩
  have S10 : Hid (SP w w10 w.heap.size (w.heap.size + 1) q p0 p1 p2 p3 p4 p5 (b6 at' ⟨kind, seq, d⟩)) := hsp
  clear hsp c9 c8 hcp
  go_wp2_with fail
  refine wp_region_held_drew (S := fun W => Blk W q (partC (w.heap.size + 1) p0 p1 p2 p3 p4 p5) 92) (by kernel_rfl) S10.out.par (fun hHeld => ?_)
  refine wpAnyH_take (i := 0) (v := ?_) rfl (by kernel_rfl) (by kernel_rfl) (by kernel_rfl) (fun _ _ _ h => h) (Or.inl ⟨by rfl, ?_⟩) (by assumption) ?_
  rotate_left
  · intro w' hSw
    go_simp
    try with_reducible rfl
  try simp only [Act.put]
  try simp only [List.setIfInBounds_toArray]
  try simp only [List.set_cons_succ]
  try simp only [List.set_cons_zero]
  refine wpAnyH_take (i := 1) (v := ?_) rfl (by kernel_rfl) (by kernel_rfl) (by kernel_rfl) (fun _ _ _ h => h) (Or.inl ⟨by rfl, ?_⟩) (by assumption) ?_
  rotate_left
  · intro w' hSw
    go_simp
    try with_reducible rfl
  try simp only [Act.put]
  try simp only [List.setIfInBounds_toArray]
  try simp only [List.set_cons_succ]
  try simp only [List.set_cons_zero]
  refine wpAnyH_take (i := 2) (v := ?_) rfl (by kernel_rfl) (by kernel_rfl) (by kernel_rfl) (fun _ _ _ h => h) (Or.inl ⟨by rfl, ?_⟩) (by assumption) ?_
  rotate_left
  · intro w' hSw
    have cc := par_w5 hSw; go_simp
    try with_reducible rfl
  try simp only [Act.put]
  try simp only [List.setIfInBounds_toArray]
  try simp only [List.set_cons_succ]
  try simp only [List.set_cons_zero]
  refine wpAnyH_take (i := 3) rfl (by kernel_rfl) (by kernel_rfl) (by kernel_rfl) (fun _ _ _ h => h) (yieldsIf_load_mid (by rfl) _ _ rfl q 0 rfl (partC (w.heap.size + 1) p0 p1 p2 p3 p4 p5).toList _ (fun _ h => Blk.range h) Tryd.underlying92 rfl (by rw [iParts]; rfl)) (by assumption) ?_
  try simp only [Act.put]
  try simp only [List.setIfInBounds_toArray]
  try simp only [List.set_cons_succ]
  try simp only [List.set_cons_zero]
  refine wpAnyH_ready (rs := [4]) (by kernel_rfl) (by simp) ?_
  refine AllReadyH.cons rfl (fun K hK => ?_) AllReadyH.nil
  go_simp
  refine (crcM_any _ (w.heap.size + 1) p0 p1 p2 p3 p4 p5 (b6 at' ⟨kind, seq, d⟩) (S10.out.tb.drewN 1) S10.out.sec (b6_len at' ⟨kind, seq, d⟩ hd112)).mono ?_
  rintro e w11 ⟨rfl, hb11⟩
  have S11 : Hid (SP w w11 w.heap.size (w.heap.size + 1) q p0 p1 p2 p3 p4 p5 (b6 at' ⟨kind, seq, d⟩)) := S10.out.below (below_undrew hb11)
  clear hb11
  refine hK.out _ _ S11.out.par (fun hHeld => ?_)
  clear hK K
  try simp only [Act.put]
  try simp only [List.setIfInBounds_toArray]
  try simp only [List.set_cons_succ]
  try simp only [List.set_cons_zero]
  refine wpAnyH_ready (rs := [5]) (by kernel_rfl) (by simp) ?_
  refine AllReadyH.cons rfl (fun K hK => ?_) AllReadyH.nil
  go_simp
  refine (S11.out.write (b6_len at' ⟨kind, seq, d⟩ hd112) p5 124 4 (Cm.crc ((b6 at' ⟨kind, seq, d⟩).take 124)) S11.out.pat.c5 (by omega) (by omega)).mono ?_
  rintro e w12 ⟨rfl, hsp⟩
  have S12 : Hid (SP w w12 w.heap.size (w.heap.size + 1) q p0 p1 p2 p3 p4 p5 (b7 at' ⟨kind, seq, d⟩)) := hsp
  clear hsp
  refine hK.out _ _ S12.out.par (fun hHeld => ?_)
  clear hK K
  try simp only [Act.put]
  try simp only [List.setIfInBounds_toArray]
  try simp only [List.set_cons_succ]
  try simp only [List.set_cons_zero]
  refine wpAnyH_done (by kernel_rfl) ?_ _
  have hsx : Hid (Blk w12 (w.heap.size + 1) (secC x).toArray 38) := by have h := S12.out.sec; rw [← HX.out] at h; exact h
  have hrg := Lib.hid (Blk.range hsx.out)
  have hres := Lib.hid S12.out.res
  go_wp2_with (first
    | (refine bodyPost_ret (results_sec2 rfl _ _ w.heap.size x rfl hb13) rfl ?_; exact ⟨rfl, below_grown S12.out.bel hg13 S12.out.bel.size (Nat.le_refl _)⟩)
    | (refine wpList_load_mid rfl 38 _ rfl (w.heap.size + 1) 0 rfl (secC x) _ hrg.out uSec rfl (by rw [iSec, secC_len]) ?_)
    | (refine wpList_store_sec rfl _ _ rfl rfl w.heap.size x rfl rfl Dv.zeroS hres.out ?_; intro w13 hb13 hg13))
theorem seal_any (w : World) (at' kind : Int) (seq : Nat) (s : ByteArray) (hT : TB w) :
    Calls Tryd.prog 23 #[.int .i64 at', .int .i64 kind, .int .u32 (seq : Int), .string s] w fun e w' => e = .returned (.tuple #[secV (sealR at' kind seq s.data.toList), .int .i64 (seE at' kind s.data.toList.length)]) ∧ Below w.heap.size w w' := by
  by_cases h : seE at' kind s.data.toList.length = 0
  · have hr : (0 ≤ at' ∧ at' < 256) ∧ (1 ≤ kind ∧ kind ≤ 255) ∧ s.data.toList.length ≤ 112 := by
      unfold seE at h
      split at h
      · omega
      · split at h
        · omega
        · omega
    obtain ⟨n, rfl⟩ : ∃ n : Nat, at' = (n : Int) := ⟨at'.toNat, by omega⟩
    obtain ⟨k, rfl⟩ : ∃ k : Nat, kind = (k : Int) := ⟨kind.toNat, by omega⟩
    have hsz : s.data.toList.length = s.size := by simp
    have he : sealR (n : Int) (k : Int) seq s.data.toList = sealS (n : Int) (k : Int) seq s.data.toList hr.2.2 := by unfold sealR; rw [dif_pos h]
    rw [he, h]
    exact seal_ok w n k seq s hT (by omega) (by omega) (by omega) (by omega) hr.2.2
  · exact seal_bad w at' kind seq s h
end Go.Proofs.YtiddbdjcdoiloaaDoor
