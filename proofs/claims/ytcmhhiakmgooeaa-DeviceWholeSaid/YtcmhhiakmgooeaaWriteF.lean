/- The contract of Write that is taken, the cache full. Condition: a device in memory, a sector that there is, power. -/
import Derived.Test.YtcmhhiakmgooeaaWrite
namespace Go.Proofs.Ytcmhhiakmgooeaa
open Go.RowKit Go.Maps

set_option maxRecDepth 100000 in
set_option maxHeartbeats 8000000 in
theorem write_full {w : World} {b g c m : Nat} {cv : Value} {s : Dv.S} (M : DevR w b g c cv m s) (n : Nat) (x : Dv.Sec) (hn : n < s.st.length) (hoff : s.off = false) (hsp : Dv.spent s = false) (hfull : s.ca.length = 400) :
    Calls Try.prog 24 #[.pointer (some ⟨b, 0, none⟩), .int .i64 (n : Int), secV x] w fun e w' => e = .returned (.int .i64 0) ∧ ∃ cv', DevR w' b g c cv' m (Dv.added s n x) ∧ Fr w w' (foot b g cv m) ∧ ∀ i ∈ foot b g cv' m, i ∈ foot b g cv m ∨ w.heap.size ≤ i := by
  have HB0 : Hid (Below w.heap.size w (w.alloc (.cells (secC x).toArray 58))) := (Below.refl _ _).alloc (Nat.le_refl _) _
  have M1 := M.below HB0.out
  have HC := Lib.hid (checkSector_any M1 (n : Int))
  rw [secE_ok hoff hn] at HC
  have h2 := M1.c2
  have h3 := M1.c3
  have h4 := M1.c4
  have hvx : secV x = .agg (secC x).toArray := rfl
  rw [hvx]
  have hsp2 : s.pw ≠ 0 ∧ s.tk ≠ 1000000000000 := by unfold Dv.spent at hsp; simp at hsp; exact hsp
  have hd0 : (s.pw == 0) = false := by rw [beq_eq_false_iff_ne]; exact hsp2.1
  have hd1 : ((s.tk : Int) == 1000000000000) = false := by rw [beq_eq_false_iff_ne]; have := hsp2.2; omega
  have HOK := Lib.hid M.ok
  have HM := Lib.hid M
  have HM1 := Lib.hid M1
  have hca := M.ok.ca
  have HP5 := Lib.hid (Blk.new w (secC x).toArray 58)
  have HSP := Lib.hid hsp
  obtain ⟨A, cc, rfl⟩ := M.cch.cv.form
  clear hvx M M1 hsp hsp2
  have hd2 : ((s.ca.length : Int) == 400) = true := by rw [beq_iff_eq]; omega
  have HSE := Lib.hid (settle_any HM1.out (.slice A s.ca.length cc) s.ca HM1.out.cch.cv HM1.out.ok.at_ (by omega))
  have HFULL := Lib.hid hfull
  clear hfull
  go_enter Try.func24, Try.ntmps24
  go_wp2_with fail
  refine HC.out.mono ?_
  rintro e w' ⟨rfl, rfl⟩
  go_wp2_with fail
  refine HSE.out.mono ?_
  rintro e w1 ⟨rfl, hdv, hf⟩
  have HDV := Lib.hid hdv
  have HF1 : Hid (Fr w w1 (foot b g (.slice A s.ca.length cc) m)) := (Fr.of_below HB0.out _).trans hf (fun i hi => .inl (by simp at hi; rcases hi with rfl | rfl | rfl <;> simp [foot]))
  have HP1 : Hid (Blk w1 w.heap.size (secC x).toArray 58) := hf.blk HP5.out (fun hm => by
    have h5 := HP5.out
    simp at hm
    rcases hm with e | e | e
    · rw [e] at h5
      have := Option.some.inj (h5.symm.trans HM1.out.blk)
      injection this with _ h3; exact absurd h3 (by decide)
    · have := HM.out.stb.lt; omega
    · obtain ⟨es, ck, hmm⟩ := HM1.out.mapBlk
      rw [← e] at hmm
      exact Obj.noConfusion (Option.some.inj (hmm.symm.trans h5)))
  clear hdv hf HSE
  go_wp2_with fail
  obtain ⟨s1, hs1⟩ : ∃ s1, s1 = Dv.settle s s.ca := ⟨_, rfl⟩
  have HS1 : Hid (s1.st.length = s.st.length ∧ s1.tk = s.tk ∧ Dv.added s n x = { s1 with ca := s1.ca ++ [(n, x)], tk := s1.tk + 1, pw := if 0 < s1.pw then s1.pw - 1 else s1.pw }) := by
    rw [hs1]; refine ⟨Dv.put_length _ _, rfl, ?_⟩; unfold Dv.added; simp only [HFULL.out, if_true]; rfl
  have hl4 : s1.ca.length < 400 := by rw [hs1]; show 0 < 400; omega
  obtain ⟨A1, cc1, HM2, HFT⟩ : ∃ A1 cc1, Hid (DevR w1 b g c (.slice A1 s1.ca.length cc1) m s1) ∧ Hid (∀ v : Value, v.ownBlock = (Value.slice A1 s1.ca.length cc1).ownBlock ∨ v.ownBlock = none ∨ (∃ k, v.ownBlock = some k ∧ w.heap.size ≤ k) → ∀ i ∈ foot b g v m, i ∈ foot b g (.slice A s.ca.length cc) m ∨ w.heap.size ≤ i) := by
    refine ⟨none, 0, by rw [hs1]; exact HDV.out, ?_⟩
    intro v hv i hi
    rcases foot_mem.1 hi with h | h | h | h
    · exact .inl (foot_mem.2 (.inl h))
    · exact .inl (foot_mem.2 (.inr (.inl h)))
    · exact .inl (foot_mem.2 (.inr (.inr (.inl h))))
    · rcases hv with hv | hv | ⟨k, hv, hk⟩
      · rw [hv] at h; cases h
      · rw [hv] at h; cases h
      · rw [hv] at h; cases h; exact .inr hk
  clear hs1 HM1 HP5 HC HDV h2 h3 h4 hd0 hd1 hd2
  have hok1 := HM2.out.ok
  have hlen := HS1.out.1
  have hwf : (Lit.int .i64 (n : Int)).wf = true := wfI64 (by omega) (by have := hok1.hi; omega)
  have hwl : (Lit.int .i64 (s1.ca.length : Int)).wf = true := wfI64 (by omega) (by omega)
  obtain ⟨D, hD, hN⟩ := HM2.out.nw
  have HD := Lib.hid hD
  have HN := Lib.hid hN
  obtain ⟨wd, hwd⟩ : ∃ wd, wd = w1.drew := ⟨_, rfl⟩
  have MD1 : DevR wd b g c (.slice A1 s1.ca.length cc1) m s1 := by rw [hwd]; exact HM2.out.drewN 1
  have HPD : Hid (Blk wd w.heap.size (secC x).toArray 58) := by rw [hwd]; exact HP1.out
  have HDD : Hid (wd.ownsMap Try.prog 3 pl m s1.ca.length D) := by rw [hwd]; exact HD.out
  have HFD : Hid (Fr w wd (foot b g (.slice A s.ca.length cc) m)) := by rw [hwd]; exact HF1.out.drewN 1
  have q2 := MD1.c2
  have q6 := MD1.c6
  have HMD := Lib.hid MD1
  refine wp_region_still_tail 11 (by kernel_rfl) (by kernel_rfl) ?_
  change wpStill _ _ w1.drew (fun a' => wpList _ _ _ _ a' w1.drew) _ _
  rw [← hwd]
  clear hwd MD1 hD hN hok1 HM2 HP1 HD HF1
  simp only [List.take_succ_cons, List.take_zero, List.drop_succ_cons, List.drop_zero]
  repeat still_step
  refine wpStill_nil ?_
  go_wp2_with (refine wpList_mapUpdate_own _ rfl _ _ _ 67 rfl 3 3 intLaw uMap _ m _ D rfl HDD.out (by unfold maxLen; omega) _ _ _ rfl rfl (keyOf_int_mk Try.underlying3 hwf) _ [] (plainElem_int Try.underlying3 hwl) ?_; intro w2 hm2 hg2)
  have hbk := HMD.out.blk.grown hg2 (fun e => HMD.out.ne_bm (Option.some.inj e))
  have hst := HMD.out.stb.grown hg2 (fun e => HMD.out.ne_gm (Option.some.inj e))
  have hcc : Cch w2 0 (.slice A1 s1.ca.length cc1) s1.ca := World.ownsRow.kept HMD.out.cch hg2 (.inr (fun e => HMD.out.ne_mc e.symm))
  have hp5 : Blk w2 w.heap.size (secC x).toArray 58 := HPD.out.grown hg2 (fun e => by have h1 := HMD.out.ne_gm; have e1 := Option.some.inj e; have := HMD.out.lt (i := m) (by simp [foot]); have h5 := HPD.out; obtain ⟨es, ck, hmm⟩ := HMD.out.mapBlk; rw [← e1] at hmm; exact Obj.noConfusion (Option.some.inj (hmm.symm.trans h5)))
  have hmp : Hid (∃ D : MD, w2.ownsMap Try.prog 3 pl m (s1.ca.length + 1) D ∧ NW D (s1.ca ++ [(n, x)])) := ⟨_, hm2, HN.out.put HDD.out.isMap n x⟩
  have HF2 : Hid (Fr w w2 (foot b g (.slice A s.ca.length cc) m)) := HFD.out.trans (Fr.of_grown (F := [m]) hg2 (by simp)) (fun i hi => .inl (by obtain rfl := List.mem_singleton.1 hi; simp [foot]))
  have HBK := Lib.hid hbk
  have HST := Lib.hid hst
  have HCC := Lib.hid hcc
  have HP2 := Lib.hid hp5
  have hne5 : b ≠ w.heap.size := fun e => by
    have h5 := HPD.out
    rw [← e] at h5
    have := Option.some.inj (h5.symm.trans HMD.out.blk)
    injection this with _ h3; exact absurd h3 (by decide)
  obtain ⟨zc, zm, rg, hbz, hb1, hb2, hb3, hb4, hb5, hb6, hb7⟩ := build_gen n x
  have hws : (wrC (n, x)).toArray.size = 129 := wrC_size _
  have r2 : w2.cell? ⟨b, 2, none⟩ = some (.slice A1 s1.ca.length cc1) := hbk.cell 2 rfl
  have r2d : w2.drew.cell? ⟨b, 2, none⟩ = some (.slice A1 s1.ca.length cc1) := r2
  have hgd : Below w2.heap.size w2 ((w2.alloc (.cells (wrC (n, x)).toArray 80)).drew) := below_drewN ((Below.refl _ _).alloc (Nat.le_refl _) _) 1
  have r2a : ((w2.alloc (.cells (wrC (n, x)).toArray 80)).drew).cell? ⟨b, 2, none⟩ = some (.slice A1 s1.ca.length cc1) := (hbk.below hgd hbk.lt).cell 2 rfl
  have hr5 : w2.drew.rangeAt w.heap.size 0 (secC x) := Blk.range hp5
  have hr5a : ((w2.alloc (.cells (wrC (n, x)).toArray 80)).drew).rangeAt w.heap.size 0 (secC x) := Blk.range (hp5.below hgd hp5.lt)
  have hcca : Hid (Cch ((w2.alloc (.cells (wrC (n, x)).toArray 80)).drew) 0 (.slice A1 s1.ca.length cc1) s1.ca) := (World.ownsRow.alloc hcc _ : (w2.alloc _).ownsRow _ _ _ _ _ _)
  have hnew : Hid (((w2.alloc (.cells (wrC (n, x)).toArray 80)).drew).rangeAt w2.heap.size 0 (wrC (n, x))) := Blk.range (Blk.new w2 _ _)
  have u1 : Try.prog.underlying 58 = some (.array 128 5) := uSec
  have u2 : (Try.prog.info? 58).map (·.size) = some (secC x).length := by rw [iSec, secC_len]
  have u3 : (secC x).length = 128 := secC_len x
  have u4 : ∀ v ∈ secC x, v.oneCell' = true := secC_one x
  clear hbk hst hcc hp5 hm2 hg2 HN q2 q6
  /- region 10 -/
  refine wp_region_held_drew (S := fun w' => w'.rangeAt w.heap.size 0 (secC x)) (by kernel_rfl) hr5 (fun hHeld => ?_)
  refine wpAnyH_take (i := 0) (v := ?_) rfl (by kernel_rfl) (by kernel_rfl) (by kernel_rfl) (fun _ _ _ h => h) (Or.inl ⟨by rfl, ?_⟩) (by assumption) ?_
  rotate_left
  · intro w' hSw
    go_simp
    try with_reducible rfl
  try simp only [Act.put]
  try simp only [List.setIfInBounds_toArray]
  try simp only [List.set_cons_succ]
  try simp only [List.set_cons_zero]
  refine wpAnyH_take (i := 1) (v := ?_) rfl (by kernel_rfl) (by kernel_rfl) (by kernel_rfl) (fun _ _ _ h => h) (Or.inl ⟨by rfl, ?_⟩) (by assumption) ?_
  rotate_left
  · intro w' hSw
    go_simp
    try with_reducible rfl
  try simp only [Act.put]
  try simp only [List.setIfInBounds_toArray]
  try simp only [List.set_cons_succ]
  try simp only [List.set_cons_zero]
  refine wpAnyH_take (i := 2) (v := ?_) rfl (by kernel_rfl) (by kernel_rfl) (by kernel_rfl) (fun _ _ _ h => h) (Or.inl ⟨by rfl, ?_⟩) (by assumption) ?_
  rotate_left
  · intro w' hSw
    go_simp
    try with_reducible rfl
  try simp only [Act.put]
  try simp only [List.setIfInBounds_toArray]
  try simp only [List.set_cons_succ]
  try simp only [List.set_cons_zero]
  refine wpAnyH_take (i := 3) (v := ?_) rfl (by kernel_rfl) (by kernel_rfl) (by kernel_rfl) (fun _ _ _ h => h) (Or.inl ⟨by rfl, ?_⟩) (by assumption) ?_
  rotate_left
  · intro w' hSw
    go_simp
    try with_reducible rfl
  try simp only [Act.put]
  try simp only [List.setIfInBounds_toArray]
  try simp only [List.set_cons_succ]
  try simp only [List.set_cons_zero]
  refine wpAnyH_take (i := 4) (v := ?_) rfl (by kernel_rfl) (by kernel_rfl) (by kernel_rfl) (fun _ _ _ h => h) (Or.inl ⟨by rfl, ?_⟩) (by assumption) ?_
  rotate_left
  · intro w' hSw
    go_simp
    try with_reducible rfl
  try simp only [Act.put]
  try simp only [List.setIfInBounds_toArray]
  try simp only [List.set_cons_succ]
  try simp only [List.set_cons_zero]
  refine wpAnyH_take (i := 6) (v := ?_) rfl (by kernel_rfl) (by kernel_rfl) (by kernel_rfl) (fun _ _ _ h => h) (Or.inl ⟨by rfl, ?_⟩) (by assumption) ?_
  rotate_left
  · intro w' hSw
    go_simp
    try with_reducible rfl
  try simp only [Act.put]
  try simp only [List.setIfInBounds_toArray]
  try simp only [List.set_cons_succ]
  try simp only [List.set_cons_zero]
  refine wpAnyH_take (i := 7) rfl (by kernel_rfl) (by kernel_rfl) (by kernel_rfl) (fun _ _ _ h => h) (yieldsIf_load_mid (by rfl) _ _ rfl w.heap.size 0 rfl (secC x) _ (fun _ h => h) u1 rfl u2) (by assumption) ?_
  try simp only [Act.put]
  try simp only [List.setIfInBounds_toArray]
  try simp only [List.set_cons_succ]
  try simp only [List.set_cons_zero]
  refine wpAnyH_take (i := 8) (v := ?_) rfl (by kernel_rfl) (by kernel_rfl) (by kernel_rfl) (fun _ _ _ h => h) (Or.inl ⟨by rfl, ?_⟩) (by assumption) ?_
  rotate_left
  · intro w' hSw
    go_simp
    try with_reducible rfl
  try simp only [Act.put]
  try simp only [List.setIfInBounds_toArray]
  try simp only [List.set_cons_succ]
  try simp only [List.set_cons_zero]
  refine wpAnyH_ready (rs := [5, 9]) (by kernel_rfl) (by simp) ?_
  refine AllReadyH.cons rfl (fun K hK => ?_) ?_
  case' refine_1 =>
    go_simp
    refine hK.out _ _ hr5 (fun hHeld => ?_)
    clear hK K
    refine wpAnyH_ready (rs := [9]) (by kernel_rfl) (by simp) ?_
    refine AllReadyH.cons rfl (fun K hK => ?_) AllReadyH.nil
    go_simp
    refine hK.out _ _ hr5a (fun hHeld => ?_)
    clear hK K
  case' refine_2 =>
    refine AllReadyH.cons rfl (fun K hK => ?_) AllReadyH.nil
    go_simp
    refine hK.out _ _ hr5a (fun hHeld => ?_)
    clear hK K
    refine wpAnyH_ready (rs := [5]) (by kernel_rfl) (by simp) ?_
    refine AllReadyH.cons rfl (fun K hK => ?_) AllReadyH.nil
    go_simp
    refine hK.out _ _ hr5a (fun hHeld => ?_)
    clear hK K
  all_goals
    refine wpAnyH_ready (rs := [10]) (by kernel_rfl) (by simp) ?_
    refine AllReadyH.cons rfl (fun K hK => ?_) AllReadyH.nil
    rw [if_pos (by simp [Region.wanted])]
    refine wp_append_wr _ _ rfl (.slice A1 s1.ca.length cc1) s1.ca rfl hcca.out (n, x) w2.heap.size rfl hnew.out (by omega) ?_
    intro v3 w3 hc3 hg3 hl3
    obtain ⟨A3, c3, rfl⟩ := hc3.cv.form
    rw [List.length_append, List.length_singleton] at hc3 hl3 ⊢
    have hbk3 : Blk w3 b (dC b g s1.st.length c (.slice A1 s1.ca.length cc1) s1.tk s1.pw s1.off m) 69 := (HBK.out.below hgd HBK.out.lt).grown hg3 (hcca.out.apart (HBK.out.below hgd HBK.out.lt) (by decide))
    have hp53 : Blk w3 w.heap.size (secC x).toArray 58 := (HP2.out.below hgd HP2.out.lt).grown hg3 (hcca.out.apart (HP2.out.below hgd HP2.out.lt) (by decide))
    have hr53 : w3.rangeAt w.heap.size 0 (secC x) := Blk.range hp53
    have hr54 : (w3.setCell ⟨b, 2, none⟩ (.slice A3 (s1.ca.length + 1) c3)).rangeAt w.heap.size 0 (secC x) := Blk.range (hp53.grown (grown_setCell w3 b 2 _) (fun e => hne5 (Option.some.inj e).symm))
    have x2 := hbk3.cell 2 rfl
    have y2 := hbk3.free 2
    have HBK3 := Lib.hid hbk3
    clear hbk3 hp53
    refine hK.out _ _ hr53 (fun hHeld => ?_)
    clear hK K
    refine wpAnyH_take (i := 11) (v := ?_) rfl (by kernel_rfl) (by kernel_rfl) (by kernel_rfl) (fun _ _ _ h => h) (Or.inl ⟨by rfl, ?_⟩) (by assumption) ?_
    rotate_left
    · intro w' hSw
      go_simp
      try with_reducible rfl
    try simp only [Act.put]
    try simp only [List.setIfInBounds_toArray]
    try simp only [List.set_cons_succ]
    try simp only [List.set_cons_zero]
    refine wpAnyH_take (i := 12) (v := ?_) rfl (by kernel_rfl) (by kernel_rfl) (by kernel_rfl) (fun _ _ _ h => h) (Or.inl ⟨by rfl, ?_⟩) (by assumption) ?_
    rotate_left
    · intro w' hSw
      go_simp
      try with_reducible rfl
    try simp only [Act.put]
    try simp only [List.setIfInBounds_toArray]
    try simp only [List.set_cons_succ]
    try simp only [List.set_cons_zero]
    refine wpAnyH_take (i := 13) (v := ?_) rfl (by kernel_rfl) (by kernel_rfl) (by kernel_rfl) (fun _ _ _ h => h) (Or.inl ⟨by rfl, ?_⟩) (by assumption) ?_
    rotate_left
    · intro w' hSw
      go_simp
      try with_reducible rfl
    try simp only [Act.put]
    try simp only [List.setIfInBounds_toArray]
    try simp only [List.set_cons_succ]
    try simp only [List.set_cons_zero]
    refine wpAnyH_ready (rs := [14]) (by kernel_rfl) (by simp) ?_
    refine AllReadyH.cons rfl (fun K hK => ?_) AllReadyH.nil
    go_simp
    refine hK.out _ _ hr54 (fun hHeld => ?_)
    clear hK K
    refine wpAnyH_done (by kernel_rfl) ?_ _
  /- end of region 10 -/
  all_goals
    have MD4 : Hid (DevR (w3.setCell ⟨b, 2, none⟩ (.slice A3 (s1.ca.length + 1) c3)) b g c (.slice A3 (s1.ca.length + 1) c3) m { s1 with ca := s1.ca ++ [(n, x)] }) := by
      have hg4 : w2.grownBy ((w2.alloc (.cells (wrC (n, x)).toArray 80)).drew) none := grown_below hgd none
      have hg5 := grown_setCell w3 b 2 (.slice A3 (s1.ca.length + 1) c3)
      refine ⟨HBK3.out.set 2 _, ?_, HMD.out.cap, ?_, ?_, ⟨HMD.out.ok.lo, HMD.out.ok.hi, by simp; omega, fun p hp => ?_, HMD.out.ok.tk, HMD.out.ok.pw0, HMD.out.ok.pw1⟩⟩
      · obtain ⟨cs, hcs⟩ := (HST.out.grown hg4 (fun e => by cases e)).blk
        exact ((HST.out.grown hg4 (fun e => by cases e)).grown hg3 (hcca.out.apart hcs (by decide))).grown hg5 (fun e => HMD.out.ne_bg (Option.some.inj e).symm)
      · refine World.ownsRow.kept (show Cch w3 0 _ _ from hc3) hg5 (.inr (fun e => ?_))
        exact hc3.apart HBK3.out (by decide) e.symm
      · obtain ⟨D2, hD2, hN2⟩ := hmp.out
        refine ⟨D2, ?_, hN2⟩
        rw [List.length_append, List.length_singleton]
        obtain ⟨es, ck, hmm, _⟩ := hD2.kept hg4 (fun e => by cases e)
        exact ((hD2.kept hg4 (fun e => by cases e)).kept hg3 (hcca.out.apart_map hmm)).kept hg5 (fun e => HMD.out.ne_bm (Option.some.inj e).symm)
      · rcases List.mem_append.1 hp with hp | hp
        · exact HMD.out.ok.at_ p hp
        · obtain rfl := List.mem_singleton.1 hp; show n < s1.st.length; omega
    have HF4 : Hid (Fr w (w3.setCell ⟨b, 2, none⟩ (.slice A3 (s1.ca.length + 1) c3)) (foot b g (.slice A s.ca.length cc) m)) := by
      have h1 := HF2.out.trans (Fr.of_below hgd []) (fun i hi => by cases hi)
      have h2 := h1.trans (Fr.of_grown' (F := foot b g (.slice A1 s1.ca.length cc1) m) hg3 (fun k hk => .inl (foot_mem.2 (.inr (.inr (.inr hk)))))) (HFT.out _ (.inl rfl))
      exact h2.trans (Fr.of_grown (F := [b]) (grown_setCell w3 b 2 _) (by simp)) (fun i hi => .inl (by obtain rfl := List.mem_singleton.1 hi; simp [foot]))
    have HFT4 : Hid (∀ i ∈ foot b g (.slice A3 (s1.ca.length + 1) c3) m, i ∈ foot b g (.slice A s.ca.length cc) m ∨ w.heap.size ≤ i) := by
      refine HFT.out _ ?_
      rcases hl3 with h | h
      · exact .inl h
      · exact .inr (.inr ⟨_, h, Nat.le_trans HF2.out.size hgd.size⟩)
    obtain ⟨w4, hw4⟩ : ∃ w4, w4 = w3.setCell ⟨b, 2, none⟩ (.slice A3 (s1.ca.length + 1) c3) := ⟨_, rfl⟩
    rw [← hw4] at MD4 HF4 ⊢
    have z3 := MD4.out.c3
    have z4 := MD4.out.c4
    have y3 := MD4.out.blk.free 3
    have y4 := MD4.out.blk.free 4
    have htk : s1.tk < 1000000000000 := by
      have h1 := HMD.out.ok.tk
      have h2 := HSP.out
      have h3 := HS1.out.2.1
      unfold Dv.spent at h2
      simp at h2
      omega
    have hpw0 := HMD.out.ok.pw0
    have hpw1 := HMD.out.ok.pw1
    simp only at z3 z4
    have hok3 : Dv.Ok { s1 with ca := s1.ca ++ [(n, x)], tk := s1.tk + 1 } := ⟨MD4.out.ok.lo, MD4.out.ok.hi, MD4.out.ok.ca, MD4.out.ok.at_, by show s1.tk + 1 ≤ 1000000000000; omega, hpw0, hpw1⟩
    have MD5 : Hid (DevR (w4.setCell ⟨b, 3, none⟩ (.int .i64 ((s1.tk : Int) + 1))) b g c (.slice A3 (s1.ca.length + 1) c3) m { s1 with ca := s1.ca ++ [(n, x)], tk := s1.tk + 1 }) := MD4.out.set (s' := { s1 with ca := s1.ca ++ [(n, x)], tk := s1.tk + 1 }) rfl rfl rfl hok3
    have HF5 : Hid (Fr w (w4.setCell ⟨b, 3, none⟩ (.int .i64 ((s1.tk : Int) + 1))) (foot b g (.slice A s.ca.length cc) m)) := HF4.out.trans (Fr.of_grown (F := [b]) (grown_setCell w4 b 3 _) (by simp)) (fun i hi => .inl (by obtain rfl := List.mem_singleton.1 hi; simp [foot]))
    have HADD := Lib.hid HS1.out.2.2
    clear hw4 hc3 hg3 hl3 hr53 hr54 x2 y2 HBK3 hcca hnew hgd r2a r2d r2 hr5 hr5a hbz hb1 hb2 hb3 hb4 hb5 hb6 hb7 hws u1 u2 u3 u4 hok3 HFT HS1
    by_cases hp0 : 0 < s1.pw
    · go_wp2_with fail
      go_ret
      refine ⟨rfl, .slice A3 (s1.ca.length + 1) c3, ?_, HF5.out.trans (Fr.of_grown (F := [b]) (grown_setCell _ b 4 _) (by simp)) (fun i hi => .inl (by obtain rfl := List.mem_singleton.1 hi; simp [foot])), HFT4.out⟩
      rw [HADD.out, if_pos (by omega)]
      exact MD5.out.set (s' := { s1 with ca := s1.ca ++ [(n, x)], tk := s1.tk + 1, pw := s1.pw - 1 }) rfl rfl rfl ⟨MD5.out.ok.lo, MD5.out.ok.hi, MD5.out.ok.ca, MD5.out.ok.at_, MD5.out.ok.tk, by show -1 ≤ s1.pw - 1; omega, by show s1.pw - 1 ≤ 1000000000000; omega⟩
    · go_wp2_with fail
      go_ret
      refine ⟨rfl, .slice A3 (s1.ca.length + 1) c3, ?_, HF5.out, HFT4.out⟩
      rw [HADD.out, if_neg (by omega)]
      exact MD5.out
end Go.Proofs.Ytcmhhiakmgooeaa
