/- The law FramesBack, one of its cases: it is true. Conditions: the table of half bytes, a row of changes, numbers of their kinds. -/
import Derived.Test.YtiddbdjcdoiloaaDoorBackB
namespace Go.Proofs.YtiddbdjcdoiloaaDoor
open Go.RowKit Fm

set_option maxRecDepth 100000 in
set_option maxHeartbeats 8000000 in
theorem law_backD (w : World) (at' : Int) (a : Nat) (k : Int) (q : Nat) (s : ByteArray) (ch : Value) (fx : Bool) (l : List (UInt8 × UInt8)) (ha : a < 256) (hq : q < 4294967296) (hch : ChL w ch l) (hT : TB w) (hc : s.size ≤ 112 ∧ 1 ≤ k ∧ k ≤ 255) :
    Calls Tryd.prog 7 #[.int .i64 at', .agg #[.int .u8 (a : Int), .int .i64 k, .int .u32 (q : Int), .string s, ch, .bool fx]] w fun e w' => e = .returned (.bool true) ∧ Below w.heap.size w w' := by
  obtain ⟨z, hzz, hz, hbz⟩ := zero_gen
  obtain ⟨w1, hw1⟩ : ∃ w1, w1 = w.alloc (.cells #[.int .u8 (a : Int), .int .i64 k, .int .u32 (q : Int), .string s, ch, .bool fx] 44) := ⟨_, rfl⟩
  have HB1 : Hid (Below w.heap.size w w1) := by rw [hw1]; exact (Below.refl _ _).alloc (Nat.le_refl _) _
  have HF1 : Hid (Blk w1 w.heap.size #[.int .u8 (a : Int), .int .i64 k, .int .u32 (q : Int), .string s, ch, .bool fx] 44) := by rw [hw1]; exact Blk.new w _ _
  have HW1 := Lib.hid hw1
  have HT0 := Lib.hid hT
  have HCH := Lib.hid hch
  clear hw1 hT hch
  have hsI2 : (s.size : Int) ≤ 112 := by omega
  have hkI1 : 1 ≤ k := by omega
  have hkI2 : k ≤ 255 := by omega
  have hlD : s.data.toList.length ≤ 112 := by rw [Array.length_toList]; have : s.data.size = s.size := rfl; omega
  obtain ⟨f, hf⟩ : ∃ f : Frm, f = ⟨k.toNat, q, s.data.toList⟩ := ⟨_, rfl⟩
  have hfo : FrOk f := by rw [hf]; exact ⟨by show 1 ≤ k.toNat; omega, by show k.toNat ≤ 255; omega, hq, hlD⟩
  have hse : seE (a : Int) k s.data.toList.length = 0 := by unfold seE; rw [if_neg (by omega), if_neg (by omega)]
  obtain ⟨x0, hx0⟩ : ∃ x, x = sealR (a : Int) k q s.data.toList := ⟨_, rfl⟩
  have hx1 : x0.1 = sealL a f := by rw [hx0, sealR_ok hse, hf]; rfl
  have he0 : opE (a : Int) x0.1 = 0 := by rw [hx1, opE_seal a _ f hfo ha ⟨by omega, by omega⟩, if_pos rfl]
  have hov : opV (a : Int) x0.1 = .tuple #[.agg #[.int .i64 k, .int .u32 (q : Int), .string s], .int .i64 0] := by
    have hsd : (⟨s.data.toList.toArray⟩ : ByteArray) = s := by simp
    unfold opV
    rw [he0, hx1, opF_seal a f hfo ha, hf]
    unfold frV
    rw [hsd, Int.toNat_of_nonneg (by omega)]
  have HSE : Hid (∀ W, TB W → Calls Tryd.prog 23 #[.int .i64 (a : Int), .int .i64 k, .int .u32 (q : Int), .string s] W fun e w' => e = .returned (.tuple #[.agg (secC x0).toArray, .int .i64 0]) ∧ Below W.heap.size W w') := fun W hW => by rw [hx0, ← hse]; exact seal_any W (a : Int) k q s hW
  have HOP : Hid (∀ W, TB W → Calls Tryd.prog 26 #[.int .i64 (a : Int), .agg (secC x0).toArray] W fun e w' => e = .returned (.tuple #[.agg #[.int .i64 k, .int .u32 (q : Int), .string s], .int .i64 0]) ∧ Below W.heap.size W w') := fun W hW => by rw [← hov]; exact open_any W (a : Int) x0 hW
  have HT1 := Lib.hid (HT0.out.below HB1.out HT0.out.lt)
  clear hc hlD hf hfo hse hx0 hx1 he0 hov
  go_enter Tryd.func7, Tryd.ntmps7
  go_wp2_with fail
  rw [← HW1.out]
  refine (HSE.out w1 HT1.out).mono ?_
  rintro e w2 ⟨rfl, hb2⟩
  have HB2 := Lib.hid (HB1.out.trans (hb2.mono HB1.out.size))
  have HF2 := Lib.hid (HF1.out.below hb2 HF1.out.lt)
  have HZ2 := Lib.hid (Blk.new w2 (secC z).toArray 38)
  clear hb2 HSE HF1 HB1 HW1 HT1
  go_wp2_with (first
    | (refine wpList_store_sec rfl _ _ rfl rfl w2.heap.size x0 rfl rfl z HZ2.out ?_; intro w3 hb3 hg3; have hbe3 := sec_new hg3; have O3 : Hid (OW w w3 #[.int .u8 (a : Int), .int .i64 k, .int .u32 (q : Int), .string s, ch, .bool fx] w2.heap.size x0) := ⟨HF2.out.below hbe3 HF2.out.lt, hb3, HB2.out.trans (hbe3.mono HB2.out.size)⟩; have r3 := Lib.hid (Blk.range hb3); have c0 : w3.cell? ⟨w.heap.size, 0, none⟩ = some (.int .u8 (a : Int)) := O3.out.box.cell 0 rfl; clear hb3 hg3 hbe3)
    | (refine wpList_load_mid rfl 38 _ rfl w2.heap.size 0 rfl (secC x0) _ r3.out uSec rfl (by rw [iSec, secC_len]) ?_))
  refine (HOP.out w3 (HT0.out.below O3.out.bel HT0.out.lt)).mono ?_
  rintro e w4 ⟨rfl, hb4⟩
  have O4 : Hid (OW w (w4.alloc (.cells #[.int .i64 k, .int .u32 (q : Int), .string s] 36)) #[.int .u8 (a : Int), .int .i64 k, .int .u32 (q : Int), .string s, ch, .bool fx] w2.heap.size x0) := (O3.out.below hb4).older _
  have G4 : Hid (Blk (w4.alloc (.cells #[.int .i64 k, .int .u32 (q : Int), .string s] 36)) w4.heap.size #[.int .i64 k, .int .u32 (q : Int), .string s] 36) := Blk.new _ _ _
  have c1 : (w4.alloc (.cells #[.int .i64 k, .int .u32 (q : Int), .string s] 36)).cell? ⟨w.heap.size, 1, none⟩ = some (.int .i64 k) := O4.out.box.cell 1 rfl
  have c2 : (w4.alloc (.cells #[.int .i64 k, .int .u32 (q : Int), .string s] 36)).cell? ⟨w.heap.size, 2, none⟩ = some (.int .u32 (q : Int)) := O4.out.box.cell 2 rfl
  have c3 : (w4.alloc (.cells #[.int .i64 k, .int .u32 (q : Int), .string s] 36)).cell? ⟨w.heap.size, 3, none⟩ = some (.string s) := O4.out.box.cell 3 rfl
  have c4 : (w4.alloc (.cells #[.int .i64 k, .int .u32 (q : Int), .string s] 36)).cell? ⟨w.heap.size, 4, none⟩ = some ch := O4.out.box.cell 4 rfl
  have c5 : (w4.alloc (.cells #[.int .i64 k, .int .u32 (q : Int), .string s] 36)).cell? ⟨w.heap.size, 5, none⟩ = some (.bool fx) := O4.out.box.cell 5 rfl
  have c6 : (w4.alloc (.cells #[.int .i64 k, .int .u32 (q : Int), .string s] 36)).cell? ⟨w.heap.size, 0, none⟩ = some (.int .u8 (a : Int)) := O4.out.box.cell 0 rfl
  have d0 : (w4.alloc (.cells #[.int .i64 k, .int .u32 (q : Int), .string s] 36)).cell? ⟨w4.heap.size, 0, none⟩ = some (.int .i64 k) := G4.out.cell 0 rfl
  have d1 : (w4.alloc (.cells #[.int .i64 k, .int .u32 (q : Int), .string s] 36)).cell? ⟨w4.heap.size, 1, none⟩ = some (.int .u32 (q : Int)) := G4.out.cell 1 rfl
  have d2 : (w4.alloc (.cells #[.int .i64 k, .int .u32 (q : Int), .string s] 36)).cell? ⟨w4.heap.size, 2, none⟩ = some (.string s) := G4.out.cell 2 rfl
  clear hb4 HOP c0
  go_wp2_with fail
  have HO : Hid (Blk (w4.alloc (.cells #[.int .i64 k, .int .u32 (q : Int), .string s] 36)) w.heap.size #[.int .u8 (a : Int), .int .i64 k, .int .u32 (q : Int), .string s, ch, .bool fx] 44) := O4.out.box
  have HBW : Hid (Below w.heap.size w (w4.alloc (.cells #[.int .i64 k, .int .u32 (q : Int), .string s] 36))) := O4.out.bel
  clear c1 c2 c3 c4 c5 c6 d0 d1 d2 G4 O4 O3 HZ2 HF2 HB2 r3
  refine (odd_any (w4.alloc (.cells #[.int .i64 k, .int .u32 (q : Int), .string s] 36)) a k q s ch fx l ha (HCH.out.below HBW.out)).mono ?_
  rintro e w6 ⟨x, rfl, hb6⟩
  have HB6 := Lib.hid (HBW.out.trans (hb6.mono HBW.out.size))
  have HF6 := Lib.hid (HO.out.below hb6 HO.out.lt)
  have HZ6 := Lib.hid (Blk.new w6 (secC z).toArray 38)
  clear hb6 HO HBW
  go_wp2_with (refine wpList_store_sec rfl _ _ rfl rfl w6.heap.size x rfl rfl z HZ6.out ?_; intro w7 hb7 hg7; have hbe7 := sec_new hg7; have O7 : Hid (OW w w7 #[.int .u8 (a : Int), .int .i64 k, .int .u32 (q : Int), .string s, ch, .bool fx] w6.heap.size x) := ⟨HF6.out.below hbe7 HF6.out.lt, hb7, HB6.out.trans (hbe7.mono HB6.out.size)⟩; have e0 : w7.cell? ⟨w.heap.size, 0, none⟩ = some (.int .u8 (a : Int)) := O7.out.box.cell 0 rfl; clear hb7 hg7 hbe7)
  obtain ⟨g, hg⟩ : ∃ g, g = w6.heap.size := ⟨_, rfl⟩
  obtain ⟨pb, hpb⟩ : ∃ pb, pb = w7.heap.size := ⟨_, rfl⟩
  obtain ⟨w8, hw8⟩ : ∃ w8, w8 = w7.alloc (.cells #[.int .i64 at', .int .i64 (a : Int)] 49) := ⟨_, rfl⟩
  have HR8 : Hid (BW w w8 #[.int .u8 (a : Int), .int .i64 k, .int .u32 (q : Int), .string s, ch, .bool fx] g pb x at' a) := by rw [hw8, hg, hpb]; exact ⟨O7.out.older _, Blk.new _ _ _⟩
  rw [← hw8, ← hg, ← hpb]
  clear hw8 hg hpb O7 HB6 HF6 HZ6 e0
  go_loopw [11] (fun i wr => ∃ j : Nat, j ≤ 2 ∧ i = .int .i64 (j : Int) ∧ Hid (BW w wr #[.int .u8 (a : Int), .int .i64 k, .int .u32 (q : Int), .string s, ch, .bool fx] g pb x at' a)) (fun i _ => 2 - (intOf i).toNat)
  case atStart => exact ⟨0, by omega, rfl, HR8.out⟩
  case round =>
    clear HR8
    obtain ⟨j, hj, rfl, HR⟩ := hrel
    by_cases hlt : j < 2
    · have hltI : (j : Int) < 2 := by omega
      obtain ⟨p, hp⟩ : ∃ p : Int, (#[.int .i64 at', .int .i64 (a : Int)] : Array Value)[j]? = some (.int .i64 p) := by
        rcases (show j = 0 ∨ j = 1 by omega) with rfl | rfl
        · exact ⟨_, rfl⟩
        · exact ⟨_, rfl⟩
      have HPC : Hid (∀ W, BW w W #[.int .u8 (a : Int), .int .i64 k, .int .u32 (q : Int), .string s, ch, .bool fx] g pb x at' a → W.cell? ⟨pb, j, none⟩ = some (.int .i64 p)) := fun W h => h.pl.cell j hp
      obtain ⟨er, her⟩ : ∃ er, er = opE p x.1 := ⟨_, rfl⟩
      obtain ⟨g1, g2, g3, hgg⟩ : ∃ (g1 g2 : Int) (g3 : ByteArray), frV (opF p x.1) = .agg #[.int .i64 g1, .int .u32 g2, .string g3] := ⟨_, _, _, rfl⟩
      have HS1 : Hid (∀ W, TB W → Calls Tryd.prog 26 #[.int .i64 p, .agg (secC x).toArray] W fun e w' => e = .returned (.tuple #[.agg #[.int .i64 g1, .int .u32 g2, .string g3], .int .i64 er]) ∧ Below W.heap.size W w') := fun W hW => by rw [her, ← hgg]; exact open_any W p x hW
      have HS2 : er = 0 → ∀ W, TB W → Calls Tryd.prog 23 #[.int .i64 p, .int .i64 g1, .int .u32 g2, .string g3] W fun e w' => e = .returned (.tuple #[.agg (secC x).toArray, .int .i64 0]) ∧ Below W.heap.size W w' := fun h W hW => by
        rw [her] at h
        exact back_seal h hgg W hW
      have HS2H := Lib.hid HS2
      clear HS2 her hgg hp
      go_wp2_with fail
      try simp only [Act.put]
      try simp only [List.setIfInBounds_toArray]
      try simp only [List.set_cons_succ]
      try simp only [List.set_cons_zero]
      refine wp_region_held_drew (S := fun W => BW w W #[.int .u8 (a : Int), .int .i64 k, .int .u32 (q : Int), .string s, ch, .bool fx] g pb x at' a) (by kernel_rfl) (show BW w wr.drew #[.int .u8 (a : Int), .int .i64 k, .int .u32 (q : Int), .string s, ch, .bool fx] g pb x at' a from HR.out.below (below_drewN (Below.refl _ _) 1)) (fun hHeld => ?_)
      refine wpAnyH_take (i := 0) (v := ?_) rfl (by kernel_rfl) (by kernel_rfl) (by kernel_rfl) (fun _ _ _ h => h) (Or.inl ⟨by rfl, ?_⟩) (by assumption) ?_
      rotate_left
      · intro w' hSw
        go_simp
        try with_reducible rfl
      try simp only [Act.put]
      try simp only [List.setIfInBounds_toArray]
      try simp only [List.set_cons_succ]
      try simp only [List.set_cons_zero]
      refine wpAnyH_take (i := 1) (v := ?_) rfl (by kernel_rfl) (by kernel_rfl) (by kernel_rfl) (fun _ _ _ h => h) (Or.inl ⟨by rfl, ?_⟩) (by assumption) ?_
      rotate_left
      · intro w' hSw
        go_simp
        try with_reducible rfl
      try simp only [Act.put]
      try simp only [List.setIfInBounds_toArray]
      try simp only [List.set_cons_succ]
      try simp only [List.set_cons_zero]
      refine wpAnyH_take (i := 2) (v := ?_) rfl (by kernel_rfl) (by kernel_rfl) (by kernel_rfl) (fun _ _ _ h => h) (Or.inl ⟨by rfl, ?_⟩) (by assumption) ?_
      rotate_left
      · intro w' hSw
        have cp := HPC.out _ hSw; go_simp
        try with_reducible rfl
      try simp only [Act.put]
      try simp only [List.setIfInBounds_toArray]
      try simp only [List.set_cons_succ]
      try simp only [List.set_cons_zero]
      refine wpAnyH_take (i := 3) rfl (by kernel_rfl) (by kernel_rfl) (by kernel_rfl) (fun _ _ _ h => h) (yieldsIf_load_mid (by rfl) _ _ rfl g 0 rfl (secC x) _ (fun _ h => Blk.range h.ow.sec) uSec rfl (by rw [iSec, secC_len])) (by assumption) ?_
      try simp only [Act.put]
      try simp only [List.setIfInBounds_toArray]
      try simp only [List.set_cons_succ]
      try simp only [List.set_cons_zero]
      refine wpAnyH_ready (rs := [4, 8]) (by kernel_rfl) (by simp) ?_
      refine AllReadyH.cons rfl (fun K hK => ?_) ?_
      case' refine_1 =>
        go_simp
        refine (HS1.out wr.drew (HT0.out.below (below_drewN HR.out.ow.bel 1) HT0.out.lt)).mono ?_
        rintro e w6 ⟨rfl, hb6⟩
        have R6 : Hid (BW w w6 #[.int .u8 (a : Int), .int .i64 k, .int .u32 (q : Int), .string s, ch, .bool fx] g pb x at' a) := HR.out.below (below_undrew hb6)
        clear hb6
        refine hK.out _ _ R6.out (fun hHeld => ?_)
        clear hK K
        try simp only [Act.put]
        try simp only [List.setIfInBounds_toArray]
        try simp only [List.set_cons_succ]
        try simp only [List.set_cons_zero]
        refine wpAnyH_take (i := 5) (v := ?_) rfl (by kernel_rfl) (by kernel_rfl) (by kernel_rfl) (fun _ _ _ h => h) (Or.inl ⟨by rfl, ?_⟩) (by assumption) ?_
        rotate_left
        · intro w' hSw
          go_simp
          try with_reducible rfl
        try simp only [Act.put]
        try simp only [List.setIfInBounds_toArray]
        try simp only [List.set_cons_succ]
        try simp only [List.set_cons_zero]
        refine wpAnyH_take (i := 6) (v := ?_) rfl (by kernel_rfl) (by kernel_rfl) (by kernel_rfl) (fun _ _ _ h => h) (Or.inl ⟨by rfl, ?_⟩) (by assumption) ?_
        rotate_left
        · intro w' hSw
          go_simp
          try with_reducible rfl
        try simp only [Act.put]
        try simp only [List.setIfInBounds_toArray]
        try simp only [List.set_cons_succ]
        try simp only [List.set_cons_zero]
        refine wpAnyH_take (i := 7) (v := ?_) rfl (by kernel_rfl) (by kernel_rfl) (by kernel_rfl) (fun _ _ _ h => h) (Or.inl ⟨by rfl, ?_⟩) (by assumption) ?_
        rotate_left
        · intro w' hSw
          go_simp
          try with_reducible rfl
        try simp only [Act.put]
        try simp only [List.setIfInBounds_toArray]
        try simp only [List.set_cons_succ]
        try simp only [List.set_cons_zero]
        have hal : Below w6.heap.size w6 (w6.alloc (.cells #[.int .i64 0, .int .u32 0, .string ⟨#[]⟩] 36)) := (Below.refl _ _).alloc (Nat.le_refl _) _
        have hbn := Blk.new w6 #[.int .i64 0, .int .u32 0, .string ⟨#[]⟩] 36
        have hrs := R6.out.below hal
        have hge : w.heap.size ≤ w6.heap.size := R6.out.ow.bel.size
        refine wpAnyH_ready (rs := [8]) (by kernel_rfl) (by simp) ?_
        refine AllReadyH.cons rfl (fun K hK => ?_) AllReadyH.nil
        go_simp
        refine hK.out _ _ hrs (fun hHeld => ?_)
        clear hK K
        try simp only [Act.put]
        try simp only [List.setIfInBounds_toArray]
        try simp only [List.set_cons_succ]
        try simp only [List.set_cons_zero]
        obtain ⟨g7, hg7⟩ : ∃ g7, g7 = w6.heap.size := ⟨_, rfl⟩
        have HN7 : Hid (Blk (w6.alloc (.cells #[.int .i64 0, .int .u32 0, .string ⟨#[]⟩] 36)) g7 #[.int .i64 0, .int .u32 0, .string ⟨#[]⟩] 36) := by rw [hg7]; exact hbn
        obtain ⟨wB, hwB⟩ : ∃ wB, wB = (w6.alloc (.cells #[.int .i64 0, .int .u32 0, .string ⟨#[]⟩] 36)).setRow g7 #[.int .i64 g1, .int .u32 g2, .string g3] := ⟨_, rfl⟩
        have HB7 : Hid (Blk wB g7 #[.int .i64 g1, .int .u32 g2, .string g3] 36) := by rw [hwB]; exact setRow_of HN7.out _
        have R7 : Hid (BW w wB #[.int .u8 (a : Int), .int .i64 k, .int .u32 (q : Int), .string s, ch, .bool fx] g pb x at' a) := by
          rw [hwB]
          exact hrs.row HN7.out (by decide) (by decide) (by decide) (by rw [hg7]; exact hge)
        rw [← hg7]
        clear hal hbn hrs hge hg7
        refine wpAnyH_ready (rs := [9]) (by kernel_rfl) (by simp) ?_
        refine AllReadyH.cons rfl (fun K hK => ?_) AllReadyH.nil
        rw [if_pos (by simp [Region.wanted])]
        refine wp_store_row 36 _ _ rfl g7 #[.int .i64 g1, .int .u32 g2, .string g3] rfl rfl 36 _ HN7.out (by rw [iFr]; rfl) rfl (by simp [Value.oneCell']) ?_
        rw [← hwB]
        clear hwB
        refine hK.out _ _ R7.out (fun hHeld => ?_)
        clear hK K
        try simp only [List.getElem_toArray, List.getElem_cons_succ, List.getElem_cons_zero]
        try simp only [Act.put]
        try simp only [List.setIfInBounds_toArray]
        try simp only [List.set_cons_succ]
        try simp only [List.set_cons_zero]
        refine wpAnyH_take (i := 10) (v := ?_) rfl (by kernel_rfl) (by kernel_rfl) (by kernel_rfl) (fun _ _ _ h => h) (Or.inl ⟨by rfl, ?_⟩) (by assumption) ?_
        rotate_left
        · intro w' hSw
          go_simp
          try with_reducible rfl
        try simp only [Act.put]
        try simp only [List.setIfInBounds_toArray]
        try simp only [List.set_cons_succ]
        try simp only [List.set_cons_zero]
        refine wpAnyH_done (by kernel_rfl) ?_ _
      case' refine_2 =>
        refine AllReadyH.cons rfl (fun K hK => ?_) AllReadyH.nil
        have hal : Below wr.heap.size wr (wr.alloc (.cells #[.int .i64 0, .int .u32 0, .string ⟨#[]⟩] 36)).drew := below_drewN ((Below.refl _ _).alloc (Nat.le_refl _) _) 1
        have hbn0 : Blk (wr.alloc (.cells #[.int .i64 0, .int .u32 0, .string ⟨#[]⟩] 36)).drew wr.heap.size #[.int .i64 0, .int .u32 0, .string ⟨#[]⟩] 36 := (Blk.new wr _ _).drewN 1
        have hrs0 := HR.out.below hal
        have hge0 : w.heap.size ≤ wr.heap.size := HR.out.ow.bel.size
        go_simp
        refine hK.out _ _ hrs0 (fun hHeld => ?_)
        clear hK K
        try simp only [Act.put]
        try simp only [List.setIfInBounds_toArray]
        try simp only [List.set_cons_succ]
        try simp only [List.set_cons_zero]
        obtain ⟨wa, hwa⟩ : ∃ wa, wa = (wr.alloc (.cells #[.int .i64 0, .int .u32 0, .string ⟨#[]⟩] 36)).drew := ⟨_, rfl⟩
        rw [← hwa] at hrs0 hbn0 hal ⊢
        rw [← hwa] at hHeld
        clear hwa
        refine wpAnyH_ready (rs := [4]) (by kernel_rfl) (by simp) ?_
        refine AllReadyH.cons rfl (fun K hK => ?_) AllReadyH.nil
        go_simp
        refine (HS1.out wa (HT0.out.below hrs0.ow.bel HT0.out.lt)).mono ?_
        rintro e w6 ⟨rfl, hb6⟩
        have hrs := hrs0.below hb6
        have hbn : Blk w6 wr.heap.size #[.int .i64 0, .int .u32 0, .string ⟨#[]⟩] 36 := Blk.below hbn0 hb6 hbn0.lt
        have hge := hge0
        refine hK.out _ _ hrs (fun hHeld => ?_)
        clear hK K
        try simp only [Act.put]
        try simp only [List.setIfInBounds_toArray]
        try simp only [List.set_cons_succ]
        try simp only [List.set_cons_zero]
        refine wpAnyH_take (i := 5) (v := ?_) rfl (by kernel_rfl) (by kernel_rfl) (by kernel_rfl) (fun _ _ _ h => h) (Or.inl ⟨by rfl, ?_⟩) (by assumption) ?_
        rotate_left
        · intro w' hSw
          go_simp
          try with_reducible rfl
        try simp only [Act.put]
        try simp only [List.setIfInBounds_toArray]
        try simp only [List.set_cons_succ]
        try simp only [List.set_cons_zero]
        refine wpAnyH_take (i := 6) (v := ?_) rfl (by kernel_rfl) (by kernel_rfl) (by kernel_rfl) (fun _ _ _ h => h) (Or.inl ⟨by rfl, ?_⟩) (by assumption) ?_
        rotate_left
        · intro w' hSw
          go_simp
          try with_reducible rfl
        try simp only [Act.put]
        try simp only [List.setIfInBounds_toArray]
        try simp only [List.set_cons_succ]
        try simp only [List.set_cons_zero]
        refine wpAnyH_take (i := 7) (v := ?_) rfl (by kernel_rfl) (by kernel_rfl) (by kernel_rfl) (fun _ _ _ h => h) (Or.inl ⟨by rfl, ?_⟩) (by assumption) ?_
        rotate_left
        · intro w' hSw
          go_simp
          try with_reducible rfl
        try simp only [Act.put]
        try simp only [List.setIfInBounds_toArray]
        try simp only [List.set_cons_succ]
        try simp only [List.set_cons_zero]
        obtain ⟨g7, hg7⟩ : ∃ g7, g7 = wr.heap.size := ⟨_, rfl⟩
        have HN7 : Hid (Blk (w6) g7 #[.int .i64 0, .int .u32 0, .string ⟨#[]⟩] 36) := by rw [hg7]; exact hbn
        obtain ⟨wB, hwB⟩ : ∃ wB, wB = (w6).setRow g7 #[.int .i64 g1, .int .u32 g2, .string g3] := ⟨_, rfl⟩
        have HB7 : Hid (Blk wB g7 #[.int .i64 g1, .int .u32 g2, .string g3] 36) := by rw [hwB]; exact setRow_of HN7.out _
        have R7 : Hid (BW w wB #[.int .u8 (a : Int), .int .i64 k, .int .u32 (q : Int), .string s, ch, .bool fx] g pb x at' a) := by
          rw [hwB]
          exact hrs.row HN7.out (by decide) (by decide) (by decide) (by rw [hg7]; exact hge)
        rw [← hg7]
        clear hal hbn hbn0 hrs hrs0 hge hge0 hb6 hg7
        refine wpAnyH_ready (rs := [9]) (by kernel_rfl) (by simp) ?_
        refine AllReadyH.cons rfl (fun K hK => ?_) AllReadyH.nil
        rw [if_pos (by simp [Region.wanted])]
        refine wp_store_row 36 _ _ rfl g7 #[.int .i64 g1, .int .u32 g2, .string g3] rfl rfl 36 _ HN7.out (by rw [iFr]; rfl) rfl (by simp [Value.oneCell']) ?_
        rw [← hwB]
        clear hwB
        refine hK.out _ _ R7.out (fun hHeld => ?_)
        clear hK K
        try simp only [List.getElem_toArray, List.getElem_cons_succ, List.getElem_cons_zero]
        try simp only [Act.put]
        try simp only [List.setIfInBounds_toArray]
        try simp only [List.set_cons_succ]
        try simp only [List.set_cons_zero]
        refine wpAnyH_take (i := 10) (v := ?_) rfl (by kernel_rfl) (by kernel_rfl) (by kernel_rfl) (fun _ _ _ h => h) (Or.inl ⟨by rfl, ?_⟩) (by assumption) ?_
        rotate_left
        · intro w' hSw
          go_simp
          try with_reducible rfl
        try simp only [Act.put]
        try simp only [List.setIfInBounds_toArray]
        try simp only [List.set_cons_succ]
        try simp only [List.set_cons_zero]
        refine wpAnyH_done (by kernel_rfl) ?_ _
      all_goals
        by_cases he0 : er = 0
        · have HS2 := Lib.hid (HS2H.out he0)
          clear HS2H
          obtain ⟨gf, hgf⟩ : ∃ gf, gf = g7 := ⟨_, rfl⟩
          rw [← hgf] at HB7 ⊢
          have R8 : Hid (BW w wB #[.int .u8 (a : Int), .int .i64 k, .int .u32 (q : Int), .string s, ch, .bool fx] g pb x at' a ∧ Blk wB gf #[.int .i64 g1, .int .u32 g2, .string g3] 36) := ⟨R7.out, HB7.out⟩
          clear R7 HB7 HN7 hgf
          have he1 : (er != 0) = false := by rw [bne_eq_false_iff_eq]; exact he0
          clear he0
          go_wp2_with fail
          try simp only [Act.put]
          try simp only [List.setIfInBounds_toArray]
          try simp only [List.set_cons_succ]
          try simp only [List.set_cons_zero]
          refine wp_region_held_drew (S := fun W => BW w W #[.int .u8 (a : Int), .int .i64 k, .int .u32 (q : Int), .string s, ch, .bool fx] g pb x at' a ∧ Blk W gf #[.int .i64 g1, .int .u32 g2, .string g3] 36) (by kernel_rfl) (show BW w wB.drew #[.int .u8 (a : Int), .int .i64 k, .int .u32 (q : Int), .string s, ch, .bool fx] g pb x at' a ∧ Blk wB.drew gf #[.int .i64 g1, .int .u32 g2, .string g3] 36 from ⟨R8.out.1.below (below_drewN (Below.refl _ _) 1), R8.out.2.drewN 1⟩) (fun hHeld => ?_)
          refine wpAnyH_take (i := 0) (v := ?_) rfl (by kernel_rfl) (by kernel_rfl) (by kernel_rfl) (fun _ _ _ h => h) (Or.inl ⟨by rfl, ?_⟩) (by assumption) ?_
          rotate_left
          · intro w' hSw
            go_simp
            try with_reducible rfl
          try simp only [Act.put]
          try simp only [List.setIfInBounds_toArray]
          try simp only [List.set_cons_succ]
          try simp only [List.set_cons_zero]
          refine wpAnyH_take (i := 1) (v := ?_) rfl (by kernel_rfl) (by kernel_rfl) (by kernel_rfl) (fun _ _ _ h => h) (Or.inl ⟨by rfl, ?_⟩) (by assumption) ?_
          rotate_left
          · intro w' hSw
            go_simp
            try with_reducible rfl
          try simp only [Act.put]
          try simp only [List.setIfInBounds_toArray]
          try simp only [List.set_cons_succ]
          try simp only [List.set_cons_zero]
          refine wpAnyH_take (i := 2) (v := ?_) rfl (by kernel_rfl) (by kernel_rfl) (by kernel_rfl) (fun _ _ _ h => h) (Or.inl ⟨by rfl, ?_⟩) (by assumption) ?_
          rotate_left
          · intro w' hSw
            have cp := HPC.out _ hSw.1; go_simp
            try with_reducible rfl
          try simp only [Act.put]
          try simp only [List.setIfInBounds_toArray]
          try simp only [List.set_cons_succ]
          try simp only [List.set_cons_zero]
          refine wpAnyH_take (i := 3) (v := ?_) rfl (by kernel_rfl) (by kernel_rfl) (by kernel_rfl) (fun _ _ _ h => h) (Or.inl ⟨by rfl, ?_⟩) (by assumption) ?_
          rotate_left
          · intro w' hSw
            go_simp
            try with_reducible rfl
          try simp only [Act.put]
          try simp only [List.setIfInBounds_toArray]
          try simp only [List.set_cons_succ]
          try simp only [List.set_cons_zero]
          refine wpAnyH_take (i := 4) (v := ?_) rfl (by kernel_rfl) (by kernel_rfl) (by kernel_rfl) (fun _ _ _ h => h) (Or.inl ⟨by rfl, ?_⟩) (by assumption) ?_
          rotate_left
          · intro w' hSw
            have cp : w'.cell? ⟨gf, 0, none⟩ = some (.int .i64 g1) := hSw.2.cell 0 rfl; go_simp
            try with_reducible rfl
          try simp only [Act.put]
          try simp only [List.setIfInBounds_toArray]
          try simp only [List.set_cons_succ]
          try simp only [List.set_cons_zero]
          refine wpAnyH_take (i := 5) (v := ?_) rfl (by kernel_rfl) (by kernel_rfl) (by kernel_rfl) (fun _ _ _ h => h) (Or.inl ⟨by rfl, ?_⟩) (by assumption) ?_
          rotate_left
          · intro w' hSw
            go_simp
            try with_reducible rfl
          try simp only [Act.put]
          try simp only [List.setIfInBounds_toArray]
          try simp only [List.set_cons_succ]
          try simp only [List.set_cons_zero]
          refine wpAnyH_take (i := 6) (v := ?_) rfl (by kernel_rfl) (by kernel_rfl) (by kernel_rfl) (fun _ _ _ h => h) (Or.inl ⟨by rfl, ?_⟩) (by assumption) ?_
          rotate_left
          · intro w' hSw
            have cp : w'.cell? ⟨gf, 1, none⟩ = some (.int .u32 g2) := hSw.2.cell 1 rfl; go_simp
            try with_reducible rfl
          try simp only [Act.put]
          try simp only [List.setIfInBounds_toArray]
          try simp only [List.set_cons_succ]
          try simp only [List.set_cons_zero]
          refine wpAnyH_take (i := 7) (v := ?_) rfl (by kernel_rfl) (by kernel_rfl) (by kernel_rfl) (fun _ _ _ h => h) (Or.inl ⟨by rfl, ?_⟩) (by assumption) ?_
          rotate_left
          · intro w' hSw
            go_simp
            try with_reducible rfl
          try simp only [Act.put]
          try simp only [List.setIfInBounds_toArray]
          try simp only [List.set_cons_succ]
          try simp only [List.set_cons_zero]
          refine wpAnyH_take (i := 8) (v := ?_) rfl (by kernel_rfl) (by kernel_rfl) (by kernel_rfl) (fun _ _ _ h => h) (Or.inl ⟨by rfl, ?_⟩) (by assumption) ?_
          rotate_left
          · intro w' hSw
            have cp : w'.cell? ⟨gf, 2, none⟩ = some (.string g3) := hSw.2.cell 2 rfl; go_simp
            try with_reducible rfl
          try simp only [Act.put]
          try simp only [List.setIfInBounds_toArray]
          try simp only [List.set_cons_succ]
          try simp only [List.set_cons_zero]
          refine wpAnyH_ready (rs := [9, 13]) (by kernel_rfl) (by simp) ?_
          refine AllReadyH.cons rfl (fun K hK => ?_) ?_
          case' refine_1 =>
            go_simp
            refine (HS2.out wB.drew (HT0.out.below (below_drewN R8.out.1.ow.bel 1) HT0.out.lt)).mono ?_
            rintro e w6 ⟨rfl, hb6⟩
            have R6 : Hid (BW w w6 #[.int .u8 (a : Int), .int .i64 k, .int .u32 (q : Int), .string s, ch, .bool fx] g pb x at' a ∧ Blk w6 gf #[.int .i64 g1, .int .u32 g2, .string g3] 36) := ⟨R8.out.1.below (below_undrew hb6), R8.out.2.below (below_undrew hb6) R8.out.2.lt⟩
            clear hb6
            refine hK.out _ _ R6.out (fun hHeld => ?_)
            clear hK K
            try simp only [Act.put]
            try simp only [List.setIfInBounds_toArray]
            try simp only [List.set_cons_succ]
            try simp only [List.set_cons_zero]
            refine wpAnyH_take (i := 10) (v := ?_) rfl (by kernel_rfl) (by kernel_rfl) (by kernel_rfl) (fun _ _ _ h => h) (Or.inl ⟨by rfl, ?_⟩) (by assumption) ?_
            rotate_left
            · intro w' hSw
              go_simp
              try with_reducible rfl
            try simp only [Act.put]
            try simp only [List.setIfInBounds_toArray]
            try simp only [List.set_cons_succ]
            try simp only [List.set_cons_zero]
            refine wpAnyH_take (i := 11) rfl (by kernel_rfl) (by kernel_rfl) (by kernel_rfl) (fun _ _ _ h => h) (Or.inl ⟨by rfl, fun w' _ => rfl⟩) (by assumption) ?_
            try simp only [Act.put]
            try simp only [List.setIfInBounds_toArray]
            try simp only [List.set_cons_succ]
            try simp only [List.set_cons_zero]
            refine wpAnyH_take (i := 12) (v := ?_) rfl (by kernel_rfl) (by kernel_rfl) (by kernel_rfl) (fun _ _ _ h => h) (Or.inl ⟨by rfl, ?_⟩) (by assumption) ?_
            rotate_left
            · intro w' hSw
              go_simp
              try with_reducible rfl
            try simp only [Act.put]
            try simp only [List.setIfInBounds_toArray]
            try simp only [List.set_cons_succ]
            try simp only [List.set_cons_zero]
            have hal : Below w6.heap.size w6 (w6.alloc (.cells (secC z).toArray 38)) := (Below.refl _ _).alloc (Nat.le_refl _) _
            have hbn := Blk.new w6 (secC z).toArray 38
            have hrs : BW w (w6.alloc (.cells (secC z).toArray 38)) #[.int .u8 (a : Int), .int .i64 k, .int .u32 (q : Int), .string s, ch, .bool fx] g pb x at' a ∧ Blk (w6.alloc (.cells (secC z).toArray 38)) gf #[.int .i64 g1, .int .u32 g2, .string g3] 36 := ⟨R6.out.1.below hal, R6.out.2.below hal R6.out.2.lt⟩
            have hge : w.heap.size ≤ w6.heap.size := R6.out.1.ow.bel.size
            have hneg : w6.heap.size ≠ g := by have := R6.out.1.ow.sec.lt; omega
            refine wpAnyH_ready (rs := [13]) (by kernel_rfl) (by simp) ?_
            refine AllReadyH.cons rfl (fun K hK => ?_) AllReadyH.nil
            go_simp
            refine hK.out _ _ hrs (fun hHeld => ?_)
            clear hK K
            try simp only [Act.put]
            try simp only [List.setIfInBounds_toArray]
            try simp only [List.set_cons_succ]
            try simp only [List.set_cons_zero]
            obtain ⟨g7, hg7⟩ : ∃ g7, g7 = w6.heap.size := ⟨_, rfl⟩
            have HN7 : Hid (Blk (w6.alloc (.cells (secC z).toArray 38)) g7 (secC z).toArray 38) := by rw [hg7]; exact hbn
            obtain ⟨w7, hw7⟩ : ∃ w7, w7 = (w6.alloc (.cells (secC z).toArray 38)).setRow g7 (secC x).toArray := ⟨_, rfl⟩
            have HB7 : Hid (Blk w7 g7 (secC x).toArray 38) := by rw [hw7]; exact setRow_of HN7.out _
            have R9 : Hid (BW w w7 #[.int .u8 (a : Int), .int .i64 k, .int .u32 (q : Int), .string s, ch, .bool fx] g pb x at' a ∧ Blk w7 gf #[.int .i64 g1, .int .u32 g2, .string g3] 36) := by
              rw [hw7]
              exact ⟨hrs.1.rowS HN7.out (by rw [hg7]; exact hneg) (by rw [hg7]; exact hge), hrs.2.grown (grown_setRow _) (fun e => HN7.out.tne hrs.2 (by decide) (Option.some.inj e).symm)⟩
            rw [← hg7]
            clear hal hbn hrs hge hneg hg7
            refine wpAnyH_ready (rs := [14]) (by kernel_rfl) (by simp) ?_
            refine AllReadyH.cons rfl (fun K hK => ?_) AllReadyH.nil
            rw [if_pos (by simp [Region.wanted])]
            refine wp_store_row 38 _ _ rfl g7 (secC x).toArray rfl rfl 38 _ HN7.out (by rw [iSec, secC_size]) (by simp only [secC_size]) (secC_all x) ?_
            rw [← hw7]
            clear hw7
            refine hK.out _ _ R9.out (fun hHeld => ?_)
            clear hK K
            try simp only [List.getElem_toArray, List.getElem_cons_succ, List.getElem_cons_zero]
            try simp only [Act.put]
            try simp only [List.setIfInBounds_toArray]
            try simp only [List.set_cons_succ]
            try simp only [List.set_cons_zero]
            refine wpAnyH_take (i := 15) (v := ?_) rfl (by kernel_rfl) (by kernel_rfl) (by kernel_rfl) (fun _ _ _ h => h) (Or.inl ⟨by rfl, ?_⟩) (by assumption) ?_
            rotate_left
            · intro w' hSw
              go_simp
              try with_reducible rfl
            try simp only [Act.put]
            try simp only [List.setIfInBounds_toArray]
            try simp only [List.set_cons_succ]
            try simp only [List.set_cons_zero]
            refine wpAnyH_done (by kernel_rfl) ?_ _
          case' refine_2 =>
            refine AllReadyH.cons rfl (fun K hK => ?_) AllReadyH.nil
            have hal : Below wB.heap.size wB (wB.alloc (.cells (secC z).toArray 38)).drew := below_drewN ((Below.refl _ _).alloc (Nat.le_refl _) _) 1
            have hbn0 : Blk (wB.alloc (.cells (secC z).toArray 38)).drew wB.heap.size (secC z).toArray 38 := (Blk.new wB _ _).drewN 1
            have hrs0 : BW w (wB.alloc (.cells (secC z).toArray 38)).drew #[.int .u8 (a : Int), .int .i64 k, .int .u32 (q : Int), .string s, ch, .bool fx] g pb x at' a ∧ Blk (wB.alloc (.cells (secC z).toArray 38)).drew gf #[.int .i64 g1, .int .u32 g2, .string g3] 36 := ⟨R8.out.1.below hal, R8.out.2.below hal R8.out.2.lt⟩
            have hge0 : w.heap.size ≤ wB.heap.size := R8.out.1.ow.bel.size
            have hneg0 : wB.heap.size ≠ g := by have := R8.out.1.ow.sec.lt; omega
            go_simp
            refine hK.out _ _ hrs0 (fun hHeld => ?_)
            clear hK K
            try simp only [Act.put]
            try simp only [List.setIfInBounds_toArray]
            try simp only [List.set_cons_succ]
            try simp only [List.set_cons_zero]
            obtain ⟨wa, hwa⟩ : ∃ wa, wa = (wB.alloc (.cells (secC z).toArray 38)).drew := ⟨_, rfl⟩
            rw [← hwa] at hrs0 hbn0 hal ⊢
            rw [← hwa] at hHeld
            clear hwa
            refine wpAnyH_ready (rs := [9]) (by kernel_rfl) (by simp) ?_
            refine AllReadyH.cons rfl (fun K hK => ?_) AllReadyH.nil
            go_simp
            refine (HS2.out wa (HT0.out.below hrs0.1.ow.bel HT0.out.lt)).mono ?_
            rintro e w6 ⟨rfl, hb6⟩
            have hrs : BW w w6 #[.int .u8 (a : Int), .int .i64 k, .int .u32 (q : Int), .string s, ch, .bool fx] g pb x at' a ∧ Blk w6 gf #[.int .i64 g1, .int .u32 g2, .string g3] 36 := ⟨hrs0.1.below hb6, hrs0.2.below hb6 hrs0.2.lt⟩
            have hbn : Blk w6 wB.heap.size (secC z).toArray 38 := Blk.below hbn0 hb6 hbn0.lt
            have hge := hge0
            have hneg := hneg0
            refine hK.out _ _ hrs (fun hHeld => ?_)
            clear hK K
            try simp only [Act.put]
            try simp only [List.setIfInBounds_toArray]
            try simp only [List.set_cons_succ]
            try simp only [List.set_cons_zero]
            refine wpAnyH_take (i := 10) (v := ?_) rfl (by kernel_rfl) (by kernel_rfl) (by kernel_rfl) (fun _ _ _ h => h) (Or.inl ⟨by rfl, ?_⟩) (by assumption) ?_
            rotate_left
            · intro w' hSw
              go_simp
              try with_reducible rfl
            try simp only [Act.put]
            try simp only [List.setIfInBounds_toArray]
            try simp only [List.set_cons_succ]
            try simp only [List.set_cons_zero]
            refine wpAnyH_take (i := 11) rfl (by kernel_rfl) (by kernel_rfl) (by kernel_rfl) (fun _ _ _ h => h) (Or.inl ⟨by rfl, fun w' _ => rfl⟩) (by assumption) ?_
            try simp only [Act.put]
            try simp only [List.setIfInBounds_toArray]
            try simp only [List.set_cons_succ]
            try simp only [List.set_cons_zero]
            refine wpAnyH_take (i := 12) (v := ?_) rfl (by kernel_rfl) (by kernel_rfl) (by kernel_rfl) (fun _ _ _ h => h) (Or.inl ⟨by rfl, ?_⟩) (by assumption) ?_
            rotate_left
            · intro w' hSw
              go_simp
              try with_reducible rfl
            try simp only [Act.put]
            try simp only [List.setIfInBounds_toArray]
            try simp only [List.set_cons_succ]
            try simp only [List.set_cons_zero]
            obtain ⟨g7, hg7⟩ : ∃ g7, g7 = wB.heap.size := ⟨_, rfl⟩
            have HN7 : Hid (Blk (w6) g7 (secC z).toArray 38) := by rw [hg7]; exact hbn
            obtain ⟨w7, hw7⟩ : ∃ w7, w7 = (w6).setRow g7 (secC x).toArray := ⟨_, rfl⟩
            have HB7 : Hid (Blk w7 g7 (secC x).toArray 38) := by rw [hw7]; exact setRow_of HN7.out _
            have R9 : Hid (BW w w7 #[.int .u8 (a : Int), .int .i64 k, .int .u32 (q : Int), .string s, ch, .bool fx] g pb x at' a ∧ Blk w7 gf #[.int .i64 g1, .int .u32 g2, .string g3] 36) := by
              rw [hw7]
              exact ⟨hrs.1.rowS HN7.out (by rw [hg7]; exact hneg) (by rw [hg7]; exact hge), hrs.2.grown (grown_setRow _) (fun e => HN7.out.tne hrs.2 (by decide) (Option.some.inj e).symm)⟩
            rw [← hg7]
            clear hal hbn hbn0 hrs hrs0 hge hge0 hneg hneg0 hb6 hg7
            refine wpAnyH_ready (rs := [14]) (by kernel_rfl) (by simp) ?_
            refine AllReadyH.cons rfl (fun K hK => ?_) AllReadyH.nil
            rw [if_pos (by simp [Region.wanted])]
            refine wp_store_row 38 _ _ rfl g7 (secC x).toArray rfl rfl 38 _ HN7.out (by rw [iSec, secC_size]) (by simp only [secC_size]) (secC_all x) ?_
            rw [← hw7]
            clear hw7
            refine hK.out _ _ R9.out (fun hHeld => ?_)
            clear hK K
            try simp only [List.getElem_toArray, List.getElem_cons_succ, List.getElem_cons_zero]
            try simp only [Act.put]
            try simp only [List.setIfInBounds_toArray]
            try simp only [List.set_cons_succ]
            try simp only [List.set_cons_zero]
            refine wpAnyH_take (i := 15) (v := ?_) rfl (by kernel_rfl) (by kernel_rfl) (by kernel_rfl) (fun _ _ _ h => h) (Or.inl ⟨by rfl, ?_⟩) (by assumption) ?_
            rotate_left
            · intro w' hSw
              go_simp
              try with_reducible rfl
            try simp only [Act.put]
            try simp only [List.setIfInBounds_toArray]
            try simp only [List.set_cons_succ]
            try simp only [List.set_cons_zero]
            refine wpAnyH_done (by kernel_rfl) ?_ _
          all_goals
            have rs1 := Lib.hid (Blk.range HB7.out)
            have rs2 := Lib.hid (Blk.range R9.out.1.ow.sec)
            have hne : ∀ w, (binOp .neq 38 (.agg (secC x).toArray) (.agg (secC x).toArray)).run Tryd.prog w = .ok (.bool false) w := fun w => by rw [neq_sec, decide_eq_true rfl]; rfl
            clear HB7 HN7
            go_wp2_with (first
              | (refine wpList_load_secG (by rfl) _ rfl g7 0 rfl x rs1.out ?_)
              | (refine wpList_load_secG (by rfl) _ rfl g 0 rfl x rs2.out ?_))
            go_roundw
            case rel => exact ⟨j + 1, by omega, by go_num, R9.out.1⟩
            case measure => simp [intOf]; omega
        · have he1 : (er != 0) = true := by rw [bne_iff_ne]; exact he0
          clear HS2H he0
          go_wp2_with fail
          go_roundw
          case rel => exact ⟨j + 1, by omega, by go_num, R7.out⟩
          case measure => simp [intOf]; omega
    · obtain rfl : j = 2 := by omega
      have hltI : ¬ (((2 : Nat) : Int) < 2) := by omega
      go_wp2_with fail
      refine (awake_any wr (HT0.out.below HR.out.ow.bel HT0.out.lt)).mono ?_
      rintro e w9 ⟨rfl, hb9⟩
      have HB9 := Lib.hid (HR.out.ow.bel.trans (hb9.mono HR.out.ow.bel.size))
      clear hb9
      go_wp2_with fail
      go_ret
      exact ⟨rfl, HB9.out⟩
end Go.Proofs.YtiddbdjcdoiloaaDoor
