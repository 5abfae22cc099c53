/- The contract of odd of the laws' package: it returns some sector. Conditions: a row of changes, numbers of their kinds. -/
import Derived.Test.YtiddbdjcdoiloaaDoorLawBurst
import Derived.Test.YtiddbdjcdoiloaaDoorArgsO
namespace Go.Proofs.YtiddbdjcdoiloaaDoor
open Go.RowKit Fm

theorem Blk.older {w : World} {b : Nat} {cs : Array Value} {t : TypeId} (h : Blk w b cs t) (o : Obj) : Blk (w.alloc o) b cs t := h.below ((Below.refl _ _).alloc (Nat.le_refl _) o) h.lt
theorem heap_alloc (w : World) (o : Obj) : (w.alloc o).heap.size = w.heap.size + 1 := by simp
set_option maxRecDepth 100000 in
set_option maxHeartbeats 4000000 in
theorem odd_any (w : World) (a : Nat) (k : Int) (q : Nat) (s : ByteArray) (ch : Value) (fx : Bool) (l : List (UInt8 × UInt8)) (ha : a < 256) (hch : ChL w ch l) :
    Calls Tryd.prog 25 #[.agg #[.int .u8 (a : Int), .int .i64 k, .int .u32 (q : Int), .string s, ch, .bool fx]] w fun e w' => ∃ x : Dv.Sec, e = .returned (.agg (secC x).toArray) ∧ Below w.heap.size w w' := by
  obtain ⟨z, hzz, hz, hbz⟩ := zero_gen
  obtain ⟨A, c0, rfl⟩ := hch.form
  have HCH := Lib.hid hch
  have hs1 : Below w.heap.size w (w.alloc (.cells #[.int .u8 (a : Int), .int .i64 k, .int .u32 (q : Int), .string s, .slice A l.length c0, .bool fx] 44)) := (Below.refl _ _).alloc (Nat.le_refl _) _
  obtain ⟨w1, hw1⟩ : ∃ w1, w1 = ((w.alloc (.cells #[.int .u8 (a : Int), .int .i64 k, .int .u32 (q : Int), .string s, .slice A l.length c0, .bool fx] 44)).alloc (.cells (secC z).toArray 38)).alloc (.cells (secC z).toArray 38) := ⟨_, rfl⟩
  have HB1 : Hid (Below w.heap.size w w1) := by rw [hw1]; exact (hs1.alloc hs1.size _).alloc (by have := hs1.size; rw [heap_alloc]; omega) _
  have HF1 : Hid (Blk w1 w.heap.size #[.int .u8 (a : Int), .int .i64 k, .int .u32 (q : Int), .string s, .slice A l.length c0, .bool fx] 44) := by
    rw [hw1]; exact ((Blk.new w _ _).older _).older _
  have HZ1 : Hid (Blk w1 (w.heap.size + 1) (secC z).toArray 38) := by
    rw [hw1]
    have h := Blk.new (w.alloc (.cells #[.int .u8 (a : Int), .int .i64 k, .int .u32 (q : Int), .string s, .slice A l.length c0, .bool fx] 44)) (secC z).toArray 38
    rw [heap_alloc] at h
    exact h.older _
  have HX1 : Hid (Blk w1 (w.heap.size + 1 + 1) (secC z).toArray 38) := by
    rw [hw1]
    have h := Blk.new ((w.alloc (.cells #[.int .u8 (a : Int), .int .i64 k, .int .u32 (q : Int), .string s, .slice A l.length c0, .bool fx] 44)).alloc (.cells (secC z).toArray 38)) (secC z).toArray 38
    rw [heap_alloc, heap_alloc] at h
    exact h
  have HWW := Lib.hid hw1
  clear hch hs1 hw1
  by_cases hk0 : k = 0
  · subst hk0
    go_enter Tryd.func25, Tryd.ntmps25
    go_wp2_with fail
    rw [← HWW.out]
    have HXs := HX1
    have HBs := HB1
    have HZs := HZ1
    have HFs := HF1
    clear HX1 HB1 HZ1 HF1 HWW
    go_loopw [4] (fun i wr => ∃ j : Nat, j ≤ l.length ∧ j ≤ 200 ∧ i = .int .i64 (j : Int) ∧ Hid (∃ y : Dv.Sec, Blk wr (w.heap.size + 1 + 1) (secC y).toArray 38) ∧ Hid (Below w.heap.size w wr) ∧ Hid (Blk wr (w.heap.size + 1) (secC z).toArray 38) ∧ Hid (Blk wr w.heap.size #[.int .u8 (a : Int), .int .i64 0, .int .u32 (q : Int), .string s, .slice A l.length c0, .bool fx] 44)) (fun i _ => 200 - (intOf i).toNat)
    case atStart => exact ⟨0, by omega, by omega, rfl, ⟨_, HXs.out⟩, HBs, HZs, HFs⟩
    case round =>
      clear HXs HBs HZs HFs
      obtain ⟨j, hj, hj2, rfl, ⟨y, HX⟩, HB, HZ, HF⟩ := hrel
      have d1 : wr.cell? ⟨w.heap.size, 4, none⟩ = some (.slice A l.length c0) := HF.out.cell 4 rfl
      by_cases hlt : j < l.length
      · by_cases hlt2 : j < 200
        · have hltI : (j : Int) < (l.length : Int) := by omega
          have hltI2 : (j : Int) < 200 := by omega
          obtain ⟨qb, qo, rfl, hcs⟩ := HCH.out.at (by omega)
          have hc := hcs j hlt
          have hcb := hc.1
          have hcb2 := hc.2
          have hw := (HB.out.cell (p := ⟨qb, _, none⟩) (block_lt_of_cell hcb)).trans hcb
          have hw2 := (HB.out.cell (p := ⟨qb, _, none⟩) (block_lt_of_cell hcb2)).trans hcb2
          obtain ⟨c1, hc1⟩ : ∃ c1, c1 = l[j].1.toNat := ⟨_, rfl⟩
          obtain ⟨c2, hc2⟩ : ∃ c2, c2 = l[j].2.toNat := ⟨_, rfl⟩
          rw [← hc1] at hw
          rw [← hc2] at hw2
          have hc1l : c1 < 256 := by rw [hc1]; exact l[j].1.toNat_lt
          have hc2l : c2 < 256 := by rw [hc2]; exact l[j].2.toNat_lt
          obtain ⟨m, hm⟩ : ∃ m, m = c1 % 128 := ⟨_, rfl⟩
          have hm8 : m < 128 := by omega
          have htm : (c1 : Int) % 128 = (m : Int) := by omega
          have htm2 : (c1 : Int).tmod 128 = (m : Int) := by rw [Int.tmod_eq_emod_of_nonneg (by omega)]; exact htm
          have hyl := y.2
          have hX : ByB wr (w.heap.size + 1 + 1) y.1 := HX
          have e1 := hX.cell m (by omega)
          have e2 := hX.free m
          obtain ⟨c3, hc3⟩ : ∃ c3, c3 = (y.1[m]'(by omega)).toNat := ⟨_, rfl⟩
          rw [← hc3] at e1
          have hc3l : c3 < 256 := by rw [hc3]; exact UInt8.toNat_lt _
          have hx := u8_xor_nat c3 c2 hc3l hc2l
          obtain ⟨c4, hc4⟩ : ∃ c4, c4 = c3 ^^^ c2 := ⟨_, rfl⟩
          rw [← hc4] at hx
          have hc4l : c4 < 256 := by rw [hc4]; exact Nat.xor_lt_two_pow (n := 8) hc3l hc2l
          have HS : Hid (∃ y' : Dv.Sec, Blk (wr.setCell ⟨w.heap.size + 1 + 1, m, none⟩ (.int .u8 (c4 : Int))) (w.heap.size + 1 + 1) (secC y').toArray 38) := by
            refine ⟨⟨y.1.set m (UInt8.ofNat c4), by rw [List.length_set]; exact hyl⟩, ?_⟩
            have := hX.set m (UInt8.ofNat c4)
            rw [UInt8.toNat_ofNat', Nat.mod_eq_of_lt (by omega)] at this
            exact this
          have HN1 : Hid (w.heap.size + 1 + 1 ≠ w.heap.size) := by show _ ≠ _; omega
          have HN2 : Hid (w.heap.size + 1 + 1 ≠ w.heap.size + 1) := by show _ ≠ _; omega
          have HN3 : Hid (w.heap.size ≤ w.heap.size + 1 + 1) := by show _ ≤ _; omega
          clear hX hc hcs hcb hcb2 hc1 hc2 hc3 hc4 hm hyl
          go_wp2_with fail
          go_region
          all_goals
            go_wp2
            go_roundw
            case rel =>
              obtain ⟨y', hy'⟩ := HS.out
              exact ⟨j + 1, by omega, by omega, by go_num, ⟨y', Blk.drewN hy' 1⟩, (HB.out.setCell HN3.out _).drew, (HZ.out.setOther _ _ HN2.out).drewN 1, (HF.out.setOther _ _ HN1.out).drewN 1⟩
            case measure => simp [intOf]; omega
        · obtain rfl : j = 200 := by omega
          have hltI : ((200 : Nat) : Int) < (l.length : Int) := by omega
          have d2 : wr.cell? ⟨w.heap.size, 5, none⟩ = some (.bool fx) := HF.out.cell 5 rfl
          cases fx with
          | true =>
            have HFX : Hid (Calls Tryd.prog 53 #[.pointer (some ⟨w.heap.size + 1 + 1, 0, none⟩)] wr fun e w' => e = .returned (.tuple #[]) ∧ (∃ x : Dv.Sec, Blk w' (w.heap.size + 1 + 1) (secC x).toArray 38) ∧ wr.grownBy w' (some (w.heap.size + 1 + 1))) :=
              (rfixed_any wr (w.heap.size + 1 + 1) y.1 HX y.2).mono (fun e w' h => ⟨h.1, ⟨⟨splice y.1 124 (le (Cm.crc (y.1.take 124)) 4), (splice_len _ _ _ (by rw [y.2, le_len]; omega)).trans y.2⟩, h.2.1⟩, h.2.2⟩)
            go_wp2_with fail
            refine HFX.out.mono ?_
            rintro e w5 ⟨rfl, ⟨x, hx5⟩, hg5⟩
            have HX5 := Lib.hid hx5
            have HB5 : Hid (Below w.heap.size w w5) := HB.out.grown hg5 HB.out.size (fun k hk => by cases hk; omega)
            have HZ5 : Hid (Blk w5 (w.heap.size + 1) (secC z).toArray 38) := HZ.out.grown hg5 (fun e => by have := Option.some.inj e; omega)
            clear hx5 hg5 HFX HX
            have r5 := Lib.hid (Blk.range HX5.out)
            go_wp2_with (first
              | (refine bodyPost_ret (results_cell_row rfl _ _ (w.heap.size + 1) 38 (secC x).toArray (0, 0) _ rfl hb9 uSec rfl (by rw [iSec, secC_size])) rfl ?_; exact ⟨x, rfl, HB5.out.grown hg9 HB5.out.size (fun k hk => by cases hk; omega)⟩)
              | (refine wpList_load_mid rfl 38 _ rfl (w.heap.size + 1 + 1) 0 rfl (secC x) _ r5.out uSec rfl (by rw [iSec, secC_len]) ?_)
              | (refine wpList_store_sec rfl _ _ rfl rfl (w.heap.size + 1) x rfl rfl z HZ5.out ?_; intro w9 hb9 hg9))
          | false =>
            have HX5 := Lib.hid HX
            have r5 := Lib.hid (Blk.range HX5.out)
            go_wp2_with (first
              | (refine bodyPost_ret (results_cell_row rfl _ _ (w.heap.size + 1) 38 (secC y).toArray (0, 0) _ rfl hb9 uSec rfl (by rw [iSec, secC_size])) rfl ?_; exact ⟨y, rfl, HB.out.grown hg9 HB.out.size (fun k hk => by cases hk; omega)⟩)
              | (refine wpList_load_mid rfl 38 _ rfl (w.heap.size + 1 + 1) 0 rfl (secC y) _ r5.out uSec rfl (by rw [iSec, secC_len]) ?_)
              | (refine wpList_store_sec rfl _ _ rfl rfl (w.heap.size + 1) y rfl rfl z HZ.out ?_; intro w9 hb9 hg9))
      · obtain rfl : j = l.length := by omega
        have hltI : ¬ ((l.length : Int) < (l.length : Int)) := by omega
        have d2 : wr.cell? ⟨w.heap.size, 5, none⟩ = some (.bool fx) := HF.out.cell 5 rfl
        cases fx with
        | true =>
          have HFX : Hid (Calls Tryd.prog 53 #[.pointer (some ⟨w.heap.size + 1 + 1, 0, none⟩)] wr fun e w' => e = .returned (.tuple #[]) ∧ (∃ x : Dv.Sec, Blk w' (w.heap.size + 1 + 1) (secC x).toArray 38) ∧ wr.grownBy w' (some (w.heap.size + 1 + 1))) :=
            (rfixed_any wr (w.heap.size + 1 + 1) y.1 HX y.2).mono (fun e w' h => ⟨h.1, ⟨⟨splice y.1 124 (le (Cm.crc (y.1.take 124)) 4), (splice_len _ _ _ (by rw [y.2, le_len]; omega)).trans y.2⟩, h.2.1⟩, h.2.2⟩)
          go_wp2_with fail
          refine HFX.out.mono ?_
          rintro e w5 ⟨rfl, ⟨x, hx5⟩, hg5⟩
          have HX5 := Lib.hid hx5
          have HB5 : Hid (Below w.heap.size w w5) := HB.out.grown hg5 HB.out.size (fun k hk => by cases hk; omega)
          have HZ5 : Hid (Blk w5 (w.heap.size + 1) (secC z).toArray 38) := HZ.out.grown hg5 (fun e => by have := Option.some.inj e; omega)
          clear hx5 hg5 HFX HX
          have r5 := Lib.hid (Blk.range HX5.out)
          go_wp2_with (first
            | (refine bodyPost_ret (results_cell_row rfl _ _ (w.heap.size + 1) 38 (secC x).toArray (0, 0) _ rfl hb9 uSec rfl (by rw [iSec, secC_size])) rfl ?_; exact ⟨x, rfl, HB5.out.grown hg9 HB5.out.size (fun k hk => by cases hk; omega)⟩)
            | (refine wpList_load_mid rfl 38 _ rfl (w.heap.size + 1 + 1) 0 rfl (secC x) _ r5.out uSec rfl (by rw [iSec, secC_len]) ?_)
            | (refine wpList_store_sec rfl _ _ rfl rfl (w.heap.size + 1) x rfl rfl z HZ5.out ?_; intro w9 hb9 hg9))
        | false =>
          have HX5 := Lib.hid HX
          have r5 := Lib.hid (Blk.range HX5.out)
          go_wp2_with (first
            | (refine bodyPost_ret (results_cell_row rfl _ _ (w.heap.size + 1) 38 (secC y).toArray (0, 0) _ rfl hb9 uSec rfl (by rw [iSec, secC_size])) rfl ?_; exact ⟨y, rfl, HB.out.grown hg9 HB.out.size (fun k hk => by cases hk; omega)⟩)
            | (refine wpList_load_mid rfl 38 _ rfl (w.heap.size + 1 + 1) 0 rfl (secC y) _ r5.out uSec rfl (by rw [iSec, secC_len]) ?_)
            | (refine wpList_store_sec rfl _ _ rfl rfl (w.heap.size + 1) y rfl rfl z HZ.out ?_; intro w9 hb9 hg9))
  · have hk1 : (k != 0) = true := by rw [bne_iff_ne]; exact hk0
    by_cases hl : (s.size : Int) ≤ 112
    · obtain ⟨m, hm⟩ : ∃ m : Nat, IntKind.u64.wrap k = (m : Int) := ⟨(k % 18446744073709551616).toNat, by rw [Int.toNat_of_nonneg (by omega)]; simp only [IntKind.wrap, IntKind.bits, IntKind.signed]; rfl⟩
      have hm3 : Int.tmod (m : Int) 255 = ((m % 255 : Nat) : Int) := rfl
      have hmod : IntKind.i64.wrap ((m % 255 : Nat) : Int) = ((m % 255 : Nat) : Int) := IntWalk.i64_in _ (by omega)
      obtain ⟨x, hx⟩ : ∃ x, x = sealR (a : Int) (1 + (m : Int) % 255) q s.data.toList := ⟨_, rfl⟩
      obtain ⟨er, her⟩ : ∃ er, er = seE (a : Int) (1 + (m : Int) % 255) s.data.toList.length := ⟨_, rfl⟩
      have HS1 : Hid (∀ W, Calls Tryd.prog 24 #[.int .i64 (a : Int), .int .i64 (1 + (m : Int) % 255), .int .u32 (q : Int), .string s] W fun e w' => e = .returned (.tuple #[.agg (secC x).toArray, .int .i64 er]) ∧ Below W.heap.size W w') := fun W => by rw [hx, her]; exact rseal_any W (a : Int) (1 + (m : Int) % 255) q s
      clear hx her
      go_enter Tryd.func25, Tryd.ntmps25
      go_wp2_with fail
      rw [← HWW.out]
      refine (HS1.out w1).mono ?_
      rintro e w2 ⟨rfl, hb2⟩
      have HB2 := Lib.hid (HB1.out.trans (hb2.mono HB1.out.size))
      have HF2 := Lib.hid (HF1.out.below hb2 HF1.out.lt)
      have HZ2 := Lib.hid (HZ1.out.below hb2 HZ1.out.lt)
      have HX2 := Lib.hid (HX1.out.below hb2 HX1.out.lt)
      clear hb2 HS1 hm hm3 hmod HX1 HB1 HZ1 HF1 HWW
      go_wp2_with (refine wpList_store_sec rfl _ _ rfl rfl (w.heap.size + 1 + 1) x rfl rfl z HX2.out ?_; intro w3 hb3 hg3; have HXs := Lib.hid hb3; have HBs : Hid (Below w.heap.size w w3) := HB2.out.grown hg3 HB2.out.size (fun k hk => by cases hk; omega); have HZs : Hid (Blk w3 (w.heap.size + 1) (secC z).toArray 38) := HZ2.out.grown hg3 (fun e => by have := Option.some.inj e; omega); have HFs : Hid (Blk w3 w.heap.size #[.int .u8 (a : Int), .int .i64 k, .int .u32 (q : Int), .string s, .slice A l.length c0, .bool fx] 44) := HF2.out.grown hg3 (fun e => by have := Option.some.inj e; omega); clear hb3 hg3)
      go_loopw [4] (fun i wr => ∃ j : Nat, j ≤ l.length ∧ j ≤ 200 ∧ i = .int .i64 (j : Int) ∧ Hid (∃ y : Dv.Sec, Blk wr (w.heap.size + 1 + 1) (secC y).toArray 38) ∧ Hid (Below w.heap.size w wr) ∧ Hid (Blk wr (w.heap.size + 1) (secC z).toArray 38) ∧ Hid (Blk wr w.heap.size #[.int .u8 (a : Int), .int .i64 k, .int .u32 (q : Int), .string s, .slice A l.length c0, .bool fx] 44)) (fun i _ => 200 - (intOf i).toNat)
      case atStart => exact ⟨0, by omega, by omega, rfl, ⟨_, HXs.out⟩, HBs, HZs, HFs⟩
      case round =>
        clear HXs HBs HZs HFs
        obtain ⟨j, hj, hj2, rfl, ⟨y, HX⟩, HB, HZ, HF⟩ := hrel
        have d1 : wr.cell? ⟨w.heap.size, 4, none⟩ = some (.slice A l.length c0) := HF.out.cell 4 rfl
        by_cases hlt : j < l.length
        · by_cases hlt2 : j < 200
          · have hltI : (j : Int) < (l.length : Int) := by omega
            have hltI2 : (j : Int) < 200 := by omega
            obtain ⟨qb, qo, rfl, hcs⟩ := HCH.out.at (by omega)
            have hc := hcs j hlt
            have hcb := hc.1
            have hcb2 := hc.2
            have hw := (HB.out.cell (p := ⟨qb, _, none⟩) (block_lt_of_cell hcb)).trans hcb
            have hw2 := (HB.out.cell (p := ⟨qb, _, none⟩) (block_lt_of_cell hcb2)).trans hcb2
            obtain ⟨c1, hc1⟩ : ∃ c1, c1 = l[j].1.toNat := ⟨_, rfl⟩
            obtain ⟨c2, hc2⟩ : ∃ c2, c2 = l[j].2.toNat := ⟨_, rfl⟩
            rw [← hc1] at hw
            rw [← hc2] at hw2
            have hc1l : c1 < 256 := by rw [hc1]; exact l[j].1.toNat_lt
            have hc2l : c2 < 256 := by rw [hc2]; exact l[j].2.toNat_lt
            obtain ⟨m, hm⟩ : ∃ m, m = c1 % 128 := ⟨_, rfl⟩
            have hm8 : m < 128 := by omega
            have htm : (c1 : Int) % 128 = (m : Int) := by omega
            have htm2 : (c1 : Int).tmod 128 = (m : Int) := by rw [Int.tmod_eq_emod_of_nonneg (by omega)]; exact htm
            have hyl := y.2
            have hX : ByB wr (w.heap.size + 1 + 1) y.1 := HX
            have e1 := hX.cell m (by omega)
            have e2 := hX.free m
            obtain ⟨c3, hc3⟩ : ∃ c3, c3 = (y.1[m]'(by omega)).toNat := ⟨_, rfl⟩
            rw [← hc3] at e1
            have hc3l : c3 < 256 := by rw [hc3]; exact UInt8.toNat_lt _
            have hx := u8_xor_nat c3 c2 hc3l hc2l
            obtain ⟨c4, hc4⟩ : ∃ c4, c4 = c3 ^^^ c2 := ⟨_, rfl⟩
            rw [← hc4] at hx
            have hc4l : c4 < 256 := by rw [hc4]; exact Nat.xor_lt_two_pow (n := 8) hc3l hc2l
            have HS : Hid (∃ y' : Dv.Sec, Blk (wr.setCell ⟨w.heap.size + 1 + 1, m, none⟩ (.int .u8 (c4 : Int))) (w.heap.size + 1 + 1) (secC y').toArray 38) := by
              refine ⟨⟨y.1.set m (UInt8.ofNat c4), by rw [List.length_set]; exact hyl⟩, ?_⟩
              have := hX.set m (UInt8.ofNat c4)
              rw [UInt8.toNat_ofNat', Nat.mod_eq_of_lt (by omega)] at this
              exact this
            have HN1 : Hid (w.heap.size + 1 + 1 ≠ w.heap.size) := by show _ ≠ _; omega
            have HN2 : Hid (w.heap.size + 1 + 1 ≠ w.heap.size + 1) := by show _ ≠ _; omega
            have HN3 : Hid (w.heap.size ≤ w.heap.size + 1 + 1) := by show _ ≤ _; omega
            clear hX hc hcs hcb hcb2 hc1 hc2 hc3 hc4 hm hyl
            go_wp2_with fail
            go_region
            all_goals
              go_wp2
              go_roundw
              case rel =>
                obtain ⟨y', hy'⟩ := HS.out
                exact ⟨j + 1, by omega, by omega, by go_num, ⟨y', Blk.drewN hy' 1⟩, (HB.out.setCell HN3.out _).drew, (HZ.out.setOther _ _ HN2.out).drewN 1, (HF.out.setOther _ _ HN1.out).drewN 1⟩
              case measure => simp [intOf]; omega
          · obtain rfl : j = 200 := by omega
            have hltI : ((200 : Nat) : Int) < (l.length : Int) := by omega
            have d2 : wr.cell? ⟨w.heap.size, 5, none⟩ = some (.bool fx) := HF.out.cell 5 rfl
            cases fx with
            | true =>
              have HFX : Hid (Calls Tryd.prog 53 #[.pointer (some ⟨w.heap.size + 1 + 1, 0, none⟩)] wr fun e w' => e = .returned (.tuple #[]) ∧ (∃ x : Dv.Sec, Blk w' (w.heap.size + 1 + 1) (secC x).toArray 38) ∧ wr.grownBy w' (some (w.heap.size + 1 + 1))) :=
                (rfixed_any wr (w.heap.size + 1 + 1) y.1 HX y.2).mono (fun e w' h => ⟨h.1, ⟨⟨splice y.1 124 (le (Cm.crc (y.1.take 124)) 4), (splice_len _ _ _ (by rw [y.2, le_len]; omega)).trans y.2⟩, h.2.1⟩, h.2.2⟩)
              go_wp2_with fail
              refine HFX.out.mono ?_
              rintro e w5 ⟨rfl, ⟨x, hx5⟩, hg5⟩
              have HX5 := Lib.hid hx5
              have HB5 : Hid (Below w.heap.size w w5) := HB.out.grown hg5 HB.out.size (fun k hk => by cases hk; omega)
              have HZ5 : Hid (Blk w5 (w.heap.size + 1) (secC z).toArray 38) := HZ.out.grown hg5 (fun e => by have := Option.some.inj e; omega)
              clear hx5 hg5 HFX HX
              have r5 := Lib.hid (Blk.range HX5.out)
              go_wp2_with (first
                | (refine bodyPost_ret (results_cell_row rfl _ _ (w.heap.size + 1) 38 (secC x).toArray (0, 0) _ rfl hb9 uSec rfl (by rw [iSec, secC_size])) rfl ?_; exact ⟨x, rfl, HB5.out.grown hg9 HB5.out.size (fun k hk => by cases hk; omega)⟩)
                | (refine wpList_load_mid rfl 38 _ rfl (w.heap.size + 1 + 1) 0 rfl (secC x) _ r5.out uSec rfl (by rw [iSec, secC_len]) ?_)
                | (refine wpList_store_sec rfl _ _ rfl rfl (w.heap.size + 1) x rfl rfl z HZ5.out ?_; intro w9 hb9 hg9))
            | false =>
              have HX5 := Lib.hid HX
              have r5 := Lib.hid (Blk.range HX5.out)
              go_wp2_with (first
                | (refine bodyPost_ret (results_cell_row rfl _ _ (w.heap.size + 1) 38 (secC y).toArray (0, 0) _ rfl hb9 uSec rfl (by rw [iSec, secC_size])) rfl ?_; exact ⟨y, rfl, HB.out.grown hg9 HB.out.size (fun k hk => by cases hk; omega)⟩)
                | (refine wpList_load_mid rfl 38 _ rfl (w.heap.size + 1 + 1) 0 rfl (secC y) _ r5.out uSec rfl (by rw [iSec, secC_len]) ?_)
                | (refine wpList_store_sec rfl _ _ rfl rfl (w.heap.size + 1) y rfl rfl z HZ.out ?_; intro w9 hb9 hg9))
        · obtain rfl : j = l.length := by omega
          have hltI : ¬ ((l.length : Int) < (l.length : Int)) := by omega
          have d2 : wr.cell? ⟨w.heap.size, 5, none⟩ = some (.bool fx) := HF.out.cell 5 rfl
          cases fx with
          | true =>
            have HFX : Hid (Calls Tryd.prog 53 #[.pointer (some ⟨w.heap.size + 1 + 1, 0, none⟩)] wr fun e w' => e = .returned (.tuple #[]) ∧ (∃ x : Dv.Sec, Blk w' (w.heap.size + 1 + 1) (secC x).toArray 38) ∧ wr.grownBy w' (some (w.heap.size + 1 + 1))) :=
              (rfixed_any wr (w.heap.size + 1 + 1) y.1 HX y.2).mono (fun e w' h => ⟨h.1, ⟨⟨splice y.1 124 (le (Cm.crc (y.1.take 124)) 4), (splice_len _ _ _ (by rw [y.2, le_len]; omega)).trans y.2⟩, h.2.1⟩, h.2.2⟩)
            go_wp2_with fail
            refine HFX.out.mono ?_
            rintro e w5 ⟨rfl, ⟨x, hx5⟩, hg5⟩
            have HX5 := Lib.hid hx5
            have HB5 : Hid (Below w.heap.size w w5) := HB.out.grown hg5 HB.out.size (fun k hk => by cases hk; omega)
            have HZ5 : Hid (Blk w5 (w.heap.size + 1) (secC z).toArray 38) := HZ.out.grown hg5 (fun e => by have := Option.some.inj e; omega)
            clear hx5 hg5 HFX HX
            have r5 := Lib.hid (Blk.range HX5.out)
            go_wp2_with (first
              | (refine bodyPost_ret (results_cell_row rfl _ _ (w.heap.size + 1) 38 (secC x).toArray (0, 0) _ rfl hb9 uSec rfl (by rw [iSec, secC_size])) rfl ?_; exact ⟨x, rfl, HB5.out.grown hg9 HB5.out.size (fun k hk => by cases hk; omega)⟩)
              | (refine wpList_load_mid rfl 38 _ rfl (w.heap.size + 1 + 1) 0 rfl (secC x) _ r5.out uSec rfl (by rw [iSec, secC_len]) ?_)
              | (refine wpList_store_sec rfl _ _ rfl rfl (w.heap.size + 1) x rfl rfl z HZ5.out ?_; intro w9 hb9 hg9))
          | false =>
            have HX5 := Lib.hid HX
            have r5 := Lib.hid (Blk.range HX5.out)
            go_wp2_with (first
              | (refine bodyPost_ret (results_cell_row rfl _ _ (w.heap.size + 1) 38 (secC y).toArray (0, 0) _ rfl hb9 uSec rfl (by rw [iSec, secC_size])) rfl ?_; exact ⟨y, rfl, HB.out.grown hg9 HB.out.size (fun k hk => by cases hk; omega)⟩)
              | (refine wpList_load_mid rfl 38 _ rfl (w.heap.size + 1 + 1) 0 rfl (secC y) _ r5.out uSec rfl (by rw [iSec, secC_len]) ?_)
              | (refine wpList_store_sec rfl _ _ rfl rfl (w.heap.size + 1) y rfl rfl z HZ.out ?_; intro w9 hb9 hg9))
    · have hl2 : decide ((s.size : Int) ≤ 112) = false := decide_eq_false hl
      go_enter Tryd.func25, Tryd.ntmps25
      go_wp2_with fail
      rw [← HWW.out]
      have HXs := HX1
      have HBs := HB1
      have HZs := HZ1
      have HFs := HF1
      clear HX1 HB1 HZ1 HF1 HWW
      go_loopw [4] (fun i wr => ∃ j : Nat, j ≤ l.length ∧ j ≤ 200 ∧ i = .int .i64 (j : Int) ∧ Hid (∃ y : Dv.Sec, Blk wr (w.heap.size + 1 + 1) (secC y).toArray 38) ∧ Hid (Below w.heap.size w wr) ∧ Hid (Blk wr (w.heap.size + 1) (secC z).toArray 38) ∧ Hid (Blk wr w.heap.size #[.int .u8 (a : Int), .int .i64 k, .int .u32 (q : Int), .string s, .slice A l.length c0, .bool fx] 44)) (fun i _ => 200 - (intOf i).toNat)
      case atStart => exact ⟨0, by omega, by omega, rfl, ⟨_, HXs.out⟩, HBs, HZs, HFs⟩
      case round =>
        clear HXs HBs HZs HFs
        obtain ⟨j, hj, hj2, rfl, ⟨y, HX⟩, HB, HZ, HF⟩ := hrel
        have d1 : wr.cell? ⟨w.heap.size, 4, none⟩ = some (.slice A l.length c0) := HF.out.cell 4 rfl
        by_cases hlt : j < l.length
        · by_cases hlt2 : j < 200
          · have hltI : (j : Int) < (l.length : Int) := by omega
            have hltI2 : (j : Int) < 200 := by omega
            obtain ⟨qb, qo, rfl, hcs⟩ := HCH.out.at (by omega)
            have hc := hcs j hlt
            have hcb := hc.1
            have hcb2 := hc.2
            have hw := (HB.out.cell (p := ⟨qb, _, none⟩) (block_lt_of_cell hcb)).trans hcb
            have hw2 := (HB.out.cell (p := ⟨qb, _, none⟩) (block_lt_of_cell hcb2)).trans hcb2
            obtain ⟨c1, hc1⟩ : ∃ c1, c1 = l[j].1.toNat := ⟨_, rfl⟩
            obtain ⟨c2, hc2⟩ : ∃ c2, c2 = l[j].2.toNat := ⟨_, rfl⟩
            rw [← hc1] at hw
            rw [← hc2] at hw2
            have hc1l : c1 < 256 := by rw [hc1]; exact l[j].1.toNat_lt
            have hc2l : c2 < 256 := by rw [hc2]; exact l[j].2.toNat_lt
            obtain ⟨m, hm⟩ : ∃ m, m = c1 % 128 := ⟨_, rfl⟩
            have hm8 : m < 128 := by omega
            have htm : (c1 : Int) % 128 = (m : Int) := by omega
            have htm2 : (c1 : Int).tmod 128 = (m : Int) := by rw [Int.tmod_eq_emod_of_nonneg (by omega)]; exact htm
            have hyl := y.2
            have hX : ByB wr (w.heap.size + 1 + 1) y.1 := HX
            have e1 := hX.cell m (by omega)
            have e2 := hX.free m
            obtain ⟨c3, hc3⟩ : ∃ c3, c3 = (y.1[m]'(by omega)).toNat := ⟨_, rfl⟩
            rw [← hc3] at e1
            have hc3l : c3 < 256 := by rw [hc3]; exact UInt8.toNat_lt _
            have hx := u8_xor_nat c3 c2 hc3l hc2l
            obtain ⟨c4, hc4⟩ : ∃ c4, c4 = c3 ^^^ c2 := ⟨_, rfl⟩
            rw [← hc4] at hx
            have hc4l : c4 < 256 := by rw [hc4]; exact Nat.xor_lt_two_pow (n := 8) hc3l hc2l
            have HS : Hid (∃ y' : Dv.Sec, Blk (wr.setCell ⟨w.heap.size + 1 + 1, m, none⟩ (.int .u8 (c4 : Int))) (w.heap.size + 1 + 1) (secC y').toArray 38) := by
              refine ⟨⟨y.1.set m (UInt8.ofNat c4), by rw [List.length_set]; exact hyl⟩, ?_⟩
              have := hX.set m (UInt8.ofNat c4)
              rw [UInt8.toNat_ofNat', Nat.mod_eq_of_lt (by omega)] at this
              exact this
            have HN1 : Hid (w.heap.size + 1 + 1 ≠ w.heap.size) := by show _ ≠ _; omega
            have HN2 : Hid (w.heap.size + 1 + 1 ≠ w.heap.size + 1) := by show _ ≠ _; omega
            have HN3 : Hid (w.heap.size ≤ w.heap.size + 1 + 1) := by show _ ≤ _; omega
            clear hX hc hcs hcb hcb2 hc1 hc2 hc3 hc4 hm hyl
            go_wp2_with fail
            go_region
            all_goals
              go_wp2
              go_roundw
              case rel =>
                obtain ⟨y', hy'⟩ := HS.out
                exact ⟨j + 1, by omega, by omega, by go_num, ⟨y', Blk.drewN hy' 1⟩, (HB.out.setCell HN3.out _).drew, (HZ.out.setOther _ _ HN2.out).drewN 1, (HF.out.setOther _ _ HN1.out).drewN 1⟩
              case measure => simp [intOf]; omega
          · obtain rfl : j = 200 := by omega
            have hltI : ((200 : Nat) : Int) < (l.length : Int) := by omega
            have d2 : wr.cell? ⟨w.heap.size, 5, none⟩ = some (.bool fx) := HF.out.cell 5 rfl
            cases fx with
            | true =>
              have HFX : Hid (Calls Tryd.prog 53 #[.pointer (some ⟨w.heap.size + 1 + 1, 0, none⟩)] wr fun e w' => e = .returned (.tuple #[]) ∧ (∃ x : Dv.Sec, Blk w' (w.heap.size + 1 + 1) (secC x).toArray 38) ∧ wr.grownBy w' (some (w.heap.size + 1 + 1))) :=
                (rfixed_any wr (w.heap.size + 1 + 1) y.1 HX y.2).mono (fun e w' h => ⟨h.1, ⟨⟨splice y.1 124 (le (Cm.crc (y.1.take 124)) 4), (splice_len _ _ _ (by rw [y.2, le_len]; omega)).trans y.2⟩, h.2.1⟩, h.2.2⟩)
              go_wp2_with fail
              refine HFX.out.mono ?_
              rintro e w5 ⟨rfl, ⟨x, hx5⟩, hg5⟩
              have HX5 := Lib.hid hx5
              have HB5 : Hid (Below w.heap.size w w5) := HB.out.grown hg5 HB.out.size (fun k hk => by cases hk; omega)
              have HZ5 : Hid (Blk w5 (w.heap.size + 1) (secC z).toArray 38) := HZ.out.grown hg5 (fun e => by have := Option.some.inj e; omega)
              clear hx5 hg5 HFX HX
              have r5 := Lib.hid (Blk.range HX5.out)
              go_wp2_with (first
                | (refine bodyPost_ret (results_cell_row rfl _ _ (w.heap.size + 1) 38 (secC x).toArray (0, 0) _ rfl hb9 uSec rfl (by rw [iSec, secC_size])) rfl ?_; exact ⟨x, rfl, HB5.out.grown hg9 HB5.out.size (fun k hk => by cases hk; omega)⟩)
                | (refine wpList_load_mid rfl 38 _ rfl (w.heap.size + 1 + 1) 0 rfl (secC x) _ r5.out uSec rfl (by rw [iSec, secC_len]) ?_)
                | (refine wpList_store_sec rfl _ _ rfl rfl (w.heap.size + 1) x rfl rfl z HZ5.out ?_; intro w9 hb9 hg9))
            | false =>
              have HX5 := Lib.hid HX
              have r5 := Lib.hid (Blk.range HX5.out)
              go_wp2_with (first
                | (refine bodyPost_ret (results_cell_row rfl _ _ (w.heap.size + 1) 38 (secC y).toArray (0, 0) _ rfl hb9 uSec rfl (by rw [iSec, secC_size])) rfl ?_; exact ⟨y, rfl, HB.out.grown hg9 HB.out.size (fun k hk => by cases hk; omega)⟩)
                | (refine wpList_load_mid rfl 38 _ rfl (w.heap.size + 1 + 1) 0 rfl (secC y) _ r5.out uSec rfl (by rw [iSec, secC_len]) ?_)
                | (refine wpList_store_sec rfl _ _ rfl rfl (w.heap.size + 1) y rfl rfl z HZ.out ?_; intro w9 hb9 hg9))
        · obtain rfl : j = l.length := by omega
          have hltI : ¬ ((l.length : Int) < (l.length : Int)) := by omega
          have d2 : wr.cell? ⟨w.heap.size, 5, none⟩ = some (.bool fx) := HF.out.cell 5 rfl
          cases fx with
          | true =>
            have HFX : Hid (Calls Tryd.prog 53 #[.pointer (some ⟨w.heap.size + 1 + 1, 0, none⟩)] wr fun e w' => e = .returned (.tuple #[]) ∧ (∃ x : Dv.Sec, Blk w' (w.heap.size + 1 + 1) (secC x).toArray 38) ∧ wr.grownBy w' (some (w.heap.size + 1 + 1))) :=
              (rfixed_any wr (w.heap.size + 1 + 1) y.1 HX y.2).mono (fun e w' h => ⟨h.1, ⟨⟨splice y.1 124 (le (Cm.crc (y.1.take 124)) 4), (splice_len _ _ _ (by rw [y.2, le_len]; omega)).trans y.2⟩, h.2.1⟩, h.2.2⟩)
            go_wp2_with fail
            refine HFX.out.mono ?_
            rintro e w5 ⟨rfl, ⟨x, hx5⟩, hg5⟩
            have HX5 := Lib.hid hx5
            have HB5 : Hid (Below w.heap.size w w5) := HB.out.grown hg5 HB.out.size (fun k hk => by cases hk; omega)
            have HZ5 : Hid (Blk w5 (w.heap.size + 1) (secC z).toArray 38) := HZ.out.grown hg5 (fun e => by have := Option.some.inj e; omega)
            clear hx5 hg5 HFX HX
            have r5 := Lib.hid (Blk.range HX5.out)
            go_wp2_with (first
              | (refine bodyPost_ret (results_cell_row rfl _ _ (w.heap.size + 1) 38 (secC x).toArray (0, 0) _ rfl hb9 uSec rfl (by rw [iSec, secC_size])) rfl ?_; exact ⟨x, rfl, HB5.out.grown hg9 HB5.out.size (fun k hk => by cases hk; omega)⟩)
              | (refine wpList_load_mid rfl 38 _ rfl (w.heap.size + 1 + 1) 0 rfl (secC x) _ r5.out uSec rfl (by rw [iSec, secC_len]) ?_)
              | (refine wpList_store_sec rfl _ _ rfl rfl (w.heap.size + 1) x rfl rfl z HZ5.out ?_; intro w9 hb9 hg9))
          | false =>
            have HX5 := Lib.hid HX
            have r5 := Lib.hid (Blk.range HX5.out)
            go_wp2_with (first
              | (refine bodyPost_ret (results_cell_row rfl _ _ (w.heap.size + 1) 38 (secC y).toArray (0, 0) _ rfl hb9 uSec rfl (by rw [iSec, secC_size])) rfl ?_; exact ⟨y, rfl, HB.out.grown hg9 HB.out.size (fun k hk => by cases hk; omega)⟩)
              | (refine wpList_load_mid rfl 38 _ rfl (w.heap.size + 1 + 1) 0 rfl (secC y) _ r5.out uSec rfl (by rw [iSec, secC_len]) ?_)
              | (refine wpList_store_sec rfl _ _ rfl rfl (w.heap.size + 1) y rfl rfl z HZ.out ?_; intro w9 hb9 hg9))
end Go.Proofs.YtiddbdjcdoiloaaDoor
