/- The contracts of Filled, ones and twos: a sector whose bytes are all one, the first one another one. No condition. -/
import Derived.Test.YtcmhhiakmgooeaaRead
namespace Go.Proofs.Ytcmhhiakmgooeaa
open Go.RowKit Go.Maps

/-- A sector that is filled as far as k. -/
def fillL (z : Dv.Sec) (b : UInt8) (k : Nat) : List Value := List.replicate k (encB b) ++ (secC z).drop k
theorem fillL_len (z : Dv.Sec) (b : UInt8) (k : Nat) (h : k ≤ 128) : (fillL z b k).length = 128 := by
  unfold fillL; rw [List.length_append, List.length_replicate, List.length_drop, secC_len]; omega
theorem fillL_set (z : Dv.Sec) (b : UInt8) (k : Nat) (h : k < 128) : (fillL z b k).toArray.setIfInBounds k (encB b) = (fillL z b (k + 1)).toArray := by
  have hl : (secC z).length = 128 := secC_len z
  have e : (secC z).drop k = (secC z)[k]'(by omega) :: (secC z).drop (k + 1) := by rw [List.drop_eq_getElem_cons]
  simp only [List.setIfInBounds_toArray]
  congr 1
  unfold fillL
  rw [List.set_append_right _ _ (by simp), List.length_replicate, Nat.sub_self, e, List.set_cons_zero, List.replicate_succ', List.append_assoc]
  rfl
theorem fillL_end (z : Dv.Sec) (a b : UInt8) : (fillL z b 128).toArray.setIfInBounds 0 (encB a) = (secC (Dv.filled a b)).toArray := by
  have hl : (secC z).length = 128 := secC_len z
  unfold fillL secC Dv.filled
  rw [List.drop_of_length_le (by unfold secC at hl; omega)]
  simp [List.replicate_succ]
set_option maxRecDepth 100000 in
set_option maxHeartbeats 1000000 in
theorem filled_any (w : World) (a b : UInt8) :
    Calls Try.prog 23 #[.int .u8 (a.toNat : Int), .int .u8 (b.toNat : Int)] w fun e w' => e = .returned (secV (Dv.filled a b)) ∧ Below w.heap.size w w' := by
  obtain ⟨z, _, hz, _⟩ := zero_gen
  have HB0 : Hid (Below w.heap.size w ((w.alloc (.cells (secC z).toArray 58)).alloc (.cells (secC z).toArray 58))) := ((Below.refl _ _).alloc (Nat.le_refl _) _).alloc (by simp) _
  have HK0 : Hid (Blk ((w.alloc (.cells (secC z).toArray 58)).alloc (.cells (secC z).toArray 58)) w.heap.size (secC z).toArray 58) := (Blk.new w _ _).below ((Below.refl _ _).alloc (Nat.le_refl _) _) (by simp)
  have HK1 : Hid (Blk ((w.alloc (.cells (secC z).toArray 58)).alloc (.cells (secC z).toArray 58)) (w.heap.size + 1) (secC z).toArray 58) := by have h := Blk.new (w.alloc (.cells (secC z).toArray 58)) (secC z).toArray 58; rw [show (w.alloc (.cells (secC z).toArray 58)).heap.size = w.heap.size + 1 by simp] at h; exact h
  have HEND := Lib.hid (fillL_end z a b)
  obtain ⟨x, hx⟩ : ∃ x, x = Dv.filled a b := ⟨_, rfl⟩
  rw [← hx] at HEND ⊢
  clear hx
  go_enter Try.func23, Try.ntmps23
  go_wp2_with fail
  go_loopw [6] (fun i wr => ∃ k : Nat, k ≤ 128 ∧ i = .int .i64 k ∧ Hid (Blk wr (w.heap.size + 1) (fillL z b k).toArray 58) ∧ Hid (Blk wr w.heap.size (secC z).toArray 58) ∧ Hid (Below w.heap.size w wr)) (fun i _ => 128 - (intOf i).toNat)
  case atStart => exact ⟨0, by omega, rfl, HK1.out, HK0.out, HB0.out⟩
  case round =>
    obtain ⟨k, hk, rfl, HF, HZ, HB⟩ := hrel
    by_cases hlt : k < 128
    · have hltI : (k : Int) < 128 := by omega
      have hcl : (fillL z b k).length = 128 := fillL_len z b k hk
      have hc : wr.cell? ⟨w.heap.size + 1, k, none⟩ = some ((fillL z b k)[k]'(by omega)) := HF.out.cell k (by rw [List.getElem?_toArray]; exact List.getElem?_eq_getElem _)
      have hf : wr.frozen? ⟨w.heap.size + 1, k, none⟩ = false := HF.out.free k
      have HS := HF.out.set k (encB b)
      rw [fillL_set z b k hlt] at HS
      have HS2 := Lib.hid HS
      have HZ2 := Lib.hid (HZ.out.grown (grown_setCell wr (w.heap.size + 1) k (encB b)) (fun e => by have := Option.some.inj e; omega))
      have HB2 := Lib.hid (below_grown HB.out (grown_setCell wr (w.heap.size + 1) k (encB b)) HB.out.size (by omega))
      obtain ⟨v0, hv0⟩ : ∃ v0, v0 = ((fillL z b k)[k]'(by omega)) := ⟨_, rfl⟩
      rw [← hv0] at hc
      clear HS hcl hv0
      unfold encB at HS2 HZ2 HB2
      go_wp2_with fail
      go_roundw
      case rel => exact ⟨k + 1, by omega, by go_num, HS2.out, HZ2.out, HB2.out⟩
      case measure => simp [intOf]; omega
    · obtain rfl : k = 128 := by omega
      have hcl : (fillL z b 128).length = 128 := fillL_len z b 128 (by omega)
      have hc : wr.cell? ⟨w.heap.size + 1, 0, none⟩ = some ((fillL z b 128)[0]'(by omega)) := HF.out.cell 0 (by rw [List.getElem?_toArray]; exact List.getElem?_eq_getElem _)
      have hf : wr.frozen? ⟨w.heap.size + 1, 0, none⟩ = false := HF.out.free 0
      have HS := HF.out.set 0 (encB a)
      rw [HEND.out] at HS
      have HS2 := Lib.hid HS
      have HZ2 := Lib.hid (HZ.out.grown (grown_setCell wr (w.heap.size + 1) 0 (encB a)) (fun e => by have := Option.some.inj e; omega))
      have HB2 := Lib.hid (below_grown HB.out (grown_setCell wr (w.heap.size + 1) 0 (encB a)) HB.out.size (by omega))
      obtain ⟨v0, hv0⟩ : ∃ v0, v0 = ((fillL z b 128)[0]'(by omega)) := ⟨_, rfl⟩
      rw [← hv0] at hc
      have hbs := HB.out.size
      clear HS hcl hv0
      unfold encB at HS2 HZ2 HB2
      go_wp2_with (first
        | (refine bodyPost_ret (results_cell_row rfl _ _ w.heap.size 58 (secC x).toArray (0, 0) _ rfl hb9 uSec rfl (by rw [iSec, secC_size])) rfl ?_; exact ⟨rfl, below_grown HB2.out hg9 (Nat.le_trans hbs (by simp)) (Nat.le_refl _)⟩)
        | (refine wpList_load_mid rfl 58 _ rfl (w.heap.size + 1) 0 rfl (secC x) _ (Blk.range HS2.out) uSec rfl (by rw [iSec, secC_len]) ?_)
        | (refine wpList_store_sec rfl _ _ rfl rfl w.heap.size x rfl rfl z HZ2.out ?_; intro w9 hb9 hg9))
set_option maxRecDepth 100000 in
theorem ones_any (w : World) :
    Calls Try.prog 29 #[] w fun e w' => e = .returned (secV (Dv.filled 1 1)) ∧ Below w.heap.size w w' := by
  obtain ⟨z, _, hz, _⟩ := zero_gen
  have HF : Hid (∀ W, Calls Try.prog 23 #[.int .u8 1, .int .u8 1] W fun e w' => e = .returned (secV (Dv.filled 1 1)) ∧ Below W.heap.size W w') := fun W => filled_any W 1 1
  have HBL := Lib.hid (Blk.new w (secC z).toArray 58)
  have HB0 : Hid (Below w.heap.size w (w.alloc (.cells (secC z).toArray 58))) := (Below.refl _ _).alloc (Nat.le_refl _) _
  obtain ⟨x, hx⟩ : ∃ x, x = Dv.filled 1 1 := ⟨_, rfl⟩
  rw [← hx] at HF ⊢
  clear hx
  go_enter Try.func29, Try.ntmps29
  go_wp2_with fail
  refine (HF.out _).mono ?_
  rintro e w1 ⟨rfl, hb1⟩
  have HBL1 := Lib.hid (HBL.out.below hb1 HBL.out.lt)
  have HB1 : Hid (Below w.heap.size w w1) := HB0.out.trans (hb1.mono HB0.out.size)
  clear hb1
  have hvx : secV x = .agg (secC x).toArray := rfl
  rw [hvx]
  go_wp2_with (first
    | (refine bodyPost_ret (results_cell_row rfl _ _ w.heap.size 58 (secC x).toArray (0, 0) _ rfl hb9 uSec rfl (by rw [iSec, secC_size])) rfl ?_; exact ⟨rfl, below_grown HB1.out hg9 HB1.out.size (Nat.le_refl _)⟩)
    | (refine wpList_store_sec rfl _ _ rfl rfl w.heap.size x rfl rfl z HBL1.out ?_; intro w9 hb9 hg9))
set_option maxRecDepth 100000 in
theorem twos_any (w : World) :
    Calls Try.prog 33 #[] w fun e w' => e = .returned (secV (Dv.filled 2 2)) ∧ Below w.heap.size w w' := by
  obtain ⟨z, _, hz, _⟩ := zero_gen
  have HF : Hid (∀ W, Calls Try.prog 23 #[.int .u8 2, .int .u8 2] W fun e w' => e = .returned (secV (Dv.filled 2 2)) ∧ Below W.heap.size W w') := fun W => filled_any W 2 2
  have HBL := Lib.hid (Blk.new w (secC z).toArray 58)
  have HB0 : Hid (Below w.heap.size w (w.alloc (.cells (secC z).toArray 58))) := (Below.refl _ _).alloc (Nat.le_refl _) _
  obtain ⟨x, hx⟩ : ∃ x, x = Dv.filled 2 2 := ⟨_, rfl⟩
  rw [← hx] at HF ⊢
  clear hx
  go_enter Try.func33, Try.ntmps33
  go_wp2_with fail
  refine (HF.out _).mono ?_
  rintro e w1 ⟨rfl, hb1⟩
  have HBL1 := Lib.hid (HBL.out.below hb1 HBL.out.lt)
  have HB1 : Hid (Below w.heap.size w w1) := HB0.out.trans (hb1.mono HB0.out.size)
  clear hb1
  have hvx : secV x = .agg (secC x).toArray := rfl
  rw [hvx]
  go_wp2_with (first
    | (refine bodyPost_ret (results_cell_row rfl _ _ w.heap.size 58 (secC x).toArray (0, 0) _ rfl hb9 uSec rfl (by rw [iSec, secC_size])) rfl ?_; exact ⟨rfl, below_grown HB1.out hg9 HB1.out.size (Nat.le_refl _)⟩)
    | (refine wpList_store_sec rfl _ _ rfl rfl w.heap.size x rfl rfl z HBL1.out ?_; intro w9 hb9 hg9))
end Go.Proofs.Ytcmhhiakmgooeaa
