/- The contracts of Seal and Fixed of the reference. Conditions: numbers of 32 bits. -/
import Derived.Test.YtiddbdjcdoiloaaDoorRef
namespace Go.Proofs.YtiddbdjcdoiloaaDoor
open Go.RowKit Fm

theorem ByB.setN {w : World} {b : Nat} {l : List UInt8} (h : ByB w b l) (i n : Nat) (hi : i < l.length) (hn : n < 256) : ByB (w.setCell ⟨b, i, none⟩ (.int .u8 (n : Int))) b (splice l i (le n 1)) := by
  have := h.set i (UInt8.ofNat n)
  rw [UInt8.toNat_ofNat', Nat.mod_eq_of_lt hn, set_splice l i _ hi, ← le_one] at this
  exact this
theorem by_store3 {w : World} {b : Nat} (h : ByB w b z0) (k n : Nat) (hk : k < 256) (hn : n < 256) :
    ∃ v0 v1 v2, w.cell? ⟨b, 0, none⟩ = some v0 ∧ w.frozen? ⟨b, 0, none⟩ = false ∧ (w.setCell ⟨b, 0, none⟩ (.int .u8 76)).cell? ⟨b, 1, none⟩ = some v1 ∧ (w.setCell ⟨b, 0, none⟩ (.int .u8 76)).frozen? ⟨b, 1, none⟩ = false ∧
      ((w.setCell ⟨b, 0, none⟩ (.int .u8 76)).setCell ⟨b, 1, none⟩ (.int .u8 (k : Int))).cell? ⟨b, 2, none⟩ = some v2 ∧ ((w.setCell ⟨b, 0, none⟩ (.int .u8 76)).setCell ⟨b, 1, none⟩ (.int .u8 (k : Int))).frozen? ⟨b, 2, none⟩ = false ∧
      Hid (ByB (((w.setCell ⟨b, 0, none⟩ (.int .u8 76)).setCell ⟨b, 1, none⟩ (.int .u8 (k : Int))).setCell ⟨b, 2, none⟩ (.int .u8 (n : Int))) b (b3 k n)) ∧
      Hid (w.grownBy (((w.setCell ⟨b, 0, none⟩ (.int .u8 76)).setCell ⟨b, 1, none⟩ (.int .u8 (k : Int))).setCell ⟨b, 2, none⟩ (.int .u8 (n : Int))) (some b)) := by
  have h1 : ByB (w.setCell ⟨b, 0, none⟩ (.int .u8 76)) b b1 := h.setN 0 76 (by rw [z0_len]; omega) (by omega)
  have h2 : ByB ((w.setCell ⟨b, 0, none⟩ (.int .u8 76)).setCell ⟨b, 1, none⟩ (.int .u8 (k : Int))) b (b2 k) := h1.setN 1 k (by rw [b1_len]; omega) hk
  have h3 := h2.setN 2 n (by rw [b2_len]; omega) hn
  exact ⟨_, _, _, h.cell 0 (by rw [z0_len]; omega), h.free 0, h1.cell 1 (by rw [b1_len]; omega), h1.free 1, h2.cell 2 (by rw [b2_len]; omega), h2.free 2, h3, grown_set (grown_set (grown_setCell w b 0 _) 1 _) 2 _⟩
theorem rfixed_any (w : World) (b : Nat) (l : List UInt8) (hB : ByB w b l) (hl : l.length = 128) :
    Calls Tryd.prog 53 #[.pointer (some ⟨b, 0, none⟩)] w fun e w' => e = .returned (.tuple #[]) ∧ ByB w' b (splice l 124 (le (Cm.crc (l.take 124)) 4)) ∧ w.grownBy w' (some b) := by
  have hs : sub l 0 124 = l.take 124 := by simp [sub]
  have HC := Lib.hid (rcrc_any w _ _ _ (hB.sl 0 124 128 (by omega) (by omega)) (by rw [sub_len _ _ _ (by omega)]; omega))
  rw [hs] at HC
  have HN := Lib.hid (rnumber_any w b 124 (Cm.crc (l.take 124)) l hB hl (by omega))
  have hu := uArr
  clear hB hl hs
  go_enter Tryd.func53, Tryd.ntmps53
  go_wp2_with fail
  refine HC.out.mono ?_
  rintro e w' ⟨rfl, rfl⟩
  go_wp2_with fail
  refine HN.out.mono ?_
  rintro e w' ⟨rfl, hb, hg⟩
  have HB2 := Lib.hid hb
  have HG2 := Lib.hid hg
  clear hb hg
  go_wp2_with fail
  go_end0
  exact ⟨rfl, HB2.out, HG2.out⟩
set_option maxRecDepth 100000 in
set_option maxHeartbeats 2000000 in
theorem rseal_bad (w : World) (at' kind : Int) (seq : Nat) (s : ByteArray) (h : seE at' kind s.data.toList.length ≠ 0) :
    Calls Tryd.prog 24 #[.int .i64 at', .int .i64 kind, .int .u32 (seq : Int), .string s] w fun e w' => e = .returned (.tuple #[secV (sealR at' kind seq s.data.toList), .int .i64 (seE at' kind s.data.toList.length)]) ∧ Below w.heap.size w w' := by
  rw [sealR_bad h]
  obtain ⟨z, hzz, hz, hbz⟩ := zero_gen
  rw [← hzz.out]
  obtain ⟨w2, hw2⟩ : ∃ w2, w2 = (w.alloc (.cells (secC z).toArray 38)).alloc (.cells (secC z).toArray 38) := ⟨_, rfl⟩
  have HB2 : Hid (Below w.heap.size w w2) := by rw [hw2]; exact ((Below.refl _ _).alloc (Nat.le_refl _) _).alloc (by simp) _
  have HR2 : Hid (Blk w2 w.heap.size (secC z).toArray 38) := by rw [hw2]; exact (Blk.new w _ _).below ((Below.refl _ _).alloc (Nat.le_refl _) _) (by simp)
  have HS2 : Hid (Blk w2 (w.heap.size + 1) (secC z).toArray 38) := by
    have := Blk.new (w.alloc (.cells (secC z).toArray 38)) (secC z).toArray 38
    rw [show (w.alloc (.cells (secC z).toArray 38)).heap.size = w.heap.size + 1 by simp, ← hw2] at this; exact this
  rw [hw2] at HR2 HS2 HB2
  have hrg := Lib.hid (Blk.range HS2.out)
  have hsz : s.data.toList.length = s.size := by simp
  rw [hsz] at h ⊢
  clear hzz hsz hw2 HS2
  by_cases hr : at' < 0 ∨ 256 ≤ at' ∨ kind < 1 ∨ 255 < kind
  · have HE : seE at' kind s.size = 7 := by unfold seE; rw [if_pos hr]
    rw [HE]
    clear h HE
    by_cases h1 : at' < 0
    · clear hr
      go_enter Tryd.func24, Tryd.ntmps24
      go_wp2_with (first
        | (refine bodyPost_ret (results_sec2 rfl _ _ w.heap.size z rfl hb9) rfl ?_; exact ⟨rfl, HB2.out.grown hg9 HB2.out.size (fun k hk => by cases hk; exact Nat.le_refl _)⟩)
        | (refine wpList_load_mid rfl 38 _ rfl (w.heap.size + 1) 0 rfl (secC z) _ hrg.out uSec rfl (by rw [iSec, secC_len]) ?_)
        | (refine wpList_store_sec rfl _ _ rfl rfl w.heap.size z rfl rfl z HR2.out ?_; intro w9 hb9 hg9))
    by_cases h2 : 256 ≤ at'
    · clear hr
      go_enter Tryd.func24, Tryd.ntmps24
      go_wp2_with (first
        | (refine bodyPost_ret (results_sec2 rfl _ _ w.heap.size z rfl hb9) rfl ?_; exact ⟨rfl, HB2.out.grown hg9 HB2.out.size (fun k hk => by cases hk; exact Nat.le_refl _)⟩)
        | (refine wpList_load_mid rfl 38 _ rfl (w.heap.size + 1) 0 rfl (secC z) _ hrg.out uSec rfl (by rw [iSec, secC_len]) ?_)
        | (refine wpList_store_sec rfl _ _ rfl rfl w.heap.size z rfl rfl z HR2.out ?_; intro w9 hb9 hg9))
    by_cases h3 : kind < 1
    · clear hr
      go_enter Tryd.func24, Tryd.ntmps24
      go_wp2_with (first
        | (refine bodyPost_ret (results_sec2 rfl _ _ w.heap.size z rfl hb9) rfl ?_; exact ⟨rfl, HB2.out.grown hg9 HB2.out.size (fun k hk => by cases hk; exact Nat.le_refl _)⟩)
        | (refine wpList_load_mid rfl 38 _ rfl (w.heap.size + 1) 0 rfl (secC z) _ hrg.out uSec rfl (by rw [iSec, secC_len]) ?_)
        | (refine wpList_store_sec rfl _ _ rfl rfl w.heap.size z rfl rfl z HR2.out ?_; intro w9 hb9 hg9))
    have h4 : 255 < kind := by omega
    clear hr
    go_enter Tryd.func24, Tryd.ntmps24
    go_wp2_with (first
      | (refine bodyPost_ret (results_sec2 rfl _ _ w.heap.size z rfl hb9) rfl ?_; exact ⟨rfl, HB2.out.grown hg9 HB2.out.size (fun k hk => by cases hk; exact Nat.le_refl _)⟩)
      | (refine wpList_load_mid rfl 38 _ rfl (w.heap.size + 1) 0 rfl (secC z) _ hrg.out uSec rfl (by rw [iSec, secC_len]) ?_)
      | (refine wpList_store_sec rfl _ _ rfl rfl w.heap.size z rfl rfl z HR2.out ?_; intro w9 hb9 hg9))
  · by_cases h5 : 112 < s.size
    · rw [seE_long hr h5]
      have h1 : ¬ at' < 0 := by omega
      have h2 : ¬ 256 ≤ at' := by omega
      have h3 : ¬ kind < 1 := by omega
      have h4 : ¬ 255 < kind := by omega
      have h5I : (112 : Int) < (s.size : Int) := by omega
      clear hr h
      go_enter Tryd.func24, Tryd.ntmps24
      go_wp2_with (first
        | (refine bodyPost_ret (results_sec2 rfl _ _ w.heap.size z rfl hb9) rfl ?_; exact ⟨rfl, HB2.out.grown hg9 HB2.out.size (fun k hk => by cases hk; exact Nat.le_refl _)⟩)
        | (refine wpList_load_mid rfl 38 _ rfl (w.heap.size + 1) 0 rfl (secC z) _ hrg.out uSec rfl (by rw [iSec, secC_len]) ?_)
        | (refine wpList_store_sec rfl _ _ rfl rfl w.heap.size z rfl rfl z HR2.out ?_; intro w9 hb9 hg9))
    · exact absurd (seE_ok hr h5) h
end Go.Proofs.YtiddbdjcdoiloaaDoor
