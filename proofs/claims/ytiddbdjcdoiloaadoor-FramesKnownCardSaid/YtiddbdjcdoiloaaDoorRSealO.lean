/- The contract of Seal of the reference: the sector. Conditions: numbers of 32 bits. -/
import Derived.Test.YtiddbdjcdoiloaaDoorRSeal
namespace Go.Proofs.YtiddbdjcdoiloaaDoor
open Go.RowKit Fm

set_option maxRecDepth 100000 in
set_option maxHeartbeats 4000000 in
theorem rseal_ok (w : World) (at' kind seq : Nat) (s : ByteArray) (ha : at' < 256) (hk1 : 1 ≤ kind) (hk2 : kind ≤ 255) (hs : s.size ≤ 112) (hsd : s.data.toList.length ≤ 112) :
    Calls Tryd.prog 24 #[.int .i64 (at' : Int), .int .i64 (kind : Int), .int .u32 (seq : Int), .string s] w fun e w' => e = .returned (.tuple #[secV (sealS (at' : Int) (kind : Int) seq s.data.toList hsd), .int .i64 0]) ∧ Below w.heap.size w w' := by
  obtain ⟨z, hzz, hz, hbz⟩ := zero_gen
  obtain ⟨w2, hw2⟩ : ∃ w2, w2 = (w.alloc (.cells (secC z).toArray 38)).alloc (.cells ((((secC z).set 0 (.int .u8 76)).set 1 (.int .u8 (kind : Int))).set 2 (.int .u8 (s.size : Int))).toArray 38) := ⟨_, rfl⟩
  have hB2 : Below w.heap.size w w2 := by rw [hw2]; exact ((Below.refl _ _).alloc (Nat.le_refl _) _).alloc (by simp) _
  have HB2 := Lib.hid hB2
  have HR2 : Hid (Blk w2 w.heap.size (secC z).toArray 38) := by rw [hw2]; exact (Blk.new w _ _).below ((Below.refl _ _).alloc (Nat.le_refl _) _) (by simp)
  have HBY : Hid (ByB w2 (w.heap.size + 1) (b3 kind s.size)) := by
    have := Blk.new (w.alloc (.cells (secC z).toArray 38)) ((((secC z).set 0 (.int .u8 76)).set 1 (.int .u8 (kind : Int))).set 2 (.int .u8 (s.size : Int))).toArray 38
    rw [show (w.alloc (.cells (secC z).toArray 38)).heap.size = w.heap.size + 1 by simp, ← hw2] at this
    have e0 : secC z = z0.map encB := by rw [hzz.out]; rfl
    have e1 : ∀ (l : List UInt8) (i n : Nat), n < 256 → i < l.length → (l.map encB).set i (.int .u8 (n : Int)) = (splice l i (le n 1)).map encB := fun l i n hn hi => by
      rw [le_one, ← set_splice l i _ hi, List.map_set]
      congr 1
      unfold encB
      rw [UInt8.toNat_ofNat', Nat.mod_eq_of_lt hn]
    have e2 : ((((secC z).set 0 (.int .u8 76)).set 1 (.int .u8 (kind : Int))).set 2 (.int .u8 (s.size : Int))) = (b3 kind s.size).map encB := by
      rw [e0]
      have h1 := e1 z0 0 76 (by omega) (by rw [z0_len]; omega)
      have h2 := e1 b1 1 kind (by omega) (by rw [b1_len]; omega)
      have h3 := e1 (b2 kind) 2 s.size (by omega) (by rw [b2_len]; omega)
      have h1' : (z0.map encB).set 0 (.int .u8 76) = b1.map encB := h1
      rw [h1', h2]
      exact h3
    rw [e2] at this
    exact this
  obtain ⟨x, hx⟩ : ∃ x, x = sealS (at' : Int) (kind : Int) seq s.data.toList hsd := ⟨_, rfl⟩
  obtain ⟨d, hd⟩ : ∃ d, d = s.data.toList := ⟨_, rfl⟩
  have HX : Hid (x.1 = b7 at' ⟨kind, seq, d⟩) := by rw [b7_form at' ⟨kind, seq, d⟩ (by rw [hd]; exact hsd), hx, hd]; rfl
  have HDS : Hid (d.length = s.size) := by rw [hd]; simp [Hid]
  have HDE := Lib.hid hd
  rw [← hx]
  have hd112 : d.length ≤ 112 := by rw [hd]; exact hsd
  obtain ⟨v0, q0⟩ : ∃ v, (secC z)[0]? = some v := ⟨_, List.getElem?_eq_getElem (by rw [secC_len]; omega)⟩
  obtain ⟨v1, q1⟩ : ∃ v, (secC z)[1]? = some v := ⟨_, List.getElem?_eq_getElem (by rw [secC_len]; omega)⟩
  obtain ⟨v2, q2⟩ : ∃ v, (secC z)[2]? = some v := ⟨_, List.getElem?_eq_getElem (by rw [secC_len]; omega)⟩
  have h1 : ¬ (at' : Int) < 0 := by omega
  have h2 : ¬ 256 ≤ (at' : Int) := by omega
  have h3 : ¬ (kind : Int) < 1 := by omega
  have h4 : ¬ 255 < (kind : Int) := by omega
  have h5I : ¬ (112 : Int) < (s.size : Int) := by omega
  have hu := uArr
  have hw2h := Lib.hid hw2
  clear hx hsd hd hB2 hw2
  go_enter Tryd.func24, Tryd.ntmps24
  go_wp2_with fail
  rw [← hw2h.out]
  clear hw2h q0 q1 q2
  refine (rnumber_any w2 (w.heap.size + 1) 4 seq _ HBY.out (b3_len _ _) (by omega)).mono ?_
  rintro e w4 ⟨rfl, hb4, hg4⟩
  have HBY4 : Hid (ByB w4 (w.heap.size + 1) (b4 kind s.size seq)) := hb4
  have HG4 : Hid (w2.grownBy w4 (some (w.heap.size + 1))) := hg4
  clear hb4 hg4 HBY
  go_wp2_with fail
  go_loopw [11] (fun i wr => ∃ k : Nat, k ≤ s.size ∧ i = .int .i64 k ∧ Hid (ByB wr (w.heap.size + 1) (splice (b4 kind s.size seq) 8 (d.take k))) ∧ Hid (w2.grownBy wr (some (w.heap.size + 1)))) (fun i _ => s.size - (intOf i).toNat)
  case atStart => exact ⟨0, by omega, rfl, by rw [List.take_zero, splice_nil]; exact HBY4.out, HG4.out⟩
  case round =>
    obtain ⟨k, hk, rfl, HR, HG⟩ := hrel
    by_cases hlt : k < s.size
    · have hltI : (k : Int) < (s.size : Int) := by omega
      have hlb : (b4 kind s.size seq).length = 128 := b4_len _ _ _
      have hlk : k < d.length := by rw [HDS.out]; exact hlt
      have hsl : (splice (b4 kind s.size seq) 8 (d.take k)).length = 128 := by rw [splice_len _ _ _ (by rw [hlb, List.length_take]; omega), hlb]
      have hc := HR.out.cell (8 + k) (by omega)
      have hf := HR.out.free (8 + k)
      have HS : Hid (ByB (wr.setCell ⟨w.heap.size + 1, 8 + k, none⟩ (.int .u8 ((s[k]'hlt).toNat : Int))) (w.heap.size + 1) (splice (b4 kind s.size seq) 8 (d.take (k + 1)))) := by
        have h := HR.out.set (8 + k) (d[k]'hlk)
        rw [splice_snoc _ _ _ _ hlk (by rw [hlb]; omega)] at h
        have e : d[k]'hlk = s[k]'hlt := by
          have := HDE.out
          subst this
          rfl
        rw [e] at h
        exact h
      obtain ⟨cb, hcb⟩ : ∃ cb, cb = ((splice (b4 kind s.size seq) 8 (d.take k))[8 + k]'(by omega)).toNat := ⟨_, rfl⟩
      rw [← hcb] at hc
      have hk128 : (8 : Int) + (k : Int) < 128 := by omega
      clear hlb hlk hsl hcb
      go_wp2_with fail
      go_roundw
      case rel => exact ⟨k + 1, by omega, by go_num, HS.out, grown_set HG.out (8 + k) _⟩
      case measure => simp [intOf]; omega
    · obtain rfl : k = s.size := by omega
      have hltI : ¬ ((s.size : Int) < (s.size : Int)) := by omega
      have HBY5 : Hid (ByB wr (w.heap.size + 1) (b5 ⟨kind, seq, d⟩)) := by
        have h := HR.out
        rw [← HDS.out, List.take_length] at h
        exact h
      have hatw : ((at' : Int) % 4294967296) = (at' : Int) := by omega
      clear hatw
      go_wp2_with fail
      refine (rnumber_any wr (w.heap.size + 1) 120 at' _ HBY5.out (b5_len _ hd112) (by omega)).mono ?_
      rintro e w6 ⟨rfl, hb6, hg6⟩
      have HBY6 : Hid (ByB w6 (w.heap.size + 1) (b6 at' ⟨kind, seq, d⟩)) := hb6
      have HG6 : Hid (w2.grownBy w6 (some (w.heap.size + 1))) := grown_trans HG.out hg6
      have HL6 : Hid ((b6 at' ⟨kind, seq, d⟩).length = 128) := b6_len _ _ hd112
      have HC : Hid (Calls Tryd.prog 43 #[.slice (some ⟨w.heap.size + 1, 0, none⟩) 124 128] w6 fun e w' => e = .returned (.int .u32 ((Cm.crc ((b6 at' ⟨kind, seq, d⟩).take 124) : Nat) : Int)) ∧ w6 = w') := by
        have h := rcrc_any w6 _ _ _ (HBY6.out.sl 0 124 128 (by rw [HL6.out]; omega) (by omega)) (by rw [sub_len _ _ _ (by rw [HL6.out]; omega)]; omega)
        rw [show sub (b6 at' ⟨kind, seq, d⟩) 0 124 = (b6 at' ⟨kind, seq, d⟩).take 124 by simp [sub]] at h
        exact h
      clear hb6 hg6 HBY5 HR HG
      go_wp2_with fail
      refine HC.out.mono ?_
      rintro e w' ⟨rfl, rfl⟩
      go_wp2_with fail
      refine (rnumber_any w6 (w.heap.size + 1) 124 (Cm.crc ((b6 at' ⟨kind, seq, d⟩).take 124)) _ HBY6.out HL6.out (by omega)).mono ?_
      rintro e w7 ⟨rfl, hb7, hg7⟩
      have hsx : Hid (Blk w7 (w.heap.size + 1) (secC x).toArray 38) := by
        have h : ByB w7 (w.heap.size + 1) (b7 at' ⟨kind, seq, d⟩) := hb7
        rw [← HX.out] at h; exact h
      have hrg := Lib.hid (Blk.range hsx.out)
      have HG7 : Hid (w2.grownBy w7 (some (w.heap.size + 1))) := grown_trans HG6.out hg7
      have HR7 : Hid (Blk w7 w.heap.size (secC z).toArray 38) := HR2.out.grown HG7.out (fun e => by have := Option.some.inj e; omega)
      have HB7 : Hid (Below w.heap.size w w7) := below_grown HB2.out HG7.out HB2.out.size (by omega)
      clear hb7 hg7
      go_wp2_with (first
        | (refine bodyPost_ret (results_sec2 rfl _ _ w.heap.size x rfl hb9) rfl ?_; exact ⟨rfl, below_grown HB7.out hg9 HB7.out.size (Nat.le_refl _)⟩)
        | (refine wpList_load_mid rfl 38 _ rfl (w.heap.size + 1) 0 rfl (secC x) _ hrg.out uSec rfl (by rw [iSec, secC_len]) ?_)
        | (refine wpList_store_sec rfl _ _ rfl rfl w.heap.size x rfl rfl z HR7.out ?_; intro w9 hb9 hg9))
theorem rseal_any (w : World) (at' kind : Int) (seq : Nat) (s : ByteArray) :
    Calls Tryd.prog 24 #[.int .i64 at', .int .i64 kind, .int .u32 (seq : Int), .string s] w fun e w' => e = .returned (.tuple #[secV (sealR at' kind seq s.data.toList), .int .i64 (seE at' kind s.data.toList.length)]) ∧ Below w.heap.size w w' := by
  by_cases h : seE at' kind s.data.toList.length = 0
  · have hr : (0 ≤ at' ∧ at' < 256) ∧ (1 ≤ kind ∧ kind ≤ 255) ∧ s.data.toList.length ≤ 112 := by
      unfold seE at h
      split at h
      · omega
      · split at h
        · omega
        · omega
    obtain ⟨n, rfl⟩ : ∃ n : Nat, at' = (n : Int) := ⟨at'.toNat, by omega⟩
    obtain ⟨k, rfl⟩ : ∃ k : Nat, kind = (k : Int) := ⟨kind.toNat, by omega⟩
    have hsz : s.data.toList.length = s.size := by simp
    have he : sealR (n : Int) (k : Int) seq s.data.toList = sealS (n : Int) (k : Int) seq s.data.toList hr.2.2 := by unfold sealR; rw [dif_pos h]
    rw [he, h]
    exact rseal_ok w n k seq s (by omega) (by omega) (by omega) (by omega) hr.2.2
  · exact rseal_bad w at' kind seq s h
end Go.Proofs.YtiddbdjcdoiloaaDoor
