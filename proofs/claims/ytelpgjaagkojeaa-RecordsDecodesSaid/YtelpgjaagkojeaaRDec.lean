/- The contract of Decode of the reference. Conditions: a slice that holds the bytes, a string of at most 10^9 bytes. -/
import Derived.Test.YtelpgjaagkojeaaROneL
import Derived.Test.YtelpgjaagkojeaaMore
namespace Go.Proofs.Ytelpgjaagkojeaa
open Go.RowKit

theorem below_undrew {B : Nat} {w w' : World} (h : Below B w.drew w') : Below B w w' := ⟨h.os, h.tape, h.output, h.size, h.block⟩
theorem dec_new {wr w5 : World} {base : Nat} {lv : Value} {ls : List UInt32} (cs : Array Value) (hbs : base ≤ wr.heap.size) (hol : OL w5 wr.drew.heap.size lv ls) (hb : Below wr.drew.heap.size wr.drew w5) :
    OL (w5.alloc (.cells cs 49)) base lv ls ∧ Blk (w5.alloc (.cells cs 49)) w5.heap.size cs 49 ∧ Below wr.heap.size wr (w5.alloc (.cells cs 49)) :=
  ⟨own_lower (World.ownsRow.alloc hol _) hbs, Blk.new _ _ _, (show Below wr.heap.size wr w5 from below_undrew hb).alloc hb.size _⟩
theorem dec_old {wr w5 : World} {base : Nat} {lv : Value} {ls : List UInt32} (x y z : Value) (hbs : base ≤ wr.heap.size) {o : Obj} (hol : OL w5 (wr.drew.alloc o).heap.size lv ls) (hb : Below (wr.drew.alloc o).heap.size (wr.drew.alloc o) w5) {x0 y0 z0 : Value} (hk : Blk w5 wr.heap.size #[x0, y0, z0] 49) :
    OL (((w5.setCell ⟨wr.heap.size, 0, none⟩ x).setCell ⟨wr.heap.size, 1, none⟩ y).setCell ⟨wr.heap.size, 2, none⟩ z) base lv ls ∧ Blk (((w5.setCell ⟨wr.heap.size, 0, none⟩ x).setCell ⟨wr.heap.size, 1, none⟩ y).setCell ⟨wr.heap.size, 2, none⟩ z) wr.heap.size #[x, y, z] 49 ∧ Below wr.heap.size wr (((w5.setCell ⟨wr.heap.size, 0, none⟩ x).setCell ⟨wr.heap.size, 1, none⟩ y).setCell ⟨wr.heap.size, 2, none⟩ z) := by
  have hg : w5.grownBy (((w5.setCell ⟨wr.heap.size, 0, none⟩ x).setCell ⟨wr.heap.size, 1, none⟩ y).setCell ⟨wr.heap.size, 2, none⟩ z) (some wr.heap.size) := grown_set (grown_set (grown_setCell _ _ _ _) _ _) _ _
  have h5 : Below wr.heap.size wr w5 := below_undrew (((Below.refl wr.heap.size wr.drew).alloc (Nat.le_refl _) o).trans (hb.mono (by simp)))
  exact ⟨own_lower (World.ownsRow.kept hol hg (.inr (fun e => hol.apart hk (by decide) e.symm))) (by simp; omega), ((hk.set 0 x).set 1 y).set 2 z, below_grown h5 hg h5.size (Nat.le_refl _)⟩
set_option maxRecDepth 100000 in
set_option maxHeartbeats 1000000 in
theorem rdecode_any (w : World) (v : Value) (fs y : List UInt8) (hv : SL encB w w.heap.size v y) (hf : fs.length ≤ 1000000000) (hy : y.length ≤ 9223372036854775807) :
    Calls Try.prog 17 #[.string ⟨fs.toArray⟩, v] w fun e w' => DeE w fs y e w' := by
  obtain ⟨A, c0, rfl⟩ := hv.form
  have HV := Lib.hid hv
  have HFA := Lib.hid (form_any w fs hf)
  have hcap := hv.cap
  clear hv
  go_enter Try.func17, Try.ntmps17
  go_wp2_with fail
  refine HFA.out.mono ?_
  rintro e w' ⟨rfl, rfl⟩
  clear HFA
  by_cases hfe : Rm.formE fs = 0
  case neg =>
    have HR : Hid (Rm.decR fs y = ([], 0, Rm.formE fs)) := by unfold Rm.decR; exact if_pos hfe
    obtain ⟨n, hn⟩ : ∃ n, n = Rm.formE fs := ⟨_, rfl⟩
    rw [← hn] at HR hfe ⊢
    have hd : ((n : Int) != 0) = true := by rw [bne_iff_ne]; omega
    clear hn
    go_wp2_with fail
    go_ret3
    exact DeE.bad HR.out rfl (Below.refl _ _)
  rw [hfe]
  have HFE := Lib.hid hfe
  have h64 := (Rm.formE_zero hfe).1
  have HAK := Lib.hid (Rm.formE_zero hfe).2
  clear hfe
  go_wp2_with fail
  go_loopw [8, 9, 10] (fun b at_ i wr => ∃ (k at' : Nat) (L : List Rm.Val), k ≤ fs.length ∧ i = .int .i64 k ∧ at_ = .int .i64 at' ∧ Hid (Rm.dec (fs.take k) y = (L, at', 0)) ∧ at' ≤ y.length ∧ L.length = k ∧ Hid (OV wr w.heap.size b L) ∧ Hid (Below w.heap.size w wr)) (fun _ _ i _ => fs.length - (intOf i).toNat)
  case atStart => exact ⟨0, 0, [], by omega, rfl, rfl, by simp [Hid, Rm.dec], by omega, rfl, OV.nil _ _, Below.refl _ _⟩
  case round =>
    obtain ⟨k, at', L, hk, rfl, rfl, HD, hat, hLl, HO, HB⟩ := hrel
    by_cases hlt : k < fs.length
    · have hltI : (k : Int) < (fs.length : Int) := by omega
      have hisk : Hid (Rm.isK fs[k] = true) := List.all_eq_true.1 HAK.out _ (List.getElem_mem _)
      obtain ⟨x, n, err, hone⟩ : ∃ x n err, Rm.one fs[k] (y.drop at') = (x, n, err) := ⟨_, _, _, rfl⟩
      have hnx : Hid (err = 0 → Rm.dec (fs.take (k + 1)) y = (L ++ [x], at' + n, 0)) := fun h => by subst h; exact Rm.dec_next hlt HD.out hone
      have hst : Hid (err ≠ 0 → Rm.decR fs y = ([], 0, err)) := fun h => by
        have := Rm.dec_stop hlt HD.out (by rw [hone]; exact h)
        rw [hone] at this
        show Rm.decR fs y = _
        unfold Rm.decR
        rw [if_neg (by rw [HFE.out]; simp), this, if_pos h]
      have hnl : Hid (err = 0 → at' + n ≤ y.length) := fun h => by
        subst h
        have := (Rm.one_back hisk.out hone).2.1
        rw [List.length_drop] at this; omega
      have hsz : (⟨fs.toArray⟩ : ByteArray).size = fs.length := by simp [ByteArray.size]
      have hh : k < (⟨fs.toArray⟩ : ByteArray).size := by rw [hsz]; exact hlt
      have hbs := HB.out.size
      have HONE := Lib.hid hone
      have HSB : Hid (∀ W, Below w.heap.size w W → SL encB W w.heap.size _ (y.drop at')) := fun W hW => (HV.out.below hW (Nat.le_refl _)).rest (k := at') hat
      have HC : Hid (∀ W, Below w.heap.size w W → Calls Try.prog 27 #[.int .u8 ((((⟨fs.toArray⟩ : ByteArray)[k]'hh).toNat : Nat) : Int), .slice (if c0 = at' then A else A.map fun x => x.add at') (y.length - at') (c0 - at')] W fun e w' => OnE W fs[k] (y.drop at') e w') :=
        fun W hW => rone_any W w.heap.size _ (y.drop at') fs[k] hisk.out (HSB.out W hW) hW.size (by rw [List.length_drop]; omega)
      have hatI : (at' : Int) ≤ (y.length : Int) := by omega
      have hatc : (at' : Int) ≤ (c0 : Int) := by have := HV.out.cap; omega
      by_cases hca : c0 = at'
      · have hcaI : (c0 : Int) = (at' : Int) := by omega
        rw [if_pos hca, show c0 - at' = 0 by omega] at HC
        go_wp2_with fail
        go_region_law
          (first
          | (go_simp
             go_at_call 27
             first | refine (HC.out wr.drew (below_drewN HB.out 1)).mono ?_ | refine (HC.out (wr.drew.alloc (.cells #[.int .u64 0, .string ⟨#[]⟩, .slice none 0 0] 49)) ((below_drewN HB.out 1).alloc (by simp; omega) _)).mono ?_
             rintro e w5 ⟨v5, rfl, hvo, hb5⟩
             rw [HONE.out] at hvo ⊢
             simp only at hvo ⊢
             obtain ⟨lv, rfl, hol, hx64⟩ := hvo
             have HOL5 := Lib.hid hol
             have HB5 := Lib.hid hb5
             obtain ⟨A2, n2, c2, rfl⟩ := OL.form3 hol
             clear hol hb5
             try (
               have hkb : Blk w5 wr.heap.size #[.int .u64 0, .string ⟨#[]⟩, .slice none 0 0] 49 := (Blk.new wr.drew #[.int .u64 0, .string ⟨#[]⟩, .slice none 0 0] 49).below HB5.out (by simp)
               have k0 := hkb.cell 0 rfl
               have k1 := hkb.cell 1 rfl
               have k2 := hkb.cell 2 rfl
               have z0 := hkb.free 0
               have z1 := hkb.free 1
               have z2 := hkb.free 2)))
        all_goals
          first
          | (have h6 := dec_new (wr := wr) (w5 := w5) (base := w.heap.size) #[.int .u64 (x.num : Int), .string ⟨x.str.toArray⟩, .slice A2 n2 c2] hbs HOL5.out HB5.out
             obtain ⟨w6, hw6⟩ : ∃ w6, w6 = w5.alloc (.cells #[.int .u64 (x.num : Int), .string ⟨x.str.toArray⟩, .slice A2 n2 c2] 49) := ⟨_, rfl⟩
             rw [← hw6] at h6 ⊢
             have HOL6 := Lib.hid h6.1
             have HB6 := Lib.hid h6.2.2
             have f0 := h6.2.1.cell 0 rfl
             have f1 := h6.2.1.cell 1 rfl
             have f2 := h6.2.1.cell 2 rfl
             clear hw6 h6)
          | (have h6 := dec_old (wr := wr) (w5 := w5) (base := w.heap.size) (.int .u64 (x.num : Int)) (.string ⟨x.str.toArray⟩) (.slice A2 n2 c2) hbs HOL5.out HB5.out hkb
             obtain ⟨w6, hw6⟩ : ∃ w6, w6 = (((w5.setCell ⟨wr.heap.size, 0, none⟩ (.int .u64 (x.num : Int))).setCell ⟨wr.heap.size, 1, none⟩ (.string ⟨x.str.toArray⟩)).setCell ⟨wr.heap.size, 2, none⟩ (.slice A2 n2 c2)) := ⟨_, rfl⟩
             rw [← hw6] at h6 ⊢
             have HOL6 := Lib.hid h6.1
             have HB6 := Lib.hid h6.2.2
             have f0 := h6.2.1.cell 0 rfl
             have f1 := h6.2.1.cell 1 rfl
             have f2 := h6.2.1.cell 2 rfl
             clear hw6 h6)
          have hs6 := HB6.out.size
          have HBN : Hid (Blk (w6.alloc (.cells #[.int .u64 (x.num : Int), .string ⟨x.str.toArray⟩, .slice A2 n2 c2] 49)) w6.heap.size #[.int .u64 (x.num : Int), .string ⟨x.str.toArray⟩, .slice A2 n2 c2] 49) := Blk.new _ _ _
          have HO6 : Hid (OV w6 w.heap.size u8 L) := OV.below HO.out HB6.out
          by_cases h0 : err = 0
          · subst h0
            go_wp2_with (at_builtin; refine wpList_append_val rfl _ _ rfl w.heap.size _ L rfl (HO6.out.below ((Below.refl _ _).alloc (Nat.le_refl _) _)) x (.slice A2 n2 c2) (World.ownsRow.alloc HOL6.out _) hx64 _ rfl HBN.out (by omega) (by simp; omega) ?_; intro v' w7 hown7 hgrow7 hge7)
            have HO7 := Lib.hid hown7
            have hb7 : Below w.heap.size w6 w7 := ((Below.refl w.heap.size w6).alloc (by omega) _).grown hgrow7 (by simp; omega) (fun r hr => hge7 r hr)
            have HB7 : Hid (Below w.heap.size w w7) := HB.out.trans ((HB6.out.mono hbs).trans hb7)
            clear hown7 hgrow7 hge7 hb7 f0 f1 f2
            go_wp2_with fail
            go_roundw
            case rel =>
              have hq : at' + n ≤ y.length := by have h := hnl.out; first | exact h rfl | exact h trivial
              have hdn : Rm.dec (fs.take (k + 1)) y = (L ++ [x], at' + n, 0) := by have h := hnx.out; first | exact h rfl | exact h trivial
              have hll : (L ++ [x]).length = k + 1 := by rw [List.length_append, hLl]; rfl
              have hwr : RowKit.wrap64 ((at' : Int) + (n : Int)) = ((at' + n : Nat) : Int) := by unfold RowKit.wrap64; omega
              first
              | exact ⟨k + 1, at' + n, L ++ [x], by omega, by go_num, by rw [hwr], hdn, hq, hll, HO7.out, HB7.out⟩
              | exact ⟨_, _, _, _, _, _, ⟨k + 1, by omega, rfl, at' + n, rfl, L ++ [x], hdn, hq, hll, HO7.out, HB7.out⟩, rfl, rfl, rfl, rfl, by rw [hwr], by go_num⟩
            case measure => simp [intOf]; omega
          · have hd0 : ((err : Int) != 0) = true := by rw [bne_iff_ne]; omega
            have HR := Lib.hid (hst.out h0)
            have HB7 : Hid (Below w.heap.size w w6) := HB.out.trans (HB6.out.mono hbs)
            clear h0
            go_wp2_with fail
            go_ret3
            exact DeE.bad HR.out rfl HB7.out
      · rw [if_neg hca] at HC
        obtain ⟨ad, rfl⟩ : ∃ ad, A = some ad := by
          rcases HV.out with ⟨h1, h2 | ⟨ad, c, h2⟩⟩ | ⟨b, off, c, h2, _⟩
          · injection h2 with _ _ h3; exfalso; subst h1; simp at hat; omega
          · injection h2 with h2 _ _; exact ⟨_, h2⟩
          · injection h2 with h2 _ _; exact ⟨_, h2⟩
        rw [Option.map_some] at HC
        have hcaI : ¬ (c0 : Int) = (at' : Int) := by omega
        go_wp2_with fail
        go_region_law
          (first
          | (go_simp
             go_at_call 27
             first | refine (HC.out wr.drew (below_drewN HB.out 1)).mono ?_ | refine (HC.out (wr.drew.alloc (.cells #[.int .u64 0, .string ⟨#[]⟩, .slice none 0 0] 49)) ((below_drewN HB.out 1).alloc (by simp; omega) _)).mono ?_
             rintro e w5 ⟨v5, rfl, hvo, hb5⟩
             rw [HONE.out] at hvo ⊢
             simp only at hvo ⊢
             obtain ⟨lv, rfl, hol, hx64⟩ := hvo
             have HOL5 := Lib.hid hol
             have HB5 := Lib.hid hb5
             obtain ⟨A2, n2, c2, rfl⟩ := OL.form3 hol
             clear hol hb5
             try (
               have hkb : Blk w5 wr.heap.size #[.int .u64 0, .string ⟨#[]⟩, .slice none 0 0] 49 := (Blk.new wr.drew #[.int .u64 0, .string ⟨#[]⟩, .slice none 0 0] 49).below HB5.out (by simp)
               have k0 := hkb.cell 0 rfl
               have k1 := hkb.cell 1 rfl
               have k2 := hkb.cell 2 rfl
               have z0 := hkb.free 0
               have z1 := hkb.free 1
               have z2 := hkb.free 2)))
        all_goals
          first
          | (have h6 := dec_new (wr := wr) (w5 := w5) (base := w.heap.size) #[.int .u64 (x.num : Int), .string ⟨x.str.toArray⟩, .slice A2 n2 c2] hbs HOL5.out HB5.out
             obtain ⟨w6, hw6⟩ : ∃ w6, w6 = w5.alloc (.cells #[.int .u64 (x.num : Int), .string ⟨x.str.toArray⟩, .slice A2 n2 c2] 49) := ⟨_, rfl⟩
             rw [← hw6] at h6 ⊢
             have HOL6 := Lib.hid h6.1
             have HB6 := Lib.hid h6.2.2
             have f0 := h6.2.1.cell 0 rfl
             have f1 := h6.2.1.cell 1 rfl
             have f2 := h6.2.1.cell 2 rfl
             clear hw6 h6)
          | (have h6 := dec_old (wr := wr) (w5 := w5) (base := w.heap.size) (.int .u64 (x.num : Int)) (.string ⟨x.str.toArray⟩) (.slice A2 n2 c2) hbs HOL5.out HB5.out hkb
             obtain ⟨w6, hw6⟩ : ∃ w6, w6 = (((w5.setCell ⟨wr.heap.size, 0, none⟩ (.int .u64 (x.num : Int))).setCell ⟨wr.heap.size, 1, none⟩ (.string ⟨x.str.toArray⟩)).setCell ⟨wr.heap.size, 2, none⟩ (.slice A2 n2 c2)) := ⟨_, rfl⟩
             rw [← hw6] at h6 ⊢
             have HOL6 := Lib.hid h6.1
             have HB6 := Lib.hid h6.2.2
             have f0 := h6.2.1.cell 0 rfl
             have f1 := h6.2.1.cell 1 rfl
             have f2 := h6.2.1.cell 2 rfl
             clear hw6 h6)
          have hs6 := HB6.out.size
          have HBN : Hid (Blk (w6.alloc (.cells #[.int .u64 (x.num : Int), .string ⟨x.str.toArray⟩, .slice A2 n2 c2] 49)) w6.heap.size #[.int .u64 (x.num : Int), .string ⟨x.str.toArray⟩, .slice A2 n2 c2] 49) := Blk.new _ _ _
          have HO6 : Hid (OV w6 w.heap.size u8 L) := OV.below HO.out HB6.out
          by_cases h0 : err = 0
          · subst h0
            go_wp2_with (at_builtin; refine wpList_append_val rfl _ _ rfl w.heap.size _ L rfl (HO6.out.below ((Below.refl _ _).alloc (Nat.le_refl _) _)) x (.slice A2 n2 c2) (World.ownsRow.alloc HOL6.out _) hx64 _ rfl HBN.out (by omega) (by simp; omega) ?_; intro v' w7 hown7 hgrow7 hge7)
            have HO7 := Lib.hid hown7
            have hb7 : Below w.heap.size w6 w7 := ((Below.refl w.heap.size w6).alloc (by omega) _).grown hgrow7 (by simp; omega) (fun r hr => hge7 r hr)
            have HB7 : Hid (Below w.heap.size w w7) := HB.out.trans ((HB6.out.mono hbs).trans hb7)
            clear hown7 hgrow7 hge7 hb7 f0 f1 f2
            go_wp2_with fail
            go_roundw
            case rel =>
              have hq : at' + n ≤ y.length := by have h := hnl.out; first | exact h rfl | exact h trivial
              have hdn : Rm.dec (fs.take (k + 1)) y = (L ++ [x], at' + n, 0) := by have h := hnx.out; first | exact h rfl | exact h trivial
              have hll : (L ++ [x]).length = k + 1 := by rw [List.length_append, hLl]; rfl
              have hwr : RowKit.wrap64 ((at' : Int) + (n : Int)) = ((at' + n : Nat) : Int) := by unfold RowKit.wrap64; omega
              first
              | exact ⟨k + 1, at' + n, L ++ [x], by omega, by go_num, by rw [hwr], hdn, hq, hll, HO7.out, HB7.out⟩
              | exact ⟨_, _, _, _, _, _, ⟨k + 1, by omega, rfl, at' + n, rfl, L ++ [x], hdn, hq, hll, HO7.out, HB7.out⟩, rfl, rfl, rfl, rfl, by rw [hwr], by go_num⟩
            case measure => simp [intOf]; omega
          · have hd0 : ((err : Int) != 0) = true := by rw [bne_iff_ne]; omega
            have HR := Lib.hid (hst.out h0)
            have HB7 : Hid (Below w.heap.size w w6) := HB.out.trans (HB6.out.mono hbs)
            clear h0
            go_wp2_with fail
            go_ret3
            exact DeE.bad HR.out rfl HB7.out
    · obtain rfl : k = fs.length := by omega
      have hltI : ¬ ((fs.length : Int) < (fs.length : Int)) := by omega
      have HD2 := HD
      rw [List.take_length] at HD2
      obtain ⟨Ar, cr, rfl⟩ := HO.out.len
      rw [hLl] at HO
      by_cases h4 : 4000 < at'
      · have h4I : (4000 : Int) < (at' : Int) := by omega
        have HR : Hid (Rm.decR fs y = ([], 0, 3)) := by
          show Rm.decR fs y = _
          unfold Rm.decR
          rw [if_neg (by rw [HFE.out]; simp), HD2.out, if_neg (by simp), if_pos h4]
        go_wp2_with fail
        go_ret3
        exact DeE.bad HR.out rfl HB.out
      · have h4I : ¬ (4000 : Int) < (at' : Int) := by omega
        have HR : Hid (Rm.decR fs y = (L, at', 0)) := by
          show Rm.decR fs y = _
          unfold Rm.decR
          rw [if_neg (by rw [HFE.out]; simp), HD2.out, if_neg (by simp), if_neg h4]
        go_wp2_with fail
        go_ret3
        unfold DeE
        rw [HR.out]
        exact ⟨_, rfl, HO.out.vl, HB.out⟩
end Go.Proofs.Ytelpgjaagkojeaa
