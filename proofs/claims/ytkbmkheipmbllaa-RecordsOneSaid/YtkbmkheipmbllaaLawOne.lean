/- The walk of RecordsOne: it returns true. Condition: a slice that holds the bytes. -/
import Derived.Test.YtkbmkheipmbllaaShown
namespace Go.Proofs.Ytkbmkheipmbllaa
open Go.RowKit

set_option maxRecDepth 100000 in
set_option maxHeartbeats 2000000 in
theorem law_one (w : World) (v : Value) (fs y : List UInt8) (hv : SL encB w w.heap.size v y) (hy : y.length ≤ 9223372036854775807) :
    Calls Try.prog 6 #[.string ⟨fs.toArray⟩, v] w fun e w' => e = .returned (.bool true) ∧ Below w.heap.size w w' := by
  obtain ⟨A, c0, rfl⟩ := hv.form
  have HV := Lib.hid hv
  have hcap := hv.cap
  clear hv
  have hsh : Hid (∀ W, Below w.heap.size w W → Calls Try.prog 10 #[] W fun e w' => e = .returned (.bool true) ∧ Below w.heap.size w w') := fun W hW => (shown_any W).mono (by rintro e w' ⟨rfl, hb⟩; exact ⟨rfl, hW.trans (hb.mono hW.size)⟩)
  by_cases h70 : (70 : Int) < (fs.length : Int)
  · go_enter Try.func6, Try.ntmps6
    go_wp2_with fail
    refine (hsh.out w (Below.refl _ _)).mono ?_
    rintro e w2 ⟨rfl, hB⟩
    have HB := Lib.hid hB
    clear hB
    go_wp2_with fail
    go_ret
    exact ⟨rfl, HB.out⟩
  by_cases h6 : (6000 : Int) < (y.length : Int)
  · go_enter Try.func6, Try.ntmps6
    go_wp2_with fail
    refine (hsh.out w (Below.refl _ _)).mono ?_
    rintro e w2 ⟨rfl, hB⟩
    have HB := Lib.hid hB
    clear hB
    go_wp2_with fail
    go_ret
    exact ⟨rfl, HB.out⟩
  · have HD := Lib.hid (decode_any w _ fs y HV.out (by omega) hy)
    go_enter Try.func6, Try.ntmps6
    go_wp2_with fail
    refine HD.out.mono ?_
    rintro e w1 ⟨v1, rfl, hl, hb⟩
    have HB1 := Lib.hid hb
    obtain ⟨L, n, err, hr⟩ : ∃ L n err, Rm.decR fs y = (L, n, err) := ⟨_, _, _, rfl⟩
    have hbad : err ≠ 0 → L = [] ∧ n = 0 := fun h => by have := Rm.decR_bad (fs := fs) (b := y) (by rw [hr]; exact h); rw [hr] at this; simp only [Prod.mk.injEq] at this; exact ⟨this.1, this.2.1⟩
    have hok : err = 0 → n ≤ y.length ∧ Rm.encR fs L = (y.take n, 0) := fun h => by have := Rm.back (fs := fs) (b := y) (by rw [hr]; exact h); rw [hr] at this; exact ⟨this.1, this.2.2⟩
    rw [hr] at hl ⊢
    simp only at hl ⊢
    obtain ⟨A1, c1, rfl⟩ := hl.form
    have HL := Lib.hid hl
    clear hl hb hr HD
    by_cases h0 : err = 0
    · subst h0
      obtain ⟨hn, he⟩ := hok rfl
      have HE := Lib.hid he
      have HEN := Lib.hid (encode_any w1 _ fs L HL.out (by omega) (by
        have h := Rm.encR_ok (fs := fs) (l := L) (by rw [HE.out])
        have := h.2.2.1; have := h.1; omega))
      have hnI : (n : Int) ≤ (y.length : Int) := by omega
      have hncI : (n : Int) ≤ (c0 : Int) := by omega
      clear hbad hok he
      go_wp2_with fail
      refine HEN.out.mono ?_
      rintro e w2 ⟨v2, rfl, hs, hb⟩
      rw [HE.out] at hs ⊢
      simp only at hs ⊢
      have HS := Lib.hid hs
      have HB2 : Hid (Below w.heap.size w w2) := HB1.out.trans (hb.mono HB1.out.size)
      have HF := Lib.hid ((HV.out.below HB2.out (Nat.le_refl _)).first (k := n) hn)
      have HSM := Lib.hid (same_any w2 _ _ v2 _ (y.take n) HS.out HF.out (by rw [List.length_take]; omega))
      clear hs hb HEN
      go_wp2_with fail
      refine HSM.out.mono ?_
      rintro e w3 ⟨rfl, hb⟩
      have HB3 : Hid (Below w.heap.size w w3) := HB2.out.trans (hb.mono HB2.out.size)
      clear hb HSM
      go_wp2_with fail
      refine (hsh.out w3 HB3.out).mono ?_
      rintro e w4 ⟨rfl, hB⟩
      have HB := Lib.hid hB
      clear hB
      go_wp2_with fail
      go_ret
      exact ⟨rfl, HB.out⟩
    · have hd0 : ((err : Int) != 0) = true := by rw [bne_iff_ne]; omega
      obtain ⟨rfl, rfl⟩ := hbad h0
      clear hbad hok h0
      go_wp2_with fail
      refine (hsh.out w1 HB1.out).mono ?_
      rintro e w4 ⟨rfl, hB⟩
      have HB := Lib.hid hB
      clear hB
      go_wp2_with fail
      go_ret
      exact ⟨rfl, HB.out⟩
end Go.Proofs.Ytkbmkheipmbllaa
