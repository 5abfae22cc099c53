/- The walk of RecordsDecodes: it returns true. Conditions: a slice that holds the bytes. -/
import Derived.Test.YtelpgjaagkojeaaRWhole
import Derived.Test.YtelpgjaagkojeaaShown
namespace Go.Proofs.Ytelpgjaagkojeaa
open Go.RowKit

theorem dec_small (fs y : List UInt8) : (Rm.decR fs y).1.length ≤ 64 := by
  by_cases h : (Rm.decR fs y).2.2 = 0
  · have h1 := (Rm.back h).2.2
    have h2 := Rm.encR_ok (fs := fs) (l := (Rm.decR fs y).1) (by rw [h1])
    have := h2.1; have := h2.2.2.1; omega
  · rw [Rm.decR_bad h]; simp
theorem valE_lst {c : UInt8} {v : Rm.Val} (h : Rm.valE c v = 0) : v.lst.length ≤ 60 := by
  have nil : ∀ P : Prop, ¬ (P ∨ v.lst ≠ []) → v.lst.length ≤ 60 := fun P h => by
    have : v.lst = [] := by
      by_cases h3 : v.lst = []
      · exact h3
      · exact absurd (.inr h3) h
    rw [this]; simp
  unfold Rm.valE at h
  by_cases h1 : c = 115
  · rw [if_pos h1] at h
    by_cases h2 : v.num ≠ 0 ∨ v.lst ≠ []
    · rw [if_pos h2] at h; simp at h
    · exact nil _ h2
  · rw [if_neg h1] at h
    by_cases h2 : c = 108
    · rw [if_pos h2] at h
      by_cases h3 : v.num ≠ 0 ∨ v.str ≠ []
      · rw [if_pos h3] at h; simp at h
      · rw [if_neg h3] at h
        by_cases h4 : 60 < v.lst.length
        · rw [if_pos h4] at h; simp at h
        · omega
    · rw [if_neg h2] at h
      by_cases h3 : v.str ≠ [] ∨ v.lst ≠ []
      · rw [if_pos h3] at h; simp at h
      · exact nil _ h3
theorem encL_lst : ∀ (fs : List UInt8) (l : List Rm.Val), l.length = fs.length → (Rm.encL fs l).2 = 0 → ∀ x ∈ l, x.lst.length ≤ 60
  | _, [], _, _, x, hx => by simp at hx
  | [], v :: l, h, _, _, _ => by simp at h
  | c :: fs, v :: l, h, he, x, hx => by
    rw [Rm.encL_cons] at he
    by_cases h1 : Rm.valE c v = 0
    · rw [if_neg (by simpa using h1)] at he
      by_cases h2 : (Rm.encL fs l).2 = 0
      · rcases List.mem_cons.1 hx with rfl | hx
        · exact valE_lst h1
        · exact encL_lst fs l (by simpa using h) h2 x hx
      · rw [if_pos h2] at he; exact absurd he h2
    · rw [if_pos h1] at he; exact absurd he h1
theorem dec_lst (fs y : List UInt8) : ∀ x ∈ (Rm.decR fs y).1, x.lst.length ≤ 9223372036854775807 := by
  by_cases h : (Rm.decR fs y).2.2 = 0
  · have h1 := (Rm.back h).2.2
    have h2 := Rm.encR_ok (fs := fs) (l := (Rm.decR fs y).1) (by rw [h1])
    intro x hx
    have := encL_lst fs _ h2.2.2.1 (by rw [h2.2.2.2.1]) x hx
    omega
  · rw [Rm.decR_bad h]; simp
set_option maxRecDepth 100000 in
set_option maxHeartbeats 1000000 in
theorem law_decodes (w : World) (v : Value) (fs y : List UInt8) (hv : SL encB w w.heap.size v y) (hy : y.length ≤ 9223372036854775807) :
    Calls Try.prog 4 #[.string ⟨fs.toArray⟩, v] w fun e w' => e = .returned (.bool true) ∧ Below w.heap.size w w' := by
  obtain ⟨A, c0, rfl⟩ := hv.form
  have HV := Lib.hid hv
  have hsh : Hid (∀ W, Below w.heap.size w W → Calls Try.prog 10 #[] W fun e w' => e = .returned (.bool true) ∧ Below w.heap.size w w') := fun W hW => (shown_any W).mono (by rintro e w' ⟨rfl, hb⟩; exact ⟨rfl, hW.trans (hb.mono hW.size)⟩)
  clear hv
  by_cases h70 : (70 : Int) < (fs.length : Int)
  · go_enter Try.func4, Try.ntmps4
    go_wp2_with fail
    refine (hsh.out w (Below.refl _ _)).mono ?_
    rintro e w2 ⟨rfl, hB⟩
    have HB := Lib.hid hB
    clear hB
    go_wp2_with fail
    go_ret
    exact ⟨rfl, HB.out⟩
  by_cases h6 : (6000 : Int) < (y.length : Int)
  · go_enter Try.func4, Try.ntmps4
    go_wp2_with fail
    refine (hsh.out w (Below.refl _ _)).mono ?_
    rintro e w2 ⟨rfl, hB⟩
    have HB := Lib.hid hB
    clear hB
    go_wp2_with fail
    go_ret
    exact ⟨rfl, HB.out⟩
  have HLL : Hid (∀ x ∈ (Rm.decR fs y).1, x.lst.length ≤ 9223372036854775807) := dec_lst fs y
  have HD1 := Lib.hid (decode_any w _ fs y HV.out (by omega) hy)
  go_enter Try.func4, Try.ntmps4
  go_wp2_with fail
  refine HD1.out.mono ?_
  rintro e w1 ⟨v1, rfl, hl1, hb⟩
  have HB1 := Lib.hid hb
  have HV1 := Lib.hid (HV.out.next hb)
  have HSM := Lib.hid (dec_small fs y)
  obtain ⟨L, n, k, hr⟩ : ∃ L n k, Rm.decR fs y = (L, n, k) := ⟨_, _, _, rfl⟩
  rw [hr] at hl1 HLL HSM ⊢
  simp only at hl1 HLL HSM ⊢
  obtain ⟨A1, c1, rfl⟩ := hl1.form
  have HL1 := Lib.hid hl1
  have HR := Lib.hid hr
  have HD2 := Lib.hid (rdecode_any w1 _ fs y HV1.out (by omega) hy)
  clear hl1 hb HD1 HV hr
  go_wp2_with fail
  refine HD2.out.mono ?_
  rintro e w2 ⟨v2, rfl, hl2, hb⟩
  have HB2 : Hid (Below w.heap.size w w2) := HB1.out.trans (hb.mono HB1.out.size)
  have HV2 := Lib.hid (HV1.out.next hb)
  have HL2 := Lib.hid (HL1.out.next hb)
  rw [HR.out] at hl2 ⊢
  simp only at hl2 ⊢
  obtain ⟨A2, c2, rfl⟩ := hl2.form
  have HM2 := Lib.hid hl2
  have HD3 := Lib.hid (whole_any w2 _ fs y HV2.out (by omega) hy)
  clear hl2 hb HD2 HB1 HV1 HL1
  go_wp2_with fail
  refine HD3.out.mono ?_
  rintro e w3 ⟨v3, rfl, hl3, hb⟩
  have HB3 : Hid (Below w.heap.size w w3) := HB2.out.trans (hb.mono HB2.out.size)
  have HV3 := Lib.hid (HV2.out.next hb)
  have HL3 := Lib.hid (HL2.out.next hb)
  have HM3 := Lib.hid (HM2.out.next hb)
  have HSW : Hid ((Rm.wholeR fs y).1.length ≤ 64 ∧ ∀ x ∈ (Rm.wholeR fs y).1, x.lst.length ≤ 9223372036854775807) := by
    show _ ∧ _
    unfold Rm.wholeR
    rw [HR.out]
    split
    · simp
    · split
      · simp
      · exact ⟨HSM.out, HLL.out⟩
  obtain ⟨K, q, hw⟩ : ∃ K q, Rm.wholeR fs y = (K, q) := ⟨_, _, rfl⟩
  rw [hw] at hl3 HSW ⊢
  simp only at hl3 HSW ⊢
  obtain ⟨A3, c3, rfl⟩ := hl3.form
  have HK3 := Lib.hid hl3
  have HW := Lib.hid hw
  have HD4 := Lib.hid (rwhole_any w3 _ fs y HV3.out (by omega) hy)
  clear hl3 hb HD3 HB2 HV2 HL2 HM2 hw
  go_wp2_with fail
  refine HD4.out.mono ?_
  rintro e w4 ⟨v4, rfl, hl4, hb⟩
  have HB4 : Hid (Below w.heap.size w w4) := HB3.out.trans (hb.mono HB3.out.size)
  have HL4 := Lib.hid (HL3.out.next hb)
  have HM4 := Lib.hid (HM3.out.next hb)
  have HK4 := Lib.hid (HK3.out.next hb)
  rw [HW.out] at hl4 ⊢
  simp only at hl4 ⊢
  obtain ⟨A4, c4, rfl⟩ := hl4.form
  have HJ4 := Lib.hid hl4
  have HS1 := Lib.hid (vsame_any w4 _ _ _ _ L HL4.out HM4.out (by have := HSM.out; omega) HLL.out)
  clear hl4 hb HD4 HB3 HV3 HL3 HM3 HK3
  go_wp2_with fail
  refine HS1.out.mono ?_
  rintro e w5 ⟨rfl, hb⟩
  have HB5 : Hid (Below w.heap.size w w5) := HB4.out.trans (hb.mono HB4.out.size)
  have HK5 := Lib.hid (HK4.out.next hb)
  have HJ5 := Lib.hid (HJ4.out.next hb)
  have HS2 := Lib.hid (vsame_any w5 _ _ _ _ K HK5.out HJ5.out (by have := HSW.out.1; omega) HSW.out.2)
  clear hb HS1
  go_wp2_with fail
  refine HS2.out.mono ?_
  rintro e w6 ⟨rfl, hb⟩
  have HB6 : Hid (Below w.heap.size w w6) := HB5.out.trans (hb.mono HB5.out.size)
  clear hb HS2
  go_wp2_with fail
  refine (hsh.out w6 HB6.out).mono ?_
  rintro e w7 ⟨rfl, hB⟩
  have HB := Lib.hid hB
  clear hB
  go_wp2_with fail
  go_ret
  exact ⟨rfl, HB.out⟩
end Go.Proofs.Ytelpgjaagkojeaa
