/- The walk of RecordsKnown: it returns true. No condition. -/
import Derived.Test.YtkbmkheipmbllaaShown
namespace Go.Proofs.Ytkbmkheipmbllaa
open Go.RowKit

theorem unpad_lit (w : World) (y : List UInt8) (cs : Array Value) (n : Nat) (r : List UInt8 × Nat) (hc : cs.toList = y.map encB) (hn : n = y.length) (hr : unpadR y = r) (hl : y.length ≤ 100) :
    Calls Try.prog 22 #[.slice (some ⟨w.heap.size, 0, none⟩) n n] (w.alloc (.cells cs 5)) fun e w' => ∃ v, e = .returned (.tuple #[v, .int .i64 (r.2 : Int)]) ∧ SL encB w' w'.heap.size v r.1 ∧ Below w.heap.size w w' := by
  subst hr
  refine (unpad_any _ _ _ y (sl_new w y cs n hc hn) (Nat.le_refl _) (by omega)).mono ?_
  rintro e w' ⟨v, rfl, hs, hb⟩
  exact ⟨v, rfl, hs, ((Below.refl _ _).alloc (Nat.le_refl _) _).trans (hb.mono (by simp))⟩
theorem pad_lit (w : World) (y : List UInt8) (m : Int) (cs : Array Value) (n : Nat) (r : List UInt8 × Nat) (hc : cs.toList = y.map encB) (hn : n = y.length) (hr : padR y m = r) (hl : y.length ≤ 100) :
    Calls Try.prog 21 #[.slice (some ⟨w.heap.size, 0, none⟩) n n, .int .i64 m] (w.alloc (.cells cs 5)) fun e w' => ∃ v, e = .returned (.tuple #[v, .int .i64 (r.2 : Int)]) ∧ SL encB w' w'.heap.size v r.1 ∧ Below w.heap.size w w' := by
  subst hr
  refine (pad_any _ _ y m (sl_new w y cs n hc hn) (by omega)).mono ?_
  rintro e w' ⟨v, rfl, hs, hb⟩
  exact ⟨v, rfl, hs, ((Below.refl _ _).alloc (Nat.le_refl _) _).trans (hb.mono (by simp))⟩
theorem whole_lit (w : World) (fs y : List UInt8) (cs : Array Value) (n k : Nat) (l : List Rm.Val) (hc : cs.toList = y.map encB) (hn : n = y.length) (hr : Rm.wholeR fs y = (l, k)) (hf : fs.length ≤ 100) (hl : y.length ≤ 100) :
    Calls Try.prog 18 #[.string ⟨fs.toArray⟩, .slice (some ⟨w.heap.size, 0, none⟩) n n] (w.alloc (.cells cs 5)) fun e w' => ∃ v, e = .returned (.tuple #[v, .int .i64 (k : Int)]) ∧ VL w' w'.heap.size v l ∧ Below w.heap.size w w' := by
  refine (whole_any _ _ fs y (sl_new w y cs n hc hn) (by omega) (by omega)).mono ?_
  rintro e w' ⟨v, rfl, hs, hb⟩
  rw [hr] at hs ⊢
  exact ⟨v, rfl, hs, ((Below.refl _ _).alloc (Nat.le_refl _) _).trans (hb.mono (by simp))⟩
theorem enc_nil (w : World) (fs : List UInt8) (B : List UInt8) (k : Nat) (hr : Rm.encR fs [] = (B, k)) (hf : fs.length ≤ 100) :
    Calls Try.prog 11 #[.string ⟨fs.toArray⟩, .slice none 0 0] w fun e w' => ∃ v, e = .returned (.tuple #[v, .int .i64 (k : Int)]) ∧ SL encB w' w'.heap.size v B ∧ Below w.heap.size w w' := by
  refine (encode_any w _ fs [] (VL.nil _ _) (by omega) (by simp)).mono ?_
  rintro e w' ⟨v, rfl, hs, hb⟩
  rw [hr] at hs ⊢
  exact ⟨v, rfl, hs, hb⟩
theorem q1 : Rm.encR [98] [⟨256, [], []⟩] = ([], 7) := by decide +kernel
theorem q2 : Rm.encR [98] [⟨1, [120], []⟩] = ([], 2) := by decide +kernel
theorem q3 : Rm.encR [120] [⟨0, [], []⟩] = ([], 2) := by decide +kernel
theorem q4 : Rm.encR [98] [] = ([], 2) := by decide +kernel
theorem q5 : Rm.decR [118] [172] = ([], 0, 10) := by decide +kernel
theorem q6 : Rm.decR [118] [172, 0] = ([], 0, 6) := by decide +kernel
theorem q7 : Rm.decR [115] [145, 3] = ([], 0, 3) := by decide +kernel
theorem q8 : Rm.decR [100] [1, 2, 3] = ([], 0, 10) := by decide +kernel
theorem q9 : Rm.wholeR [98] [1, 2] = ([], 6) := by decide +kernel
theorem q10 : padR [5] 3 = ([5, 1, 0], 0) := by decide +kernel
theorem q11 : unpadR [5, 1, 0] = ([5], 0) := by decide +kernel
theorem q12 : unpadR [5, 0] = ([], 6) := by decide +kernel
set_option maxRecDepth 100000 in
set_option maxHeartbeats 4000000 in
theorem law_known (w : World) :
    Calls Try.prog 8 #[] w fun e w' => e = .returned (.bool true) ∧ Below w.heap.size w w' := by
  obtain ⟨i0, hi, hz0, hz1, hz2⟩ := info_parts info_rc
  obtain ⟨j0, hj, jz0, jz1, jz2⟩ := info_parts info_u8
  go_enter Try.func8, Try.ntmps8
  go_wp2_with fail
  refine (enc_lit w [98] [(⟨256, [], []⟩, .slice none 0 0)] (by intro p hp; simp only [List.mem_cons, List.not_mem_nil, or_false] at hp; rcases hp with rfl; exact noL _ _ _ (by omega)) #[.int .u64 256, .string ⟨#[]⟩, .slice none 0 0] 1 7 [] rfl rfl q1 (by decide) (by decide)).mono ?_
  rintro e w1 ⟨v1, rfl, s1, hb⟩
  have HB := Lib.hid hb
  clear hb s1
  go_wp2_with fail
  refine (enc_lit w1 [98] [(⟨1, [120], []⟩, .slice none 0 0)] (by intro p hp; simp only [List.mem_cons, List.not_mem_nil, or_false] at hp; rcases hp with rfl; exact noL _ _ _ (by omega)) #[.int .u64 1, .string ⟨#[120]⟩, .slice none 0 0] 1 2 [] rfl rfl q2 (by decide) (by decide)).mono ?_
  rintro e w2 ⟨v2, rfl, s2, hb⟩
  have HB := Lib.hid (HB.out.trans (hb.mono HB.out.size))
  clear hb s2
  go_wp2_with fail
  refine (enc_lit w2 [120] [(⟨0, [], []⟩, .slice none 0 0)] (by intro p hp; simp only [List.mem_cons, List.not_mem_nil, or_false] at hp; rcases hp with rfl; exact noL _ _ _ (by omega)) #[.int .u64 0, .string ⟨#[]⟩, .slice none 0 0] 1 2 [] rfl rfl q3 (by decide) (by decide)).mono ?_
  rintro e w3 ⟨v3, rfl, s3, hb⟩
  have HB := Lib.hid (HB.out.trans (hb.mono HB.out.size))
  clear hb s3
  go_wp2_with fail
  refine (enc_nil w3 [98] [] 2 q4 (by decide)).mono ?_
  rintro e w4 ⟨v4, rfl, s4, hb⟩
  have HB := Lib.hid (HB.out.trans (hb.mono HB.out.size))
  clear hb s4
  go_wp2_with fail
  refine (dec_lit w4 [118] [172] #[.int .u8 172] 1 10 0 [] rfl rfl q5 (by decide) (by decide)).mono ?_
  rintro e w5 ⟨v5, rfl, s5, hb⟩
  have HB := Lib.hid (HB.out.trans (hb.mono HB.out.size))
  clear hb s5
  go_wp2_with fail
  refine (dec_lit w5 [118] [172, 0] #[.int .u8 172, .int .u8 0] 2 6 0 [] rfl rfl q6 (by decide) (by decide)).mono ?_
  rintro e w6 ⟨v6, rfl, s6, hb⟩
  have HB := Lib.hid (HB.out.trans (hb.mono HB.out.size))
  clear hb s6
  go_wp2_with fail
  refine (dec_lit w6 [115] [145, 3] #[.int .u8 145, .int .u8 3] 2 3 0 [] rfl rfl q7 (by decide) (by decide)).mono ?_
  rintro e w7 ⟨v7, rfl, s7, hb⟩
  have HB := Lib.hid (HB.out.trans (hb.mono HB.out.size))
  clear hb s7
  go_wp2_with fail
  refine (dec_lit w7 [100] [1, 2, 3] #[.int .u8 1, .int .u8 2, .int .u8 3] 3 10 0 [] rfl rfl q8 (by decide) (by decide)).mono ?_
  rintro e w8 ⟨v8, rfl, s8, hb⟩
  have HB := Lib.hid (HB.out.trans (hb.mono HB.out.size))
  clear hb s8
  go_wp2_with fail
  refine (whole_lit w8 [98] [1, 2] #[.int .u8 1, .int .u8 2] 2 6 [] rfl rfl q9 (by decide) (by decide)).mono ?_
  rintro e w9 ⟨v9, rfl, s9, hb⟩
  have HB := Lib.hid (HB.out.trans (hb.mono HB.out.size))
  clear hb s9
  go_wp2_with fail
  refine (pad_lit w9 [5] 3 #[.int .u8 5] 1 ([5, 1, 0], 0) rfl rfl q10 (by decide)).mono ?_
  rintro e w10 ⟨v10, rfl, s10, hb⟩
  have HB := Lib.hid (HB.out.trans (hb.mono HB.out.size))
  have P10 := Lib.hid s10
  clear hb s10
  go_wp2_with fail
  refine (unpad_lit w10 [5, 1, 0] #[.int .u8 5, .int .u8 1, .int .u8 0] 3 ([5], 0) rfl rfl q11 (by decide)).mono ?_
  rintro e w11 ⟨v11, rfl, s11, hb⟩
  have HB := Lib.hid (HB.out.trans (hb.mono HB.out.size))
  have P10 := Lib.hid (P10.out.next hb)
  have P11 := Lib.hid s11
  clear hb s11
  go_wp2_with fail
  refine (unpad_lit w11 [5, 0] #[.int .u8 5, .int .u8 0] 2 ([], 6) rfl rfl q12 (by decide)).mono ?_
  rintro e w12 ⟨v12, rfl, s12, hb⟩
  have HB := Lib.hid (HB.out.trans (hb.mono HB.out.size))
  have P10 := Lib.hid (P10.out.next hb)
  have P11 := Lib.hid (P11.out.next hb)
  clear hb s12
  go_wp2_with fail
  refine (same_lit w12 v10 [5, 1, 0] #[.int .u8 5, .int .u8 1, .int .u8 0] 3 P10.out rfl rfl (by decide)).mono ?_
  rintro e w13 ⟨rfl, hb⟩
  have P11 := Lib.hid (P11.out.next hb)
  have HB := Lib.hid (HB.out.trans (hb.mono HB.out.size))
  clear hb
  go_wp2_with fail
  refine (same_lit w13 v11 [5] #[.int .u8 5] 1 P11.out rfl rfl (by decide)).mono ?_
  rintro e w14 ⟨rfl, hb⟩
  have HB := Lib.hid (HB.out.trans (hb.mono HB.out.size))
  clear hb
  go_wp2_with fail
  refine (shown_any w14).mono ?_
  rintro e w15 ⟨rfl, hb⟩
  have HB := Lib.hid (HB.out.trans (hb.mono HB.out.size))
  clear hb
  go_wp2_with fail
  go_ret
  exact ⟨rfl, HB.out⟩
end Go.Proofs.Ytkbmkheipmbllaa
