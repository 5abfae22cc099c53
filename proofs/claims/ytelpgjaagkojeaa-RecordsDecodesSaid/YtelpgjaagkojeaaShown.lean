/- The contract of shown: the calls that each statement makes besides. No condition. -/
import Derived.Test.YtelpgjaagkojeaaVSame
namespace Go.Proofs.Ytelpgjaagkojeaa
open Go.RowKit

theorem vl_lit (w : World) (P : List (Rm.Val × Value)) (hP : ∀ p ∈ P, SL enc32 w w.heap.size p.2 p.1.lst ∧ p.1.num < 18446744073709551616) (cs : Array Value) (n : Nat) (l : List Rm.Val) (hc : cs.toList = P.flatMap vC) (hn : n = P.length) (hl : l = P.map (·.1)) :
    VL (w.alloc (.cells cs 49)) (w.alloc (.cells cs 49)).heap.size (.slice (some ⟨w.heap.size, 0, none⟩) n n) l := by
  subst hn hl
  have hB : Below w.heap.size w (w.alloc (.cells cs 49)) := (Below.refl _ _).alloc (Nat.le_refl _) _
  refine .inr ⟨w.heap.size, 0, P.length, by rw [List.length_map], by simp, fun i hi => ?_⟩
  rw [List.length_map] at hi
  have hk := Blk.new w cs 49
  have hg := fun j (hj : j < 3) => hk.cell (i * 3 + j) (v := (vC P[i])[j]'hj) (by rw [← Array.getElem?_toList, hc]; exact flatV_get P i hi j hj)
  obtain ⟨a1, a2⟩ := hP P[i] (List.getElem_mem _)
  rw [Nat.zero_add, List.getElem_map]
  exact ⟨P[i].2, hg 0 (by omega), hg 1 (by omega), hg 2 (by omega), (a1.below hB (Nat.le_refl _)).mono hB.size, a2⟩
theorem sl_new (w : World) (l : List UInt8) (cs : Array Value) (n : Nat) (hc : cs.toList = l.map encB) (hn : n = l.length) : SL encB (w.alloc (.cells cs 5)) (w.alloc (.cells cs 5)).heap.size (.slice (some ⟨w.heap.size, 0, none⟩) n n) l := by
  subst hn
  refine .inr ⟨w.heap.size, 0, l.length, rfl, by simp, Nat.le_refl _, fun i hi => ?_⟩
  rw [Nat.zero_add, cell_of_row _ w.heap.size i _ _ _ (heap_alloc_new w _), ← Array.getElem?_toList, hc]
  simp [hi]
theorem sl32_new (w : World) (l : List UInt32) (cs : Array Value) (n : Nat) (hc : cs.toList = l.map enc32) (hn : n = l.length) : SL enc32 (w.alloc (.cells cs 52)) (w.alloc (.cells cs 52)).heap.size (.slice (some ⟨w.heap.size, 0, none⟩) n n) l := by
  subst hn
  refine .inr ⟨w.heap.size, 0, l.length, rfl, by simp, Nat.le_refl _, fun i hi => ?_⟩
  rw [Nat.zero_add, cell_of_row _ w.heap.size i _ _ _ (heap_alloc_new w _), ← Array.getElem?_toList, hc]
  simp [hi]
/-- Encode of values that are written out. -/
theorem enc_lit (w : World) (fs : List UInt8) (P : List (Rm.Val × Value)) (hP : ∀ p ∈ P, SL enc32 w w.heap.size p.2 p.1.lst ∧ p.1.num < 18446744073709551616) (cs : Array Value) (n k : Nat) (B : List UInt8) (hc : cs.toList = P.flatMap vC) (hn : n = P.length) (hr : Rm.encR fs (P.map (·.1)) = (B, k)) (hf : fs.length ≤ 100) (hl : P.length ≤ 100) :
    Calls Try.prog 11 #[.string ⟨fs.toArray⟩, .slice (some ⟨w.heap.size, 0, none⟩) n n] (w.alloc (.cells cs 49)) fun e w' => ∃ v, e = .returned (.tuple #[v, .int .i64 (k : Int)]) ∧ SL encB w' w'.heap.size v B ∧ Below w.heap.size w w' := by
  refine (encode_any _ _ fs (P.map (·.1)) (vl_lit w P hP cs n _ hc hn rfl) (by omega) (by simp; omega)).mono ?_
  rintro e w' ⟨v, rfl, hs, hb⟩
  rw [hr] at hs ⊢
  exact ⟨v, rfl, hs, ((Below.refl _ _).alloc (Nat.le_refl _) _).trans (hb.mono (by simp))⟩
/-- Decode of bytes that are written out. -/
theorem dec_lit (w : World) (fs y : List UInt8) (cs : Array Value) (n k u : Nat) (l : List Rm.Val) (hc : cs.toList = y.map encB) (hn : n = y.length) (hr : Rm.decR fs y = (l, u, k)) (hf : fs.length ≤ 100) (hl : y.length ≤ 100) :
    Calls Try.prog 16 #[.string ⟨fs.toArray⟩, .slice (some ⟨w.heap.size, 0, none⟩) n n] (w.alloc (.cells cs 5)) fun e w' => ∃ v, e = .returned (.tuple #[v, .int .i64 (u : Int), .int .i64 (k : Int)]) ∧ VL w' w'.heap.size v l ∧ Below w.heap.size w w' := by
  refine (decode_any _ _ fs y (sl_new w y cs n hc hn) (by omega) (by omega)).mono ?_
  rintro e w' ⟨v, rfl, hs, hb⟩
  rw [hr] at hs ⊢
  exact ⟨v, rfl, hs, ((Below.refl _ _).alloc (Nat.le_refl _) _).trans (hb.mono (by simp))⟩
/-- The comparison with bytes that are written out. -/
theorem same_lit (w : World) (v : Value) (y : List UInt8) (cs : Array Value) (n : Nat) (hv : SL encB w w.heap.size v y) (hc : cs.toList = y.map encB) (hn : n = y.length) (hl : y.length ≤ 100) :
    Calls Try.prog 15 #[v, .slice (some ⟨w.heap.size, 0, none⟩) n n] (w.alloc (.cells cs 5)) fun e w' => e = .returned (.bool true) ∧ Below w.heap.size w w' := by
  have hB : Below w.heap.size w (w.alloc (.cells cs 5)) := (Below.refl _ _).alloc (Nat.le_refl _) _
  refine (same_any _ _ _ _ _ y (hv.below hB (Nat.le_refl _)) (sl_new w y cs n hc hn) (by omega)).mono ?_
  rintro e w' ⟨rfl, hb⟩
  exact ⟨rfl, hB.trans (hb.mono (by simp))⟩
theorem r1 : Rm.encR [98, 119] [⟨7, [], []⟩, ⟨258, [], []⟩] = ([7, 2, 1], 0) := by decide +kernel
theorem r2 : Rm.encR [118] [⟨300, [], []⟩] = ([172, 2], 0) := by decide +kernel
theorem r3 : Rm.encR [115] [⟨0, [97, 98], []⟩] = ([2, 97, 98], 0) := by decide +kernel
theorem r4 : Rm.encR [108] [⟨0, [], [1, 2]⟩] = ([2, 1, 0, 0, 0, 2, 0, 0, 0], 0) := by decide +kernel
theorem r5 : Rm.decR [118] [172, 2, 5] = ([⟨300, [], []⟩], 2, 0) := by decide +kernel
theorem noL (w : World) (n : Nat) (s : List UInt8) (h : n < 18446744073709551616) : SL enc32 w w.heap.size (.slice none 0 0) (⟨n, s, []⟩ : Rm.Val).lst ∧ (⟨n, s, []⟩ : Rm.Val).num < 18446744073709551616 := ⟨SL.nil _ _, h⟩
set_option maxRecDepth 100000 in
set_option maxHeartbeats 4000000 in
theorem shown_any (w : World) :
    Calls Try.prog 10 #[] w fun e w' => e = .returned (.bool true) ∧ Below w.heap.size w w' := by
  obtain ⟨i0, hi, hz0, hz1, hz2⟩ := info_parts info_rc
  obtain ⟨j0, hj, jz0, jz1, jz2⟩ := info_parts info_u8
  obtain ⟨k0, hk, kz0, kz1, kz2⟩ := info_parts info_u32
  go_enter Try.func10, Try.ntmps10
  go_wp2_with fail
  refine (enc_lit w [98, 119] [(⟨7, [], []⟩, .slice none 0 0), (⟨258, [], []⟩, .slice none 0 0)] (by intro p hp; simp only [List.mem_cons, List.not_mem_nil, or_false] at hp; rcases hp with rfl | rfl <;> exact noL _ _ _ (by omega)) #[.int .u64 7, .string ⟨#[]⟩, .slice none 0 0, .int .u64 258, .string ⟨#[]⟩, .slice none 0 0] 2 0 [7, 2, 1] rfl rfl r1 (by decide) (by decide)).mono ?_
  rintro e w1 ⟨v1, rfl, s1, hb⟩
  have S1 := Lib.hid s1
  have HB := Lib.hid hb
  clear s1 hb
  go_wp2_with fail
  refine (enc_lit w1 [118] [(⟨300, [], []⟩, .slice none 0 0)] (by intro p hp; simp only [List.mem_cons, List.not_mem_nil, or_false] at hp; rcases hp with rfl; exact noL _ _ _ (by omega)) #[.int .u64 300, .string ⟨#[]⟩, .slice none 0 0] 1 0 [172, 2] rfl rfl r2 (by decide) (by decide)).mono ?_
  rintro e w2 ⟨v2, rfl, s2, hb⟩
  have S1 := Lib.hid (S1.out.next hb)
  have S2 := Lib.hid s2
  have HB := Lib.hid (HB.out.trans (hb.mono HB.out.size))
  clear s2 hb
  go_wp2_with fail
  refine (enc_lit w2 [115] [(⟨0, [97, 98], []⟩, .slice none 0 0)] (by intro p hp; simp only [List.mem_cons, List.not_mem_nil, or_false] at hp; rcases hp with rfl; exact noL _ _ _ (by omega)) #[.int .u64 0, .string ⟨#[97, 98]⟩, .slice none 0 0] 1 0 [2, 97, 98] rfl rfl r3 (by decide) (by decide)).mono ?_
  rintro e w3 ⟨v3, rfl, s3, hb⟩
  have S1 := Lib.hid (S1.out.next hb)
  have S2 := Lib.hid (S2.out.next hb)
  have S3 := Lib.hid s3
  have HB := Lib.hid (HB.out.trans (hb.mono HB.out.size))
  clear s3 hb
  go_wp2_with fail
  have hb0 : Below w3.heap.size w3 (w3.alloc (.cells #[.int .u32 1, .int .u32 2] 52)) := (Below.refl _ _).alloc (Nat.le_refl _) _
  have hl4 := enc_lit (w3.alloc (.cells #[.int .u32 1, .int .u32 2] 52)) [108] [(⟨0, [], [1, 2]⟩, .slice (some ⟨w3.heap.size, 0, none⟩) 2 2)] (by intro p hp; simp only [List.mem_cons, List.not_mem_nil, or_false] at hp; rcases hp with rfl; exact ⟨sl32_new w3 [1, 2] _ 2 rfl rfl, by simp⟩) #[.int .u64 0, .string ⟨#[]⟩, .slice (some ⟨w3.heap.size, 0, none⟩) 2 2] 1 0 [2, 1, 0, 0, 0, 2, 0, 0, 0] rfl rfl r4 (by decide) (by simp)
  rw [show (w3.alloc (.cells #[.int .u32 1, .int .u32 2] 52)).heap.size = w3.heap.size + 1 by simp] at hl4
  refine hl4.mono ?_
  rintro e w4 ⟨v4, rfl, s4, hb⟩
  have hb4 : Below w3.heap.size w3 w4 := hb0.trans (hb.mono (by simp))
  have S1 := Lib.hid (S1.out.next hb4)
  have S2 := Lib.hid (S2.out.next hb4)
  have S3 := Lib.hid (S3.out.next hb4)
  have S4 := Lib.hid s4
  have HB := Lib.hid (HB.out.trans (hb4.mono HB.out.size))
  clear s4 hb hb4 hb0 hl4
  go_wp2_with fail
  refine (dec_lit w4 [118] [172, 2, 5] #[.int .u8 172, .int .u8 2, .int .u8 5] 3 0 2 [⟨300, [], []⟩] rfl rfl r5 (by decide) (by decide)).mono ?_
  rintro e w5 ⟨v5, rfl, s5, hb⟩
  have S1 := Lib.hid (S1.out.next hb)
  have S2 := Lib.hid (S2.out.next hb)
  have S3 := Lib.hid (S3.out.next hb)
  have S4 := Lib.hid (S4.out.next hb)
  have S5 := Lib.hid s5
  have HB := Lib.hid (HB.out.trans (hb.mono HB.out.size))
  clear s5 hb
  go_wp2_with fail
  refine (same_lit w5 v1 [7, 2, 1] #[.int .u8 7, .int .u8 2, .int .u8 1] 3 S1.out rfl rfl (by decide)).mono ?_
  rintro e w6 ⟨rfl, hb⟩
  have S2 := Lib.hid (S2.out.next hb)
  have S3 := Lib.hid (S3.out.next hb)
  have S4 := Lib.hid (S4.out.next hb)
  have S5 := Lib.hid (S5.out.next hb)
  have HB := Lib.hid (HB.out.trans (hb.mono HB.out.size))
  clear hb
  go_wp2_with fail
  refine (same_lit w6 v2 [172, 2] #[.int .u8 172, .int .u8 2] 2 S2.out rfl rfl (by decide)).mono ?_
  rintro e w7 ⟨rfl, hb⟩
  have S3 := Lib.hid (S3.out.next hb)
  have S4 := Lib.hid (S4.out.next hb)
  have S5 := Lib.hid (S5.out.next hb)
  have HB := Lib.hid (HB.out.trans (hb.mono HB.out.size))
  clear hb
  go_wp2_with fail
  refine (same_lit w7 v3 [2, 97, 98] #[.int .u8 2, .int .u8 97, .int .u8 98] 3 S3.out rfl rfl (by decide)).mono ?_
  rintro e w8 ⟨rfl, hb⟩
  have S4 := Lib.hid (S4.out.next hb)
  have S5 := Lib.hid (S5.out.next hb)
  have HB := Lib.hid (HB.out.trans (hb.mono HB.out.size))
  clear hb
  go_wp2_with fail
  refine (same_lit w8 v4 [2, 1, 0, 0, 0, 2, 0, 0, 0] #[.int .u8 2, .int .u8 1, .int .u8 0, .int .u8 0, .int .u8 0, .int .u8 2, .int .u8 0, .int .u8 0, .int .u8 0] 9 S4.out rfl rfl (by decide)).mono ?_
  rintro e w9 ⟨rfl, hb⟩
  have s5 := S5.out.next hb
  have HB := Lib.hid (HB.out.trans (hb.mono HB.out.size))
  clear hb
  obtain ⟨A5, c5, rfl⟩ := s5.form
  obtain ⟨b5, o5, hA, hbl, hc5⟩ := s5.at (by decide)
  subst hA
  obtain ⟨lv, e0, _, _, _, _⟩ := hc5 0 (by decide)
  have e00 : w9.cell? ⟨b5, o5, none⟩ = some (.int .u64 300) := e0
  clear hc5 e0 s5
  go_wp2_with fail
  go_ret
  exact ⟨rfl, HB.out⟩
end Go.Proofs.Ytelpgjaagkojeaa
