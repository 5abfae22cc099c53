/- The contracts of And, Or and Xor. Condition: maps in blocks of their own. -/
import Derived.Test.YtanppmpijadhbaaBytes
import Derived.Test.YtanppmpijadhbaaLoad
import Derived.StillTailTactics
namespace Go.Proofs.Ytanppmpijadhbaa
open Go.RowKit

theorem comb_nil (w : World) (v : Value) (y : Value) (H : Calls Try.prog 49 #[v] w fun e w' => e = .returned (.bool false) ∧ w = w') (fv : Value) :
    Calls Try.prog 50 #[v, y, fv] w fun e w' => e = .returned (.tuple #[.pointer none, .int .i64 1]) ∧ w = w' := by
  have HH := Lib.hid H
  clear H
  go_enter Try.func50, Try.ntmps50
  go_wp2_with fail
  refine HH.out.mono ?_
  rintro e w' ⟨rfl, rfl⟩
  go_wp2_with fail
  go_ret2
  exact ⟨rfl, rfl⟩
theorem comb_nil2 (w : World) (b n : Nat) (f : Nat → Bool) (M : MapAt w b n f) (y : Value) (H : Calls Try.prog 49 #[y] w fun e w' => e = .returned (.bool false) ∧ w = w') (fv : Value) :
    Calls Try.prog 50 #[.pointer (some ⟨b, 0, none⟩), y, fv] w fun e w' => e = .returned (.tuple #[.pointer none, .int .i64 1]) ∧ w = w' := by
  have HH := Lib.hid H
  have HM := Lib.hid (mapMade_any w b n f M)
  clear H M
  go_enter Try.func50, Try.ntmps50
  go_wp2_with fail
  refine HM.out.mono ?_
  rintro e w' ⟨rfl, rfl⟩
  go_wp2_with fail
  refine HH.out.mono ?_
  rintro e w' ⟨rfl, rfl⟩
  go_wp2_with fail
  go_ret2
  exact ⟨rfl, rfl⟩
set_option maxRecDepth 100000 in
theorem comb_arg (w : World) (b c n m : Nat) (f g : Nat → Bool) (M : MapAt w b n f) (M2 : MapAt w c m g) (hne : n ≠ m) (fv : Value) :
    Calls Try.prog 50 #[.pointer (some ⟨b, 0, none⟩), .pointer (some ⟨c, 0, none⟩), fv] w fun e w' => e = .returned (.tuple #[.pointer none, .int .i64 2]) ∧ Below w.heap.size w w' := by
  have hn := M.le
  have h1 := M.num
  have h2 := M2.num
  have hd : ((n : Int) != (m : Int)) = true := by rw [bne_iff_ne]; omega
  have HM := Lib.hid (mapMade_any w b n f M)
  have HM2 := Lib.hid (mapMade_any w c m g M2)
  clear M M2
  go_enter Try.func50, Try.ntmps50
  go_wp2_with fail
  refine HM.out.mono ?_
  rintro e w' ⟨rfl, rfl⟩
  go_wp2_with fail
  refine HM2.out.mono ?_
  rintro e w' ⟨rfl, rfl⟩
  go_wp2_with fail
  go_quiet (fail)
  go_wp2_with fail
  go_ret2
  exact ⟨rfl, below_drewN (Below.refl _ _) _⟩
/-- The words below k are those of h, the others 0. -/
def cutW (h : Nat → Bool) (k : Nat) : Nat → Bool := Bm.cut h (64 * k)
theorem cutW_word (h : Nat → Bool) (k : Nat) : Bm.word (cutW h (k + 1)) k = Bm.word h k :=
  Bm.chunk_congr fun j hj => by unfold cutW Bm.cut; rw [decide_eq_true (by omega)]; rfl
theorem cutW_other (h : Nat → Bool) (k j : Nat) (hj : j ≠ k) : Bm.word (cutW h (k + 1)) j = Bm.word (cutW h k) j :=
  Bm.chunk_congr fun i hi => by
    unfold cutW Bm.cut
    by_cases e : 64 * j + i < 64 * k
    · rw [decide_eq_true e, decide_eq_true (p := 64 * j + i < 64 * (k + 1)) (by omega)]
    · rw [decide_eq_false e, decide_eq_false (p := 64 * j + i < 64 * (k + 1)) (by omega)]

theorem fAnd (a b : Nat) (ha : a < 18446744073709551616) (hb : b < 18446744073709551616) (w : World) :
    Calls Try.prog 51 #[.int .u64 (a : Int), .int .u64 (b : Int)] w fun e w' => e = .returned (.int .u64 ((a &&& b : Nat) : Int)) ∧ w = w' := by
  have h := bits_and_u64_nat a b ha hb
  go_enter Try.func51, Try.ntmps51
  go_wp2
  go_ret
  exact ⟨rfl, rfl⟩
def andF (f g : Nat → Bool) : Nat → Bool := fun i => f i && g i
theorem andF_word (f g : Nat → Bool) (k : Nat) : (Bm.word f k &&& Bm.word g k) = Bm.word (andF f g) k := Bm.word_and f g k
set_option maxRecDepth 100000 in
set_option maxHeartbeats 1000000 in
theorem and_comb (w : World) (b c n : Nat) (f g : Nat → Bool) (M : MapAt w b n f) (M2 : MapAt w c n g) :
    Calls Try.prog 50 #[.pointer (some ⟨b, 0, none⟩), .pointer (some ⟨c, 0, none⟩), .func (.func 51) #[] #[]] w fun e w' => e = .returned (.tuple #[.pointer (some ⟨w.heap.size, 0, none⟩), .int .i64 0]) ∧ MapAt w' w.heap.size n (andF f g) ∧ Below w.heap.size w w' := by
  have hn := M.le
  have h1 := M.num
  have h2 := M2.num
  have hoff : ∀ i, n ≤ i → andF f g i = false := fun i hi => by unfold andF; rw [M.off i hi, M2.off i hi]; rfl
  have HOFF := Lib.hid hoff
  have HM := Lib.hid M
  have HM2 := Lib.hid M2
  clear M M2 hoff
  go_enter Try.func50, Try.ntmps50
  go_wp2_with fail
  refine (mapMade_any w b n f HM.out).mono ?_
  rintro e w' ⟨rfl, rfl⟩
  go_wp2_with fail
  refine (mapMade_any w c n g HM2.out).mono ?_
  rintro e w' ⟨rfl, rfl⟩
  go_wp2_with fail
  go_quiet (fail)
  go_wp2_with fail
  refine (empty_any _ n hn).mono ?_
  rintro e w1 ⟨rfl, hm, hb⟩
  have HE : Hid (MapAt w1 w.heap.size n (fun _ => false)) := hm
  have HB : Hid (Below w.heap.size w w1) := (below_drewN (Below.refl _ _) _).trans hb
  clear hm hb
  go_wp2_with fail
  go_loopw [32] (fun i wr => ∃ k : Nat, k ≤ 64 ∧ i = .int .i64 k ∧ MapAt wr w.heap.size n (cutW (andF f g) k) ∧ Below w.heap.size w wr) (fun i _ => 64 - (intOf i).toNat)
  case atStart => exact ⟨0, by omega, rfl, by unfold cutW; rw [Nat.mul_zero, Bm.cut_zero]; exact HE.out, HB.out⟩
  case round =>
    obtain ⟨k, hk, rfl, M, hB⟩ := hrel
    by_cases hlt : k < 64
    · have Mb := HM.out.below hB HM.out.lt
      have Mc := HM2.out.below hB HM2.out.lt
      have w1 := Mb.word k hlt
      have w2 := Mc.word k hlt
      have w3 := M.word k hlt
      have hfz := M.free (2 + k)
      have hS := M.store (cutW (andF f g) (k + 1)) k hlt (fun j hj => cutW_other _ k j hj) (fun i hi => Bm.cut_off HOFF.out _ i hi)
      rw [cutW_word] at hS
      have HS := Lib.hid hS
      have HB2 := Lib.hid hB
      clear hS M hB Mb Mc HE HB
      go_wp2_with fail
      have HF := Lib.hid (fAnd _ _ (Bm.word_lt f k) (Bm.word_lt g k) wr.drew)
      rw [andF_word] at HF
      have q1 : wr.drew.cell? ⟨b, 2 + k, none⟩ = some (.int .u64 ((Bm.word f k : Nat) : Int)) := w1
      have q2 : wr.drew.cell? ⟨c, 2 + k, none⟩ = some (.int .u64 ((Bm.word g k : Nat) : Int)) := w2
      have q3 : wr.drew.cell? ⟨w.heap.size, 2 + k, none⟩ = some (.int .u64 ((Bm.word (cutW (andF f g) k) k : Nat) : Int)) := w3
      have q4 : wr.drew.frozen? ⟨w.heap.size, 2 + k, none⟩ = false := hfz
      obtain ⟨wd, hwd⟩ : ∃ wd, wd = wr.drew := ⟨_, rfl⟩
      refine wp_region_still_tail 19 (by kernel_rfl) (by kernel_rfl) ?_
      change wpStill _ _ wr.drew (fun a' => wpList _ _ _ _ a' wr.drew) _ _
      rw [← hwd] at q1 q2 q3 q4 HF ⊢
      have HW := Lib.hid hwd
      clear hwd w1 w2 w3 hfz
      simp only [List.take_succ_cons, List.take_zero, List.drop_succ_cons, List.drop_zero]
      repeat (first | still_step | (refine wpStill_step (fun K hK => ?_); go_simp; refine ⟨_, HF.out.mono (fun e w'' h => ⟨h.1, h.2.symm⟩), hK _ ?_⟩; clear hK K))
      refine wpStill_nil ?_
      go_wp2_with fail
      go_roundw
      case rel => exact ⟨k + 1, by omega, by go_num, HS.out.of_block (by rw [HW.out]; rfl), by rw [HW.out]; exact HB2.out.drew.setCell (Nat.le_refl _) _⟩
      case measure => simp [intOf]; omega
    · obtain rfl : k = 64 := by omega
      have hcut : cutW (andF f g) 64 = andF f g := Bm.cut_all HOFF.out (by omega)
      rw [hcut] at M
      go_wp2_with fail
      go_ret2
      exact ⟨rfl, M, hB⟩
theorem and_ok (w : World) (b c n : Nat) (f g : Nat → Bool) (M : MapAt w b n f) (M2 : MapAt w c n g) :
    Calls Try.prog 22 #[.pointer (some ⟨b, 0, none⟩), .pointer (some ⟨c, 0, none⟩)] w fun e w' => e = .returned (.tuple #[.pointer (some ⟨w.heap.size, 0, none⟩), .int .i64 0]) ∧ MapAt w' w.heap.size n (andF f g) ∧ Below w.heap.size w w' := by
  have HC := Lib.hid (and_comb w b c n f g M M2)
  clear M M2
  go_enter Try.func22, Try.ntmps22
  go_wp2_with fail
  refine HC.out.mono ?_
  rintro e w' ⟨rfl, hm, hb⟩
  have HM := Lib.hid hm
  have HB := Lib.hid hb
  clear hm hb
  go_wp2_with fail
  go_ret2
  exact ⟨rfl, HM.out, HB.out⟩

theorem fOr (a b : Nat) (ha : a < 18446744073709551616) (hb : b < 18446744073709551616) (w : World) :
    Calls Try.prog 52 #[.int .u64 (a : Int), .int .u64 (b : Int)] w fun e w' => e = .returned (.int .u64 ((a ||| b : Nat) : Int)) ∧ w = w' := by
  have h := bits_or_u64_nat a b ha hb
  go_enter Try.func52, Try.ntmps52
  go_wp2
  go_ret
  exact ⟨rfl, rfl⟩
def orF (f g : Nat → Bool) : Nat → Bool := fun i => f i || g i
theorem orF_word (f g : Nat → Bool) (k : Nat) : (Bm.word f k ||| Bm.word g k) = Bm.word (orF f g) k := Bm.word_or f g k
set_option maxRecDepth 100000 in
set_option maxHeartbeats 1000000 in
theorem or_comb (w : World) (b c n : Nat) (f g : Nat → Bool) (M : MapAt w b n f) (M2 : MapAt w c n g) :
    Calls Try.prog 50 #[.pointer (some ⟨b, 0, none⟩), .pointer (some ⟨c, 0, none⟩), .func (.func 52) #[] #[]] w fun e w' => e = .returned (.tuple #[.pointer (some ⟨w.heap.size, 0, none⟩), .int .i64 0]) ∧ MapAt w' w.heap.size n (orF f g) ∧ Below w.heap.size w w' := by
  have hn := M.le
  have h1 := M.num
  have h2 := M2.num
  have hoff : ∀ i, n ≤ i → orF f g i = false := fun i hi => by unfold orF; rw [M.off i hi, M2.off i hi]; rfl
  have HOFF := Lib.hid hoff
  have HM := Lib.hid M
  have HM2 := Lib.hid M2
  clear M M2 hoff
  go_enter Try.func50, Try.ntmps50
  go_wp2_with fail
  refine (mapMade_any w b n f HM.out).mono ?_
  rintro e w' ⟨rfl, rfl⟩
  go_wp2_with fail
  refine (mapMade_any w c n g HM2.out).mono ?_
  rintro e w' ⟨rfl, rfl⟩
  go_wp2_with fail
  go_quiet (fail)
  go_wp2_with fail
  refine (empty_any _ n hn).mono ?_
  rintro e w1 ⟨rfl, hm, hb⟩
  have HE : Hid (MapAt w1 w.heap.size n (fun _ => false)) := hm
  have HB : Hid (Below w.heap.size w w1) := (below_drewN (Below.refl _ _) _).trans hb
  clear hm hb
  go_wp2_with fail
  go_loopw [32] (fun i wr => ∃ k : Nat, k ≤ 64 ∧ i = .int .i64 k ∧ MapAt wr w.heap.size n (cutW (orF f g) k) ∧ Below w.heap.size w wr) (fun i _ => 64 - (intOf i).toNat)
  case atStart => exact ⟨0, by omega, rfl, by unfold cutW; rw [Nat.mul_zero, Bm.cut_zero]; exact HE.out, HB.out⟩
  case round =>
    obtain ⟨k, hk, rfl, M, hB⟩ := hrel
    by_cases hlt : k < 64
    · have Mb := HM.out.below hB HM.out.lt
      have Mc := HM2.out.below hB HM2.out.lt
      have w1 := Mb.word k hlt
      have w2 := Mc.word k hlt
      have w3 := M.word k hlt
      have hfz := M.free (2 + k)
      have hS := M.store (cutW (orF f g) (k + 1)) k hlt (fun j hj => cutW_other _ k j hj) (fun i hi => Bm.cut_off HOFF.out _ i hi)
      rw [cutW_word] at hS
      have HS := Lib.hid hS
      have HB2 := Lib.hid hB
      clear hS M hB Mb Mc HE HB
      go_wp2_with fail
      have HF := Lib.hid (fOr _ _ (Bm.word_lt f k) (Bm.word_lt g k) wr.drew)
      rw [orF_word] at HF
      have q1 : wr.drew.cell? ⟨b, 2 + k, none⟩ = some (.int .u64 ((Bm.word f k : Nat) : Int)) := w1
      have q2 : wr.drew.cell? ⟨c, 2 + k, none⟩ = some (.int .u64 ((Bm.word g k : Nat) : Int)) := w2
      have q3 : wr.drew.cell? ⟨w.heap.size, 2 + k, none⟩ = some (.int .u64 ((Bm.word (cutW (orF f g) k) k : Nat) : Int)) := w3
      have q4 : wr.drew.frozen? ⟨w.heap.size, 2 + k, none⟩ = false := hfz
      obtain ⟨wd, hwd⟩ : ∃ wd, wd = wr.drew := ⟨_, rfl⟩
      refine wp_region_still_tail 19 (by kernel_rfl) (by kernel_rfl) ?_
      change wpStill _ _ wr.drew (fun a' => wpList _ _ _ _ a' wr.drew) _ _
      rw [← hwd] at q1 q2 q3 q4 HF ⊢
      have HW := Lib.hid hwd
      clear hwd w1 w2 w3 hfz
      simp only [List.take_succ_cons, List.take_zero, List.drop_succ_cons, List.drop_zero]
      repeat (first | still_step | (refine wpStill_step (fun K hK => ?_); go_simp; refine ⟨_, HF.out.mono (fun e w'' h => ⟨h.1, h.2.symm⟩), hK _ ?_⟩; clear hK K))
      refine wpStill_nil ?_
      go_wp2_with fail
      go_roundw
      case rel => exact ⟨k + 1, by omega, by go_num, HS.out.of_block (by rw [HW.out]; rfl), by rw [HW.out]; exact HB2.out.drew.setCell (Nat.le_refl _) _⟩
      case measure => simp [intOf]; omega
    · obtain rfl : k = 64 := by omega
      have hcut : cutW (orF f g) 64 = orF f g := Bm.cut_all HOFF.out (by omega)
      rw [hcut] at M
      go_wp2_with fail
      go_ret2
      exact ⟨rfl, M, hB⟩
theorem or_ok (w : World) (b c n : Nat) (f g : Nat → Bool) (M : MapAt w b n f) (M2 : MapAt w c n g) :
    Calls Try.prog 23 #[.pointer (some ⟨b, 0, none⟩), .pointer (some ⟨c, 0, none⟩)] w fun e w' => e = .returned (.tuple #[.pointer (some ⟨w.heap.size, 0, none⟩), .int .i64 0]) ∧ MapAt w' w.heap.size n (orF f g) ∧ Below w.heap.size w w' := by
  have HC := Lib.hid (or_comb w b c n f g M M2)
  clear M M2
  go_enter Try.func23, Try.ntmps23
  go_wp2_with fail
  refine HC.out.mono ?_
  rintro e w' ⟨rfl, hm, hb⟩
  have HM := Lib.hid hm
  have HB := Lib.hid hb
  clear hm hb
  go_wp2_with fail
  go_ret2
  exact ⟨rfl, HM.out, HB.out⟩

theorem fXor (a b : Nat) (ha : a < 18446744073709551616) (hb : b < 18446744073709551616) (w : World) :
    Calls Try.prog 53 #[.int .u64 (a : Int), .int .u64 (b : Int)] w fun e w' => e = .returned (.int .u64 ((a ^^^ b : Nat) : Int)) ∧ w = w' := by
  have h := bits_xor_u64_nat a b ha hb
  go_enter Try.func53, Try.ntmps53
  go_wp2
  go_ret
  exact ⟨rfl, rfl⟩
def xorF (f g : Nat → Bool) : Nat → Bool := fun i => f i != g i
theorem xorF_word (f g : Nat → Bool) (k : Nat) : (Bm.word f k ^^^ Bm.word g k) = Bm.word (xorF f g) k := Bm.word_xor f g k
set_option maxRecDepth 100000 in
set_option maxHeartbeats 1000000 in
theorem xor_comb (w : World) (b c n : Nat) (f g : Nat → Bool) (M : MapAt w b n f) (M2 : MapAt w c n g) :
    Calls Try.prog 50 #[.pointer (some ⟨b, 0, none⟩), .pointer (some ⟨c, 0, none⟩), .func (.func 53) #[] #[]] w fun e w' => e = .returned (.tuple #[.pointer (some ⟨w.heap.size, 0, none⟩), .int .i64 0]) ∧ MapAt w' w.heap.size n (xorF f g) ∧ Below w.heap.size w w' := by
  have hn := M.le
  have h1 := M.num
  have h2 := M2.num
  have hoff : ∀ i, n ≤ i → xorF f g i = false := fun i hi => by unfold xorF; rw [M.off i hi, M2.off i hi]; rfl
  have HOFF := Lib.hid hoff
  have HM := Lib.hid M
  have HM2 := Lib.hid M2
  clear M M2 hoff
  go_enter Try.func50, Try.ntmps50
  go_wp2_with fail
  refine (mapMade_any w b n f HM.out).mono ?_
  rintro e w' ⟨rfl, rfl⟩
  go_wp2_with fail
  refine (mapMade_any w c n g HM2.out).mono ?_
  rintro e w' ⟨rfl, rfl⟩
  go_wp2_with fail
  go_quiet (fail)
  go_wp2_with fail
  refine (empty_any _ n hn).mono ?_
  rintro e w1 ⟨rfl, hm, hb⟩
  have HE : Hid (MapAt w1 w.heap.size n (fun _ => false)) := hm
  have HB : Hid (Below w.heap.size w w1) := (below_drewN (Below.refl _ _) _).trans hb
  clear hm hb
  go_wp2_with fail
  go_loopw [32] (fun i wr => ∃ k : Nat, k ≤ 64 ∧ i = .int .i64 k ∧ MapAt wr w.heap.size n (cutW (xorF f g) k) ∧ Below w.heap.size w wr) (fun i _ => 64 - (intOf i).toNat)
  case atStart => exact ⟨0, by omega, rfl, by unfold cutW; rw [Nat.mul_zero, Bm.cut_zero]; exact HE.out, HB.out⟩
  case round =>
    obtain ⟨k, hk, rfl, M, hB⟩ := hrel
    by_cases hlt : k < 64
    · have Mb := HM.out.below hB HM.out.lt
      have Mc := HM2.out.below hB HM2.out.lt
      have w1 := Mb.word k hlt
      have w2 := Mc.word k hlt
      have w3 := M.word k hlt
      have hfz := M.free (2 + k)
      have hS := M.store (cutW (xorF f g) (k + 1)) k hlt (fun j hj => cutW_other _ k j hj) (fun i hi => Bm.cut_off HOFF.out _ i hi)
      rw [cutW_word] at hS
      have HS := Lib.hid hS
      have HB2 := Lib.hid hB
      clear hS M hB Mb Mc HE HB
      go_wp2_with fail
      have HF := Lib.hid (fXor _ _ (Bm.word_lt f k) (Bm.word_lt g k) wr.drew)
      rw [xorF_word] at HF
      have q1 : wr.drew.cell? ⟨b, 2 + k, none⟩ = some (.int .u64 ((Bm.word f k : Nat) : Int)) := w1
      have q2 : wr.drew.cell? ⟨c, 2 + k, none⟩ = some (.int .u64 ((Bm.word g k : Nat) : Int)) := w2
      have q3 : wr.drew.cell? ⟨w.heap.size, 2 + k, none⟩ = some (.int .u64 ((Bm.word (cutW (xorF f g) k) k : Nat) : Int)) := w3
      have q4 : wr.drew.frozen? ⟨w.heap.size, 2 + k, none⟩ = false := hfz
      obtain ⟨wd, hwd⟩ : ∃ wd, wd = wr.drew := ⟨_, rfl⟩
      refine wp_region_still_tail 19 (by kernel_rfl) (by kernel_rfl) ?_
      change wpStill _ _ wr.drew (fun a' => wpList _ _ _ _ a' wr.drew) _ _
      rw [← hwd] at q1 q2 q3 q4 HF ⊢
      have HW := Lib.hid hwd
      clear hwd w1 w2 w3 hfz
      simp only [List.take_succ_cons, List.take_zero, List.drop_succ_cons, List.drop_zero]
      repeat (first | still_step | (refine wpStill_step (fun K hK => ?_); go_simp; refine ⟨_, HF.out.mono (fun e w'' h => ⟨h.1, h.2.symm⟩), hK _ ?_⟩; clear hK K))
      refine wpStill_nil ?_
      go_wp2_with fail
      go_roundw
      case rel => exact ⟨k + 1, by omega, by go_num, HS.out.of_block (by rw [HW.out]; rfl), by rw [HW.out]; exact HB2.out.drew.setCell (Nat.le_refl _) _⟩
      case measure => simp [intOf]; omega
    · obtain rfl : k = 64 := by omega
      have hcut : cutW (xorF f g) 64 = xorF f g := Bm.cut_all HOFF.out (by omega)
      rw [hcut] at M
      go_wp2_with fail
      go_ret2
      exact ⟨rfl, M, hB⟩
theorem xor_ok (w : World) (b c n : Nat) (f g : Nat → Bool) (M : MapAt w b n f) (M2 : MapAt w c n g) :
    Calls Try.prog 24 #[.pointer (some ⟨b, 0, none⟩), .pointer (some ⟨c, 0, none⟩)] w fun e w' => e = .returned (.tuple #[.pointer (some ⟨w.heap.size, 0, none⟩), .int .i64 0]) ∧ MapAt w' w.heap.size n (xorF f g) ∧ Below w.heap.size w w' := by
  have HC := Lib.hid (xor_comb w b c n f g M M2)
  clear M M2
  go_enter Try.func24, Try.ntmps24
  go_wp2_with fail
  refine HC.out.mono ?_
  rintro e w' ⟨rfl, hm, hb⟩
  have HM := Lib.hid hm
  have HB := Lib.hid hb
  clear hm hb
  go_wp2_with fail
  go_ret2
  exact ⟨rfl, HM.out, HB.out⟩

theorem and_nil (w : World) (v : Value) (y : Value) (H : Calls Try.prog 49 #[v] w fun e w' => e = .returned (.bool false) ∧ w = w') :
    Calls Try.prog 22 #[v, y] w fun e w' => e = .returned (.tuple #[.pointer none, .int .i64 1]) ∧ w = w' := by
  have HC := Lib.hid (comb_nil w v y H (.func (.func 51) #[] #[]))
  clear H
  go_enter Try.func22, Try.ntmps22
  go_wp2_with fail
  refine HC.out.mono ?_
  rintro e w' ⟨rfl, rfl⟩
  go_wp2_with fail
  go_ret2
  exact ⟨rfl, rfl⟩
theorem and_nil2 (w : World) (b n : Nat) (f : Nat → Bool) (M : MapAt w b n f) (y : Value) (H : Calls Try.prog 49 #[y] w fun e w' => e = .returned (.bool false) ∧ w = w') :
    Calls Try.prog 22 #[.pointer (some ⟨b, 0, none⟩), y] w fun e w' => e = .returned (.tuple #[.pointer none, .int .i64 1]) ∧ w = w' := by
  have HC := Lib.hid (comb_nil2 w b n f M y H (.func (.func 51) #[] #[]))
  clear H M
  go_enter Try.func22, Try.ntmps22
  go_wp2_with fail
  refine HC.out.mono ?_
  rintro e w' ⟨rfl, rfl⟩
  go_wp2_with fail
  go_ret2
  exact ⟨rfl, rfl⟩
theorem and_arg (w : World) (b c n m : Nat) (f g : Nat → Bool) (M : MapAt w b n f) (M2 : MapAt w c m g) (hne : n ≠ m) :
    Calls Try.prog 22 #[.pointer (some ⟨b, 0, none⟩), .pointer (some ⟨c, 0, none⟩)] w fun e w' => e = .returned (.tuple #[.pointer none, .int .i64 2]) ∧ Below w.heap.size w w' := by
  have HC := Lib.hid (comb_arg w b c n m f g M M2 hne (.func (.func 51) #[] #[]))
  clear M M2 hne
  go_enter Try.func22, Try.ntmps22
  go_wp2_with fail
  refine HC.out.mono ?_
  rintro e w' ⟨rfl, hb⟩
  have HB := Lib.hid hb
  clear hb
  go_wp2_with fail
  go_ret2
  exact ⟨rfl, HB.out⟩

theorem or_nil (w : World) (v : Value) (y : Value) (H : Calls Try.prog 49 #[v] w fun e w' => e = .returned (.bool false) ∧ w = w') :
    Calls Try.prog 23 #[v, y] w fun e w' => e = .returned (.tuple #[.pointer none, .int .i64 1]) ∧ w = w' := by
  have HC := Lib.hid (comb_nil w v y H (.func (.func 52) #[] #[]))
  clear H
  go_enter Try.func23, Try.ntmps23
  go_wp2_with fail
  refine HC.out.mono ?_
  rintro e w' ⟨rfl, rfl⟩
  go_wp2_with fail
  go_ret2
  exact ⟨rfl, rfl⟩
theorem or_nil2 (w : World) (b n : Nat) (f : Nat → Bool) (M : MapAt w b n f) (y : Value) (H : Calls Try.prog 49 #[y] w fun e w' => e = .returned (.bool false) ∧ w = w') :
    Calls Try.prog 23 #[.pointer (some ⟨b, 0, none⟩), y] w fun e w' => e = .returned (.tuple #[.pointer none, .int .i64 1]) ∧ w = w' := by
  have HC := Lib.hid (comb_nil2 w b n f M y H (.func (.func 52) #[] #[]))
  clear H M
  go_enter Try.func23, Try.ntmps23
  go_wp2_with fail
  refine HC.out.mono ?_
  rintro e w' ⟨rfl, rfl⟩
  go_wp2_with fail
  go_ret2
  exact ⟨rfl, rfl⟩
theorem or_arg (w : World) (b c n m : Nat) (f g : Nat → Bool) (M : MapAt w b n f) (M2 : MapAt w c m g) (hne : n ≠ m) :
    Calls Try.prog 23 #[.pointer (some ⟨b, 0, none⟩), .pointer (some ⟨c, 0, none⟩)] w fun e w' => e = .returned (.tuple #[.pointer none, .int .i64 2]) ∧ Below w.heap.size w w' := by
  have HC := Lib.hid (comb_arg w b c n m f g M M2 hne (.func (.func 52) #[] #[]))
  clear M M2 hne
  go_enter Try.func23, Try.ntmps23
  go_wp2_with fail
  refine HC.out.mono ?_
  rintro e w' ⟨rfl, hb⟩
  have HB := Lib.hid hb
  clear hb
  go_wp2_with fail
  go_ret2
  exact ⟨rfl, HB.out⟩

theorem xor_nil (w : World) (v : Value) (y : Value) (H : Calls Try.prog 49 #[v] w fun e w' => e = .returned (.bool false) ∧ w = w') :
    Calls Try.prog 24 #[v, y] w fun e w' => e = .returned (.tuple #[.pointer none, .int .i64 1]) ∧ w = w' := by
  have HC := Lib.hid (comb_nil w v y H (.func (.func 53) #[] #[]))
  clear H
  go_enter Try.func24, Try.ntmps24
  go_wp2_with fail
  refine HC.out.mono ?_
  rintro e w' ⟨rfl, rfl⟩
  go_wp2_with fail
  go_ret2
  exact ⟨rfl, rfl⟩
theorem xor_nil2 (w : World) (b n : Nat) (f : Nat → Bool) (M : MapAt w b n f) (y : Value) (H : Calls Try.prog 49 #[y] w fun e w' => e = .returned (.bool false) ∧ w = w') :
    Calls Try.prog 24 #[.pointer (some ⟨b, 0, none⟩), y] w fun e w' => e = .returned (.tuple #[.pointer none, .int .i64 1]) ∧ w = w' := by
  have HC := Lib.hid (comb_nil2 w b n f M y H (.func (.func 53) #[] #[]))
  clear H M
  go_enter Try.func24, Try.ntmps24
  go_wp2_with fail
  refine HC.out.mono ?_
  rintro e w' ⟨rfl, rfl⟩
  go_wp2_with fail
  go_ret2
  exact ⟨rfl, rfl⟩
theorem xor_arg (w : World) (b c n m : Nat) (f g : Nat → Bool) (M : MapAt w b n f) (M2 : MapAt w c m g) (hne : n ≠ m) :
    Calls Try.prog 24 #[.pointer (some ⟨b, 0, none⟩), .pointer (some ⟨c, 0, none⟩)] w fun e w' => e = .returned (.tuple #[.pointer none, .int .i64 2]) ∧ Below w.heap.size w w' := by
  have HC := Lib.hid (comb_arg w b c n m f g M M2 hne (.func (.func 53) #[] #[]))
  clear M M2 hne
  go_enter Try.func24, Try.ntmps24
  go_wp2_with fail
  refine HC.out.mono ?_
  rintro e w' ⟨rfl, hb⟩
  have HB := Lib.hid hb
  clear hb
  go_wp2_with fail
  go_ret2
  exact ⟨rfl, HB.out⟩
end Go.Proofs.Ytanppmpijadhbaa
