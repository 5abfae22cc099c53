/- The contract of Locate of package sums. Conditions: the table of half bytes, a slice that holds the bytes, numbers of 32 bits. -/
import Derived.Test.YtjppcjcflcnliaaDoorEach
namespace Go.Proofs.YtjppcjcflcnliaaDoor
open Go.RowKit

def locAt : Option Nat → Nat
  | some j => j
  | none => 0
def locV (y : List UInt8) (want : Nat) : Option Nat → Nat
  | some j => Cm.val y want j
  | none => 0
def locE : Option Nat → Nat
  | some _ => 0
  | none => 4
theorem locV_lt (y : List UInt8) (want : Nat) (o : Option Nat) : locV y want o < 256 := by
  cases o with
  | none => exact (by decide : (0 : Nat) < 256)
  | some j => exact Cm.val_lt y want j
theorem need_end (y : List UInt8) (want : Nat) : Cm.need y want y.length = Cm.chg y want := by unfold Cm.need; rw [Nat.sub_self]; rfl
theorem need_step (y : List UInt8) (want k : Nat) (h : k < y.length) : Cm.back (Cm.need y want (k + 1)) = Cm.need y want k := by
  unfold Cm.need
  rw [show y.length - k = (y.length - (k + 1)) + 1 by omega, Cm.backs_succ]
theorem back_zero (r : Nat) : Cm.back r ^^^ 0 = Cm.back r := Nat.xor_zero _
theorem xor8 (a b : Nat) (ha : a < 256) (hb : b < 256) : bits .xor .u8 (a : Int) (b : Int) = ((a ^^^ b : Nat) : Int) := u8_xor_nat a b ha hb
theorem chg_top (y : List UInt8) (want : Nat) : Cm.crc y ^^^ Cm.top ^^^ (want ^^^ Cm.top) = Cm.chg y want := Cm.xor_zero4 _ _ _
theorem chg_zero (y : List UInt8) (want : Nat) : Cm.chg y want = 0 ↔ Cm.crc y = want := ⟨fun h => Cm.xor_eq_zero h, fun h => by unfold Cm.chg; rw [h, Nat.xor_self]⟩
set_option maxRecDepth 100000 in
set_option maxHeartbeats 2000000 in
theorem locate_ok (w : World) (v : Value) (y : List UInt8) (want : Nat) (hT : TB w) (hv : SL encB w w.heap.size v y) (hw : want < 4294967296) (hy : y.length ≤ 1000) (hne : Cm.crc y ≠ want) :
    Calls Tryd.prog 25 #[v, .int .u32 (want : Int)] w fun e w' => e = .returned (.tuple #[.int .i64 ((locAt (Cm.found y want 0) : Nat) : Int), .int .u8 ((locV y want (Cm.found y want 0) : Nat) : Int), .int .i64 ((locE (Cm.found y want 0) : Nat) : Int)]) ∧ Below w.heap.size w w' := by
  obtain ⟨A, c0, rfl⟩ := hv.form
  have HV := Lib.hid hv
  have HT := Lib.hid hT
  have HC := Lib.hid (crc_any w _ y hT hv (by omega))
  have hlenI : ¬ ((1000 : Int) < (y.length : Int)) := by omega
  have h0 := hT.lt
  have hg := Cm.chg_lt y hw
  have hgne : Cm.chg y want ≠ 0 := fun h => hne ((chg_zero y want).1 h)
  have HCT := chg_top y want
  have hc32 := Cm.crc_lt y
  obtain ⟨ch, hch⟩ : ∃ ch, ch = Cm.chg y want := ⟨_, rfl⟩
  rw [← hch] at hg hgne HCT
  have HCH := Lib.hid hch
  clear hv hT hne hch
  have hxx := xor32 (Cm.crc y ^^^ Cm.top) (want ^^^ Cm.top) (Cm.xor_lt hc32 (by decide)) (Cm.xor_lt hw (by decide))
  rw [HCT] at hxx
  clear HCT
  have htest : ((ch : Int) == 0) = false := by rw [beq_eq_false_iff_ne]; omega
  go_enter Tryd.func25, Tryd.ntmps25
  go_wp2_with fail
  refine HC.out.mono ?_
  rintro e w1 ⟨rfl, hb⟩
  have HB1 := Lib.hid hb
  clear hb HC
  go_wp2_with fail
  refine (toReg_any _ _ hc32).mono ?_
  rintro e w' ⟨rfl, rfl⟩
  go_wp2_with fail
  refine (toReg_any _ _ hw).mono ?_
  rintro e w' ⟨rfl, rfl⟩
  have hN := Blk.new w1 #[.int .u32 (ch : Int)] 53
  have c1 := hN.cell 0 (v := .int .u32 (ch : Int)) rfl
  have HN := Lib.hid hN
  clear hN
  go_wp2_with fail
  go_loopw [4, 5, 6, 8] (fun a v e i wr => ∃ k : Nat, k ≤ y.length ∧ i = .int .i64 ((k : Int) - 1) ∧ a = .int .i64 ((locAt (Cm.found y want k) : Nat) : Int) ∧ v = .int .u8 ((locV y want (Cm.found y want k) : Nat) : Int) ∧ e = .int .i64 ((locE (Cm.found y want k) : Nat) : Int) ∧ Hid (Blk wr w1.heap.size #[.int .u32 ((Cm.need y want k : Nat) : Int)] 53) ∧ Hid (Below w1.heap.size w1 wr)) (fun _ _ _ i _ => (intOf i + 1).toNat)
  case atStart =>
    refine ⟨y.length, Nat.le_refl _, rfl, ?_, ?_, ?_, ?_, (Below.refl _ _).alloc (Nat.le_refl _) _⟩
    · rw [Cm.found_end]; rfl
    · rw [Cm.found_end]; rfl
    · rw [Cm.found_end]; rfl
    · rw [need_end, ← HCH.out]; exact HN.out
  case round =>
    clear HN c1
    obtain ⟨k, hk, rfl, rfl, rfl, rfl, HBk, HB⟩ := hrel
    by_cases hlt : 0 < k
    · obtain ⟨j, rfl⟩ : ∃ j, k = j + 1 := ⟨k - 1, by omega⟩
      have hjI : (((j + 1 : Nat) : Int) - 1) = (j : Int) := by omega
      rw [hjI]
      have hj0 : (0 : Int) ≤ (j : Int) := by omega
      have hj1 : (j : Int) < (y.length : Int) := by omega
      have hnl := Cm.need_lt y hw (j + 1)
      have HU := undo_any wr w1.heap.size 0 _ _ _ 0 HBk.out rfl hnl (by omega)
      rw [back_zero, need_step y want j (by omega)] at HU
      have HU2 := Lib.hid HU
      have hnl2 := Cm.need_lt y hw j
      obtain ⟨x, hx⟩ : ∃ x, x = Cm.need y want j := ⟨_, rfl⟩
      rw [← hx] at HU2 hnl2
      have HX := Lib.hid hx
      clear HU hx hjI
      go_wp2_with fail
      refine HU2.out.mono ?_
      rintro e w2 ⟨rfl, hb2, hg2⟩
      have HB2 : Hid (Blk w2 w1.heap.size #[.int .u32 (x : Int)] 53) := hb2
      have HBB : Hid (Below w1.heap.size w1 w2) := below_grown HB.out hg2 HB.out.size (Nat.le_refl _)
      have c2 := hb2.cell 0 (v := .int .u32 (x : Int)) rfl
      clear hb2 hg2 HU2 HBk
      by_cases h256 : x < 256
      · have h256I : (x : Int) < 256 := by omega
        obtain ⟨p, off, hA, hp, hc⟩ := HV.out.at (by omega)
        subst hA
        have hcell := (HBB.out.cell (p := ⟨p, off + j, none⟩) (show p < w1.heap.size by have := HB1.out.size; omega)).trans ((HB1.out.cell (p := ⟨p, off + j, none⟩) hp).trans (hc j (by omega)))
        unfold encB at hcell
        have hF : Hid (Cm.found y want j = some j) := by show _ = _; exact Cm.found_here y want j (by omega) (by rw [← HX.out]; exact h256)
        have hd : y.getD j 0 = y[j] := by rw [List.getD_eq_getElem?_getD, List.getElem?_eq_getElem (by omega)]; rfl
        have hc8 := y[j].toNat_lt
        have hval : Hid (y[j].toNat ^^^ x = Cm.val y want j) := by show _ = _; unfold Cm.val; rw [hd, ← HX.out, Nat.mod_eq_of_lt h256]
        have hx8 := xor8 y[j].toNat x (by omega) h256
        rw [hval.out] at hx8
        obtain ⟨c, hcc⟩ : ∃ c, c = y[j].toNat := ⟨_, rfl⟩
        rw [← hcc] at hcell hx8 hc8
        clear hd hc hcc
        go_wp2_with fail
        go_quiet (fail)
        go_wp2_with fail
        go_roundw
        case rel => exact ⟨j, by omega, rfl, by rw [hF.out]; rfl, by rw [hF.out]; rfl, by rw [hF.out]; rfl, by rw [← HX.out]; exact HB2.out.drewN _, below_drewN HBB.out _⟩
        case measure => simp [intOf]
      · have h256I : ¬ ((x : Int) < 256) := by omega
        have hF : Hid (Cm.found y want j = Cm.found y want (j + 1)) := by show _ = _; exact Cm.found_next y want j (by omega) (by rw [← HX.out]; exact h256)
        go_wp2_with fail
        go_roundw
        case rel => exact ⟨j, by omega, rfl, by rw [hF.out], by rw [hF.out], by rw [hF.out], by rw [← HX.out]; exact HB2.out, HBB.out⟩
        case measure => simp [intOf]
    · obtain rfl : k = 0 := by omega
      have hI : ¬ ((0 : Int) ≤ ((0 : Nat) : Int) - 1) := by omega
      go_wp2_with fail
      refine bodyPost_ret (v := .tuple #[.int .i64 ((locAt (Cm.found y want 0) : Nat) : Int), .int .u8 ((locV y want (Cm.found y want 0) : Nat) : Int), .int .i64 ((locE (Cm.found y want 0) : Nat) : Int)]) (by simp [results, Tryd.results25, go_sem]) rfl ⟨rfl, HB1.out.trans (HB.out.mono HB1.out.size)⟩
theorem locate_long (w : World) (v : Value) (y : List UInt8) (want : Nat) (hv : SL encB w w.heap.size v y) (hy : 1000 < y.length) :
    Calls Tryd.prog 25 #[v, .int .u32 (want : Int)] w fun e w' => e = .returned (.tuple #[.int .i64 0, .int .u8 0, .int .i64 3]) ∧ w = w' := by
  obtain ⟨A, c0, rfl⟩ := hv.form
  have hlenI : (1000 : Int) < (y.length : Int) := by omega
  go_enter Tryd.func25, Tryd.ntmps25
  go_wp2_with fail
  refine bodyPost_ret (v := .tuple #[.int .i64 0, .int .u8 0, .int .i64 3]) (by simp [results, Tryd.results25, go_sem]) rfl ⟨rfl, rfl⟩
set_option maxRecDepth 100000 in
theorem locate_twice (w : World) (v : Value) (y : List UInt8) (want : Nat) (hT : TB w) (hv : SL encB w w.heap.size v y) (hw : want < 4294967296) (hy : y.length ≤ 1000) (hne : Cm.crc y = want) :
    Calls Tryd.prog 25 #[v, .int .u32 (want : Int)] w fun e w' => e = .returned (.tuple #[.int .i64 0, .int .u8 0, .int .i64 8]) ∧ Below w.heap.size w w' := by
  obtain ⟨A, c0, rfl⟩ := hv.form
  have HC := Lib.hid (crc_any w _ y hT hv (by omega))
  have hlenI : ¬ ((1000 : Int) < (y.length : Int)) := by omega
  rw [hne] at HC
  have ht32 := Cm.xor_lt hw (show Cm.top < 4294967296 by decide)
  have hxx := xor32 (want ^^^ Cm.top) (want ^^^ Cm.top) ht32 ht32
  rw [Nat.xor_self] at hxx
  clear hv hT hne
  go_enter Tryd.func25, Tryd.ntmps25
  go_wp2_with fail
  refine HC.out.mono ?_
  rintro e w1 ⟨rfl, hb⟩
  have HB1 := Lib.hid hb
  clear hb HC
  go_wp2_with fail
  refine (toReg_any _ _ hw).mono ?_
  rintro e w' ⟨rfl, rfl⟩
  go_wp2_with fail
  refine (toReg_any _ _ hw).mono ?_
  rintro e w' ⟨rfl, rfl⟩
  go_wp2_with fail
  refine bodyPost_ret (v := .tuple #[.int .i64 0, .int .u8 0, .int .i64 8]) (by simp [results, Tryd.results25, go_sem]) rfl ⟨rfl, HB1.out.alloc HB1.out.size _⟩
end Go.Proofs.YtjppcjcflcnliaaDoor
