/- The contracts of Zeros and Combine, of package sums and of the reference. Conditions: the table of half bytes, numbers of 32 bits. -/
import Derived.Test.YtjppcjcflcnliaaDoorZeros
namespace Go.Proofs.YtjppcjcflcnliaaDoor
open Go.RowKit

/-- What Zeros returns for a number in its range. -/
def zerosN (h n : Nat) : Nat := Cm.zs n (h ^^^ Cm.top) ^^^ Cm.top
theorem top_lt : Cm.top < 4294967296 := by decide
theorem zerosN_lt {h : Nat} (n : Nat) (hh : h < 4294967296) : zerosN h n < 4294967296 := Cm.xor_lt (Cm.zs_lt n (Cm.xor_lt hh top_lt)) top_lt
set_option maxRecDepth 100000 in
theorem zer_ok (w : World) (h n : Nat) (hT : TB w) (hh : h < 4294967296) (hn : n ≤ 1000000) :
    Calls Tryd.prog 18 #[.int .u32 (h : Int), .int .i64 (n : Int)] w fun e w' => e = .returned (.tuple #[.int .u32 ((zerosN h n : Nat) : Int), .int .i64 0]) ∧ Below w.heap.size w w' := by
  have HZ := Lib.hid (zeros_any w n hT hn)
  have HE : Hid (zerosN h n = Cm.zs n (h ^^^ Cm.top) ^^^ Cm.top) := rfl
  have h1 : ¬ ((n : Int) < 0) := by omega
  have h2 : ¬ ((1000000 : Int) < (n : Int)) := by omega
  clear hT
  go_enter Tryd.func18, Tryd.ntmps18
  go_wp2_with fail
  refine HZ.out.mono ?_
  rintro e w1 ⟨rfl, hb⟩
  have HB1 := Lib.hid hb
  clear hb HZ
  go_wp2_with fail
  refine (toReg_any _ h hh).mono ?_
  rintro e w' ⟨rfl, rfl⟩
  have hr := Cm.xor_lt hh top_lt
  obtain ⟨r, hr2⟩ : ∃ r, r = h ^^^ Cm.top := ⟨_, rfl⟩
  rw [← hr2] at hr HE ⊢
  clear hr2
  have HA := Lib.hid (apply_any w1 (Cm.zs n) r (Cm.lin_zs n) hr)
  go_wp2_with fail
  refine HA.out.mono ?_
  rintro e w2 ⟨rfl, hb⟩
  have HB2 : Hid (Below w.heap.size w w2) := HB1.out.trans (hb.mono HB1.out.size)
  clear hb HA HB1
  have hz := Cm.zs_lt n hr
  go_wp2_with fail
  refine (regCrc_any _ _ hz).mono ?_
  rintro e w' ⟨rfl, rfl⟩
  rw [← HE.out]
  go_wp2_with fail
  go_ret2
  exact ⟨rfl, HB2.out⟩
theorem zer_bad (w : World) (h : Nat) (n : Int) (hn : n < 0 ∨ 1000000 < n) :
    Calls Tryd.prog 18 #[.int .u32 (h : Int), .int .i64 n] w fun e w' => e = .returned (.tuple #[.int .u32 0, .int .i64 7]) ∧ w = w' := by
  rcases hn with h1 | h1
  · go_enter Tryd.func18, Tryd.ntmps18
    go_wp2_with fail
    go_ret2
    exact ⟨rfl, rfl⟩
  · have h2 : ¬ n < 0 := by omega
    go_enter Tryd.func18, Tryd.ntmps18
    go_wp2_with fail
    go_ret2
    exact ⟨rfl, rfl⟩
set_option maxRecDepth 100000 in
theorem comb_ok (w : World) (a b n : Nat) (hT : TB w) (ha : a < 4294967296) (hb : b < 4294967296) (hn : n ≤ 1000000) :
    Calls Tryd.prog 20 #[.int .u32 (a : Int), .int .u32 (b : Int), .int .i64 (n : Int)] w fun e w' => e = .returned (.tuple #[.int .u32 ((Cm.zs n a ^^^ b : Nat) : Int), .int .i64 0]) ∧ Below w.heap.size w w' := by
  have HZ := Lib.hid (zeros_any w n hT hn)
  have h1 : ¬ ((n : Int) < 0) := by omega
  have h2 : ¬ ((1000000 : Int) < (n : Int)) := by omega
  clear hT
  go_enter Tryd.func20, Tryd.ntmps20
  go_wp2_with fail
  refine HZ.out.mono ?_
  rintro e w1 ⟨rfl, hB⟩
  have HB1 := Lib.hid hB
  clear hB HZ
  have HA := Lib.hid (apply_any w1 (Cm.zs n) a (Cm.lin_zs n) ha)
  go_wp2_with fail
  refine HA.out.mono ?_
  rintro e w2 ⟨rfl, hB⟩
  have HB2 : Hid (Below w.heap.size w w2) := HB1.out.trans (hB.mono HB1.out.size)
  clear hB HA HB1
  have hx := xor32 (Cm.zs n a) b (Cm.zs_lt n ha) hb
  go_wp2_with fail
  go_ret2
  exact ⟨rfl, HB2.out⟩
theorem comb_bad (w : World) (a b : Nat) (n : Int) (hn : n < 0 ∨ 1000000 < n) :
    Calls Tryd.prog 20 #[.int .u32 (a : Int), .int .u32 (b : Int), .int .i64 n] w fun e w' => e = .returned (.tuple #[.int .u32 0, .int .i64 7]) ∧ w = w' := by
  rcases hn with h1 | h1
  · go_enter Tryd.func20, Tryd.ntmps20
    go_wp2_with fail
    go_ret2
    exact ⟨rfl, rfl⟩
  · have h2 : ¬ n < 0 := by omega
    go_enter Tryd.func20, Tryd.ntmps20
    go_wp2_with fail
    go_ret2
    exact ⟨rfl, rfl⟩
/- the reference -/
set_option maxRecDepth 100000 in
theorem rzer_ok (w : World) (h n : Nat) (hh : h < 4294967296) (hn : n ≤ 1000000) :
    Calls Tryd.prog 19 #[.int .u32 (h : Int), .int .i64 (n : Int)] w fun e w' => e = .returned (.tuple #[.int .u32 ((zerosN h n : Nat) : Int), .int .i64 0]) ∧ w = w' := by
  have h1 : ¬ ((n : Int) < 0) := by omega
  have h2 : ¬ ((1000000 : Int) < (n : Int)) := by omega
  have hx := ff32 h hh
  have HE : Hid (zerosN h n = Cm.zs n (h ^^^ Cm.top) ^^^ Cm.top) := rfl
  have hr := Cm.xor_lt hh top_lt
  obtain ⟨r, hr2⟩ : ∃ r, r = h ^^^ Cm.top := ⟨_, rfl⟩
  rw [← hr2] at hr HE hx
  clear hr2
  go_enter Tryd.func19, Tryd.ntmps19
  go_wp2_with fail
  go_loop [6, 7] (fun v i => ∃ k x : Nat, k ≤ n ∧ i = .int .i64 k ∧ v = .int .u32 (x : Int) ∧ Hid (x = Cm.zs k r)) (fun _ i => n - (intOf i).toNat)
  case atStart => exact ⟨0, r, by omega, rfl, rfl, rfl⟩
  case round =>
    obtain ⟨k, x, hk, rfl, rfl, HX⟩ := hrel
    have hxl : x < 4294967296 := by rw [HX.out]; exact Cm.zs_lt _ hr
    by_cases hlt : k < n
    · have hltI : (k : Int) < (n : Int) := by omega
      have HS := Lib.hid (step_any w x 0 hxl (by omega))
      go_wp2_with fail
      refine HS.out.mono ?_
      rintro e w' ⟨rfl, rfl⟩
      go_wp2_with fail
      go_round
      case rel => exact ⟨k + 1, Cm.step x 0, by omega, by go_num, rfl, by show Cm.step x 0 = Cm.zs (k + 1) r; rw [Cm.zs_succ, HX.out]⟩
      case measure => simp [intOf]; omega
    · have hltI : ¬ ((k : Int) < (n : Int)) := by omega
      have hxx := ff32 x hxl
      have hxx2 : Hid (x ^^^ Cm.top = zerosN h n) := by rw [HE.out, HX.out, show k = n by omega]; rfl
      obtain ⟨z, hz⟩ : ∃ z, z = x ^^^ Cm.top := ⟨_, rfl⟩
      rw [← hz] at hxx hxx2
      clear hz
      go_wp2_with fail
      go_ret2
      exact ⟨by rw [hxx2.out]; rfl, rfl⟩
theorem rzer_bad (w : World) (h : Nat) (n : Int) (hn : n < 0 ∨ 1000000 < n) :
    Calls Tryd.prog 19 #[.int .u32 (h : Int), .int .i64 n] w fun e w' => e = .returned (.tuple #[.int .u32 0, .int .i64 7]) ∧ w = w' := by
  rcases hn with h1 | h1
  · go_enter Tryd.func19, Tryd.ntmps19
    go_wp2_with fail
    go_ret2
    exact ⟨rfl, rfl⟩
  · have h2 : ¬ n < 0 := by omega
    go_enter Tryd.func19, Tryd.ntmps19
    go_wp2_with fail
    go_ret2
    exact ⟨rfl, rfl⟩
theorem rcomb_eq (a b n : Nat) : zerosN a n ^^^ zerosN 0 n ^^^ b = Cm.zs n a ^^^ b := by
  unfold zerosN
  rw [Nat.zero_xor, Cm.zs_xor, Cm.xor_zero4, Cm.xor_xor]
set_option maxRecDepth 100000 in
theorem rcomb_ok (w : World) (a b n : Nat) (ha : a < 4294967296) (hb : b < 4294967296) (hn : n ≤ 1000000) :
    Calls Tryd.prog 21 #[.int .u32 (a : Int), .int .u32 (b : Int), .int .i64 (n : Int)] w fun e w' => e = .returned (.tuple #[.int .u32 ((Cm.zs n a ^^^ b : Nat) : Int), .int .i64 0]) ∧ w = w' := by
  have H1 := Lib.hid (rzer_ok w a n ha hn)
  have H2 := Lib.hid (rzer_ok w 0 n (by omega) hn)
  have hx := xor32 (zerosN a n) (zerosN 0 n) (zerosN_lt n ha) (zerosN_lt n (by omega))
  have hy := xor32 (zerosN a n ^^^ zerosN 0 n) b (Cm.xor_lt (zerosN_lt n ha) (zerosN_lt n (by omega))) hb
  rw [rcomb_eq] at hy
  go_enter Tryd.func21, Tryd.ntmps21
  go_wp2_with fail
  refine H1.out.mono ?_
  rintro e w' ⟨rfl, rfl⟩
  go_wp2_with fail
  refine H2.out.mono ?_
  rintro e w' ⟨rfl, rfl⟩
  go_wp2_with fail
  go_ret2
  exact ⟨rfl, rfl⟩
theorem rcomb_bad (w : World) (a b : Nat) (n : Int) (hn : n < 0 ∨ 1000000 < n) :
    Calls Tryd.prog 21 #[.int .u32 (a : Int), .int .u32 (b : Int), .int .i64 n] w fun e w' => e = .returned (.tuple #[.int .u32 0, .int .i64 7]) ∧ w = w' := by
  have H1 := Lib.hid (rzer_bad w a n hn)
  have H2 := Lib.hid (rzer_bad w 0 n hn)
  clear hn
  go_enter Tryd.func21, Tryd.ntmps21
  go_wp2_with fail
  refine H1.out.mono ?_
  rintro e w' ⟨rfl, rfl⟩
  go_wp2_with fail
  refine H2.out.mono ?_
  rintro e w' ⟨rfl, rfl⟩
  go_wp2_with fail
  go_ret2
  exact ⟨rfl, rfl⟩
end Go.Proofs.YtjppcjcflcnliaaDoor
