/- The contracts of each with add, On and Crc of package sums, On and Crc of the reference. Conditions: the table of half bytes, a slice that holds the bytes, numbers of 32 bits. -/
import Derived.Test.YtiddbdjcdoiloaaDoorLeafC
namespace Go.Proofs.YtiddbdjcdoiloaaDoor
open Go.RowKit

theorem take_succ (y : List UInt8) (k : Nat) (h : k < y.length) : y.take (k + 1) = y.take k ++ [y[k]] := by
  rw [List.take_succ_eq_append_getElem h]
theorem go_take (r : Nat) (y : List UInt8) (k : Nat) (h : k < y.length) : Cm.go r (y.take (k + 1)) = Cm.step (Cm.go r (y.take k)) y[k].toNat := by
  rw [take_succ y k h, Cm.go_snoc]
set_option maxRecDepth 100000 in
set_option maxHeartbeats 1000000 in
theorem each_reg (w : World) (b r : Nat) (t : TypeId) (v : Value) (y : List UInt8) (hT : TB w) (hB : Blk w b #[.int .u32 (r : Int)] t) (hv : SL encB w b v y) (hb : 0 < b) (hr : r < 4294967296) (hy : y.length ≤ 9223372036854775807) :
    Calls Tryd.prog 80 #[v, .func (.func 81) #[.pointer (some ⟨b, 0, none⟩)] #[]] w fun e w' => e = .returned (.tuple #[]) ∧ Blk w' b #[.int .u32 ((Cm.go r y : Nat) : Int)] t ∧ w.grownBy w' (some b) := by
  obtain ⟨A, c0, rfl⟩ := hv.form
  have HV := Lib.hid hv
  have HT := Lib.hid hT
  have HB := Lib.hid hB
  have hbw := hB.lt
  clear hv hT hB
  go_enter Tryd.func80, Tryd.ntmps80
  go_wp2_with fail
  go_loopw [8] (fun i wr => ∃ k : Nat, k ≤ y.length ∧ i = .int .i64 k ∧ Hid (Blk wr b #[.int .u32 ((Cm.go r (y.take k) : Nat) : Int)] t) ∧ Hid (w.grownBy wr (some b))) (fun i _ => y.length - (intOf i).toNat)
  case atStart => exact ⟨0, by omega, rfl, by rw [List.take_zero]; exact HB.out, grown_refl _ _⟩
  case round =>
    obtain ⟨k, hk, rfl, HBk, HG⟩ := hrel
    by_cases hlt : k < y.length
    · have hltI : (k : Int) < (y.length : Int) := by omega
      obtain ⟨p, off, hA, hp, hc⟩ := HV.out.at (by omega)
      subst hA
      have hcell := (World.cell?_of_block (w := w) (a := ⟨p, off + k, none⟩) (HG.out.block p (by omega) (fun e => by have := Option.some.inj e; omega))).trans (hc k hlt)
      unfold encB at hcell
      have hc8 := y[k].toNat_lt
      have hgl := Cm.go_lt (y.take k) hr
      have HA := Lib.hid (add_any wr b 0 _ t _ y[k].toNat (HT.out.grown HG.out hb) HBk.out rfl hb hgl (by omega))
      obtain ⟨x, hx⟩ : ∃ x, x = y[k].toNat := ⟨_, rfl⟩
      have HN := Lib.hid (go_take r y k hlt)
      rw [← hx] at hcell HA HN hc8
      clear hc hx hgl
      go_wp2_with fail
      refine HA.out.mono ?_
      rintro e w' ⟨rfl, hB2, hG2⟩
      have HB2 := Lib.hid hB2
      have HG2 := Lib.hid hG2
      clear hB2 hG2
      go_wp2_with fail
      go_roundw
      case rel => exact ⟨k + 1, by omega, by go_num, by rw [HN.out]; exact HB2.out, grown_trans HG.out HG2.out⟩
      case measure => simp [intOf]; omega
    · obtain rfl : k = y.length := by omega
      have HBk2 := HBk
      rw [List.take_length] at HBk2
      go_wp2_with fail
      go_end0
      exact ⟨rfl, HBk2.out, HG.out⟩
set_option maxRecDepth 100000 in
set_option maxHeartbeats 1000000 in
theorem crcOn_any (w : World) (h : Nat) (v : Value) (y : List UInt8) (hT : TB w) (hv : SL encB w w.heap.size v y) (hh : h < 4294967296) (hy : y.length ≤ 9223372036854775807) :
    Calls Tryd.prog 66 #[.int .u32 (h : Int), v] w fun e w' => e = .returned (.int .u32 ((Cm.on h y : Nat) : Int)) ∧ Below w.heap.size w w' := by
  have HV := Lib.hid hv
  have HT := Lib.hid hT
  have hlt := hT.lt
  clear hv hT
  go_enter Tryd.func66, Tryd.ntmps66
  go_wp2_with fail
  refine (toReg_any _ h hh).mono ?_
  rintro e w' ⟨rfl, rfl⟩
  obtain ⟨r, hr⟩ : ∃ r, r = h ^^^ Cm.top := ⟨_, rfl⟩
  have hr32 : r < 4294967296 := by rw [hr]; exact Cm.xor_lt hh (by decide)
  rw [← hr]
  have HR := Lib.hid hr
  clear hr
  have hB1 : Below w.heap.size w (w.alloc (.cells #[.int .u32 (r : Int)] 138)) := (Below.refl _ _).alloc (Nat.le_refl _) _
  have HE := Lib.hid (each_reg (w.alloc (.cells #[.int .u32 (r : Int)] 138)) w.heap.size r 138 v y (HT.out.below hB1 hlt) (Blk.new _ _ _) (HV.out.below hB1 (Nat.le_refl _)) hlt hr32 hy)
  have HB1 := Lib.hid hB1
  clear hB1
  go_wp2_with fail
  refine HE.out.mono ?_
  rintro e w1 ⟨rfl, hB2, hG⟩
  have hc2 := hB2.cell 0 (v := .int .u32 ((Cm.go r y : Nat) : Int)) rfl
  have HB2 : Hid (Below w.heap.size w w1) := below_grown HB1.out hG (by simp) (Nat.le_refl _)
  have hg32 := Cm.go_lt y hr32
  obtain ⟨g, hg⟩ : ∃ g, g = Cm.go r y := ⟨_, rfl⟩
  rw [← hg] at hc2 hg32
  have HGG := Lib.hid hg
  clear hG hB2 HE hg
  go_wp2_with fail
  refine (regCrc_any _ g hg32).mono ?_
  rintro e w' ⟨rfl, rfl⟩
  go_wp2_with fail
  go_ret
  exact ⟨ret_nat (by rw [HGG.out, HR.out]; rfl), HB2.out⟩
theorem crc_any (w : World) (v : Value) (y : List UInt8) (hT : TB w) (hv : SL encB w w.heap.size v y) (hy : y.length ≤ 9223372036854775807) :
    Calls Tryd.prog 41 #[v] w fun e w' => e = .returned (.int .u32 ((Cm.crc y : Nat) : Int)) ∧ Below w.heap.size w w' := by
  have HO := Lib.hid (crcOn_any w 0 v y hT hv (by omega) hy)
  clear hT hv
  go_enter Tryd.func41, Tryd.ntmps41
  go_wp2_with fail
  refine HO.out.mono ?_
  rintro e w' ⟨rfl, hb⟩
  have HB := Lib.hid hb
  clear hb
  go_wp2_with fail
  go_ret
  exact ⟨rfl, HB.out⟩

set_option maxRecDepth 100000 in
set_option maxHeartbeats 1000000 in
theorem ron_any (w : World) (h lim : Nat) (v : Value) (y : List UInt8) (hv : SL encB w lim v y) (hh : h < 4294967296) (hy : y.length ≤ 9223372036854775807) :
    Calls Tryd.prog 67 #[.int .u32 (h : Int), v] w fun e w' => e = .returned (.int .u32 ((Cm.on h y : Nat) : Int)) ∧ w = w' := by
  obtain ⟨A, c0, rfl⟩ := hv.form
  have HV := Lib.hid hv
  have hx := ff32 h hh
  obtain ⟨r, hr⟩ : ∃ r, r = h ^^^ Cm.top := ⟨_, rfl⟩
  have hr32 : r < 4294967296 := by rw [hr]; exact Cm.xor_lt hh (by decide)
  rw [← hr] at hx
  have HR := Lib.hid hr
  clear hv hr
  go_enter Tryd.func67, Tryd.ntmps67
  go_wp2_with fail
  go_loop [5, 6] (fun v i => ∃ k x : Nat, k ≤ y.length ∧ i = .int .i64 k ∧ v = .int .u32 (x : Int) ∧ Hid (x = Cm.go r (y.take k))) (fun _ i => y.length - (intOf i).toNat)
  case atStart => exact ⟨0, r, by omega, rfl, rfl, rfl⟩
  case round =>
    obtain ⟨k, x, hk, rfl, rfl, HX⟩ := hrel
    have hxl : x < 4294967296 := by rw [HX.out]; exact Cm.go_lt _ hr32
    by_cases hlt : k < y.length
    · have hltI : (k : Int) < (y.length : Int) := by omega
      obtain ⟨p, off, hA, hp, hc⟩ := HV.out.at (by omega)
      subst hA
      have hcell := hc k hlt
      unfold encB at hcell
      have hc8 := y[k].toNat_lt
      obtain ⟨c, hcc⟩ : ∃ c, c = y[k].toNat := ⟨_, rfl⟩
      have HN := Lib.hid (go_take r y k hlt)
      rw [← hcc] at hcell HN hc8
      clear hc hcc
      go_wp2_with fail
      refine (step_any w x c hxl (by omega)).mono ?_
      rintro e w' ⟨rfl, rfl⟩
      go_wp2_with fail
      go_round
      case rel => exact ⟨k + 1, Cm.step x c, by omega, by go_num, rfl, by rw [HN.out, ← HX.out]; rfl⟩
      case measure => simp [intOf]; omega
    · obtain rfl : k = y.length := by omega
      have HX2 := HX
      rw [List.take_length] at HX2
      have hxx := ff32 x hxl
      have hltI : ¬ ((y.length : Int) < (y.length : Int)) := by omega
      go_wp2_with fail
      go_ret
      exact ⟨ret_nat (by rw [HX2.out, HR.out]; rfl), rfl⟩
theorem rcrc_any (w : World) (lim : Nat) (v : Value) (y : List UInt8) (hv : SL encB w lim v y) (hy : y.length ≤ 9223372036854775807) :
    Calls Tryd.prog 43 #[v] w fun e w' => e = .returned (.int .u32 ((Cm.crc y : Nat) : Int)) ∧ w = w' := by
  have HO := Lib.hid (ron_any w 0 lim v y hv (by omega) hy)
  clear hv
  go_enter Tryd.func43, Tryd.ntmps43
  go_wp2_with fail
  refine HO.out.mono ?_
  rintro e w' ⟨rfl, rfl⟩
  go_wp2_with fail
  go_ret
  exact ⟨rfl, rfl⟩
end Go.Proofs.YtiddbdjcdoiloaaDoor
