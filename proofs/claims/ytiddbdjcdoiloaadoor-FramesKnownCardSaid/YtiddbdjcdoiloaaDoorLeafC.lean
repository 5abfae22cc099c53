/- The contracts of the small functions: toRegister, crc, add of package sums; step of the reference. Conditions: numbers of 32 bits, a cell in a block that is known whole, the table of half bytes. -/
import Derived.Test.YtiddbdjcdoiloaaDoorTab
namespace Go.Proofs.YtiddbdjcdoiloaaDoor
open Go.RowKit

theorem ffmax (a : Nat) (ha : a < 4294967296) : bits .xor .u32 IntKind.u32.max (a : Int) = ((a ^^^ Cm.top : Nat) : Int) := ff32' a ha
theorem toReg_any (w : World) (r : Nat) (h : r < 4294967296) :
    Calls Tryd.prog 79 #[.int .u32 (r : Int)] w fun e w' => e = .returned (.int .u32 ((r ^^^ Cm.top : Nat) : Int)) ∧ w = w' := by
  have h1 := Lib.hid (ffmax r h)
  go_enter Tryd.func79, Tryd.ntmps79
  go_wp2
  go_ret
  exact ⟨ret_int h1.out, rfl⟩
theorem regCrc_any (w : World) (r : Nat) (h : r < 4294967296) :
    Calls Tryd.prog 82 #[.int .u32 (r : Int)] w fun e w' => e = .returned (.int .u32 ((r ^^^ Cm.top : Nat) : Int)) ∧ w = w' := by
  have h1 := Lib.hid (ffmax r h)
  go_enter Tryd.func82, Tryd.ntmps82
  go_wp2
  go_ret
  exact ⟨ret_int h1.out, rfl⟩
theorem and15 (r : Nat) (h : r < 4294967296) : bits .and .u32 (r : Int) 15 = ((r % 16 : Nat) : Int) := by
  rw [show (15 : Int) = ((15 : Nat) : Int) from rfl, u32_and_nat r 15 h (by omega), show (15 : Nat) = 2 ^ 4 - 1 from rfl, Nat.and_two_pow_sub_one_eq_mod]
set_option maxRecDepth 100000 in
set_option maxHeartbeats 1000000 in
theorem add_any (w : World) (b o : Nat) (cs : Array Value) (t : TypeId) (r c : Nat) (hT : TB w) (hB : Blk w b cs t) (hr : cs[o]? = some (.int .u32 (r : Int))) (hb : 0 < b) (h : r < 4294967296) (hc : c < 256) :
    Calls Tryd.prog 81 #[.pointer (some ⟨b, o, none⟩), .int .u8 (c : Int)] w fun e w' => e = .returned (.tuple #[]) ∧ Blk w' b (cs.setIfInBounds o (.int .u32 ((Cm.step r c : Nat) : Int))) t ∧ w.grownBy w' (some b) := by
  have ho : o < cs.size := (Array.getElem?_eq_some_iff.1 hr).1
  have hcell := hB.cell o hr
  have hfz := hB.free o
  have hx := xor32 r c h (by omega)
  have HB := Lib.hid hB
  have HT := Lib.hid hT
  clear hB hT hr
  obtain ⟨q, hq⟩ : ∃ q, q = r ^^^ c := ⟨_, rfl⟩
  rw [← hq] at hx
  have hq32 : q < 4294967296 := by rw [hq]; exact Cm.xor_lt h (by omega)
  have HQ := Lib.hid hq
  clear hq
  go_enter Tryd.func81, Tryd.ntmps81
  go_wp2_with fail
  go_loopw [11] (fun i wr => ∃ k : Nat, k ≤ 2 ∧ i = .int .i64 k ∧ Hid (Blk wr b (cs.setIfInBounds o (.int .u32 ((Cm.halves (4 * k) q : Nat) : Int))) t) ∧ Hid (w.grownBy wr (some b))) (fun i _ => 2 - (intOf i).toNat)
  case atStart => exact ⟨0, by omega, rfl, HB.out.set o _, grown_setCell w b o _⟩
  case round =>
    obtain ⟨k, hk, rfl, HBk, HG⟩ := hrel
    by_cases hlt : k < 2
    · have hltI : (k : Int) < 2 := by omega
      obtain ⟨x, hx2⟩ : ∃ x, x = Cm.halves (4 * k) q := ⟨_, rfl⟩
      have hxl : x < 4294967296 := by rw [hx2]; exact Cm.halves_lt _ hq32
      rw [← hx2] at HBk
      have hnext : Cm.halves (4 * (k + 1)) q = x / 16 ^^^ Cm.tab (x % 16) := by
        rw [show 4 * (k + 1) = 4 * k + 4 by omega, Cm.halves_add, ← hx2, Cm.halves_tab]
      obtain ⟨z, hz⟩ : ∃ z, z = Cm.halves (4 * (k + 1)) q := ⟨_, rfl⟩
      have ha := and15 x hxl
      obtain ⟨m, hm⟩ : ∃ m, m = x % 16 := ⟨_, rfl⟩
      have hm16 : m < 16 := by omega
      rw [← hm] at ha hnext
      have htab := (HT.out.grown HG.out hb).at_ m hm16
      obtain ⟨tm, htm⟩ : ∃ tm, tm = Cm.tab m := ⟨_, rfl⟩
      have htl : tm < 4294967296 := by rw [htm]; exact Cm.halves_lt 4 (by omega)
      rw [← htm] at htab hnext
      have hxx := xor32 (x / 16) tm (by omega) htl
      rw [← hnext, ← hz, show ((x / 16 : Nat) : Int) = (x : Int) / 16 from Int.natCast_ediv x 16] at hxx
      have hcx := HBk.out.cell o (set_get _ _ _ ho)
      have hfx := HBk.out.free o
      have HN := Lib.hid hz
      clear hnext hz hm htm hx2 hcell hfz
      go_wp2_with fail
      go_region
      all_goals
        go_wp2
        go_roundw
        case rel => exact ⟨k + 1, by omega, by go_num, by have := HBk.out.set o (.int .u32 (z : Int)); rw [set_set] at this; rw [← HN.out]; exact this, grown_drewN (grown_set HG.out o _) 1⟩
        case measure => simp [intOf]; omega
    · obtain rfl : k = 2 := by omega
      have HS : Hid (Blk wr b (cs.setIfInBounds o (.int .u32 ((Cm.step r c : Nat) : Int))) t) := by
        have := HBk.out
        rw [show 4 * 2 = 4 + 4 from rfl, Cm.halves_add, HQ.out, Cm.step_two] at this
        exact this
      go_wp2_with fail
      go_end0
      exact ⟨rfl, HS.out, HG.out⟩

set_option maxRecDepth 100000 in
set_option maxHeartbeats 1000000 in
theorem step_any (w : World) (r c : Nat) (h : r < 4294967296) (hc : c < 256) :
    Calls Tryd.prog 83 #[.int .u32 (r : Int), .int .u8 (c : Int)] w fun e w' => e = .returned (.int .u32 ((Cm.step r c : Nat) : Int)) ∧ w = w' := by
  have hx := xor32 r c h (by omega)
  obtain ⟨q, hq⟩ : ∃ q, q = r ^^^ c := ⟨_, rfl⟩
  rw [← hq] at hx
  have hq32 : q < 4294967296 := by rw [hq]; exact Cm.xor_lt h (by omega)
  have HQ := Lib.hid hq
  clear hq
  go_enter Tryd.func83, Tryd.ntmps83
  go_wp2_with fail
  go_loop [0, 5] (fun v i => ∃ k x : Nat, k ≤ 8 ∧ i = .int .i64 k ∧ v = .int .u32 (x : Int) ∧ Hid (x = Cm.halves k q)) (fun _ i => 8 - (intOf i).toNat)
  case atStart => exact ⟨0, q, by omega, rfl, rfl, rfl⟩
  case round =>
    obtain ⟨k, x, hk, rfl, rfl, HX⟩ := hrel
    have hxl : x < 4294967296 := by rw [HX.out]; exact Cm.halves_lt _ hq32
    by_cases hlt : k < 8
    · have hltI : (k : Int) < 8 := by omega
      have hnext : Cm.halves (k + 1) q = Cm.half x := by rw [Cm.halves_succ, ← HX.out]
      by_cases hodd : x % 2 = 1
      · have hxx := xor32 (x / 2) Cm.poly (by omega) (by decide)
        obtain ⟨z, hz⟩ : ∃ z, z = x / 2 ^^^ Cm.poly := ⟨_, rfl⟩
        rw [← hz, show ((x / 2 : Nat) : Int) = (x : Int) / 2 from Int.natCast_ediv x 2] at hxx
        have hxx2 : bits .xor .u32 ((x : Int) / 2) 3988292384 = (z : Int) := hxx
        have HN : Hid (z = Cm.halves (k + 1) q) := by rw [hnext, Cm.half_odd hodd]; exact hz
        have ht : ((x : Int) % 2 == 1) = true := by rw [beq_iff_eq]; omega
        clear hodd hnext hz hxx
        go_wp2_with fail
        go_round
        case rel => exact ⟨k + 1, z, by omega, by go_num, rfl, HN.out⟩
        case measure => simp [intOf]; omega
      · have HN : Hid (x / 2 = Cm.halves (k + 1) q) := by rw [hnext, Cm.half_even (by omega)]; rfl
        have ht : ((x : Int) % 2 == 1) = false := by rw [beq_eq_false_iff_ne]; omega
        clear hodd hnext
        go_wp2_with fail
        go_round
        case rel => exact ⟨k + 1, x / 2, by omega, by go_num, by rw [show ((x / 2 : Nat) : Int) = (x : Int) / 2 from Int.natCast_ediv x 2], HN.out⟩
        case measure => simp [intOf]; omega
    · obtain rfl : k = 8 := by omega
      go_wp2_with fail
      go_ret
      exact ⟨ret_nat (by rw [HX.out, HQ.out]; rfl), rfl⟩
end Go.Proofs.YtiddbdjcdoiloaaDoor
